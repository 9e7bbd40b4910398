/-
  spec.ParseFont answers specP. (For ParseFont.)
-/
import Derived.Test.YtiihhilhiknckaaGreatDoorQv
import Derived.Test.YtiihhilhiknckaaGreatDoorNew
import Derived.Deep.DeepCutAuto
import Derived.Deep.RegionLaw
namespace Go.Proofs.YtiihhilhiknckaaGreatDoor.P
open Go.RowKit
set_option linter.unusedVariables false

theorem under_str : Tryz.prog.underlying 37 = some (.slice (Tryz.prog.elem 37)) := by rw [show Tryz.prog.elem 37 = 9 from by kernel_rfl]; exact Tryz.underlying37
theorem size_str (W : World) : (sizeOf (Tryz.prog.elem 37)).run Tryz.prog W = .ok 1 W := by
  obtain ⟨i0, hi, hz0, hz1, hz2⟩ := info_parts info_str
  rw [show Tryz.prog.elem 37 = 9 from by kernel_rfl]
  simp [sizeOf, typeInfo, hi, hz1]
theorem strs_head (b off n cap k : Nat) (hk : k ≤ n) (hn : n ≤ cap) (W : World) :
    (Instr.slice 37 (.slice (some ⟨b, off, none⟩) n cap) none (some (.int .i64 (k : Int))) none).run Tryz.prog W = .ok (.slice (some ⟨b, off, none⟩) k cap) W := by
  rw [run_slice_h W _ _ _ _ under_str .i64 (k : Int) (by omega) (by omega), size_str]
  by_cases hc : cap = 0 <;> simp [sliced, Result.andThen, Addr.add, hc]
theorem tw_facts {α : Type} (f : α → Bool) : ∀ l : List α, (l.takeWhile f).length ≤ l.length ∧ (∀ j x, l[j]? = some x → j < (l.takeWhile f).length → f x = true) ∧ (∀ x, l[(l.takeWhile f).length]? = some x → f x = false)
  | [] => ⟨by simp, fun j x h => by simp at h, fun x h => by simp at h⟩
  | a :: r => by
    obtain ⟨h1, h2, h3⟩ := tw_facts f r
    cases ha : f a
    · rw [List.takeWhile_cons_of_neg (by simp [ha])]
      refine ⟨by simp, fun j x h hj => by simp at hj, fun x h => ?_⟩
      have : a = x := by simpa using h
      rw [← this]; exact ha
    · rw [List.takeWhile_cons_of_pos ha]
      refine ⟨by simp only [List.length_cons]; omega, fun j x h hj => ?_, fun x h => ?_⟩
      · cases j with
        | zero =>
          have : a = x := by simpa using h
          rw [← this]; exact ha
        | succ j => exact h2 j x (by simpa using h) (by simp only [List.length_cons] at hj; omega)
      · exact h3 x (by simpa using h)
theorem letN_le (p : ByteArray) : letN p ≤ p.size := by
  have h := (tw_facts isLet p.data.toList).1
  rw [Array.length_toList] at h
  exact h
theorem letN_in {p : ByteArray} {j : Nat} (h : j < letN p) (hj : j < p.size) : isLet p[j] = true := (tw_facts isLet p.data.toList).2.1 j _ (list_at hj) h
theorem letN_out {p : ByteArray} (hj : letN p < p.size) : isLet (p[letN p]'hj) = false := (tw_facts isLet p.data.toList).2.2 _ (list_at hj)
theorem specP_none {s : ByteArray} (h : ¬ ((pcs 59 s).length ≤ 33 ∧ fontB (specR s) = true ∧ baOf (ftK (specR s) (specR s).length) = s)) : specP s = none := by unfold specP; rw [if_neg h]
theorem specP_some {s : ByteArray} (h : (pcs 59 s).length ≤ 33 ∧ fontB (specR s) = true ∧ baOf (ftK (specR s) (specR s).length) = s) : specP s = some (specR s) := by unfold specP; rw [if_pos h]
theorem map_step {α β : Type} (f : α → β) {l : List α} {k : Nat} (h : k < l.length) : (l.take (k + 1)).map f = (l.take k).map f ++ [f l[k]] := by
  rw [List.take_succ_eq_append_getElem h, List.map_append]; rfl
theorem step_own {P : Program} (w : World) {ops : Array Oper} {o : Oper} {a : Act} {K : Act → World → Prop} {Q : Exit → Act → World → Prop} {E : Prop} (hgd : o.guard = none) (s x : Operand) (t : TypeId)
    (ho : o.op = .call { callee := .builtin .append, args := #[s, x], argTypes := #[t, t] })
    (base : Nat) (e : TypeId) (i : TypeInfo) (z : Value) (size bytes : Nat) (ht : P.underlying t = some (.slice e)) (hi : P.info? e = some i) (hz : i.zero = some z)
    (hsize : i.size = size) (hby : i.bytes = bytes) (hzs : z.cells.size = size) (hsz : 0 < size)
    (v : Value) (n : Nat) (xs : List Value) (hs : a.eval s = v) (hown : w.ownsRow base e size v n xs)
    (ad : Addr) (m c : Nat) (news : List Value) (hx : a.eval x = .slice (some ad) m c) (hl : news.length = m * size) (hnews : ∀ j u, news[j]? = some u → w.cell? (ad.add j) = some u) (h1 : ∀ u ∈ news, u.oneCell' = true)
    (h63 : n + m ≤ maxLen) (hbytes : (n + m) * bytes ≤ 140737488355328) (hbase : base ≤ w.heap.size)
    (h : ∀ v' w', w'.ownsRow base e size v' (n + m) (xs ++ news) → w.grownBy w' v.ownBlock → K (a.put o.dst v') w') :
    if Region.wanted o (yielded ops a.tmps) = true then Oper.wp P o a w K Q else E := by
  have hw : Region.wanted o (yielded ops a.tmps) = true := by simp [Region.wanted, hgd]
  rw [if_pos hw]
  exact wp_append_own w s x t ho base e i z size bytes ht hi hz hsize hby hzs hsz v n xs hs hown ad m c news hx hl hnews h1 h63 hbytes hbase fun v' w' h2 h3 _ => h v' w' h2 h3

theorem pcs_size (c : UInt8) (n : Nat) : ∀ (s : ByteArray), ∀ x ∈ Lib.splitB (sepB c) 0 n s, x.size ≤ s.size := by
  induction n with
  | zero => intro s x hx; rw [Lib.splitB_zero] at hx; simp at hx; subst hx; exact Nat.le_refl _
  | succ n ih =>
    intro s x hx
    rcases Lib.indexB_cases s (sepB c) with h | ⟨i, h, hr⟩
    · rw [Lib.splitB_miss _ _ _ _ h] at hx; simp at hx; subst hx; exact Nat.le_refl _
    · rw [Lib.splitB_hit _ _ _ _ i h] at hx
      rcases List.mem_cons.1 hx with rfl | hx
      · rw [ByteArray.size_extract]; omega
      · have := ih _ x hx
        rw [ByteArray.size_extract] at this; omega

set_option maxRecDepth 100000 in
set_option maxHeartbeats 4000000 in
theorem specParse_any (s : ByteArray) (w : World) (hs : s.size ≤ 1048576) :
    Calls Tryz.prog 22 #[.string s] w fun e w' => SrtTo w w' e (specP s) := by
  obtain ⟨i0, hi, hz0, hz1, hz2⟩ := info_parts infoSt
  have HI0 := Lib.hid hi; have HZ0 := Lib.hid hz0; have HZ1 := Lib.hid hz1; have HZ2 := Lib.hid hz2
  clear hi hz0 hz1 hz2
  have HSP : Hid (∀ W : World, Calls Tryz.prog 48 #[.string s, .int .u8 59] W fun e w' => SplTo 59 s W w' e) := Lib.hid fun W => l1Split_any 59 s W hs
  have HSZ : Hid (∀ x ∈ pcs 59 s, x.size ≤ 1048576) := Lib.hid fun x hx => Nat.le_trans (pcs_size 59 _ s x hx) hs
  have HRD : Hid (specR s = (pcs 59 s).dropLast.map rowOf) := Lib.hid rfl
  have HNO : Hid (¬ ((pcs 59 s).length ≤ 33 ∧ fontB (specR s) = true ∧ baOf (ftK (specR s) (specR s).length) = s) → specP s = none) := Lib.hid specP_none
  have HYE : Hid ((pcs 59 s).length ≤ 33 ∧ fontB (specR s) = true ∧ baOf (ftK (specR s) (specR s).length) = s → specP s = some (specR s)) := Lib.hid specP_some
  have hpos : 0 < (pcs 59 s).length := by
    obtain ⟨q, L, h⟩ := pcs_ne s
    rw [h]; simp
  go_enter Tryz.func22, Tryz.ntmps22
  go_wp2_with fail
  refine (HSP.out _).mono ?_
  rintro e w1 ⟨A, q, rfl, hb, hq, hin⟩
  have HB1 := Lib.hid hb; have HIN := Lib.hid hin
  clear hb hin HSP
  by_cases h33 : (pcs 59 s).length ≤ 33
  rotate_left
  · have HN := Lib.hid (HNO.out (fun h => h33 h.1))
    have hgt : (33 : Int) < ((pcs 59 s).length : Int) := by omega
    clear HNO HYE HRD HSZ HIN h33
    generalize pcs 59 s = L at *
    go_wp2
    go_ret2
    exact SrtTo.no HN.out HB1.out
  have hng : ¬ (33 : Int) < ((pcs 59 s).length : Int) := by omega
  have H33 := Lib.hid h33; clear h33
  generalize pcs 59 s = L at *
  obtain ⟨b, off, rfl, hbl, hc⟩ := HIN.out hpos
  have HC : Hid (∀ k (h : k < L.length), w1.cell? ⟨b, off + k, none⟩ = some (.string L[k])) := Lib.hid hc
  clear HIN hc
  obtain ⟨n, hn⟩ : ∃ n, L.length = n + 1 := ⟨L.length - 1, by omega⟩
  have hnq : n ≤ q := by omega
  have hnq1 : n + 1 ≤ q := by omega
  have hn33 : ¬ (33 : Int) < ((n + 1 : Nat) : Int) := by omega
  have hsl := strs_head b off (n + 1) q n (by omega) hnq1
  have HLN := Lib.hid hn
  have hD : L.dropLast = L.take n := by rw [List.dropLast_eq_take, hn]; rfl
  rw [hD] at HRD
  rw [hn] at hng ⊢
  clear hD hpos hq hn
  have hn32 : n ≤ 32 := by omega
  go_wp2
  clear hsl hng hn33
  go_loopw [5, 20] (fun v i wr => ∃ k : Nat, k ≤ n ∧ i = .int .i64 k ∧ wr.ownsRow w1.heap.size 25 2 v k (flat ((L.take k).map rowOf)) ∧ Below w1.heap.size w1 wr) (fun _ i _ => n - (intOf i).toNat)
  case atStart => exact ⟨0, Nat.zero_le _, rfl, own_nil _ _ _ _, Below.refl _ _⟩
  case round =>
    obtain ⟨k, hk, rfl, hown, hb⟩ := hrel
    have HO := Lib.hid hown; have HB := Lib.hid hb
    clear hown hb
    have HBW : Hid (Below w.heap.size w wr) := Lib.hid (HB1.out.trans (HB.out.mono HB1.out.size))
    by_cases hlt : k < n
    · have hkl : k < L.length := by rw [HLN.out]; omega
      have hc0 := (HB.out.cell (p := ⟨b, off + k, none⟩) hbl).trans (HC.out k hkl)
      have HMS := Lib.hid (map_step rowOf hkl)
      have hszx : L[k].size ≤ 1048576 := HSZ.out _ (List.getElem_mem hkl)
      have HRW : Hid (rowOf L[k] = (L[k].extract 0 (letN L[k]), readF (L[k].extract (letN L[k]) L[k].size))) := Lib.hid rfl
      have HLE := Lib.hid (letN_le L[k])
      have HLI := Lib.hid (fun j (h : j < letN L[k]) (hj : j < L[k].size) => letN_in h hj)
      have HLO := Lib.hid (fun (hj : letN L[k] < L[k].size) => letN_out hj)
      generalize L[k] = x at *
      clear hkl
      generalize letN x = m at *
      go_wp2
      go_loop [8] (fun v => ∃ j : Nat, j ≤ m ∧ v = .int .i64 (j : Int)) (fun v => m - (intOf v).toNat)
      case atStart => exact ⟨0, Nat.zero_le _, rfl⟩
      case round =>
        obtain ⟨j, hj, rfl⟩ := hrel
        have hle := HLE.out
        by_cases hjm : j < m
        · have hjx : j < x.size := by omega
          have hl := HLI.out j hjm hjx
          rw [isLet_int] at hl
          simp only [Bool.and_eq_true, decide_eq_true_eq] at hl
          obtain ⟨l1, l2⟩ := hl
          have hjx' : (j : Int) < (x.size : Int) := by omega
          go_wp2
          go_round
          case rel => exact ⟨j + 1, by omega, by go_num⟩
          case measure => simp [intOf]; omega
        · obtain rfl : j = m := by omega
          have hxs : (x.extract j x.size).size ≤ maxLen := by rw [ByteArray.size_extract]; unfold maxLen; omega
          have HCR := Lib.hid (fun W => l1Read_any (x.extract j x.size) W hxs)
          clear hxs
          by_cases hx : j < x.size
          · have hl := HLO.out hx
            rw [isLet_int] at hl
            have hjx' : (j : Int) < (x.size : Int) := by omega
            rcases (by omega : (x[j].toNat : Int) < 97 ∨ (97 ≤ (x[j].toNat : Int) ∧ (x[j].toNat : Int) ≤ 122) ∨ (97 ≤ (x[j].toNat : Int) ∧ 122 < (x[j].toNat : Int))) with h1 | ⟨h1, h2⟩ | ⟨h1, h2⟩
            · clear hl HLI HLO
              go_wp2_with fail
              have hjm2 : j ≤ x.size := by omega
              have hcl : (x.extract 0 j).size ≤ maxLen := by rw [ByteArray.size_extract]; unfold maxLen; omega
              have hmx : k + 1 ≤ maxLen := by unfold maxLen; omega
              have hby : (k + 1) * 24 ≤ 140737488355328 := by omega
              have hown := HO.out
              have hszw := HB.out.size
              go_region_law (first
                | (go_simp; go_at_call 49; refine (HCR.out _).mono ?_; rintro e w' ⟨rfl, rfl⟩)
                | (refine step_own _ (by rfl) (.tmp 42) (.tmp 51) _ (by rfl) w1.heap.size 25 i0 (.agg #[.string .empty, .int .i64 0]) 2 24 Tryz.underlying23 HI0.out HZ0.out HZ1.out HZ2.out rfl (by decide) _ k (flat ((L.take k).map rowOf)) (by rfl) (hown.drew.alloc _) ⟨wr.heap.size, 0, none⟩ 1 1 [.string (x.extract 0 j), .int .i64 (readF (x.extract j x.size))] (by rfl) rfl (pair_new _ (heap_new _ _)) (by simp [Value.oneCell']) hmx hby (by simp; omega) ?_; intro v' w4 hown' hgrow))
              all_goals
                have HB4 : Hid (Below w1.heap.size w1 w4) := Lib.hid ((HB.out.drew.alloc HB.out.size _).grown hgrow (by have := HB.out.size; simp; omega) (fun g hg => own_lt hown g hg))
                have HO4 : Hid (w4.ownsRow w1.heap.size 25 2 v' (k + 1) (flat ((L.take (k + 1)).map rowOf))) := Lib.hid (by rw [HMS.out, HRW.out, flat_snoc]; exact hown')
                clear hown' hgrow hown HO HB hszw hcl hmx hby
                go_wp2
                go_roundw
                case rel => exact ⟨k + 1, by omega, by go_num, HO4.out, HB4.out⟩
                case measure => simp [intOf]; omega
            · rw [decide_eq_true h1, decide_eq_true h2] at hl; cases hl
            · clear hl HLI HLO
              go_wp2_with fail
              have hjm2 : j ≤ x.size := by omega
              have hcl : (x.extract 0 j).size ≤ maxLen := by rw [ByteArray.size_extract]; unfold maxLen; omega
              have hmx : k + 1 ≤ maxLen := by unfold maxLen; omega
              have hby : (k + 1) * 24 ≤ 140737488355328 := by omega
              have hown := HO.out
              have hszw := HB.out.size
              go_region_law (first
                | (go_simp; go_at_call 49; refine (HCR.out _).mono ?_; rintro e w' ⟨rfl, rfl⟩)
                | (refine step_own _ (by rfl) (.tmp 42) (.tmp 51) _ (by rfl) w1.heap.size 25 i0 (.agg #[.string .empty, .int .i64 0]) 2 24 Tryz.underlying23 HI0.out HZ0.out HZ1.out HZ2.out rfl (by decide) _ k (flat ((L.take k).map rowOf)) (by rfl) (hown.drew.alloc _) ⟨wr.heap.size, 0, none⟩ 1 1 [.string (x.extract 0 j), .int .i64 (readF (x.extract j x.size))] (by rfl) rfl (pair_new _ (heap_new _ _)) (by simp [Value.oneCell']) hmx hby (by simp; omega) ?_; intro v' w4 hown' hgrow))
              all_goals
                have HB4 : Hid (Below w1.heap.size w1 w4) := Lib.hid ((HB.out.drew.alloc HB.out.size _).grown hgrow (by have := HB.out.size; simp; omega) (fun g hg => own_lt hown g hg))
                have HO4 : Hid (w4.ownsRow w1.heap.size 25 2 v' (k + 1) (flat ((L.take (k + 1)).map rowOf))) := Lib.hid (by rw [HMS.out, HRW.out, flat_snoc]; exact hown')
                clear hown' hgrow hown HO HB hszw hcl hmx hby
                go_wp2
                go_roundw
                case rel => exact ⟨k + 1, by omega, by go_num, HO4.out, HB4.out⟩
                case measure => simp [intOf]; omega
          · have hjx' : ¬ (j : Int) < (x.size : Int) := by omega
            clear HLI HLO
            go_wp2_with fail
            have hjm2 : j ≤ x.size := by omega
            have hcl : (x.extract 0 j).size ≤ maxLen := by rw [ByteArray.size_extract]; unfold maxLen; omega
            have hmx : k + 1 ≤ maxLen := by unfold maxLen; omega
            have hby : (k + 1) * 24 ≤ 140737488355328 := by omega
            have hown := HO.out
            have hszw := HB.out.size
            go_region_law (first
              | (go_simp; go_at_call 49; refine (HCR.out _).mono ?_; rintro e w' ⟨rfl, rfl⟩)
              | (refine step_own _ (by rfl) (.tmp 42) (.tmp 51) _ (by rfl) w1.heap.size 25 i0 (.agg #[.string .empty, .int .i64 0]) 2 24 Tryz.underlying23 HI0.out HZ0.out HZ1.out HZ2.out rfl (by decide) _ k (flat ((L.take k).map rowOf)) (by rfl) (hown.drew.alloc _) ⟨wr.heap.size, 0, none⟩ 1 1 [.string (x.extract 0 j), .int .i64 (readF (x.extract j x.size))] (by rfl) rfl (pair_new _ (heap_new _ _)) (by simp [Value.oneCell']) hmx hby (by simp; omega) ?_; intro v' w4 hown' hgrow))
            all_goals
              have HB4 : Hid (Below w1.heap.size w1 w4) := Lib.hid ((HB.out.drew.alloc HB.out.size _).grown hgrow (by have := HB.out.size; simp; omega) (fun g hg => own_lt hown g hg))
              have HO4 : Hid (w4.ownsRow w1.heap.size 25 2 v' (k + 1) (flat ((L.take (k + 1)).map rowOf))) := Lib.hid (by rw [HMS.out, HRW.out, flat_snoc]; exact hown')
              clear hown' hgrow hown HO HB hszw hcl hmx hby
              go_wp2
              go_roundw
              case rel => exact ⟨k + 1, by omega, by go_num, HO4.out, HB4.out⟩
              case measure => simp [intOf]; omega
    · obtain rfl : k = n := by omega
      have hrow : specR s = (L.take k).map rowOf := HRD.out
      have HOF : Hid (wr.ownsRow w.heap.size 25 2 u5 (specR s).length (flat (specR s))) := Lib.hid (by
        have hl : (specR s).length = k := by rw [hrow, List.length_map, List.length_take]; have := HLN.out; omega
        rw [hl, hrow]
        exact Joins.ownsRow_le HO.out HB1.out.size)
      have hcd : CodesOk (specR s) := fun i hi => by
        have hm : (specR s)[i] ∈ (L.take k).map rowOf := by rw [← hrow]; exact List.getElem_mem hi
        obtain ⟨p, hp, he⟩ := List.mem_map.1 hm
        have := HSZ.out p (List.mem_of_mem_take hp)
        rw [← he]
        show (p.extract 0 (letN p)).size ≤ maxLen
        rw [ByteArray.size_extract]; unfold maxLen; omega
      have hsl : (specR s).length ≤ 1048576 := by rw [hrow, List.length_map, List.length_take]; omega
      have HCD := Lib.hid hcd; have HSL := Lib.hid hsl
      clear hrow hcd hsl HO HRD HC HSZ
      generalize specR s = F at *
      obtain ⟨A, cp, rfl⟩ := own_form_f HOF.out
      have HSI := Lib.hid (own_in_f HOF.out)
      go_wp2_with fail
      refine (tyFont_any F A cp 0 _ HSI.out HSL.out HCD.out).mono ?_
      rintro e w2 ⟨rfl, hb2⟩
      have HB2 : Hid (Below w.heap.size w w2) := Lib.hid (HBW.out.trans (hb2.mono HBW.out.size))
      have HO2 := Lib.hid (own_below HOF.out hb2)
      have HS2 := Lib.hid (HSI.out.below hb2 (Nat.le_refl _))
      clear hb2 HOF HSI HBW HB
      cases hg : fontB F
      · have HN := Lib.hid (HNO.out (fun h => by rw [hg] at h; exact absurd h.2.1 (by simp)))
        clear hg
        go_wp2
        go_ret2
        exact SrtTo.no HN.out HB2.out
      · have HG := Lib.hid hg
        clear hg
        go_wp2_with fail
        refine (tyText_any F A cp 0 _ HS2.out HG.out).mono ?_
        rintro e w3 ⟨rfl, hb3⟩
        have HB3 : Hid (Below w.heap.size w w3) := Lib.hid (HB2.out.trans (hb3.mono HB2.out.size))
        have HO3 := Lib.hid (own_below HO2.out hb3)
        clear hb3 HB2 HO2 HS2
        by_cases ht : baOf (ftK F F.length) = s
        · have HN := Lib.hid (HYE.out ⟨H33.out, HG.out, ht⟩)
          rw [show Go.Proofs.YtiihhilhiknckaaGreatDoor.baOf (ftK F F.length) = s from ht]
          clear ht HYE HNO
          have hss : (!(s.toList == s.toList)) = false := by simp
          go_wp2
          go_ret2
          exact SrtTo.yes HN.out HB3.out HO3.out
        · have HN := Lib.hid (HNO.out (fun h => ht h.2.2))
          have ht' : ¬ Go.Proofs.YtiihhilhiknckaaGreatDoor.baOf (ftK F F.length) = s := ht
          have hss := str_ne ht'
          clear ht ht'
          generalize Go.Proofs.YtiihhilhiknckaaGreatDoor.baOf (ftK F F.length) = t at *
          clear HYE HNO
          go_wp2
          go_ret2
          exact SrtTo.no HN.out HB3.out
end Go.Proofs.YtiihhilhiknckaaGreatDoor.P

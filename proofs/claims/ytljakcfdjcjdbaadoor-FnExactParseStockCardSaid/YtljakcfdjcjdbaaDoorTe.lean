/-
  The contract of spec.ParseStock.
-/
import Derived.Test.YtljakcfdjcjdbaaDoorTc
import Derived.Test.YtljakcfdjcjdbaaDoorPe
import Derived.Deep.DeepCutAuto
import Derived.Deep.RegionLaw
namespace Go.Proofs.YtljakcfdjcjdbaaDoor
open Go.RowKit Go.Proofs.YtljakcfdjcjdbaaDoor.T1
set_option linter.unusedVariables false

theorem under_str : Tryd.prog.underlying 52 = some (.slice (Tryd.prog.elem 52)) := by rw [show Tryd.prog.elem 52 = 9 from by kernel_rfl]; exact Tryd.underlying52
theorem size_str (W : World) : (sizeOf (Tryd.prog.elem 52)).run Tryd.prog W = .ok 1 W := by
  obtain ⟨i0, hi, hz0, hz1, hz2⟩ := info_parts info_str
  rw [show Tryd.prog.elem 52 = 9 from by kernel_rfl]
  simp [sizeOf, typeInfo, hi, hz1]
theorem strs_head (b off n cap k : Nat) (hk : k ≤ n) (hn : n ≤ cap) (W : World) :
    (Instr.slice 52 (.slice (some ⟨b, off, none⟩) n cap) none (some (.int .i64 (k : Int))) none).run Tryd.prog W = .ok (.slice (some ⟨b, off, none⟩) k cap) W := by
  rw [run_slice_h W _ _ _ _ under_str .i64 (k : Int) (by omega) (by omega), size_str]
  by_cases hc : cap = 0 <;> simp [sliced, Result.andThen, Addr.add, hc]
theorem pair_new {a b : Value} (w : World) {g : Nat} {e : TypeId} (h : w.heap[g]? = some (.cells #[a, b] e (0, 0))) : ∀ j u, [a, b][j]? = some u → w.cell? ((⟨g, 0, none⟩ : Addr).add j) = some u := by
  intro j u hj
  have hc : j = 0 ∨ j = 1 ∨ 2 ≤ j := by omega
  rcases hc with rfl | rfl | h2
  · rw [show ((⟨g, 0, none⟩ : Addr).add 0) = ⟨g, 0, none⟩ from rfl, cell_of_heap h]; simpa using hj
  · rw [show ((⟨g, 0, none⟩ : Addr).add 1) = ⟨g, 1, none⟩ from rfl, cell_of_heap h]; simpa using hj
  · rw [List.getElem?_eq_none (by simpa using h2)] at hj; cases hj
theorem step_own {P : Program} (w : World) {ops : Array Oper} {o : Oper} {a : Act} {K : Act → World → Prop} {Q : Exit → Act → World → Prop} {E : Prop} (hgd : o.guard = none) (s x : Operand) (t : TypeId)
    (ho : o.op = .call { callee := .builtin .append, args := #[s, x], argTypes := #[t, t] })
    (base : Nat) (e : TypeId) (i : TypeInfo) (z : Value) (size bytes : Nat) (ht : P.underlying t = some (.slice e)) (hi : P.info? e = some i) (hz : i.zero = some z)
    (hsize : i.size = size) (hby : i.bytes = bytes) (hzs : z.cells.size = size) (hsz : 0 < size)
    (v : Value) (n : Nat) (xs : List Value) (hs : a.eval s = v) (hown : w.ownsRow base e size v n xs)
    (ad : Addr) (m c : Nat) (news : List Value) (hx : a.eval x = .slice (some ad) m c) (hl : news.length = m * size) (hnews : ∀ j u, news[j]? = some u → w.cell? (ad.add j) = some u) (h1 : ∀ u ∈ news, u.oneCell' = true)
    (h63 : n + m ≤ maxLen) (hbytes : (n + m) * bytes ≤ 140737488355328) (hbase : base ≤ w.heap.size)
    (h : ∀ v' w', w'.ownsRow base e size v' (n + m) (xs ++ news) → w.grownBy w' v.ownBlock → K (a.put o.dst v') w') :
    if Region.wanted o (yielded ops a.tmps) = true then Oper.wp P o a w K Q else E := by
  have hw : Region.wanted o (yielded ops a.tmps) = true := by simp [Region.wanted, hgd]
  rw [if_pos hw]
  exact wp_append_own w s x t ho base e i z size bytes ht hi hz hsize hby hzs hsz v n xs hs hown ad m c news hx hl hnews h1 h63 hbytes hbase fun v' w' h2 h3 _ => h v' w' h2 h3
theorem pcs_size (c : UInt8) (n : Nat) : ∀ (s : ByteArray), ∀ x ∈ Lib.splitB (sepB c) 0 n s, x.size ≤ s.size := by
  induction n with
  | zero => intro s x hx; rw [Lib.splitB_zero] at hx; simp at hx; subst hx; exact Nat.le_refl _
  | succ n ih =>
    intro s x hx
    rcases Lib.indexB_cases s (sepB c) with h | ⟨i, h, hr⟩
    · rw [Lib.splitB_miss _ _ _ _ h] at hx; simp at hx; subst hx; exact Nat.le_refl _
    · rw [Lib.splitB_hit _ _ _ _ i h] at hx
      rcases List.mem_cons.1 hx with rfl | hx
      · rw [ByteArray.size_extract]; omega
      · have := ih _ x hx
        rw [ByteArray.size_extract] at this; omega
theorem map_step {α β : Type} (f : α → β) {l : List α} {k : Nat} (h : k < l.length) : (l.take (k + 1)).map f = (l.take k).map f ++ [f l[k]] := by
  rw [List.take_succ_eq_append_getElem h, List.map_append]; rfl
theorem str_none {s : ByteArray} (h : s.size ≠ 0) : s.toList.isEmpty = false := by
  cases h' : s.toList with
  | nil => exact absurd (by rw [Lib.toList_data] at h'; have := Lib.size_eq s; rw [h'] at this; simpa using this) h
  | cons _ _ => rfl
def StkTo (s : ByteArray) (w w' : World) (e : Ending) : Prop := ∃ v T, e = .returned (.tuple #[v, .bool (psA s)]) ∧ Below w.heap.size w w' ∧ w'.ownsRow w.heap.size T 2 v (psV s).length (flatSl (psV s))
theorem StkTo.no {s : ByteArray} {w w' : World} (h : ¬ ParsB s) (hb : Below w.heap.size w w') : StkTo s w w' (.returned (.tuple #[.slice none 0 0, .bool false])) := by
  obtain ⟨e1, e2⟩ := ps_no h
  exact ⟨_, 37, by rw [e2], hb, by rw [e1]; exact own_nil _ _ _ _⟩
/-- A list of the call's own, or none. -/
theorem ruIfRow_any (f : List Sl) (base : Nat) (A : Option Addr) (c : Nat) (w : World) (ho : w.ownsRow base 37 2 (.slice A f.length c) f.length (flatSl f)) (hn : f.length ≤ 1048576) :
    Calls Tryd.prog 25 #[.slice A f.length c] w fun e w' => ∃ v, e = .returned (.tuple #[v, .bool (stkB f)]) ∧ Below w.heap.size w w' ∧ (stkB f = true → w'.ownsRow base 37 2 v f.length (flatSl f)) ∧ (stkB f = false → v = .slice none 0 0) := by
  have HO := Lib.hid ho; clear ho
  go_enter Tryd.func25, Tryd.ntmps25
  go_wp2_with fail
  refine (ruGood_any f A c _ (own_in_sl HO.out) hn).mono ?_
  rintro e w1 ⟨rfl, hb1⟩
  have HB1 := Lib.hid hb1
  have HO1 := Lib.hid (own_below HO.out hb1)
  clear hb1
  cases hg : stkB f
  · have HQ := Lib.hid hg
    clear hg
    go_wp2
    go_ret2
    exact ⟨_, ret_vb HQ.out.symm, HB1.out, (fun h => Bool.noConfusion (HQ.out.symm.trans h)), (fun _ => rfl)⟩
  · have HQ := Lib.hid hg
    clear hg
    go_wp2
    go_ret2
    exact ⟨_, ret_vb HQ.out.symm, HB1.out, (fun _ => HO1.out), (fun h => Bool.noConfusion (HQ.out.symm.trans h))⟩
set_option maxRecDepth 100000 in
set_option maxHeartbeats 1000000 in
theorem specParseStock_any (s : ByteArray) (w : World) (hs : s.size ≤ 1048576) :
    Calls Tryd.prog 10 #[.string s] w fun e w' => StkTo s w w' e := by
  obtain ⟨i0, hi, hz0, hz1, hz2⟩ := info_parts infoSl
  have HI0 := Lib.hid hi; have HZ0 := Lib.hid hz0; have HZ1 := Lib.hid hz1; have HZ2 := Lib.hid hz2
  clear hi hz0 hz1 hz2
  have HSP : Hid (∀ W : World, Calls Tryd.prog 23 #[.string s, .int .u8 32] W fun e w' => SplTo 32 s W w' e) := Lib.hid fun W => l1Split_any 32 s W hs
  have HSX : Hid (∀ (x : ByteArray) (W : World), x.size ≤ 1048576 → Calls Tryd.prog 23 #[.string x, .int .u8 120] W fun e w' => SplTo 120 x W w' e) := Lib.hid fun x W h => l1Split_any 120 x W h
  have HSZ : Hid (∀ x ∈ pcs 32 s, x.size ≤ 1048576) := Lib.hid fun x hx => Nat.le_trans (pcs_size 32 _ s x hx) hs
  have HNO : Hid (¬ ((pcs 32 s).length ≤ 9 ∧ (pcs 32 s).getLast? = some ⟨#[]⟩ ∧ (∀ p ∈ (pcs 32 s).dropLast, (pcs 120 p).length = 2) ∧ GoodS ((pcs 32 s).dropLast.map slR)) → ¬ ParsB s) := Lib.hid (fun h hp => h ⟨hp.nine, hp.last, hp.two, hp.good⟩)
  have HYE : Hid ((pcs 32 s).length ≤ 9 → (pcs 32 s).getLast? = some ⟨#[]⟩ → (∀ p ∈ (pcs 32 s).dropLast, (pcs 120 p).length = 2) → psA s = stkB ((pcs 32 s).dropLast.map slR) ∧ (stkB ((pcs 32 s).dropLast.map slR) = true → psV s = (pcs 32 s).dropLast.map slR)) := Lib.hid (fun h1 h2 h3 => by
    cases hg : stkB ((pcs 32 s).dropLast.map slR)
    · exact ⟨psA_no (fun hp => by rw [stkB_iff.2 hp.good] at hg; cases hg), (fun h => by cases h)⟩
    · have hp : ParsB s := ⟨h1, h2, h3, stkB_iff.1 hg⟩
      exact ⟨psA_iff.2 hp, fun _ => (ps_yes hp).1⟩)
  have hpos := pcs_some 32 s
  go_enter Tryd.func10, Tryd.ntmps10
  go_wp2_with fail
  refine (HSP.out _).mono ?_
  rintro e w1 ⟨A, q, rfl, hb, hq, hin⟩
  have HB1 := Lib.hid hb; have HIN := Lib.hid hin
  clear hb hin HSP
  by_cases h9 : (pcs 32 s).length ≤ 9
  rotate_left
  · have HN := Lib.hid (HNO.out (fun h => h9 h.1))
    have hgt : (9 : Int) < ((pcs 32 s).length : Int) := by omega
    clear HNO HYE HSZ HIN h9
    generalize pcs 32 s = L at *
    go_wp2
    go_ret2
    exact StkTo.no HN.out HB1.out
  have hng : ¬ (9 : Int) < ((pcs 32 s).length : Int) := by omega
  have H9 := Lib.hid h9; clear h9
  generalize pcs 32 s = L at *
  obtain ⟨b, off, rfl, hbl, hc⟩ := HIN.out hpos
  have HC : Hid (∀ k (h : k < L.length), w1.cell? ⟨b, off + k, none⟩ = some (.string L[k])) := Lib.hid hc
  clear HIN hc
  obtain ⟨n, hn⟩ : ∃ n, L.length = n + 1 := ⟨L.length - 1, by omega⟩
  have hnq1 : n + 1 ≤ q := by omega
  have hsl := strs_head b off (n + 1) q n (by omega) hnq1
  have HLN := Lib.hid hn
  have hD : L.dropLast = L.take n := by rw [List.dropLast_eq_take, hn]; rfl
  have hnl : n < L.length := by omega
  have hLL : L.getLast? = some L[n] := by rw [List.getLast?_eq_getElem?, hn]; simp
  have hcn := HC.out n hnl
  rw [hD, hLL] at HNO HYE
  have hi1 : ((n + 1 : Nat) : Int) - 1 = (n : Int) := by omega
  have hi2 : (n : Int) < ((n + 1 : Nat) : Int) := by omega
  have hn9 : ¬ (9 : Int) < ((n + 1 : Nat) : Int) := by omega
  have hn8 : n ≤ 8 := by omega
  by_cases hz : L[n].size = 0
  rotate_left
  · have HN := Lib.hid (HNO.out (fun h => hz (by rw [Option.some.inj h.2.1]; rfl)))
    have hne := str_none hz
    rw [hn] at hng ⊢
    clear HNO HYE HSZ hD hpos hq hn hLL hz
    generalize L[n] = x at *
    go_wp2
    go_ret2
    exact StkTo.no HN.out HB1.out
  have hze : L[n] = ⟨#[]⟩ := ba_ext (List.eq_nil_of_length_eq_zero (by rw [Array.length_toList]; exact hz))
  rw [hze] at hcn HNO HYE
  rw [hn] at hng ⊢
  clear hD hpos hq hn hLL hz hze
  go_wp2
  clear hsl hng hn9 hcn hi1 hi2
  go_loopw [5, 29] (fun v i wr => ∃ k : Nat, k ≤ n ∧ i = .int .i64 k ∧ (∀ p ∈ L.take k, (pcs 120 p).length = 2) ∧ wr.ownsRow w1.heap.size 37 2 v k (flatSl ((L.take k).map slR)) ∧ Below w1.heap.size w1 wr) (fun _ i _ => n - (intOf i).toNat)
  case atStart => exact ⟨0, Nat.zero_le _, rfl, (fun _ h => by cases h), own_nil _ _ _ _, Below.refl _ _⟩
  case round =>
    obtain ⟨k, hk, rfl, htw, hown, hb⟩ := hrel
    have HO := Lib.hid hown; have HB := Lib.hid hb; have HTW := Lib.hid htw
    clear hown hb htw
    have HBW : Hid (Below w.heap.size w wr) := Lib.hid (HB1.out.trans (HB.out.mono HB1.out.size))
    by_cases hlt : k < n
    · have hkl : k < L.length := by rw [HLN.out]; omega
      have hc0 := (HB.out.cell (p := ⟨b, off + k, none⟩) hbl).trans (HC.out k hkl)
      have HMS := Lib.hid (map_step slR hkl)
      have HTK : Hid (L.take (k + 1) = L.take k ++ [L[k]]) := Lib.hid (List.take_succ_eq_append_getElem hkl)
      have hszx : L[k].size ≤ 1048576 := HSZ.out _ (List.getElem_mem hkl)
      have HRW := Lib.hid (fun a r (h : pcs 120 L[k] = [a, r]) => slR_two h)
      have HMT : Hid (L[k] ∈ L.take n) := Lib.hid (List.mem_iff_getElem.2 ⟨k, by rw [List.length_take]; omega, by rw [List.getElem_take]⟩)
      have HXS : Hid (∀ y ∈ pcs 120 L[k], y.size ≤ maxLen) := Lib.hid (fun y hy => by have := pcs_size 120 _ _ y hy; unfold maxLen; omega)
      generalize L[k] = x at *
      clear hkl
      go_wp2_with fail
      refine (HSX.out x _ hszx).mono ?_
      rintro e w5 ⟨A5, q5, rfl, hb5, hq5, hin5⟩
      have HB5 := Lib.hid (HB.out.trans (hb5.mono HB.out.size))
      have HO5 := Lib.hid (own_below HO.out hb5)
      have HIN5 := Lib.hid hin5
      clear hb5 hin5 hc0 HO
      by_cases h2 : (pcs 120 x).length = 2
      rotate_left
      · have HN := Lib.hid (HNO.out (fun h => h2 (h.2.2.1 x HMT.out)))
        have HBZ := Lib.hid (HB1.out.trans (HB5.out.mono HB1.out.size))
        have hne : (((pcs 120 x).length : Int) != 2) = true := by simp; omega
        have hne2 : ¬ ((pcs 120 x).length : Int) = 2 := by omega
        clear HNO HYE h2 HXS HRW HIN5
        generalize (pcs 120 x).length = m at *
        go_wp2
        go_ret2
        exact StkTo.no HN.out HBZ.out
      obtain ⟨a, r, hp⟩ : ∃ a r, pcs 120 x = [a, r] := by
        match hq : pcs 120 x, h2 with
        | [a, r], _ => exact ⟨a, r, rfl⟩
      have HRX := Lib.hid (HRW.out a r hp)
      have HT2 : Hid (∀ p ∈ L.take (k + 1), (pcs 120 p).length = 2) := Lib.hid (fun p hq => by
        rw [HTK.out] at hq
        rcases List.mem_append.1 hq with h | h
        · exact HTW.out p h
        · rw [List.mem_singleton.1 h]; exact h2)
      rw [hp] at HIN5 HXS h2 hq5 ⊢
      have ha := HXS.out a (by simp)
      have hr := HXS.out r (by simp)
      obtain ⟨b5, off5, rfl, hbl5, hc5⟩ := HIN5.out (by simp)
      have hx0 := hc5 0 (by simp)
      have hx1 := hc5 1 (by simp)
      simp only [List.getElem_cons_zero, List.getElem_cons_succ, Nat.add_zero] at hx0 hx1
      have hsa := ha; have hsr := hr
      clear hc5 HIN5 HXS HRW h2 HTW HTK HMT ha hr hp
      simp only [List.length_cons, List.length_nil] at hq5 ⊢
      have hown := HO5.out
      have hszw := HB5.out.size
      have hmx : k + 1 ≤ maxLen := by unfold maxLen; omega
      have hby : (k + 1) * 16 ≤ 140737488355328 := by omega
      go_wp2_with fail
      go_region_law (first
        | (go_simp; go_at_call 24; refine (l1Read_any _ _ (by with_reducible first | exact hsa | exact hsr)).mono ?_; rintro e w' ⟨rfl, rfl⟩)
        | (refine step_own _ (by rfl) (.tmp 38) (.tmp 48) _ (by rfl) w1.heap.size 37 i0 (.agg #[.int .i64 0, .int .i64 0]) 2 16 Tryd.underlying26 HI0.out HZ0.out HZ1.out HZ2.out rfl (by decide) _ k (flatSl ((L.take k).map slR)) (by rfl) (hown.drew.alloc _) ⟨w5.heap.size, 0, none⟩ 1 1 [.int .i64 (readF r), .int .i64 (readF a)] (by rfl) rfl (pair_new _ (heap_new _ _)) (by simp [Value.oneCell']) hmx hby (by simp; omega) ?_; intro v' w6 hown' hgrow))
      all_goals
        have HB6 : Hid (Below w1.heap.size w1 w6) := Lib.hid ((HB5.out.drew.alloc HB5.out.size _).grown hgrow (by have := HB5.out.size; simp; omega) (fun g hg => own_lt hown g hg))
        have HO6 : Hid (w6.ownsRow w1.heap.size 37 2 v' (k + 1) (flatSl ((L.take (k + 1)).map slR))) := Lib.hid (by rw [HMS.out, HRX.out, flatSl_snoc]; exact hown')
        clear hown' hgrow hown HO5 HB5 hszw hmx hby
        go_wp2
        go_roundw
        case rel => exact ⟨k + 1, by omega, by go_num, HT2.out, HO6.out, HB6.out⟩
        case measure => simp [intOf]; omega
    · obtain rfl : k = n := by omega
      obtain ⟨e1, e2⟩ := HYE.out H9.out (by first | rfl | trivial) HTW.out
      have HE1 := Lib.hid e1; have HE2 := Lib.hid e2
      have HL : Hid (((L.take k).map slR).length = k) := Lib.hid (by rw [List.length_map, List.length_take]; have := HLN.out; omega)
      have HOF : Hid (wr.ownsRow w.heap.size 37 2 u5 ((L.take k).map slR).length (flatSl ((L.take k).map slR))) := Lib.hid (by
        rw [HL.out]; exact Joins.ownsRow_le HO.out HB1.out.size)
      clear e1 e2 HO HC HSZ HNO HYE HTW HB
      have hfl : ((L.take k).map slR).length ≤ 1048576 := by rw [HL.out]; omega
      generalize (L.take k).map slR = F at *
      obtain ⟨A9, c9, hv9⟩ := own_form_sl HOF.out
      subst hv9
      go_wp2_with fail
      refine (ruIfRow_any F w.heap.size A9 c9 _ HOF.out hfl).mono ?_
      rintro e w7 ⟨v7, rfl, hb7, hy7, hn7⟩
      have HB7 := Lib.hid (HBW.out.trans (hb7.mono HBW.out.size))
      have HY7 := Lib.hid hy7; have HN7 := Lib.hid hn7
      clear hb7 hy7 hn7
      go_wp2
      go_ret2
      refine ⟨_, 37, ret_vb HE1.out.symm, HB7.out, ?_⟩
      cases hg : stkB F
      · have e3 := HE1.out
        rw [hg] at e3
        rw [(ps_no (s := s) (fun hp => by rw [psA_iff.2 hp] at e3; cases e3)).1, HN7.out hg]
        exact own_nil _ _ _ _
      · rw [HE2.out hg]; exact HY7.out hg
end Go.Proofs.YtljakcfdjcjdbaaDoor

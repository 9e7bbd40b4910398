/-
  The contract of slices.DeleteFunc over ints with the function of impl.HyphenPlaces.
-/
import Derived.Test.YtcbhhbcfnaekpaaDoorHyn
import Derived.Test.YtcbhhbcfnaekpaaDoorHyj
namespace Go.Proofs.YtcbhhbcfnaekpaaDoor
open Go.RowKit
set_option linter.unusedVariables false

theorem own_keep {w : World} {base g m c j : Nat} {e : TypeId} {xs : List Value} (h : w.ownsRow base e 1 (.slice (some ⟨g, 0, none⟩) m c) m xs) (hj : m ≤ j) (u : Value) : (w.setCell ⟨g, j, none⟩ u).ownsRow base e 1 (.slice (some ⟨g, 0, none⟩) m c) m xs := by
  refine ⟨h.1, ?_⟩
  rcases h.2 with ⟨hv, _⟩ | ⟨g', cap, cur, hv, hg, hh, h1, h2, h3, h4⟩
  · cases hv
  · injection hv with e1 e2 e3
    injection e1 with e1
    injection e1 with e1
    subst e1
    refine .inr ⟨g, cap, _, by rw [e3], hg, heap_set hh u, h1, h2, by simpa using h3, ?_⟩
    rw [Array.toList_setIfInBounds, List.take_set_of_le (by omega), h4]
theorem own_keeps {base g m c : Nat} {e : TypeId} {xs : List Value} : ∀ (vs : List Value) (o : Nat) (w : World), w.ownsRow base e 1 (.slice (some ⟨g, 0, none⟩) m c) m xs → m ≤ o → (w.setCells g o vs).ownsRow base e 1 (.slice (some ⟨g, 0, none⟩) m c) m xs
  | [], _, _, h, _ => h
  | v :: r, o, w, h, ho => own_keeps r (o + 1) _ (own_keep h ho v) (by omega)
theorem grown_sets {w : World} {g : Nat} : ∀ (vs : List Value) (o : Nat) (wr : World), w.grownBy wr (some g) → w.grownBy (wr.setCells g o vs) (some g)
  | [], _, _, h => h
  | v :: r, o, wr, h => grown_sets r (o + 1) _ (grown_set h o v)
theorem own_cut {w : World} {base g n m c : Nat} {e : TypeId} {xs : List Value} (h : w.ownsRow base e 1 (.slice (some ⟨g, 0, none⟩) n c) n xs) (hm : m ≤ n) : w.ownsRow base e 1 (.slice (some ⟨g, 0, none⟩) m c) m (xs.take m) := by
  refine ⟨by have := h.1; simp; omega, ?_⟩
  rcases h.2 with ⟨hv, _⟩ | ⟨g', cap, cur, hv, hg, hh, h1, h2, h3, h4⟩
  · cases hv
  · injection hv with e1 e2 e3
    injection e1 with e1
    injection e1 with e1
    subst e1
    refine .inr ⟨g, cap, cur, by rw [e3], hg, hh, by omega, h2, h3, ?_⟩
    rw [← h4, List.take_take]
    congr 1; omega
theorem own_cap {w : World} {base g n c : Nat} {e : TypeId} {xs : List Value} (h : w.ownsRow base e 1 (.slice (some ⟨g, 0, none⟩) n c) n xs) : n ≤ c ∧ c ≤ maxLen ∧ ∀ j, j < c → (w.cell? ⟨g, j, none⟩).isSome = true := by
  rcases h.2 with ⟨hv, _⟩ | ⟨g', cap, cur, hv, hg, hh, h1, h2, h3, h4⟩
  · cases hv
  · injection hv with e1 e2 e3
    injection e1 with e1
    injection e1 with e1
    subst e1
    subst e3
    refine ⟨h1, h2, fun j hj => ?_⟩
    rw [cell_of_heap hh, Array.getElem?_eq_getElem (by omega)]; rfl
theorem slice_fromI (b n cap i : Nat) (hi : i < n) (hn : n ≤ cap) (W : World) :
    (Instr.slice 28 (.slice (some ⟨b, 0, none⟩) n cap) (some (.int .i64 (i : Int))) none none).run Tryd.prog W = .ok (.slice (some ⟨b, i, none⟩) (n - i) (cap - i)) W := by
  rw [run_slice_l W _ _ _ _ underI .i64 (i : Int) (by omega) (by omega), sizeI]
  have h0 : ¬ cap = i := by omega
  by_cases h1 : i = 0
  · subst h1; simp [sliced, Result.andThen, Addr.add, h0]
  · simp [sliced, Result.andThen, Addr.add, h0, h1]
theorem slice_toI (b n cap i : Nat) (hi : i ≤ n) (hn : n ≤ cap) (W : World) :
    (Instr.slice 28 (.slice (some ⟨b, 0, none⟩) n cap) none (some (.int .i64 (i : Int))) none).run Tryd.prog W = .ok (.slice (some ⟨b, 0, none⟩) i cap) W := by
  rw [run_slice_h W _ _ _ _ underI .i64 (i : Int) (by omega) (by omega), sizeI]
  by_cases hc : cap = 0 <;> simp [sliced, Result.andThen, Addr.add, hc]
theorem filt_step {kp : Int → Bool} {L : List Int} {j : Nat} (h : j < L.length) : (L.take (j + 1)).filter kp = (L.take j).filter kp ++ (if kp L[j] then [L[j]] else []) := by
  rw [List.take_succ_eq_append_getElem h, List.filter_append]
  congr 1
  by_cases hk : kp L[j] <;> simp [hk]
theorem filt_all {kp : Int → Bool} {L : List Int} (h : ∀ x ∈ L, kp x = true) : L.filter kp = L := List.filter_eq_self.2 h
/-- What the loop keeps: the first i of X are those of the first j of L that stay; behind j X is L. -/
structure DelSt (kp : Int → Bool) (L X : List Int) (i j : Nat) : Prop where
  len : X.length = L.length
  ij : i < j
  jn : j ≤ L.length
  cnt : i = ((L.take j).filter kp).length
  head : X.take i = (L.take j).filter kp
  tail : X.drop j = L.drop j
theorem DelSt.at_ {kp : Int → Bool} {L X : List Int} {i j : Nat} (h : DelSt kp L X i j) (hj : j < L.length) : X[j]'(by rw [h.len]; exact hj) = L[j] := by
  have h1 := h.tail
  rw [List.drop_eq_getElem_cons (by rw [h.len]; exact hj), List.drop_eq_getElem_cons hj] at h1
  injection h1
theorem DelSt.start {kp : Int → Bool} {L : List Int} {i : Nat} (hi : i < L.length) (h1 : kp L[i] = false) (h2 : ∀ x ∈ L.take i, kp x = true) : DelSt kp L L i (i + 1) := by
  have e : (L.take (i + 1)).filter kp = L.take i := by rw [filt_step hi, h1, filt_all h2]; simp
  exact ⟨rfl, by omega, hi, by rw [e, List.length_take]; omega, e.symm, rfl⟩
theorem DelSt.no {kp : Int → Bool} {L X : List Int} {i j : Nat} (h : DelSt kp L X i j) (hj : j < L.length) (hk : kp L[j] = false) : DelSt kp L X i (j + 1) := by
  have e : (L.take (j + 1)).filter kp = (L.take j).filter kp := by rw [filt_step hj, hk]; simp
  refine ⟨h.len, by have := h.ij; omega, hj, by rw [e]; exact h.cnt, by rw [e]; exact h.head, ?_⟩
  have h1 := h.tail
  rw [List.drop_eq_getElem_cons (by rw [h.len]; exact hj), List.drop_eq_getElem_cons hj] at h1
  injection h1
theorem DelSt.yes {kp : Int → Bool} {L X : List Int} {i j : Nat} (h : DelSt kp L X i j) (hj : j < L.length) (hk : kp L[j] = true) : DelSt kp L (X.set i L[j]) (i + 1) (j + 1) := by
  have e : (L.take (j + 1)).filter kp = (L.take j).filter kp ++ [L[j]] := by rw [filt_step hj, hk]; simp
  have hij := h.ij
  refine ⟨by rw [List.length_set]; exact h.len, by omega, hj, by rw [e, List.length_append, ← h.cnt]; rfl, ?_, ?_⟩
  · have hl : i < (X.set i L[j]).length := by rw [List.length_set, h.len]; omega
    rw [e, ← h.head, List.take_succ_eq_append_getElem hl, List.take_set_of_le (Nat.le_refl _)]
    simp
  · have h1 := h.tail
    rw [List.drop_eq_getElem_cons (by rw [h.len]; exact hj), List.drop_eq_getElem_cons hj] at h1
    injection h1 with h2 h3
    rw [List.drop_set_of_lt (by omega)]
    exact h3
set_option maxRecDepth 100000 in
set_option maxHeartbeats 4000000 in
theorem deleteFunc_any (L : List Int) (v : Value) (base bx : Nat) (wd : ByteArray) (w : World) (h : w.ownsRow base 3 1 v L.length (intsZ L)) (hc : w.cell? ⟨bx, 0, none⟩ = some (.string wd)) (hbx : bx < base) (hL : ∀ x ∈ L, 0 ≤ x ∧ x ≤ 2000000) (hn : L.length ≤ 2000000) (hw : wd.size ≤ 1048576) :
    Calls Tryd.prog 54 #[v, .func (.func 55) #[] #[.pointer (some ⟨bx, 0, none⟩)]] w fun e w' => ∃ v', e = .returned v' ∧ w'.ownsRow base 3 1 v' (L.filter (kpB wd.size)).length (intsZ (L.filter (kpB wd.size))) ∧ w.grownBy w' v.ownBlock := by
  obtain ⟨B, d, hv⟩ := own_shape h
  subst hv
  have HIN := Lib.hid (own_in h)
  have HIX := Lib.hid (indexFunc_any L B d wd bx w HIN.out hc hL hn hw)
  have HOW := Lib.hid h; have HC := Lib.hid hc; have HL := Lib.hid hL
  have hbw : bx < w.heap.size := World.block_lt_of_cell? _ _ hc
  clear h hc hL
  rcases idxD_cases wd.size L 0 with ⟨h1, h2⟩ | ⟨i0, hi0, h1, h2, h3⟩
  · have HI := Lib.hid h1
    have HF := Lib.hid (filt_all h2)
    clear h1 h2
    go_enter Tryd.func54, Tryd.ntmps54
    go_wp2_with fail
    refine HIX.out.mono ?_
    rintro e w1 ⟨rfl, rfl⟩
    rw [HI.out]
    go_wp2
    go_ret
    exact ⟨_, rfl, by rw [HF.out]; exact HOW.out, World.grownBy.refl _ _⟩
  have HI : Hid (idxD wd.size L 0 = (i0 : Int)) := Lib.hid (by rw [h1, Nat.zero_add])
  have HST := Lib.hid (DelSt.start hi0 h2 h3)
  clear h1 h2 h3
  obtain ⟨g, cap, hv, hg, hgw⟩ := own_some HOW.out (by omega)
  injection hv with e1 e2 e3
  subst e1; subst e3
  have hne : bx ≠ g := by omega
  obtain ⟨n, hnl⟩ : ∃ n, n = L.length := ⟨_, rfl⟩
  have HNL := Lib.hid hnl
  rw [← hnl] at HOW HIX hi0 hn ⊢
  clear hnl
  have hneg : ((i0 : Int) == -1) = false := by rw [beq_eq_false_iff_ne]; omega
  go_enter Tryd.func54, Tryd.ntmps54
  go_wp2_with fail
  refine HIX.out.mono ?_
  rintro e w1 ⟨rfl, rfl⟩
  rw [HI.out]
  have HCW := Lib.hid (own_cap HOW.out).1
  go_wp2
  go_loopw [5, 6] (fun t5 t6 wr => ∃ (i j : Nat) (X : List Int), j ≤ n ∧ i < j ∧ t5 = .int .i64 i ∧ t6 = .int .i64 j ∧ Hid (DelSt (kpB wd.size) L X i j) ∧ Hid (wr.ownsRow base 3 1 (.slice (some ⟨g, 0, none⟩) n d) n (intsZ X)) ∧ Hid (w1.grownBy wr (some g))) (fun _ j _ => n - (intOf j).toNat)
  case atStart => exact ⟨i0, i0 + 1, L, by omega, by omega, rfl, by go_num, HST, HOW, Lib.hid (World.grownBy.refl _ _)⟩
  case round =>
    clear HST HOW HIN HIX
    obtain ⟨i, j, X, hj, hij, rfl, rfl, HS, HO, HG⟩ := hrel
    by_cases hlt : j < n
    · have hjl : j < L.length := by rw [← HNL.out]; exact hlt
      have hxl : j < X.length := by rw [HS.out.len]; exact hjl
      have hat := HS.out.at_ hjl
      have hcj := HO.out.cellAt j (by omega)
      rw [show (intsZ X)[j]? = some (.int .i64 L[j]) from by rw [← hat]; simp [intsZ, hxl]] at hcj
      have hbd := HL.out L[j] (List.getElem_mem hjl)
      have hcx : wr.cell? ⟨bx, 0, none⟩ = some (.string wd) := (cell_grown_h HG.out hbw hne).trans HC.out
      clear hat
      cases hk : kpB wd.size L[j]
      · have HK := Lib.hid hk
        have HS2 := Lib.hid (HS.out.no hjl hk)
        have HCL := Lib.hid (clos_keep wd bx L[j] false wr hcx hbd hw HK)
        clear hk hcx
        generalize L[j] = y at *
        go_wp2_with fail
        refine HCL.out.mono ?_
        rintro e w2 ⟨rfl, rfl⟩
        go_wp2
        go_roundw
        case rel => exact ⟨i, j + 1, X, by omega, by omega, rfl, by go_num, HS2, HO, HG⟩
        case measure => simp [intOf]; omega
      · have HK := Lib.hid hk
        have HS2 := Lib.hid (HS.out.yes hjl hk)
        have HCL := Lib.hid (clos_keep wd bx L[j] true wr hcx hbd hw HK)
        have hci := HO.out.cellAt i (by omega)
        rw [show (intsZ X)[i]? = some (.int .i64 (X[i]'(by omega))) from by simp [intsZ, show i < X.length by omega]] at hci
        have hfi := HO.out.frozenAt i
        have HO2 : Hid ((wr.setCell ⟨g, i, none⟩ (.int .i64 L[j])).ownsRow base 3 1 (.slice (some ⟨g, 0, none⟩) n d) n (intsZ (X.set i L[j]))) := Lib.hid (by
          have := (HO.out.stored i (.int .i64 L[j])).1
          rw [intsZ_set] at this; exact this)
        have HG2 := Lib.hid (grown_set HG.out i (.int .i64 L[j]))
        have hglt : g < wr.heap.size := Nat.lt_of_lt_of_le hgw HG.out.size
        clear hk hcx
        generalize X[i]'(by omega) = old at *
        generalize L[j] = y at *
        go_wp2_with fail
        refine HCL.out.mono ?_
        rintro e w2 ⟨rfl, rfl⟩
        go_wp2
        go_roundw
        case rel => exact ⟨i + 1, j + 1, _, by omega, by omega, by go_num, by go_num, HS2, HO2, HG2⟩
        case measure => simp [intOf]; omega
    · obtain rfl : j = n := by omega
      have hcs := (own_cap HO.out).2.2
      have hnc := HCW.out
      have hsl := slice_fromI g j d i hij hnc
      have hst := slice_toI g j d i (by omega) hnc
      have hcl : ∀ ty, (Builtin.clear_ #[28] ty #[.slice (some ⟨g, i, none⟩) (j - i) (d - i)]).run Tryd.prog wr = .ok (.tuple #[]) (wr.setCells g i (List.replicate (j - i) (.int .i64 0))) :=
        fun ty => Lib.run_clear_slice wr _ 3 ty (.int .i64 0) Tryd.underlying28 Tryd.zeroValue3 rfl rfl g i _ _ (by omega) (fun q hq => hcs (i + q) (by omega)) (fun q hq => HO.out.frozenAt (i + q))
      have HOF : Hid ((wr.setCells g i (List.replicate (j - i) (.int .i64 0))).ownsRow base 3 1 (.slice (some ⟨g, 0, none⟩) i d) (L.filter (kpB wd.size)).length (intsZ (L.filter (kpB wd.size)))) := Lib.hid (by
        have h1 := own_keeps (List.replicate (j - i) (.int .i64 0)) i wr (own_cut HO.out (Nat.le_of_lt hij)) (Nat.le_refl _)
        have h2 := HS.out.cnt
        have h3 := HS.out.head
        rw [HNL.out, List.take_length] at h2 h3
        have h4 : (intsZ X).take i = intsZ (L.filter (kpB wd.size)) := by
          rw [← h3]; simp [intsZ, List.map_take]
        rw [h4] at h1
        rw [← h2]; exact h1)
      have HGF := Lib.hid (grown_sets (List.replicate (j - i) (.int .i64 0)) i wr HG.out)
      clear hcs
      go_wp2
      go_ret
      exact ⟨_, rfl, HOF.out, HGF.out⟩
end Go.Proofs.YtcbhhbcfnaekpaaDoor

/-
  The contracts of impl.AddEntry and impl.WidthWithout.
-/
import Derived.Test.YteagclokobkigaaEo
import Derived.Test.YteagclokobkigaaEl
namespace Go.Proofs.Yteagclokobkigaa
open Go.RowKit
set_option linter.unusedVariables false

noncomputable def aeB (n : Int) (l : List En) (x : En) : Bool := tbB n (l ++ [x])
noncomputable def aeL (n : Int) (l : List En) (x : En) : List En := if aeB n l x then l ++ [x] else []
theorem ae_no {n : Int} {l : List En} {x : En} (h : aeB n l x = false) : aeL n l x = [] := by unfold aeL; rw [h]; rfl
theorem ae_yes {n : Int} {l : List En} {x : En} (h : aeB n l x = true) : aeL n l x = l ++ [x] := by unfold aeL; rw [h]; rfl
theorem aeL_short (n : Int) (l : List En) (x : En) : (aeL n l x).length ≤ 1048576 := by
  cases h : aeB n l x
  · rw [ae_no h]; simp
  · rw [ae_yes h]
    have := (tbB_iff.1 h).len
    omega
theorem enR_app {l : List En} {x : En} (h : EnR l) (hx : x.col ≤ 9223372036854775807) : EnR (l ++ [x]) := fun j hj => by
  rcases Nat.lt_or_ge j l.length with h1 | h1
  · rw [List.getElem_append_left h1]; exact h j h1
  · rw [List.getElem_append_right h1]
    have : j - l.length = 0 := by rw [List.length_append] at hj; simp at hj; omega
    simp only [this]
    exact hx
/-- A slice of entries of the call's own and whether it is one. -/
def EnsB (w w' : World) (e : Ending) (L : List En) (b : Bool) : Prop := ∃ v T, e = .returned (.tuple #[v, .bool b]) ∧ Below w.heap.size w w' ∧ w'.ownsRow w.heap.size T 3 v L.length (flatEn L)
set_option maxRecDepth 100000 in
set_option maxHeartbeats 2000000 in
theorem implAddEntry_any (n : Int) (f : List En) (A : Option Addr) (d : Nat) (x : En) (w : World) (hf : EnsIn w A f) (hn : f.length ≤ 1048576) (hr : EnR f) (hx : x.col ≤ 9223372036854775807) :
    Calls Try.prog 17 #[.int .i64 n, .slice A f.length d, .agg #[.int .i64 x.col, .int .i64 x.spa, .int .i64 x.wid]] w fun e w' => EnsB w w' e (aeL n f x) (aeB n f x) := by
  obtain ⟨w1, hw1⟩ : ∃ u : World, u = w.alloc (.cells #[.int .i64 x.col, .int .i64 x.spa, .int .i64 x.wid] 36) := ⟨_, rfl⟩
  have z1 : w1.heap.size = w.heap.size + 1 := by rw [hw1, World.size_alloc]
  obtain ⟨w2, hw2⟩ : ∃ u : World, u = w1.alloc (.cells #[.int .i64 x.col, .int .i64 x.spa, .int .i64 x.wid] 36) := ⟨_, rfl⟩
  have z2 : w2.heap.size = w.heap.size + 1 + 1 := by rw [hw2, World.size_alloc, z1]
  obtain ⟨w3, hw3⟩ : ∃ u : World, u = w2.alloc (.cells #[.slice A f.length d, .slice (some ⟨w.heap.size + 1, 0, none⟩) 1 1] 24) := ⟨_, rfl⟩
  have z3 : w3.heap.size = w.heap.size + 1 + 1 + 1 := by rw [hw3, World.size_alloc, z2]
  have b1 : Below w.heap.size w w1 := by rw [hw1]; exact (Below.refl _ _).alloc (Nat.le_refl _) _
  have b2 : Below w.heap.size w w2 := by rw [hw2]; exact b1.alloc (by omega) _
  have b3 : Below w.heap.size w w3 := by rw [hw3]; exact b2.alloc (by omega) _
  have hX : w2.heap[w.heap.size + 1]? = some (.cells #[.int .i64 x.col, .int .i64 x.spa, .int .i64 x.wid] 36) := by rw [hw2, ← z1]; exact heap_new _ _
  have hX3 : w3.heap[w.heap.size + 1]? = some (.cells #[.int .i64 x.col, .int .i64 x.spa, .int .i64 x.wid] 36) := by rw [hw3]; exact (Below.heap_alloc _ _ _ (by omega)).trans hX
  have hH : w3.heap[w.heap.size + 1 + 1]? = some (.cells #[.slice A f.length d, .slice (some ⟨w.heap.size + 1, 0, none⟩) 1 1] 24) := by rw [hw3, ← z2]; exact heap_new _ _
  have HHD : Hid (HdrE w3 (w.heap.size + 1 + 1) [f, [x]]) := Lib.hid ⟨by omega, fun i hi => by
    have hi2 : i < 2 := hi
    rcases (by omega : i = 0 ∨ i = 1) with rfl | rfl
    · exact ⟨A, d, by rw [cell_of_heap hH]; rfl, hf.below b3 (Nat.le_refl _)⟩
    · refine ⟨some ⟨w.heap.size + 1, 0, none⟩, 1, by rw [cell_of_heap hH]; rfl, fun _ => ⟨_, 0, rfl, by omega, fun k hk => ?_⟩⟩
      obtain rfl : k = 0 := by have : k < 1 := hk; omega
      exact ⟨by rw [cell_of_heap hX3]; rfl, by rw [cell_of_heap hX3]; rfl, by rw [cell_of_heap hX3]; rfl⟩⟩
  have HW3 : Hid (((w.alloc (.cells #[.int .i64 x.col, .int .i64 x.spa, .int .i64 x.wid] 36)).alloc (.cells #[.int .i64 x.col, .int .i64 x.spa, .int .i64 x.wid] 36)).alloc (.cells #[.slice A f.length d, .slice (some ⟨w.heap.size + 1, 0, none⟩) 1 1] 24) = w3) := Lib.hid (by rw [hw3, hw2, hw1])
  have HB3 := Lib.hid b3
  obtain ⟨L, hL⟩ : ∃ L : List En, L = f ++ [x] := ⟨_, rfl⟩
  have hfl : ([f, [x]] : List (List En)).flatten = L := by rw [hL]; simp
  have HFL := Lib.hid hfl
  have hnl : L.length ≤ 1048577 := by rw [hL, List.length_append]; show f.length + 1 ≤ _; omega
  have HRR : Hid (EnR L) := Lib.hid (by rw [hL]; exact enR_app hr hx)
  have HLE := Lib.hid hL
  clear hw1 hw2 hw3 hX hX3 hH b1 b2 b3 hf hr z1 z2 z3 hfl hL
  go_enter Try.func17, Try.ntmps17
  go_wp2_with fail
  rw [HW3.out]
  refine (concatE_any [f, [x]] (w.heap.size + 1 + 1) 2 w3 HHD.out (by show 2 ≤ 8; omega) (by rw [HFL.out]; exact hnl)).mono ?_
  rintro e w4 ⟨v, rfl, hb4, ho4⟩
  rw [HFL.out] at ho4
  obtain ⟨A4, c4, rfl⟩ := own_form_en ho4
  have HO4 := Lib.hid (own_up2 ho4 HB3.out.size); have HB4 := Lib.hid (HB3.out.trans (hb4.mono HB3.out.size))
  clear ho4 hb4
  go_wp2_with fail
  refine (implIsTable_any n L A4 c4 _ (own_in_en HO4.out) hnl HRR.out).mono ?_
  rintro e w5 ⟨rfl, hb5⟩
  have HB5 := Lib.hid (HB4.out.trans (hb5.mono HB4.out.size)); have HO5 := Lib.hid (own_below HO4.out hb5)
  have HE : Hid (tbB n L = aeB n f x) := Lib.hid (by rw [HLE.out]; rfl)
  clear hb5
  rw [HE.out]
  cases ha : aeB n f x
  · have HV := Lib.hid (ae_no ha); have HA := Lib.hid ha
    clear ha
    go_wp2
    go_ret2
    exact ⟨_, 36, ret_vb HA.out.symm, HB5.out, by rw [HV.out]; exact own_nil _ _ _ _⟩
  · have HV := Lib.hid (ae_yes ha); have HA := Lib.hid ha
    clear ha
    go_wp2
    go_ret2
    exact ⟨_, _, ret_vb HA.out.symm, HB5.out, by rw [HV.out, ← HLE.out]; exact HO5.out⟩
/-- The entries without number i. -/
def woL (l : List En) (i : Nat) : List En := l.take i ++ l.drop (i + 1)
theorem woL_mem {l : List En} {i : Nat} {x : En} (h : x ∈ woL l i) : x ∈ l := by
  rcases List.mem_append.1 h with h | h
  · exact List.mem_of_mem_take h
  · exact List.mem_of_mem_drop h
theorem woL_len {l : List En} {i : Nat} (h : i < l.length) : (woL l i).length = l.length - 1 := by
  unfold woL; rw [List.length_append, List.length_take, List.length_drop]; omega
theorem goodT_of {n : Int} {l : List En} (h1 : 1 ≤ n) (h2 : n ≤ 10) (h3 : l.length ≤ 20) (h : AllOk n l) : GoodT n l := ⟨h1, h2, h3, fun j hj _ => h _ (List.getElem_mem hj)⟩
theorem woL_good {n : Int} {l : List En} {i : Nat} (h : GoodT n l) (hi : i < l.length) : GoodT n (woL l i) := goodT_of h.n0 h.n1 (by rw [woL_len hi]; have := h.len; omega) (fun x hx => h.all x (woL_mem hx))
theorem woL_r {l : List En} {i : Nat} (h : EnR l) : EnR (woL l i) := fun j hj => by
  obtain ⟨k, hk, e⟩ := List.mem_iff_getElem.1 (woL_mem (List.getElem_mem hj))
  rw [← e]; exact h k hk
noncomputable def wwB (n : Int) (l : List En) (g i : Int) : Bool := askT n l g && inB 0 ((l.length : Int) - 1) i
noncomputable def wwV (n : Int) (l : List En) (g i : Int) : Int := if wwB n l g i then wdV (woL l i.toNat) g n else 0
theorem ww_no {n : Int} {l : List En} {g i : Int} (h : wwB n l g i = false) : wwV n l g i = 0 := by unfold wwV; rw [h]; rfl
theorem ww_yes {n : Int} {l : List En} {g : Int} {i : Nat} (h : wwB n l g (i : Int) = true) : wwV n l g (i : Int) = wdV (woL l i) g n := by unfold wwV; rw [h, Int.toNat_natCast]; rfl
/-- What the width without an entry is, from that of the list. -/
theorem ww_of {n : Int} {l : List En} {g : Int} {i : Nat} (ht : tbB n l = true) (hi : i < l.length) : twV n (woL l i) g = wwV n l g (i : Int) ∧ askT n (woL l i) g = wwB n l g (i : Int) := by
  have h1 : tbB n (woL l i) = true := tbB_iff.2 (woL_good (tbB_iff.1 ht) hi)
  have h2 : askT n (woL l i) g = wwB n l g (i : Int) := by
    unfold wwB askT; rw [ht, h1, inBs_iff.2 (show 0 ≤ (i : Int) ∧ (i : Int) ≤ (l.length : Int) - 1 by omega), Bool.and_true]
  refine ⟨?_, h2⟩
  cases hw : wwB n l g (i : Int)
  · rw [ww_no hw]; exact (ask_no (h2.trans hw)).2.2
  · rw [ww_yes hw]; unfold twV; rw [h2, hw]; rfl
set_option maxRecDepth 100000 in
set_option maxHeartbeats 4000000 in
theorem implWidthWithout_any (n : Int) (f : List En) (A : Option Addr) (d : Nat) (g i : Int) (w : World) (hf : EnsIn w A f) (hn : f.length ≤ 1048576) (hd : f.length ≤ d) (hr : EnR f) :
    Calls Try.prog 20 #[.int .i64 n, .slice A f.length d, .int .i64 g, .int .i64 i] w fun e w' => e = .returned (.tuple #[.int .i64 (wwV n f g i), .bool (wwB n f g i)]) ∧ Below w.heap.size w w' := by
  have HF := Lib.hid hf; clear hf
  have HR := Lib.hid hr
  have HE : Hid (wwB n f g i = ((tbB n f && inB 0 36 g) && inB 0 ((f.length : Int) - 1) i)) := Lib.hid rfl
  go_enter Try.func20, Try.ntmps20
  go_wp2_with fail
  refine (implIsTableS_any n f A d _ HF.out hn hr).mono ?_
  rintro e w1 ⟨rfl, hb1⟩
  have HB1 := Lib.hid hb1; clear hb1 hr
  cases ht : tbB n f
  · have HA : Hid (wwB n f g i = false) := Lib.hid (by rw [HE.out, ht]; rfl)
    have HV := Lib.hid (ww_no HA.out)
    clear ht
    go_wp2
    go_ret2
    exact ⟨ret_ib HV.out.symm HA.out.symm, HB1.out⟩
  by_cases h1 : i < 0
  · have HA : Hid (wwB n f g i = false) := Lib.hid (by rw [HE.out, inBs_no (a := 0) (c := i) (by omega), Bool.and_false])
    have HV := Lib.hid (ww_no HA.out)
    clear ht
    go_wp2
    go_ret2
    exact ⟨ret_ib HV.out.symm HA.out.symm, HB1.out⟩
  by_cases h2 : (f.length : Int) ≤ i
  · have HA : Hid (wwB n f g i = false) := Lib.hid (by rw [HE.out, inBs_no (a := 0) (c := i) (by omega), Bool.and_false])
    have HV := Lib.hid (ww_no HA.out)
    clear ht
    go_wp2
    go_ret2
    exact ⟨ret_ib HV.out.symm HA.out.symm, HB1.out⟩
  obtain ⟨i, rfl⟩ : ∃ k : Nat, i = (k : Int) := ⟨i.toNat, by omega⟩
  have hil : i < f.length := by omega
  have hil' : (i : Int) < (f.length : Int) := by omega
  obtain ⟨b, off, rfl, hbl, _⟩ := HF.out (by omega)
  have hi1 : (i : Int) + 1 = ((i + 1 : Nat) : Int) := by omega
  have hwr : IntKind.i64.wrap ((i : Int) + 1) = (i : Int) + 1 := by rw [IntWalk.i64_left]; exact IntWalk.wrap64_in _ (by omega)
  have hs1 := slice_headE b off f.length d i (by omega) hd
  obtain ⟨a2, hs2, ha2, ha3⟩ := slice_tailE b off f.length d (i + 1) (by omega) hd
  rw [← hi1] at hs2
  have HW := Lib.hid (ww_of (g := g) ht hil)
  obtain ⟨w2, hw2⟩ : ∃ u : World, u = (w1.alloc (.cells #[.slice (some ⟨b, off, none⟩) i d, .slice (some a2) (f.length - (i + 1)) (d - (i + 1))] 24)).drew := ⟨_, rfl⟩
  have b2 : Below w1.heap.size w1 w2 := by rw [hw2]; exact ((Below.refl _ _).alloc (Nat.le_refl _) _).drew
  have hH : w2.heap[w1.heap.size]? = some (.cells #[.slice (some ⟨b, off, none⟩) i d, .slice (some a2) (f.length - (i + 1)) (d - (i + 1))] 24) := by rw [hw2]; exact heap_new _ _
  have hzz : w1.heap.size < w2.heap.size := by rw [hw2]; show _ < (w1.alloc _).heap.size; rw [World.size_alloc]; omega
  have HF2 := Lib.hid ((HF.out.below HB1.out (Nat.le_refl _)).below b2 (Nat.le_refl _))
  have HHD : Hid (HdrE w2 w1.heap.size [f.take i, f.drop (i + 1)]) := Lib.hid ⟨hzz, fun j hj => by
    have hj2 : j < 2 := hj
    rcases (by omega : j = 0 ∨ j = 1) with rfl | rfl
    · exact ⟨some ⟨b, off, none⟩, d, by rw [cell_of_heap hH]; show some (Value.slice _ i d) = some (Value.slice _ (f.take i).length d); rw [List.length_take, Nat.min_eq_left (by omega)], ens_take HF2.out i⟩
    · exact ⟨some a2, d - (i + 1), by rw [cell_of_heap hH]; show some (Value.slice _ _ _) = some (Value.slice _ (f.drop (i + 1)).length _); rw [List.length_drop], ens_drop HF2.out ha3⟩⟩
  have HB2 := Lib.hid (HB1.out.trans (b2.mono HB1.out.size))
  have HW2 := Lib.hid hw2
  obtain ⟨L, hL⟩ : ∃ L : List En, L = woL f i := ⟨_, rfl⟩
  have hfl : ([f.take i, f.drop (i + 1)] : List (List En)).flatten = L := by rw [hL]; simp [woL]
  have HFL := Lib.hid hfl
  have hnl : L.length ≤ 1048576 := by rw [hL, woL_len hil]; omega
  have HRL : Hid (EnR L) := Lib.hid (by rw [hL]; exact woL_r HR.out)
  rw [← hL] at HW
  have HCC : Hid (Calls Try.prog 51 #[.slice (some ⟨w1.heap.size, 0, none⟩) 2 2] w2 fun e w' => ∃ A4 c4, e = .returned (.slice A4 L.length c4) ∧ Below w2.heap.size w2 w' ∧ EnsIn w' A4 L) := Lib.hid ((concatE_any [f.take i, f.drop (i + 1)] w1.heap.size 2 w2 HHD.out (by show 2 ≤ 8; omega) (by rw [HFL.out]; omega)).mono (by
    rintro e w' ⟨v, rfl, hb, ho⟩
    rw [HFL.out] at ho
    obtain ⟨A4, c4, rfl⟩ := own_form_en ho
    exact ⟨A4, c4, rfl, hb, own_in_en ho⟩))
  clear hw2 b2 hH hzz hL hfl ha2 ha3 ht HHD HF2 hi1
  rw [HW2.out] at HCC
  have HBC : Hid (Below w.heap.size w (w1.alloc (.cells #[.slice (some ⟨b, off, none⟩) i d, .slice (some a2) (f.length - (i + 1)) (d - (i + 1))] 24)).drew) := Lib.hid (by rw [← HW2.out]; exact HB2.out)
  go_wp2_with fail
  go_region_law (first
    | (go_simp; go_at_call 51; refine HCC.out.mono ?_; rintro e w4 ⟨A4, c4, rfl, hb4, hi4⟩; have HB4 := Lib.hid (HBC.out.trans (hb4.mono HBC.out.size)); have HI4 := Lib.hid hi4; clear hb4 hi4)
    | (go_simp; go_at_call 11; refine (implTableWidth_any n L A4 c4 g _ HI4.out hnl HRL.out).mono ?_; rintro e w5 ⟨rfl, hb5⟩; have HB5 := Lib.hid (HB4.out.trans (hb5.mono HB4.out.size)); clear hb5))
  all_goals
    go_wp2
    go_ret2
    exact ⟨ret_ib HW.out.1 HW.out.2, HB5.out⟩
end Go.Proofs.Yteagclokobkigaa

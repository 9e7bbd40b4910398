/-
  The contracts of spec.FrameOf and impl.FrameOf.
-/
import Derived.Test.YtljakcfdjcjdbaaRq
namespace Go.Proofs.Ytljakcfdjcjdbaa
open Go.RowKit
set_option linter.unusedVariables false

def frL (x y z : Int) : List Int := [x - 2 * z, x - 2 * z, y - 2 * z, y - 2 * z]
noncomputable def frB (f : List Sl) (x y z : Int) : Bool := (inB 1 400 x && (inB 1 400 y && inB 0 50 z)) && rsB f (frL x y z)
noncomputable def frN (f : List Sl) (x y z : Int) : Nat := if frB f x y z then 4 else 0
theorem frN_no {f : List Sl} {x y z : Int} (h : frB f x y z = false) : frN f x y z = 0 := by unfold frN; rw [h]; rfl
theorem frN_yes {f : List Sl} {x y z : Int} (h : frB f x y z = true) : frN f x y z = 4 := by unfold frN; rw [h]; rfl
theorem fr_small (f : List Sl) (x y z : Int) : frN f x y z ≤ 6 ∧ frN f x y z * f.length ≤ 48 := by
  cases h : frB f x y z with
  | false => rw [frN_no h]; omega
  | true =>
    rw [frN_yes h]
    unfold frB rsB at h
    simp only [Bool.and_eq_true] at h
    have h8 := (stkB_iff.1 h.2.1).eight
    exact ⟨by omega, by omega⟩
theorem inB_out {a b c : Int} (h : ¬ (a ≤ c ∧ c ≤ b)) : inB a b c = false := by cases e : inB a b c with | false => rfl | true => exact absurd (inBs_iff.1 e) h
theorem fr_in (w : World) (p q : Int) : IntsIn (w.alloc (.cells #[.int .i64 p, .int .i64 p, .int .i64 q, .int .i64 q] 3)) (some ⟨w.heap.size, 0, none⟩) [p, p, q, q] := fun _ => ⟨w.heap.size, 0, rfl, by simp, fun k hk => by
  have hk' : k < 4 := hk
  rw [cell_of_heap (heap_new _ _)]
  obtain rfl | rfl | rfl | rfl : k = 0 ∨ k = 1 ∨ k = 2 ∨ k = 3 := by omega
  all_goals rfl⟩
def FrSo (f : List Sl) (x y z : Int) (w w' : World) (e : Ending) : Prop :=
  ∃ A c, e = .returned (.tuple #[.slice A (frN f x y z) c, .bool (frB f x y z)]) ∧ Below w.heap.size w w' ∧ Gs w' w'.heap.size A (frN f x y z) (ruK 1048576 f (frL x y z))
theorem FrSo.no {f : List Sl} {x y z : Int} {w w' : World} (h : frB f x y z = false) (hb : Below w.heap.size w w') : FrSo f x y z w w' (.returned (.tuple #[.slice none 0 0, .bool false])) := by
  refine ⟨none, 0, by rw [h, frN_no h], hb, ?_⟩
  rw [frN_no h]; exact ⟨Nat.le_refl _, fun i hi => by omega⟩
def FrTo (f : List Sl) (x y z : Int) (w w' : World) (e : Ending) : Prop :=
  ∃ A c hs, e = .returned (.tuple #[.slice A (frN f x y z) c, .bool (frB f x y z)]) ∧ Below w.heap.size w w' ∧ GI w' w.heap.size A (frN f x y z) c f.length hs (ruK 1048576 f (frL x y z))
theorem FrTo.no {f : List Sl} {x y z : Int} {w w' : World} (h : frB f x y z = false) (hb : Below w.heap.size w w') : FrTo f x y z w w' (.returned (.tuple #[.slice none 0 0, .bool false])) := by
  refine ⟨none, 0, fun _ => 0, by rw [h, frN_no h], hb, ?_⟩
  rw [frN_no h]; exact GI.none _ _ _ _ _
theorem frB_len {f : List Sl} {x y z : Int} (h : ¬ LenB (frL x y z)) : frB f x y z = false := by unfold frB rsB; rw [lenB_no h]; simp
theorem fr_len {x y z : Int} (hx : 1 ≤ x ∧ x ≤ 400) (hy : 1 ≤ y ∧ y ≤ 400) (hz : 0 ≤ z ∧ z ≤ 50) (h1 : ¬ x - 2 * z < 1) (h2 : ¬ y - 2 * z < 1) : LenB (frL x y z) := ⟨by simp [frL], fun j hj => by
  have hj' : j < 4 := hj
  obtain rfl | rfl | rfl | rfl : j = 0 ∨ j = 1 ∨ j = 2 ∨ j = 3 := by omega
  all_goals (simp only [frL, List.getElem_cons_zero, List.getElem_cons_succ]; omega)⟩
theorem GI.low {w : World} {base base' N c M : Nat} {A : Option Addr} {hs : Nat → Nat} {rw : Nat → List Int} (h : GI w base A N c M hs rw) (hb : base' ≤ base) : GI w base' A N c M hs rw :=
  ⟨Joins.ownsRow_le h.outer hb, fun i hi => ⟨(h.rows i hi).1, Joins.ownsRow_le (h.rows i hi).2 hb⟩, h.out, h.inc⟩
set_option maxRecDepth 100000 in
set_option maxHeartbeats 1000000 in
theorem specFrameOf_any (f : List Sl) (A : Addr) (c : Nat) (x y z : Int) (w : World) (hf : SlsIn w (some A) f) (hn : f.length ≤ 1048576) :
    Calls Try.prog 42 #[.slice (some A) f.length c, .int .i64 x, .int .i64 y, .int .i64 z] w fun e w' => FrSo f x y z w w' e := by
  have HF := Lib.hid hf; clear hf
  go_enter Try.func42, Try.ntmps42
  go_wp2_with fail
  refine (ruGood_any f _ c _ HF.out hn).mono ?_
  rintro e w1 ⟨rfl, hb1⟩
  have HB1 := Lib.hid hb1; clear hb1
  cases hg : stkB f
  · have HV : Hid (frB f x y z = false) := Lib.hid (by unfold frB rsB; rw [hg]; simp)
    clear hg
    go_wp2
    go_ret2
    exact FrSo.no HV.out HB1.out
  have HG := Lib.hid (stkB_iff.1 hg)
  have HGB := Lib.hid hg; clear hg
  go_wp2_with fail
  refine (ruLength_any x _).mono ?_
  rintro e w' ⟨rfl, rfl⟩
  cases hx : inB 1 400 x
  · have HV : Hid (frB f x y z = false) := Lib.hid (by unfold frB; rw [hx]; rfl)
    clear hx
    go_wp2
    go_ret2
    exact FrSo.no HV.out HB1.out
  have HX := Lib.hid hx
  have hx2 := inBs_iff.1 hx
  clear hx
  go_wp2_with fail
  refine (ruLength_any y _).mono ?_
  rintro e w' ⟨rfl, rfl⟩
  cases hy : inB 1 400 y
  · have HV : Hid (frB f x y z = false) := Lib.hid (by unfold frB; rw [hy]; simp)
    clear hy
    go_wp2
    go_ret2
    exact FrSo.no HV.out HB1.out
  have HY := Lib.hid hy
  have hy2 := inBs_iff.1 hy
  clear hy
  go_wp2_with fail
  refine (l1In_any z _ _ _).mono ?_
  rintro e w' ⟨rfl, rfl⟩
  cases hz : inB 0 50 z
  · have HV : Hid (frB f x y z = false) := Lib.hid (by unfold frB; rw [hz]; simp)
    clear hz
    go_wp2
    go_ret2
    exact FrSo.no HV.out HB1.out
  have HZ := Lib.hid hz
  have hz2 := inBs_iff.1 hz
  clear hz
  by_cases h1 : x - 2 * z < 1
  · have HV : Hid (frB f x y z = false) := Lib.hid (frB_len (fun h => by have h3 := (h.2 0 (by simp [frL])).1; simp only [frL, List.getElem_cons_zero] at h3; omega))
    go_wp2
    go_ret2
    exact FrSo.no HV.out HB1.out
  by_cases h2 : y - 2 * z < 1
  · have HV : Hid (frB f x y z = false) := Lib.hid (frB_len (fun h => by have h3 := (h.2 2 (by simp [frL])).1; simp only [frL, List.getElem_cons_zero, List.getElem_cons_succ] at h3; omega))
    go_wp2
    go_ret2
    exact FrSo.no HV.out HB1.out
  have HLB := Lib.hid (fr_len hx2 hy2 hz2 h1 h2)
  have HV : Hid (frB f x y z = okB 1048576 f (frL x y z)) := Lib.hid (by unfold frB rsB; rw [HX.out, HY.out, HZ.out, HGB.out, lenB_iff.2 HLB.out]; simp)
  have hb2 : Below w1.heap.size w1 (w1.alloc (.cells #[.int .i64 (x - 2 * z), .int .i64 (x - 2 * z), .int .i64 (y - 2 * z), .int .i64 (y - 2 * z)] 3)) := (Below.refl _ _).alloc (Nat.le_refl _) _
  have HB2 := Lib.hid (HB1.out.trans (hb2.mono HB1.out.size))
  have HR : Hid (Calls Try.prog 64 #[.slice (some A) f.length c, .slice (some ⟨w1.heap.size, 0, none⟩) 4 4] (w1.alloc (.cells #[.int .i64 (x - 2 * z), .int .i64 (x - 2 * z), .int .i64 (y - 2 * z), .int .i64 (y - 2 * z)] 3)) fun e w' => RsTo 1048576 f (frL x y z) (w1.alloc (.cells #[.int .i64 (x - 2 * z), .int .i64 (x - 2 * z), .int .i64 (y - 2 * z), .int .i64 (y - 2 * z)] 3)) w' e) := Lib.hid
    (ruRules_any f A c (frL x y z) (some ⟨w1.heap.size, 0, none⟩) 4 _ (HF.out.below HB2.out (Nat.le_refl _)) HG.out (fr_in w1 (x - 2 * z) (y - 2 * z)) HLB.out)
  clear hb2
  go_wp2_with fail
  refine HR.out.mono ?_
  rintro e w2 hto
  rcases hto with ⟨ho, rfl, hb⟩ | ⟨ho, v, vs, rfl, hb, hvl, hv, ht⟩
  · have HN : Hid (frB f x y z = false) := Lib.hid (by rw [HV.out]; exact ho)
    have HB := Lib.hid (HB2.out.trans (hb.mono HB2.out.size))
    clear ho hb
    go_wp2
    go_ret2
    exact FrSo.no HN.out HB.out
  · have HN : Hid (frB f x y z = true) := Lib.hid (by rw [HV.out]; exact ho)
    have HB := Lib.hid (HB2.out.trans (hb.mono HB2.out.size))
    obtain ⟨A2, c2, rfl⟩ := own_formI hv
    have HGS : Hid (Gs w2 w2.heap.size A2 4 (ruK 1048576 f (frL x y z))) := Lib.hid ⟨Nat.le_refl _, fun i hi => by
      obtain ⟨b, t, h1, h2, h3, h4⟩ := own_at hv hi
      obtain ⟨g, c3, e1, e2, e3, e4⟩ := ht i (by rw [hvl]; exact hi)
      rw [h3] at e1
      have e5 := Option.some.inj e1
      subst e5
      exact ⟨b, g, c3, h1, h2, e4.lt, by rw [ruK_len]; exact h4, fun k hk => by
        rw [e4.cell (by rw [ruK_len] at hk; exact hk)]
        show some (Value.int .i64 ((ruK 1048576 f (frL x y z) i).getD k 0)) = _
        rw [getI hk]⟩⟩
    clear ho hb hvl hv ht
    go_wp2
    go_ret2
    refine ⟨A2, c2, ?_, HB.out, ?_⟩
    · rw [frN_yes HN.out]; exact ret_vb HN.out.symm
    · rw [frN_yes HN.out]; exact HGS.out
set_option maxRecDepth 100000 in
set_option maxHeartbeats 1000000 in
theorem implFrameOf_any (f : List Sl) (A : Addr) (c : Nat) (x y z : Int) (w : World) (hf : SlsIn w (some A) f) (hn : f.length ≤ 1048576) :
    Calls Try.prog 43 #[.slice (some A) f.length c, .int .i64 x, .int .i64 y, .int .i64 z] w fun e w' => FrTo f x y z w w' e := by
  have HF := Lib.hid hf; clear hf
  go_enter Try.func43, Try.ntmps43
  go_wp2_with fail
  refine (isRuleLength_any x _).mono ?_
  rintro e w' ⟨rfl, rfl⟩
  cases hx : inB 1 400 x
  · have HV : Hid (frB f x y z = false) := Lib.hid (by unfold frB; rw [hx]; rfl)
    clear hx
    go_wp2
    go_ret2
    exact FrTo.no HV.out (Below.refl _ _)
  have HX := Lib.hid hx
  have hx2 := inBs_iff.1 hx
  clear hx
  go_wp2_with fail
  refine (isRuleLength_any y _).mono ?_
  rintro e w' ⟨rfl, rfl⟩
  cases hy : inB 1 400 y
  · have HV : Hid (frB f x y z = false) := Lib.hid (by unfold frB; rw [hy]; simp)
    clear hy
    go_wp2
    go_ret2
    exact FrTo.no HV.out (Below.refl _ _)
  have HY := Lib.hid hy
  have hy2 := inBs_iff.1 hy
  clear hy
  by_cases hz0 : z < 0
  · have HV : Hid (frB f x y z = false) := Lib.hid (by unfold frB; rw [inB_out (show ¬ (0 ≤ z ∧ z ≤ 50) by omega)]; simp)
    go_wp2
    go_ret2
    exact FrTo.no HV.out (Below.refl _ _)
  by_cases hz5 : 50 < z
  · have HV : Hid (frB f x y z = false) := Lib.hid (by unfold frB; rw [inB_out (show ¬ (0 ≤ z ∧ z ≤ 50) by omega)]; simp)
    go_wp2
    go_ret2
    exact FrTo.no HV.out (Below.refl _ _)
  have HZ := Lib.hid (inBs_iff.2 (show 0 ≤ z ∧ z ≤ 50 by omega))
  have HV : Hid (frB f x y z = rsB f (frL x y z)) := Lib.hid (by unfold frB; rw [HX.out, HY.out, HZ.out]; simp)
  have hb2 : Below w.heap.size w (w.alloc (.cells #[.int .i64 (x - 2 * z), .int .i64 (x - 2 * z), .int .i64 (y - 2 * z), .int .i64 (y - 2 * z)] 3)) := (Below.refl _ _).alloc (Nat.le_refl _) _
  have HB2 := Lib.hid hb2
  have HR : Hid (Calls Try.prog 38 #[.slice (some A) f.length c, .slice (some ⟨w.heap.size, 0, none⟩) 4 4] (w.alloc (.cells #[.int .i64 (x - 2 * z), .int .i64 (x - 2 * z), .int .i64 (y - 2 * z), .int .i64 (y - 2 * z)] 3)) fun e w' => RiTo f (frL x y z) (w.alloc (.cells #[.int .i64 (x - 2 * z), .int .i64 (x - 2 * z), .int .i64 (y - 2 * z), .int .i64 (y - 2 * z)] 3)) w' e) := Lib.hid
    (implRulesOf_any f A c (frL x y z) (some ⟨w.heap.size, 0, none⟩) 4 _ (HF.out.below HB2.out (Nat.le_refl _)) hn (fr_in w (x - 2 * z) (y - 2 * z)) (by simp [frL]))
  clear hb2
  go_wp2_with fail
  refine HR.out.mono ?_
  rintro e w2 ⟨A2, c2, hs2, rfl, hb, hgi⟩
  have HB := Lib.hid (HB2.out.trans (hb.mono HB2.out.size))
  have HE : Hid (rsN f (frL x y z) = frN f x y z) := Lib.hid (by
    cases h : rsB f (frL x y z) with
    | true => rw [rsN_yes h, frN_yes (by rw [HV.out]; exact h)]; rfl
    | false => rw [rsN_no h, frN_no (by rw [HV.out]; exact h)])
  have hgi2 := hgi.low HB2.out.size
  rw [HE.out] at hgi2 ⊢
  rw [← HV.out]
  have HGI := Lib.hid hgi2
  clear hb hgi hgi2
  go_wp2
  go_ret2
  exact ⟨A2, c2, hs2, rfl, HB.out, HGI.out⟩
end Go.Proofs.Ytljakcfdjcjdbaa

/-
  Melts by value: the contracts of spec.meParts, meGood, IsMelt, meGrams, GramsOf and impl.gramsByMetal, IsMelt, sum, GramsOf, gramsOfMetal, melt: each answers what the plain words here say and changes nothing that was there.
-/
import Derived.Test.YtebbgdihifihnaaDoorMe
import Derived.Test.YtebbgdihifihnaaDoorIn
namespace Go.Proofs.YtebbgdihifihnaaDoor
open Go.RowKit
set_option linter.unusedVariables false

theorem heap_alloc3_new (w : World) (a b c : Obj) : (((w.alloc a).alloc b).alloc c).heap[w.heap.size + 2]? = some c := by
  have h := heap_new ((w.alloc a).alloc b) c
  have e : ((w.alloc a).alloc b).heap.size = w.heap.size + 2 := by simp
  rw [e] at h; exact h

def goodM (m : Me) : Bool := allB 0 1000000 m.zs
def grM (m : Me) : Int := m.lea + m.tin + m.ant
theorem zsM_len (m : Me) : m.zs.length = 3 := rfl
theorem goodM_bounds {m : Me} (h : goodM m = true) : (0 ≤ m.lea ∧ m.lea ≤ 1000000) ∧ (0 ≤ m.tin ∧ m.tin ≤ 1000000) ∧ (0 ≤ m.ant ∧ m.ant ≤ 1000000) := by
  simpa [goodM, allB, inB, Me.zs] using h
/-- Each part is far from the ints' bounds. -/
def Small (m : Me) : Prop := (-1000000000 ≤ m.lea ∧ m.lea ≤ 1000000000) ∧ (-1000000000 ≤ m.tin ∧ m.tin ≤ 1000000000) ∧ (-1000000000 ≤ m.ant ∧ m.ant ≤ 1000000000)
theorem small_of {m : Me} (h : goodM m = true) : Small m := by
  obtain ⟨h1, h2, h3⟩ := goodM_bounds h
  unfold Small; omega
theorem ret_mib {a a' : Int} {b b' : Bool} (h1 : a = a') (h2 : b = b') : Ending.returned (.tuple #[.int .i64 a, .bool b]) = .returned (.tuple #[.int .i64 a', .bool b']) := by rw [h1, h2]

theorem meParts_any (s : Me) (w : World) :
    Calls Tryd.prog 77 #[.agg #[.int .i64 s.lea, .int .i64 s.tin, .int .i64 s.ant]] w fun e w' => ∃ b, e = .returned (.slice (some ⟨b, 0, none⟩) 3 3) ∧ Below w.heap.size w w' ∧ w.heap.size ≤ b ∧ Own w' b 3 (intsZ s.zs) := by
  go_enter Tryd.func77, Tryd.ntmps77
  go_wp2
  go_ret
  exact ⟨_, rfl, ((Below.refl _ _).alloc (Nat.le_refl _) _).alloc (by simp) _, Nat.le_succ _, heap_alloc2_new _ _ _⟩

theorem meGood_any (s : Me) (w : World) :
    Calls Tryd.prog 45 #[.agg #[.int .i64 s.lea, .int .i64 s.tin, .int .i64 s.ant]] w fun e w' => e = .returned (.bool (goodM s)) ∧ Below w.heap.size w w' := by
  go_enter Tryd.func45, Tryd.ntmps45
  go_wp2_with fail
  refine (meParts_any s _).mono ?_
  rintro e w1 ⟨b, rfl, hb, _, ho⟩
  have H := Lib.hid ho.ints
  have hb' : Below w.heap.size w w1 := ((Below.refl _ _).alloc (Nat.le_refl _) _).trans (hb.mono (by simp))
  clear hb ho
  go_wp2_with fail
  refine (l1All_any s.zs _ 3 0 1000000 _ H.out (by rw [zsM_len]; decide)).mono ?_
  rintro e w2 ⟨rfl, rfl⟩
  go_wp2
  go_ret
  exact ⟨rfl, hb'⟩

theorem gramsBy_any (s : Me) (w : World) :
    Calls Tryd.prog 49 #[.agg #[.int .i64 s.lea, .int .i64 s.tin, .int .i64 s.ant]] w fun e w' => e = .returned (.agg #[.int .i64 s.lea, .int .i64 s.tin, .int .i64 s.ant]) ∧ Below w.heap.size w w' := by
  go_enter Tryd.func49, Tryd.ntmps49
  go_wp2
  refine bodyPost_ret (v := .agg #[.int .i64 s.lea, .int .i64 s.tin, .int .i64 s.ant]) (by simp [results, Tryd.results49, go_sem]) rfl ⟨rfl, ?_⟩
  repeat (first | (with_reducible exact Below.refl _ _) | (refine Below.setCell ?_ (by first | (simp; done) | (simp; omega)) _) | (refine Below.alloc ?_ (by first | (simp; done) | (simp; omega)) _))

theorem melt_any (s : Me) (w : World) :
    Calls Tryd.prog 50 #[.agg #[.int .i64 s.lea, .int .i64 s.tin, .int .i64 s.ant]] w fun e w' => e = .returned (.agg #[.int .i64 s.lea, .int .i64 s.tin, .int .i64 s.ant]) ∧ Below w.heap.size w w' := by
  go_enter Tryd.func50, Tryd.ntmps50
  go_wp2
  refine bodyPost_ret (v := .agg #[.int .i64 s.lea, .int .i64 s.tin, .int .i64 s.ant]) (by simp [results, Tryd.results50, go_sem]) rfl ⟨rfl, ?_⟩
  repeat (first | (with_reducible exact Below.refl _ _) | (refine Below.setCell ?_ (by first | (simp; done) | (simp; omega)) _) | (refine Below.alloc ?_ (by first | (simp; done) | (simp; omega)) _))

theorem run_index3 (s : Me) (k : Nat) (h : k < s.zs.length) (w : World) : (Instr.index 66 (.agg #[.int .i64 s.lea, .int .i64 s.tin, .int .i64 s.ant]) (.int .i64 (k : Int))).run Tryd.prog w = .ok (.int .i64 s.zs[k]) w := by
  have hc : k = 0 ∨ k = 1 ∨ k = 2 := by rw [zsM_len] at h; omega
  rcases hc with rfl | rfl | rfl <;> simp [Instr.index, asIntOf, run_underlying (P := Tryd.prog) Tryd.underlying66, part, Sem.run_bind, Me.zs]

theorem implIsMelt_any (s : Me) (w : World) :
    Calls Tryd.prog 57 #[.agg #[.int .i64 s.lea, .int .i64 s.tin, .int .i64 s.ant]] w fun e w' => e = .returned (.bool (goodM s)) ∧ Below w.heap.size w w' := by
  go_enter Tryd.func57, Tryd.ntmps57
  go_wp2_with fail
  refine (gramsBy_any s _).mono ?_
  rintro e w1 ⟨rfl, hb⟩
  have HB := Lib.hid (((Below.refl w.heap.size w).alloc (Nat.le_refl _) (.cells #[.int .i64 s.lea, .int .i64 s.tin, .int .i64 s.ant] 32)).trans (hb.mono (by simp)))
  clear hb
  go_wp2
  go_loop [7] (fun i => ∃ (k : Nat), k ≤ 3 ∧ i = .int .i64 k ∧ allB 0 1000000 (s.zs.take k) = true) (fun i => 3 - (intOf i).toNat)
  case atStart => exact ⟨0, Nat.zero_le _, rfl, rfl⟩
  case round =>
    obtain ⟨k, hk, rfl, hs⟩ := hrel
    have HS := Lib.hid hs; clear hs
    by_cases hlt : k < 3
    · have hix := run_index3 s k hlt
      have hst : allB 0 1000000 (s.zs.take (k + 1)) = inB 0 1000000 s.zs[k] := by rw [List.take_succ_eq_append_getElem hlt, allB_snoc, HS.out]; rfl
      have hno := allB_no (lo := 0) (hi := 1000000) (l := s.zs) hlt
      have HST := Lib.hid hst; have HNO := Lib.hid hno
      clear hst hno
      rcases (by omega : (0 ≤ s.zs[k] ∧ s.zs[k] ≤ 1000000) ∨ s.zs[k] < 0 ∨ (0 ≤ s.zs[k] ∧ 1000000 < s.zs[k])) with ⟨h1, h2⟩ | h1 | ⟨h1, h2⟩
      · have HY : Hid (inB 0 1000000 s.zs[k] = true) := by show _ = _; simp [inB, h1, h2]
        generalize s.zs[k] = z at *
        go_wp2
        go_round
        case rel => exact ⟨k + 1, by omega, by go_num, by rw [HST.out, HY.out]⟩
        case measure => simp [intOf]; omega
      · have HY : Hid (goodM s = false) := by show _ = _; exact HNO.out (by simp [inB]; omega)
        generalize s.zs[k] = z at *
        go_wp2
        go_ret
        exact ⟨ret_bool HY.out.symm, HB.out⟩
      · have HY : Hid (goodM s = false) := by show _ = _; exact HNO.out (by simp [inB]; omega)
        generalize s.zs[k] = z at *
        go_wp2
        go_ret
        exact ⟨ret_bool HY.out.symm, HB.out⟩
    · obtain rfl : k = 3 := by omega
      go_wp2
      go_ret
      exact ⟨ret_bool (by have e := HS.out; rw [List.take_of_length_le (by rw [zsM_len]; exact Nat.le_refl _)] at e; exact e.symm), HB.out⟩

def sumI (l : List Int) (k : Nat) : Int := (l.take k).sum
theorem sumI_succ (l : List Int) {k : Nat} (h : k < l.length) : sumI l (k + 1) = sumI l k + l[k] := by
  unfold sumI; rw [List.take_succ_eq_append_getElem h, List.sum_append]; simp only [List.sum_cons, List.sum_nil, Int.add_zero]
theorem small_at {m : Me} (h : Small m) {k : Nat} (hk : k < m.zs.length) : -1000000000 ≤ m.zs[k] ∧ m.zs[k] ≤ 1000000000 := by
  have hc : k = 0 ∨ k = 1 ∨ k = 2 := by rw [zsM_len] at hk; omega
  rcases hc with rfl | rfl | rfl
  · exact h.1
  · exact h.2.1
  · exact h.2.2

theorem sum_any (s : Me) (w : World) (hs : Small s) :
    Calls Tryd.prog 75 #[.agg #[.int .i64 s.lea, .int .i64 s.tin, .int .i64 s.ant]] w fun e w' => e = .returned (.int .i64 (grM s)) ∧ Below w.heap.size w w' := by
  have HS := Lib.hid hs; clear hs
  go_enter Tryd.func75, Tryd.ntmps75
  go_wp2
  obtain ⟨w0, hw0⟩ : ∃ x : World, x = w.alloc (.cells #[.int .i64 s.lea, .int .i64 s.tin, .int .i64 s.ant] 66) := ⟨_, rfl⟩
  have HB : Hid (Below w.heap.size w w0) := by show Below _ _ _; rw [hw0]; exact (Below.refl _ _).alloc (Nat.le_refl _) _
  have HW := Lib.hid hw0; clear hw0
  first | rw [← HW.out] | skip
  go_loop [3, 7] (fun q i => ∃ (k : Nat) (r : Int), k ≤ 3 ∧ i = .int .i64 k ∧ q = .int .i64 r ∧ r = sumI s.zs k ∧ (-1000000000 * (k : Int) ≤ r ∧ r ≤ 1000000000 * (k : Int))) (fun _ i => 3 - (intOf i).toNat)
  case atStart => exact ⟨0, 0, Nat.zero_le _, rfl, rfl, rfl, by simp, by simp⟩
  case round =>
    obtain ⟨k, r, hk, rfl, rfl, hr, hr1, hr2⟩ := hrel
    have HR := Lib.hid hr; clear hr
    by_cases hlt : k < 3
    · have hix := run_index3 s k hlt
      have hzs := small_at HS.out (k := k) hlt
      have HSS := Lib.hid (sumI_succ s.zs (k := k) hlt)
      generalize s.zs[k] = x at *
      go_wp2
      go_round
      case rel => exact ⟨k + 1, r + x, by omega, by go_num, rfl, by rw [HSS.out, HR.out], by omega, by omega⟩
      case measure => simp [intOf]; omega
    · obtain rfl : k = 3 := by omega
      go_wp2
      go_ret
      exact ⟨ret_int (by rw [HR.out]; simp [sumI, Me.zs, grM]; omega), HB.out⟩

theorem meGrams_any (s : Me) (w : World) (hs : Small s) :
    Calls Tryd.prog 47 #[.agg #[.int .i64 s.lea, .int .i64 s.tin, .int .i64 s.ant]] w fun e w' => e = .returned (.int .i64 (grM s)) ∧ Below w.heap.size w w' := by
  obtain ⟨h1, h2, h3⟩ := hs
  go_enter Tryd.func47, Tryd.ntmps47
  go_wp2
  go_ret
  exact ⟨rfl, (Below.refl _ _).alloc (Nat.le_refl _) _⟩

def gramsV (m : Me) : Int := if goodM m then grM m else 0
theorem gramsV_no {m : Me} (h : goodM m = false) : gramsV m = 0 := by unfold gramsV; rw [h]; rfl
theorem gramsV_yes {m : Me} (h : goodM m = true) : gramsV m = grM m := by unfold gramsV; rw [h]; rfl
theorem implGrams_any (s : Me) (w : World) :
    Calls Tryd.prog 48 #[.agg #[.int .i64 s.lea, .int .i64 s.tin, .int .i64 s.ant]] w fun e w' => e = .returned (.tuple #[.int .i64 (gramsV s), .bool (goodM s)]) ∧ Below w.heap.size w w' := by
  have HX := Lib.hid (MeAt.new w 32 s)
  have HA : Hid (Below w.heap.size w (w.alloc (.cells #[.int .i64 s.lea, .int .i64 s.tin, .int .i64 s.ant] 32))) := Lib.hid ((Below.refl _ _).alloc (Nat.le_refl _) _)
  go_enter Tryd.func48, Tryd.ntmps48
  go_wp2_with fail
  refine (implIsMelt_any s _).mono ?_
  rintro e w1 ⟨rfl, hb⟩
  have hb1 : Below w.heap.size w w1 := HA.out.trans (hb.mono HA.out.size)
  have hx := HX.out.next hb
  obtain ⟨h0, h1, h2⟩ := hx.cells
  have hbl := hx.lt
  have HB1 := Lib.hid hb1
  clear hb hx hb1
  cases hg : goodM s
  · have HV := Lib.hid (gramsV_no hg)
    have HG := Lib.hid hg; clear hg
    go_wp2
    go_ret2
    exact ⟨ret_mib HV.out.symm HG.out.symm, HB1.out⟩
  · have HV := Lib.hid (gramsV_yes hg)
    have HSM := Lib.hid (small_of hg)
    have HG := Lib.hid hg; clear hg
    go_wp2_with fail
    refine (gramsBy_any s _).mono ?_
    rintro e w2 ⟨rfl, hb2⟩
    have HB2 := Lib.hid (HB1.out.trans (hb2.mono HB1.out.size))
    clear hb2
    go_wp2_with fail
    refine (sum_any s _ HSM.out).mono ?_
    rintro e w3 ⟨rfl, hb3⟩
    have HB3 := Lib.hid (HB2.out.trans (hb3.mono HB2.out.size))
    clear hb3
    go_wp2
    go_ret2
    exact ⟨ret_mib HV.out.symm HG.out.symm, HB3.out⟩

/-- It is a melt that has metal. -/
def hasM (m : Me) : Bool := goodM m && decide (0 < grM m)
theorem hasM_no {m : Me} (h : goodM m = false) : hasM m = false := by unfold hasM; rw [h]; rfl
theorem hasM_zero {m : Me} (h : ¬ 0 < grM m) : hasM m = false := by unfold hasM; simp [h]
theorem hasM_yes {m : Me} (h : goodM m = true) (hp : 0 < grM m) : hasM m = true := by unfold hasM; simp [h, hp]
theorem hasM_parts {m : Me} (h : hasM m = true) : goodM m = true ∧ 0 < grM m := by simpa [hasM] using h
theorem gramsOfMetal_any (s : Me) (w : World) :
    Calls Tryd.prog 43 #[.agg #[.int .i64 s.lea, .int .i64 s.tin, .int .i64 s.ant]] w fun e w' => e = .returned (.tuple #[.int .i64 (gramsV s), .bool (hasM s)]) ∧ Below w.heap.size w w' := by
  have HX := Lib.hid (MeAt.new w 32 s)
  have HA : Hid (Below w.heap.size w (w.alloc (.cells #[.int .i64 s.lea, .int .i64 s.tin, .int .i64 s.ant] 32))) := Lib.hid ((Below.refl _ _).alloc (Nat.le_refl _) _)
  go_enter Tryd.func43, Tryd.ntmps43
  go_wp2_with fail
  refine (implGrams_any s _).mono ?_
  rintro e w1 ⟨rfl, hb⟩
  have hb1 : Below w.heap.size w w1 := HA.out.trans (hb.mono HA.out.size)
  have hx := HX.out.next hb
  obtain ⟨h0, h1, h2⟩ := hx.cells
  have hbl := hx.lt
  have HB1 := Lib.hid hb1
  clear hb hx hb1
  cases hg : goodM s
  · have HV := Lib.hid (hasM_no hg)
    have HG := Lib.hid (gramsV_no hg); clear hg
    rw [HG.out]
    go_wp2
    go_ret2
    exact ⟨ret_mib HG.out.symm HV.out.symm, HB1.out⟩
  · have HV := Lib.hid (gramsV_yes hg)
    rw [HV.out]
    by_cases hp : 0 < grM s
    · have HM := Lib.hid (hasM_yes hg hp)
      clear hg
      go_wp2
      go_ret2
      exact ⟨ret_mib HV.out.symm (by first | exact HM.out.symm | (rw [HM.out]; simp [hp])), HB1.out⟩
    · have HM := Lib.hid (hasM_zero hp)
      clear hg
      go_wp2
      go_ret2
      exact ⟨ret_mib HV.out.symm (by first | exact HM.out.symm | (rw [HM.out]; simp [hp])), HB1.out⟩
end Go.Proofs.YtebbgdihifihnaaDoor

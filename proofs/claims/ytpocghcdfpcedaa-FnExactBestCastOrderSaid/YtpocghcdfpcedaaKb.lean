/-
  Castings and machines by value: the contracts of spec.csCasting, csMachine, csTime, csGood, IsMachine, AreCastings, CastTime, csMinutes and impl.isCastBody, isCasting, IsMachine, AreCastings, divideUp, castMinutes, castNext, CastTime, areCastMinutes: each answers what the plain words here say and changes nothing that was there.
-/
import Derived.Test.YtpocghcdfpcedaaKc
import Derived.Test.YtpocghcdfpcedaaKm
import Derived.Test.YtpocghcdfpcedaaIn
import Derived.Test.YtpocghcdfpcedaaTail
import Derived.IntWalk
namespace Go.Proofs.Ytpocghcdfpcedaa
open Go.RowKit
set_option linter.unusedVariables false

theorem heap_alloc3_new (w : World) (a b c : Obj) : (((w.alloc a).alloc b).alloc c).heap[w.heap.size + 2]? = some c := by
  have h := heap_new ((w.alloc a).alloc b) c
  have e : ((w.alloc a).alloc b).heap.size = w.heap.size + 2 := by simp
  rw [e] at h; exact h
def goodCa (x : Ca) : Bool := inB 1 72 x.bod && inB 1 100000 x.cnt
def goodMc (m : Mc) : Bool := inB 1 72 m.bod && inB 1 10000 m.hou && inB 0 600 m.cha
theorem goodCa_bounds {x : Ca} (h : goodCa x = true) : (1 ≤ x.bod ∧ x.bod ≤ 72) ∧ (1 ≤ x.cnt ∧ x.cnt ≤ 100000) := by simpa [goodCa, inB] using h
theorem goodMc_bounds {m : Mc} (h : goodMc m = true) : (1 ≤ m.bod ∧ m.bod ≤ 72) ∧ (1 ≤ m.hou ∧ m.hou ≤ 10000) ∧ (0 ≤ m.cha ∧ m.cha ≤ 600) := by
  simp [goodMc, inB] at h; omega
theorem ret_ib {a a' : Int} {b b' : Bool} (h1 : a = a') (h2 : b = b') : Ending.returned (.tuple #[.int .i64 a, .bool b]) = .returned (.tuple #[.int .i64 a', .bool b']) := by rw [h1, h2]

theorem csCasting_any (s : Ca) (w : World) :
    Calls Try.prog 51 #[.agg #[.int .i64 s.bod, .int .i64 s.cnt]] w fun e w' => e = .returned (.bool (goodCa s)) ∧ Below w.heap.size w w' := by
  have HB : Hid (Below w.heap.size w (w.alloc (.cells #[.int .i64 s.bod, .int .i64 s.cnt] 39))) := Lib.hid ((Below.refl _ _).alloc (Nat.le_refl _) _)
  go_enter Try.func51, Try.ntmps51
  go_wp2_with fail
  refine (l1In_any _ _ _ _).mono ?_
  rintro e w' ⟨rfl, rfl⟩
  cases h : inB 1 72 s.bod
  · have H := Lib.hid h; clear h
    go_wp2
    go_ret
    exact ⟨ret_bool (by unfold goodCa; rw [H.out]; rfl), HB.out⟩
  · have H := Lib.hid h; clear h
    go_wp2_with fail
    refine (l1In_any _ _ _ _).mono ?_
    rintro e w' ⟨rfl, rfl⟩
    go_wp2
    go_ret
    exact ⟨ret_bool (by unfold goodCa; rw [H.out]; rfl), HB.out⟩
theorem csMachine_any (s : Mc) (w : World) :
    Calls Try.prog 49 #[.agg #[.int .i64 s.bod, .int .i64 s.hou, .int .i64 s.cha]] w fun e w' => e = .returned (.bool (goodMc s)) ∧ Below w.heap.size w w' := by
  have HB : Hid (Below w.heap.size w (w.alloc (.cells #[.int .i64 s.bod, .int .i64 s.hou, .int .i64 s.cha] 32))) := Lib.hid ((Below.refl _ _).alloc (Nat.le_refl _) _)
  go_enter Try.func49, Try.ntmps49
  go_wp2_with fail
  refine (l1In_any _ _ _ _).mono ?_
  rintro e w' ⟨rfl, rfl⟩
  cases h : inB 1 72 s.bod
  · have H := Lib.hid h; clear h
    go_wp2
    go_ret
    exact ⟨ret_bool (by unfold goodMc; rw [H.out]; rfl), HB.out⟩
  · have H := Lib.hid h; clear h
    go_wp2_with fail
    refine (l1In_any _ _ _ _).mono ?_
    rintro e w' ⟨rfl, rfl⟩
    cases h2 : inB 1 10000 s.hou
    · have H2 := Lib.hid h2; clear h2
      go_wp2
      go_ret
      exact ⟨ret_bool (by unfold goodMc; rw [H.out, H2.out]; rfl), HB.out⟩
    · have H2 := Lib.hid h2; clear h2
      go_wp2_with fail
      refine (l1In_any _ _ _ _).mono ?_
      rintro e w' ⟨rfl, rfl⟩
      go_wp2
      go_ret
      exact ⟨ret_bool (by unfold goodMc; rw [H.out, H2.out]; rfl), HB.out⟩
theorem specIsMachine_any (s : Mc) (w : World) :
    Calls Try.prog 19 #[.agg #[.int .i64 s.bod, .int .i64 s.hou, .int .i64 s.cha]] w fun e w' => e = .returned (.bool (goodMc s)) ∧ Below w.heap.size w w' := by
  go_enter Try.func19, Try.ntmps19
  go_wp2_with fail
  refine (csMachine_any s _).mono ?_
  rintro e w1 ⟨rfl, hb⟩
  have HB := Lib.hid (((Below.refl w.heap.size w).alloc (Nat.le_refl _) (.cells #[.int .i64 s.bod, .int .i64 s.hou, .int .i64 s.cha] 32)).trans (hb.mono (by simp)))
  clear hb
  go_wp2
  go_ret
  exact ⟨rfl, HB.out⟩
theorem isCastBody_any (a : Int) (w : World) :
    Calls Try.prog 50 #[.int .i64 a] w fun e w' => e = .returned (.bool (inB 1 72 a)) ∧ w = w' := by
  rcases (by omega : (1 ≤ a ∧ a ≤ 72) ∨ a < 1 ∨ (1 ≤ a ∧ 72 < a)) with ⟨h1, h2⟩ | h1 | ⟨h1, h2⟩
  · have H : Hid (inB 1 72 a = true) := Lib.hid (by simp [inB]; omega)
    go_enter Try.func50, Try.ntmps50
    go_wp2
    go_ret
    exact ⟨ret_bool (by first | exact H.out.symm | (rw [H.out]; simp <;> omega)), rfl⟩
  · have H : Hid (inB 1 72 a = false) := Lib.hid (by simp [inB]; omega)
    go_enter Try.func50, Try.ntmps50
    go_wp2
    go_ret
    exact ⟨ret_bool (by first | exact H.out.symm | (rw [H.out]; simp <;> omega)), rfl⟩
  · have H : Hid (inB 1 72 a = false) := Lib.hid (by simp [inB]; omega)
    go_enter Try.func50, Try.ntmps50
    go_wp2
    go_ret
    exact ⟨ret_bool (by first | exact H.out.symm | (rw [H.out]; simp <;> omega)), rfl⟩
theorem areCastMinutes_any (a : Int) (w : World) :
    Calls Try.prog 63 #[.int .i64 a] w fun e w' => e = .returned (.bool (inB 0 100000 a)) ∧ w = w' := by
  rcases (by omega : (0 ≤ a ∧ a ≤ 100000) ∨ a < 0 ∨ (0 ≤ a ∧ 100000 < a)) with ⟨h1, h2⟩ | h1 | ⟨h1, h2⟩
  · have H : Hid (inB 0 100000 a = true) := Lib.hid (by simp [inB]; omega)
    go_enter Try.func63, Try.ntmps63
    go_wp2
    go_ret
    exact ⟨ret_bool (by first | exact H.out.symm | (rw [H.out]; simp <;> omega)), rfl⟩
  · have H : Hid (inB 0 100000 a = false) := Lib.hid (by simp [inB]; omega)
    go_enter Try.func63, Try.ntmps63
    go_wp2
    go_ret
    exact ⟨ret_bool (by first | exact H.out.symm | (rw [H.out]; simp <;> omega)), rfl⟩
  · have H : Hid (inB 0 100000 a = false) := Lib.hid (by simp [inB]; omega)
    go_enter Try.func63, Try.ntmps63
    go_wp2
    go_ret
    exact ⟨ret_bool (by first | exact H.out.symm | (rw [H.out]; simp <;> omega)), rfl⟩
theorem csMinutes_any (a : Int) (w : World) :
    Calls Try.prog 62 #[.int .i64 a] w fun e w' => e = .returned (.bool (inB 0 100000 a)) ∧ w = w' := by
  go_enter Try.func62, Try.ntmps62
  go_wp2_with fail
  refine (l1In_any _ _ _ _).mono ?_
  rintro e w' ⟨rfl, rfl⟩
  go_wp2
  go_ret
  exact ⟨rfl, rfl⟩
theorem isCasting_any (s : Ca) (w : World) :
    Calls Try.prog 47 #[.agg #[.int .i64 s.bod, .int .i64 s.cnt]] w fun e w' => e = .returned (.bool (goodCa s)) ∧ Below w.heap.size w w' := by
  have HB : Hid (Below w.heap.size w (w.alloc (.cells #[.int .i64 s.bod, .int .i64 s.cnt] 39))) := Lib.hid ((Below.refl _ _).alloc (Nat.le_refl _) _)
  rcases (by omega : (1 ≤ s.cnt ∧ s.cnt ≤ 100000) ∨ s.cnt < 1 ∨ (1 ≤ s.cnt ∧ 100000 < s.cnt)) with ⟨h1, h2⟩ | h1 | ⟨h1, h2⟩
  · have H : Hid (goodCa s = inB 1 72 s.bod) := Lib.hid (by unfold goodCa; rw [show inB 1 100000 s.cnt = true from by simp [inB]; omega]; simp)
    go_enter Try.func47, Try.ntmps47
    go_wp2_with fail
    refine (isCastBody_any _ _).mono ?_
    rintro e w' ⟨rfl, rfl⟩
    cases h : inB 1 72 s.bod
    · have HH := Lib.hid h; clear h
      go_wp2
      go_ret
      exact ⟨ret_bool (by rw [H.out, HH.out]), HB.out⟩
    · have HH := Lib.hid h; clear h
      go_wp2
      go_ret
      exact ⟨ret_bool (by rw [H.out, HH.out]), HB.out⟩
  · have H : Hid (goodCa s = false) := Lib.hid (by unfold goodCa; rw [show inB 1 100000 s.cnt = false from by simp [inB]; omega]; simp)
    go_enter Try.func47, Try.ntmps47
    go_wp2_with fail
    refine (isCastBody_any _ _).mono ?_
    rintro e w' ⟨rfl, rfl⟩
    cases h : inB 1 72 s.bod
    · clear h
      go_wp2
      go_ret
      exact ⟨ret_bool (by first | exact H.out.symm | (rw [H.out]; simp <;> omega)), HB.out⟩
    · clear h
      go_wp2
      go_ret
      exact ⟨ret_bool (by first | exact H.out.symm | (rw [H.out]; simp <;> omega)), HB.out⟩
  · have H : Hid (goodCa s = false) := Lib.hid (by unfold goodCa; rw [show inB 1 100000 s.cnt = false from by simp [inB]; omega]; simp)
    go_enter Try.func47, Try.ntmps47
    go_wp2_with fail
    refine (isCastBody_any _ _).mono ?_
    rintro e w' ⟨rfl, rfl⟩
    cases h : inB 1 72 s.bod
    · clear h
      go_wp2
      go_ret
      exact ⟨ret_bool (by first | exact H.out.symm | (rw [H.out]; simp <;> omega)), HB.out⟩
    · clear h
      go_wp2
      go_ret
      exact ⟨ret_bool (by first | exact H.out.symm | (rw [H.out]; simp <;> omega)), HB.out⟩
set_option maxHeartbeats 1000000 in
theorem implIsMachine_any (s : Mc) (w : World) :
    Calls Try.prog 21 #[.agg #[.int .i64 s.bod, .int .i64 s.hou, .int .i64 s.cha]] w fun e w' => e = .returned (.bool (goodMc s)) ∧ Below w.heap.size w w' := by
  have HB : Hid (Below w.heap.size w (w.alloc (.cells #[.int .i64 s.bod, .int .i64 s.hou, .int .i64 s.cha] 32))) := Lib.hid ((Below.refl _ _).alloc (Nat.le_refl _) _)
  rcases (by omega : (1 ≤ s.hou ∧ s.hou ≤ 10000) ∨ s.hou < 1 ∨ (1 ≤ s.hou ∧ 10000 < s.hou)) with ⟨h1, h2⟩ | h1 | ⟨h1, h2⟩
  · have E : inB 1 10000 s.hou = true := by simp [inB]; omega
    rcases (by omega : (0 ≤ s.cha ∧ s.cha ≤ 600) ∨ s.cha < 0 ∨ (0 ≤ s.cha ∧ 600 < s.cha)) with ⟨h3, h4⟩ | h3 | ⟨h3, h4⟩
    · have E2 : inB 0 600 s.cha = true := by simp [inB]; omega
      have H : Hid (goodMc s = inB 1 72 s.bod) := Lib.hid (by unfold goodMc; rw [E, E2]; simp)
      clear E E2
      go_enter Try.func21, Try.ntmps21
      go_wp2_with fail
      refine (isCastBody_any _ _).mono ?_
      rintro e w' ⟨rfl, rfl⟩
      cases h : inB 1 72 s.bod
      · have HH := Lib.hid h; clear h
        go_wp2
        go_ret
        exact ⟨ret_bool (by rw [H.out, HH.out]), HB.out⟩
      · have HH := Lib.hid h; clear h
        go_wp2
        go_ret
        exact ⟨ret_bool (by rw [H.out, HH.out]), HB.out⟩
    · have E2 : inB 0 600 s.cha = false := by simp [inB]; omega
      have H : Hid (goodMc s = false) := Lib.hid (by unfold goodMc; rw [E, E2]; simp)
      clear E E2
      go_enter Try.func21, Try.ntmps21
      go_wp2_with fail
      refine (isCastBody_any _ _).mono ?_
      rintro e w' ⟨rfl, rfl⟩
      cases h : inB 1 72 s.bod <;> clear h <;> (go_wp2; go_ret; exact ⟨ret_bool (by first | exact H.out.symm | (rw [H.out]; simp <;> omega)), HB.out⟩)
    · have E2 : inB 0 600 s.cha = false := by simp [inB]; omega
      have H : Hid (goodMc s = false) := Lib.hid (by unfold goodMc; rw [E, E2]; simp)
      clear E E2
      go_enter Try.func21, Try.ntmps21
      go_wp2_with fail
      refine (isCastBody_any _ _).mono ?_
      rintro e w' ⟨rfl, rfl⟩
      cases h : inB 1 72 s.bod <;> clear h <;> (go_wp2; go_ret; exact ⟨ret_bool (by first | exact H.out.symm | (rw [H.out]; simp <;> omega)), HB.out⟩)
  · have E : inB 1 10000 s.hou = false := by simp [inB]; omega
    have H : Hid (goodMc s = false) := Lib.hid (by unfold goodMc; rw [E]; simp)
    clear E
    go_enter Try.func21, Try.ntmps21
    go_wp2_with fail
    refine (isCastBody_any _ _).mono ?_
    rintro e w' ⟨rfl, rfl⟩
    cases h : inB 1 72 s.bod <;> clear h <;> (go_wp2; go_ret; exact ⟨ret_bool (by first | exact H.out.symm | (rw [H.out]; simp <;> omega)), HB.out⟩)
  · have E : inB 1 10000 s.hou = false := by simp [inB]; omega
    have H : Hid (goodMc s = false) := Lib.hid (by unfold goodMc; rw [E]; simp)
    clear E
    go_enter Try.func21, Try.ntmps21
    go_wp2_with fail
    refine (isCastBody_any _ _).mono ?_
    rintro e w' ⟨rfl, rfl⟩
    cases h : inB 1 72 s.bod <;> clear h <;> (go_wp2; go_ret; exact ⟨ret_bool (by first | exact H.out.symm | (rw [H.out]; simp <;> omega)), HB.out⟩)

/-- The minutes of a casting without a change. -/
def timeI (m : Mc) (x : Ca) : Int := (60 * x.cnt + m.hou - 1) / m.hou
theorem timeI_range {m : Mc} {x : Ca} (hm : goodMc m = true) (hx : goodCa x = true) : 0 ≤ timeI m x ∧ timeI m x ≤ 6010000 := by
  obtain ⟨_, h1, _⟩ := goodMc_bounds hm
  obtain ⟨_, h2⟩ := goodCa_bounds hx
  unfold timeI
  refine ⟨Int.ediv_nonneg (by omega) (by omega), ?_⟩
  exact Int.le_trans (Int.ediv_le_self _ (by omega)) (by omega)
theorem csTime_any (m : Mc) (x : Ca) (w : World) (hm : goodMc m = true) (hx : goodCa x = true) :
    Calls Try.prog 52 #[.agg #[.int .i64 m.bod, .int .i64 m.hou, .int .i64 m.cha], .agg #[.int .i64 x.bod, .int .i64 x.cnt]] w fun e w' => e = .returned (.int .i64 (timeI m x)) ∧ Below w.heap.size w w' := by
  obtain ⟨_, ⟨h1, h1'⟩, _⟩ := goodMc_bounds hm
  obtain ⟨_, h2, h2'⟩ := goodCa_bounds hx
  have HB : Hid (Below w.heap.size w ((w.alloc (.cells #[.int .i64 m.bod, .int .i64 m.hou, .int .i64 m.cha] 32)).alloc (.cells #[.int .i64 x.bod, .int .i64 x.cnt] 39))) := Lib.hid (((Below.refl _ _).alloc (Nat.le_refl _) _).alloc (by simp) _)
  clear hm hx
  have hne : m.hou ≠ 0 := by omega
  go_enter Try.func52, Try.ntmps52
  go_wp2
  go_ret
  exact ⟨rfl, HB.out⟩
theorem divideUp_any (a b : Int) (w : World) (h0 : 0 ≤ a) (h1 : a ≤ 1000000000000) (hb : 0 < b) (hb1 : b ≤ 1000000) :
    Calls Try.prog 71 #[.int .i64 a, .int .i64 b] w fun e w' => e = .returned (.int .i64 ((a + b - 1) / b)) ∧ w = w' := by
  have hne : b ≠ 0 := by omega
  go_enter Try.func71, Try.ntmps71
  go_wp2
  go_ret
  exact ⟨rfl, rfl⟩
theorem castMinutes_any (m : Mc) (x : Ca) (w : World) (hm : goodMc m = true) (hx : goodCa x = true) :
    Calls Try.prog 53 #[.agg #[.int .i64 m.bod, .int .i64 m.hou, .int .i64 m.cha], .agg #[.int .i64 x.bod, .int .i64 x.cnt]] w fun e w' => e = .returned (.int .i64 (timeI m x)) ∧ Below w.heap.size w w' := by
  obtain ⟨_, ⟨h1, h1'⟩, _⟩ := goodMc_bounds hm
  obtain ⟨_, h2, h2'⟩ := goodCa_bounds hx
  have HB : Hid (Below w.heap.size w ((w.alloc (.cells #[.int .i64 m.bod, .int .i64 m.hou, .int .i64 m.cha] 32)).alloc (.cells #[.int .i64 x.bod, .int .i64 x.cnt] 39))) := Lib.hid (((Below.refl _ _).alloc (Nat.le_refl _) _).alloc (by simp) _)
  clear hm hx
  go_enter Try.func53, Try.ntmps53
  go_wp2_with fail
  refine (divideUp_any _ _ _ (by omega) (by omega) (by omega) (by omega)).mono ?_
  rintro e w' ⟨rfl, rfl⟩
  go_wp2
  go_ret
  exact ⟨rfl, HB.out⟩
def ctB (m : Mc) (x : Ca) : Bool := goodMc m && goodCa x
def ctV (m : Mc) (x : Ca) : Int := if ctB m x then timeI m x else 0
theorem ct_no {m : Mc} {x : Ca} (h : ctB m x = false) : ctV m x = 0 := by unfold ctV; rw [h]; rfl
theorem ct_yes {m : Mc} {x : Ca} (h : ctB m x = true) : ctV m x = timeI m x := by unfold ctV; rw [h]; rfl
theorem specCastTime_any (m : Mc) (x : Ca) (w : World) :
    Calls Try.prog 22 #[.agg #[.int .i64 m.bod, .int .i64 m.hou, .int .i64 m.cha], .agg #[.int .i64 x.bod, .int .i64 x.cnt]] w fun e w' => e = .returned (.tuple #[.int .i64 (ctV m x), .bool (ctB m x)]) ∧ Below w.heap.size w w' := by
  have HA : Hid (Below w.heap.size w ((w.alloc (.cells #[.int .i64 m.bod, .int .i64 m.hou, .int .i64 m.cha] 32)).alloc (.cells #[.int .i64 x.bod, .int .i64 x.cnt] 39))) := Lib.hid (((Below.refl _ _).alloc (Nat.le_refl _) _).alloc (by simp) _)
  have HM : Hid (McAt ((w.alloc (.cells #[.int .i64 m.bod, .int .i64 m.hou, .int .i64 m.cha] 32)).alloc (.cells #[.int .i64 x.bod, .int .i64 x.cnt] 39)) w.heap.size 32 m) := Lib.hid ((McAt.new _ _ _).alloc _)
  have HX : Hid (CaAt ((w.alloc (.cells #[.int .i64 m.bod, .int .i64 m.hou, .int .i64 m.cha] 32)).alloc (.cells #[.int .i64 x.bod, .int .i64 x.cnt] 39)) (w.heap.size + 1) 39 x) := Lib.hid (heap_alloc2_new _ _ _)
  go_enter Try.func22, Try.ntmps22
  go_wp2_with fail
  refine (csMachine_any m _).mono ?_
  rintro e w1 ⟨rfl, hb1⟩
  have HB1 := Lib.hid (HA.out.trans (hb1.mono HA.out.size))
  have HM1 := Lib.hid (HM.out.next hb1); have HX1 := Lib.hid (HX.out.next hb1)
  clear hb1 HA HM HX
  cases hg : goodMc m
  · have HV : Hid (ctB m x = false) := Lib.hid (by unfold ctB; rw [hg]; rfl)
    clear hg
    go_wp2
    refine bodyPost_ret (v := .tuple #[.int .i64 0, .bool false]) (by simp [results, Try.results22, go_sem]) rfl ⟨ret_ib (ct_no HV.out).symm HV.out.symm, HB1.out⟩
  have HG := Lib.hid hg; clear hg
  obtain ⟨x0, x1⟩ := HX1.out.cells
  have xl := HX1.out.lt
  go_wp2_with fail
  refine (csCasting_any x _).mono ?_
  rintro e w2 ⟨rfl, hb2⟩
  have HB2 := Lib.hid (HB1.out.trans (hb2.mono HB1.out.size))
  have HM2 := Lib.hid (HM1.out.next hb2); have HX2 := Lib.hid (HX1.out.next hb2)
  clear hb2 HB1 HM1 HX1 x0 x1 xl
  cases hg : goodCa x
  · have HV : Hid (ctB m x = false) := Lib.hid (by unfold ctB; rw [hg]; simp)
    clear hg
    go_wp2
    refine bodyPost_ret (v := .tuple #[.int .i64 0, .bool false]) (by simp [results, Try.results22, go_sem]) rfl ⟨ret_ib (ct_no HV.out).symm HV.out.symm, HB2.out⟩
  have HV : Hid (ctB m x = true) := Lib.hid (by unfold ctB; rw [HG.out, hg]; rfl)
  have HC := Lib.hid hg; clear hg
  obtain ⟨x0, x1⟩ := HX2.out.cells
  have xl := HX2.out.lt
  obtain ⟨m0, m1, m2⟩ := HM2.out.cells
  have ml := HM2.out.lt
  go_wp2_with fail
  refine (csTime_any m x _ HG.out HC.out).mono ?_
  rintro e w3 ⟨rfl, hb3⟩
  have HB3 := Lib.hid (HB2.out.trans (hb3.mono HB2.out.size))
  clear hb3 HB2 HM2 HX2 x0 x1 xl m0 m1 m2 ml
  go_wp2
  refine bodyPost_ret (v := .tuple #[.int .i64 (timeI m x), .bool true]) (by simp [results, Try.results22, go_sem]) rfl ⟨ret_ib (ct_yes HV.out).symm HV.out.symm, HB3.out⟩
theorem implCastTime_any (m : Mc) (x : Ca) (w : World) :
    Calls Try.prog 24 #[.agg #[.int .i64 m.bod, .int .i64 m.hou, .int .i64 m.cha], .agg #[.int .i64 x.bod, .int .i64 x.cnt]] w fun e w' => e = .returned (.tuple #[.int .i64 (ctV m x), .bool (ctB m x)]) ∧ Below w.heap.size w w' := by
  have HA : Hid (Below w.heap.size w ((w.alloc (.cells #[.int .i64 m.bod, .int .i64 m.hou, .int .i64 m.cha] 32)).alloc (.cells #[.int .i64 x.bod, .int .i64 x.cnt] 39))) := Lib.hid (((Below.refl _ _).alloc (Nat.le_refl _) _).alloc (by simp) _)
  have HM : Hid (McAt ((w.alloc (.cells #[.int .i64 m.bod, .int .i64 m.hou, .int .i64 m.cha] 32)).alloc (.cells #[.int .i64 x.bod, .int .i64 x.cnt] 39)) w.heap.size 32 m) := Lib.hid ((McAt.new _ _ _).alloc _)
  have HX : Hid (CaAt ((w.alloc (.cells #[.int .i64 m.bod, .int .i64 m.hou, .int .i64 m.cha] 32)).alloc (.cells #[.int .i64 x.bod, .int .i64 x.cnt] 39)) (w.heap.size + 1) 39 x) := Lib.hid (heap_alloc2_new _ _ _)
  go_enter Try.func24, Try.ntmps24
  go_wp2_with fail
  refine (implIsMachine_any m _).mono ?_
  rintro e w1 ⟨rfl, hb1⟩
  have HB1 := Lib.hid (HA.out.trans (hb1.mono HA.out.size))
  have HM1 := Lib.hid (HM.out.next hb1); have HX1 := Lib.hid (HX.out.next hb1)
  clear hb1 HA HM HX
  cases hg : goodMc m
  · have HV : Hid (ctB m x = false) := Lib.hid (by unfold ctB; rw [hg]; rfl)
    clear hg
    go_wp2
    refine bodyPost_ret (v := .tuple #[.int .i64 0, .bool false]) (by simp [results, Try.results24, go_sem]) rfl ⟨ret_ib (ct_no HV.out).symm HV.out.symm, HB1.out⟩
  have HG := Lib.hid hg; clear hg
  obtain ⟨x0, x1⟩ := HX1.out.cells
  have xl := HX1.out.lt
  go_wp2_with fail
  refine (isCasting_any x _).mono ?_
  rintro e w2 ⟨rfl, hb2⟩
  have HB2 := Lib.hid (HB1.out.trans (hb2.mono HB1.out.size))
  have HM2 := Lib.hid (HM1.out.next hb2); have HX2 := Lib.hid (HX1.out.next hb2)
  clear hb2 HB1 HM1 HX1 x0 x1 xl
  cases hg : goodCa x
  · have HV : Hid (ctB m x = false) := Lib.hid (by unfold ctB; rw [hg]; simp)
    clear hg
    go_wp2
    refine bodyPost_ret (v := .tuple #[.int .i64 0, .bool false]) (by simp [results, Try.results24, go_sem]) rfl ⟨ret_ib (ct_no HV.out).symm HV.out.symm, HB2.out⟩
  have HV : Hid (ctB m x = true) := Lib.hid (by unfold ctB; rw [HG.out, hg]; rfl)
  have HC := Lib.hid hg; clear hg
  obtain ⟨x0, x1⟩ := HX2.out.cells
  have xl := HX2.out.lt
  obtain ⟨m0, m1, m2⟩ := HM2.out.cells
  have ml := HM2.out.lt
  go_wp2_with fail
  refine (castMinutes_any m x _ HG.out HC.out).mono ?_
  rintro e w3 ⟨rfl, hb3⟩
  have HB3 := Lib.hid (HB2.out.trans (hb3.mono HB2.out.size))
  clear hb3 HB2 HM2 HX2 x0 x1 xl m0 m1 m2 ml
  go_wp2
  refine bodyPost_ret (v := .tuple #[.int .i64 (timeI m x), .bool true]) (by simp [results, Try.results24, go_sem]) rfl ⟨ret_ib (ct_yes HV.out).symm HV.out.symm, HB3.out⟩

/-- The machine as a casting leaves it; the minutes with the change before it. -/
def nextM (m : Mc) (x : Ca) : Mc := ⟨x.bod, m.hou, m.cha⟩
def costI (m : Mc) (x : Ca) : Int := timeI m x + if x.bod = m.bod then 0 else m.cha
theorem nextM_good {m : Mc} {x : Ca} (hm : goodMc m = true) (hx : goodCa x = true) : goodMc (nextM m x) = true := by
  obtain ⟨_, h1, h3⟩ := goodMc_bounds hm
  obtain ⟨h2, _⟩ := goodCa_bounds hx
  unfold goodMc nextM inB; simp only [Bool.and_eq_true, decide_eq_true_eq]; omega
theorem costI_range {m : Mc} {x : Ca} (hm : goodMc m = true) (hx : goodCa x = true) : 0 ≤ costI m x ∧ costI m x ≤ 6011000 := by
  have h := timeI_range hm hx
  obtain ⟨_, _, h3⟩ := goodMc_bounds hm
  unfold costI; split <;> omega
theorem ret_mi {a a' : Mc} {b b' : Int} (h1 : a = a') (h2 : b = b') : Ending.returned (.tuple #[.agg #[.int .i64 a.bod, .int .i64 a.hou, .int .i64 a.cha], .int .i64 b]) = .returned (.tuple #[.agg #[.int .i64 a'.bod, .int .i64 a'.hou, .int .i64 a'.cha], .int .i64 b']) := by rw [h1, h2]
set_option maxHeartbeats 1000000 in
theorem castNext_any (m : Mc) (x : Ca) (w : World) (hm : goodMc m = true) (hx : goodCa x = true) :
    Calls Try.prog 64 #[.agg #[.int .i64 m.bod, .int .i64 m.hou, .int .i64 m.cha], .agg #[.int .i64 x.bod, .int .i64 x.cnt]] w fun e w' => e = .returned (.tuple #[.agg #[.int .i64 (nextM m x).bod, .int .i64 (nextM m x).hou, .int .i64 (nextM m x).cha], .int .i64 (costI m x)]) ∧ Below w.heap.size w w' := by
  have hr := timeI_range hm hx
  obtain ⟨_, _, h3⟩ := goodMc_bounds hm
  have HG := Lib.hid hm; have HC := Lib.hid hx; clear hm hx
  have HA : Hid (Below w.heap.size w (((w.alloc (.cells #[.int .i64 m.bod, .int .i64 m.hou, .int .i64 m.cha] 32)).alloc (.cells #[.int .i64 x.bod, .int .i64 x.cnt] 39)).alloc (.cells #[.int .i64 0, .int .i64 0, .int .i64 0] 32))) := Lib.hid ((((Below.refl _ _).alloc (Nat.le_refl _) _).alloc (by simp) _).alloc (by simp; omega) _)
  have HM : Hid (McAt (((w.alloc (.cells #[.int .i64 m.bod, .int .i64 m.hou, .int .i64 m.cha] 32)).alloc (.cells #[.int .i64 x.bod, .int .i64 x.cnt] 39)).alloc (.cells #[.int .i64 0, .int .i64 0, .int .i64 0] 32)) w.heap.size 32 m) := Lib.hid (((McAt.new _ _ _).alloc _).alloc _)
  have HX : Hid (CaAt (((w.alloc (.cells #[.int .i64 m.bod, .int .i64 m.hou, .int .i64 m.cha] 32)).alloc (.cells #[.int .i64 x.bod, .int .i64 x.cnt] 39)).alloc (.cells #[.int .i64 0, .int .i64 0, .int .i64 0] 32)) (w.heap.size + 1) 39 x) := Lib.hid (CaAt.alloc (s := x) (show CaAt _ _ _ x from heap_alloc2_new _ _ _) _)
  have HR : Hid (McAt (((w.alloc (.cells #[.int .i64 m.bod, .int .i64 m.hou, .int .i64 m.cha] 32)).alloc (.cells #[.int .i64 x.bod, .int .i64 x.cnt] 39)).alloc (.cells #[.int .i64 0, .int .i64 0, .int .i64 0] 32)) (w.heap.size + 2) 32 ⟨0, 0, 0⟩) := Lib.hid (heap_alloc3_new _ _ _ _)
  go_enter Try.func64, Try.ntmps64
  go_wp2_with fail
  refine (castMinutes_any m x _ HG.out HC.out).mono ?_
  rintro e w1 ⟨rfl, hb1⟩
  have HB1 := Lib.hid (HA.out.trans (hb1.mono HA.out.size))
  have HM1 := Lib.hid (HM.out.next hb1); have HX1 := Lib.hid (HX.out.next hb1); have HR1 := Lib.hid (HR.out.next hb1)
  clear hb1 HA HM HX HR
  obtain ⟨x0, x1⟩ := HX1.out.cells
  obtain ⟨m0, m1, m2⟩ := HM1.out.cells
  obtain ⟨r0, r1, r2⟩ := HR1.out.cells
  have mf0 := HM1.out.free 0; have mf1 := HM1.out.free 1; have mf2 := HM1.out.free 2
  have rf0 := HR1.out.free 0; have rf1 := HR1.out.free 1; have rf2 := HR1.out.free 2
  have xl := HX1.out.lt; have ml := HM1.out.lt; have rl := HR1.out.lt
  by_cases hb : x.bod = m.bod
  · have hn : (x.bod != m.bod) = false := by simp [hb]
    have HV : Hid (nextM m x = m ∧ costI m x = timeI m x) := Lib.hid ⟨by unfold nextM; rw [hb], by unfold costI; rw [if_pos hb]; omega⟩
    clear hb
    generalize timeI m x = t at *
    go_wp2
    refine bodyPost_ret (v := .tuple #[.agg #[.int .i64 m.bod, .int .i64 m.hou, .int .i64 m.cha], .int .i64 t]) (by simp [results, Try.results64, go_sem, m0, m1, m2, mf0, mf1, mf2, r0, r1, r2, rf0, rf1, rf2]) rfl ⟨ret_mi (a := m) (a' := nextM m x) HV.out.1.symm HV.out.2.symm, by repeat (first | (with_reducible exact HB1.out) | (with_reducible exact Below.refl _ _) | (refine Below.setCell ?_ (by first | (simp; done) | (simp; omega)) _) | (refine Below.drew ?_) | (refine Below.alloc ?_ (by first | (simp; done) | (simp; omega)) _))⟩
  · have hn : (x.bod != m.bod) = true := by simp [hb]
    have HV : Hid (nextM m x = ⟨x.bod, m.hou, m.cha⟩ ∧ costI m x = timeI m x + m.cha) := Lib.hid ⟨rfl, by unfold costI; rw [if_neg hb]⟩
    clear hb
    generalize timeI m x = t at *
    go_wp2
    refine bodyPost_ret (v := .tuple #[.agg #[.int .i64 x.bod, .int .i64 m.hou, .int .i64 m.cha], .int .i64 (t + m.cha)]) (by simp [results, Try.results64, go_sem, m0, m1, m2, mf0, mf1, mf2, r0, r1, r2, rf0, rf1, rf2]) rfl ⟨ret_mi (a := ⟨x.bod, m.hou, m.cha⟩) (a' := nextM m x) HV.out.1.symm HV.out.2.symm, by repeat (first | (with_reducible exact HB1.out) | (with_reducible exact Below.refl _ _) | (refine Below.setCell ?_ (by first | (simp; done) | (simp; omega)) _) | (refine Below.drew ?_) | (refine Below.alloc ?_ (by first | (simp; done) | (simp; omega)) _))⟩

/-- Castings. -/
def allCa (f : List Ca) : Bool := f.all goodCa
def goodL (f : List Ca) : Bool := allCa f && decide (f.length ≤ 8)
theorem allCa_snoc (f : List Ca) {k : Nat} (h : k < f.length) : allCa (f.take (k + 1)) = (allCa (f.take k) && goodCa f[k]) := by
  unfold allCa; rw [List.take_succ_eq_append_getElem h, List.all_append]; simp only [List.all_cons, List.all_nil, Bool.and_true]
theorem allCa_no {f : List Ca} {k : Nat} (h : k < f.length) (hf : goodCa f[k] = false) : allCa f = false := by
  unfold allCa
  rw [List.all_eq_false]
  exact ⟨f[k], List.getElem_mem h, by simp [hf]⟩
theorem goodL_all {f : List Ca} (h : goodL f = true) : allCa f = true ∧ f.length ≤ 8 := by simpa [goodL] using h
theorem goodL_at {f : List Ca} (h : goodL f = true) {k : Nat} (hk : k < f.length) : goodCa f[k] = true := by
  have h1 := (goodL_all h).1
  unfold allCa at h1
  rw [List.all_eq_true] at h1
  exact h1 _ (List.getElem_mem hk)
set_option maxRecDepth 100000 in
theorem csGood_any (f : List Ca) (A : Option Addr) (c : Nat) (w : World) (hf : CasIn w A f) (hn : f.length ≤ 1048576) :
    Calls Try.prog 46 #[.slice A f.length c] w fun e w' => e = .returned (.bool (goodL f)) ∧ Below w.heap.size w w' := by
  have HF := Lib.hid hf; clear hf
  go_enter Try.func46, Try.ntmps46
  go_wp2
  go_loopw [7] (fun i wr => ∃ k : Nat, k ≤ f.length ∧ i = .int .i64 k ∧ allCa (f.take k) = true ∧ Below w.heap.size w wr) (fun i _ => f.length - (intOf i).toNat)
  case atStart => exact ⟨0, Nat.zero_le _, rfl, rfl, Below.refl _ _⟩
  case round =>
    obtain ⟨k, hk, rfl, hs, hb⟩ := hrel
    have HS := Lib.hid hs; clear hs
    by_cases hlt : k < f.length
    · obtain ⟨b, off, rfl, hbl, hc⟩ := HF.out (by omega)
      obtain ⟨hc0, hc1⟩ := hc k hlt
      clear hc
      rw [← hb.cell (p := ⟨b, off + k * 2, none⟩) hbl] at hc0; rw [← hb.cell (p := ⟨b, off + k * 2 + 1, none⟩) hbl] at hc1
      have HST := Lib.hid (allCa_snoc f hlt)
      have HNO : Hid (goodCa f[k] = false → allCa f = false) := Lib.hid (allCa_no hlt)
      have HB := Lib.hid hb
      clear hb
      go_wp2_with fail
      refine (csCasting_any f[k] _).mono ?_
      rintro e w1 ⟨rfl, hb1⟩
      have HB1 : Hid (Below w.heap.size w w1) := Lib.hid ((HB.out.alloc HB.out.size _).trans (hb1.mono (HB.out.alloc HB.out.size _).size))
      clear hb1 HB hc0 hc1
      cases hg : goodCa f[k]
      · have HV : Hid (goodL f = false) := by show _ = _; unfold goodL; rw [HNO.out hg]; rfl
        clear hg
        go_wp2
        go_ret
        exact ⟨ret_bool HV.out.symm, HB1.out⟩
      · have HV : Hid (allCa (f.take (k + 1)) = true) := by show _ = _; rw [HST.out, HS.out, hg]; rfl
        clear hg
        go_wp2
        go_roundw
        case rel => exact ⟨k + 1, by omega, by go_num, HV.out, HB1.out⟩
        case measure => simp [intOf]; omega
    · obtain rfl : k = f.length := by omega
      have HV : Hid (goodL f = decide (f.length ≤ 8)) := by
        show _ = _
        have h := HS.out
        rw [List.take_length] at h
        unfold goodL; rw [h]; rfl
      have e : decide ((f.length : Int) ≤ 8) = decide (f.length ≤ 8) := decide_eq_decide.2 (by omega)
      have HE := Lib.hid e; clear e
      go_wp2
      go_ret
      exact ⟨ret_bool (by rw [HV.out]; first | exact HE.out | rfl), hb⟩
theorem specAreCastings_any (f : List Ca) (A : Option Addr) (c : Nat) (w : World) (hf : CasIn w A f) (hn : f.length ≤ 1048576) :
    Calls Try.prog 15 #[.slice A f.length c] w fun e w' => e = .returned (.bool (goodL f)) ∧ Below w.heap.size w w' := by
  have HF := Lib.hid hf; clear hf
  go_enter Try.func15, Try.ntmps15
  go_wp2_with fail
  refine (csGood_any f A c _ HF.out hn).mono ?_
  rintro e w1 ⟨rfl, hb⟩
  go_wp2
  go_ret
  exact ⟨rfl, hb⟩
set_option maxRecDepth 100000 in
theorem implAreCastings_any (f : List Ca) (A : Option Addr) (c : Nat) (w : World) (hf : CasIn w A f) (hn : f.length ≤ 1048576) :
    Calls Try.prog 17 #[.slice A f.length c] w fun e w' => e = .returned (.bool (goodL f)) ∧ Below w.heap.size w w' := by
  have HF := Lib.hid hf; clear hf
  by_cases hl : 8 < f.length
  · have HV : Hid (goodL f = false) := by show _ = _; unfold goodL; rw [decide_eq_false (by omega)]; simp
    have h1 : (8 : Int) < (f.length : Int) := by omega
    go_enter Try.func17, Try.ntmps17
    go_wp2
    go_ret
    exact ⟨ret_bool HV.out.symm, Below.refl _ _⟩
  have h1 : ¬ (8 : Int) < (f.length : Int) := by omega
  have HV0 : Hid (goodL f = allCa f) := by show _ = _; unfold goodL; rw [decide_eq_true (by omega)]; simp
  go_enter Try.func17, Try.ntmps17
  go_wp2
  go_loopw [10] (fun i wr => ∃ k : Nat, k ≤ f.length ∧ i = .int .i64 k ∧ allCa (f.take k) = true ∧ Below w.heap.size w wr) (fun i _ => f.length - (intOf i).toNat)
  case atStart => exact ⟨0, Nat.zero_le _, rfl, rfl, Below.refl _ _⟩
  case round =>
    obtain ⟨k, hk, rfl, hs, hb⟩ := hrel
    have HS := Lib.hid hs; clear hs
    by_cases hlt : k < f.length
    · obtain ⟨b, off, rfl, hbl, hc⟩ := HF.out (by omega)
      obtain ⟨hc0, hc1⟩ := hc k hlt
      clear hc
      rw [← hb.cell (p := ⟨b, off + k * 2, none⟩) hbl] at hc0; rw [← hb.cell (p := ⟨b, off + k * 2 + 1, none⟩) hbl] at hc1
      have HST := Lib.hid (allCa_snoc f hlt)
      have HNO : Hid (goodCa f[k] = false → allCa f = false) := Lib.hid (allCa_no hlt)
      have HB := Lib.hid hb
      clear hb
      go_wp2_with fail
      refine (isCasting_any f[k] _).mono ?_
      rintro e w1 ⟨rfl, hb1⟩
      have HB1 : Hid (Below w.heap.size w w1) := Lib.hid ((HB.out.alloc HB.out.size _).trans (hb1.mono (HB.out.alloc HB.out.size _).size))
      clear hb1 HB hc0 hc1
      cases hg : goodCa f[k]
      · have HV : Hid (goodL f = false) := by show _ = _; unfold goodL; rw [HNO.out hg]; rfl
        clear hg
        go_wp2
        go_ret
        exact ⟨ret_bool HV.out.symm, HB1.out⟩
      · have HV : Hid (allCa (f.take (k + 1)) = true) := by show _ = _; rw [HST.out, HS.out, hg]; rfl
        clear hg
        go_wp2
        go_roundw
        case rel => exact ⟨k + 1, by omega, by go_num, HV.out, HB1.out⟩
        case measure => simp [intOf]; omega
    · obtain rfl : k = f.length := by omega
      have HV : Hid (goodL f = true) := by
        show _ = _
        have h := HS.out
        rw [List.take_length] at h
        rw [HV0.out, h]
      go_wp2
      go_ret
      exact ⟨ret_bool HV.out.symm, hb⟩
end Go.Proofs.Ytpocghcdfpcedaa

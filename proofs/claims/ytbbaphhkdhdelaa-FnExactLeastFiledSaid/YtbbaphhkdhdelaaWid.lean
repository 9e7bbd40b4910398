/-
  The contracts of WidthOfStrike, DepthAfter, in spec and in impl: each answers what the plain words here say and changes nothing that was there.
-/
import Derived.Test.YtbbaphhkdhdelaaMa
namespace Go.Proofs.Ytbbaphhkdhdelaa
open Go.RowKit
set_option linter.unusedVariables false

theorem good_bounds {s : Sk} (h : goodB s = true) : (1 ≤ s.dep ∧ s.dep ≤ 999) ∧ (1 ≤ s.lef ∧ s.lef ≤ 999) ∧ (1 ≤ s.fac ∧ s.fac ≤ 999) ∧ (1 ≤ s.rig ∧ s.rig ≤ 999) ∧ (1 ≤ s.foo ∧ s.foo ≤ 999) := by
  simpa [goodB, allB, inB, Sk.zs] using h
theorem ret_ib {a a' : Int} {b b' : Bool} (h1 : a = a') (h2 : b = b') : Ending.returned (.tuple #[.int .i64 a, .bool b]) = .returned (.tuple #[.int .i64 a', .bool b']) := by rw [h1, h2]
theorem ret_bb {a a' : Bool} {b b' : Bool} (h1 : a = a') (h2 : b = b') : Ending.returned (.tuple #[.bool a, .bool b]) = .returned (.tuple #[.bool a', .bool b']) := by rw [h1, h2]
theorem ret_kb {a a' : Sk} {b b' : Bool} (h1 : a = a') (h2 : b = b') : Ending.returned (.tuple #[.agg #[.int .i64 a.dep, .int .i64 a.lef, .int .i64 a.fac, .int .i64 a.rig, .int .i64 a.foo], .bool b]) = .returned (.tuple #[.agg #[.int .i64 a'.dep, .int .i64 a'.lef, .int .i64 a'.fac, .int .i64 a'.rig, .int .i64 a'.foo], .bool b']) := by rw [h1, h2]
def widthV (s : Sk) : Int := if goodB s then s.lef + s.fac + s.rig else 0
theorem specWidth_any (s : Sk) (w : World) :
    Calls Try.prog 17 #[.agg #[.int .i64 s.dep, .int .i64 s.lef, .int .i64 s.fac, .int .i64 s.rig, .int .i64 s.foo]] w fun e w' => e = .returned (.tuple #[.int .i64 (widthV s), .bool (goodB s)]) ∧ Below w.heap.size w w' := by
  have HX := Lib.hid (SkAt.new w 25 s)
  have HA : Hid (Below w.heap.size w (w.alloc (.cells #[.int .i64 s.dep, .int .i64 s.lef, .int .i64 s.fac, .int .i64 s.rig, .int .i64 s.foo] 25))) := Lib.hid ((Below.refl _ _).alloc (Nat.le_refl _) _)
  go_enter Try.func17, Try.ntmps17
  go_wp2_with fail
  refine (maGood_any s _).mono ?_
  rintro e w1 ⟨rfl, hb⟩
  have hb1 : Below w.heap.size w w1 := HA.out.trans (hb.mono HA.out.size)
  have hx := HX.out.next hb
  obtain ⟨h0, h1, h2, h3, h4⟩ := hx.cells
  have hbl := hx.lt
  clear hb hx
  cases hg : goodB s
  · have HV : Hid (widthV s = 0) := by show _ = _; unfold widthV; rw [hg]; rfl
    have HG := Lib.hid hg; clear hg
    go_wp2
    go_ret2
    exact ⟨ret_ib HV.out.symm HG.out.symm, hb1⟩
  · have HV : Hid (widthV s = s.lef + s.fac + s.rig) := by show _ = _; unfold widthV; rw [hg]; rfl
    obtain ⟨b0, b1, b2, b3, b4⟩ := good_bounds hg
    have HG := Lib.hid hg; clear hg
    go_wp2
    go_ret2
    exact ⟨ret_ib HV.out.symm HG.out.symm, hb1⟩
theorem implWidth_any (s : Sk) (w : World) :
    Calls Try.prog 18 #[.agg #[.int .i64 s.dep, .int .i64 s.lef, .int .i64 s.fac, .int .i64 s.rig, .int .i64 s.foo]] w fun e w' => e = .returned (.tuple #[.int .i64 (widthV s), .bool (goodB s)]) ∧ Below w.heap.size w w' := by
  have HX := Lib.hid (SkAt.new w 25 s)
  have HA : Hid (Below w.heap.size w (w.alloc (.cells #[.int .i64 s.dep, .int .i64 s.lef, .int .i64 s.fac, .int .i64 s.rig, .int .i64 s.foo] 25))) := Lib.hid ((Below.refl _ _).alloc (Nat.le_refl _) _)
  go_enter Try.func18, Try.ntmps18
  go_wp2_with fail
  refine (implIsStrike_any s _).mono ?_
  rintro e w1 ⟨rfl, hb⟩
  have hb1 : Below w.heap.size w w1 := HA.out.trans (hb.mono HA.out.size)
  have hx := HX.out.next hb
  obtain ⟨h0, h1, h2, h3, h4⟩ := hx.cells
  have hbl := hx.lt
  clear hb hx
  cases hg : goodB s
  · have HV : Hid (widthV s = 0) := by show _ = _; unfold widthV; rw [hg]; rfl
    have HG := Lib.hid hg; clear hg
    go_wp2
    go_ret2
    exact ⟨ret_ib HV.out.symm HG.out.symm, hb1⟩
  · have HV : Hid (widthV s = s.lef + s.fac + s.rig) := by show _ = _; unfold widthV; rw [hg]; rfl
    obtain ⟨b0, b1, b2, b3, b4⟩ := good_bounds hg
    have HG := Lib.hid hg; clear hg
    go_wp2
    go_ret2
    exact ⟨ret_ib HV.out.symm HG.out.symm, hb1⟩

def depthB (s : Sk) (n : Int) : Bool := goodB s && inB 0 1000000 n
def depthV (s : Sk) (n : Int) : Int := if depthB s n then s.dep + n / 1000 else 0
theorem specDepth_any (s : Sk) (n : Int) (w : World) :
    Calls Try.prog 41 #[.agg #[.int .i64 s.dep, .int .i64 s.lef, .int .i64 s.fac, .int .i64 s.rig, .int .i64 s.foo], .int .i64 n] w fun e w' => e = .returned (.tuple #[.int .i64 (depthV s n), .bool (depthB s n)]) ∧ Below w.heap.size w w' := by
  have HX := Lib.hid (SkAt.new w 25 s)
  have HA : Hid (Below w.heap.size w (w.alloc (.cells #[.int .i64 s.dep, .int .i64 s.lef, .int .i64 s.fac, .int .i64 s.rig, .int .i64 s.foo] 25))) := Lib.hid ((Below.refl _ _).alloc (Nat.le_refl _) _)
  go_enter Try.func41, Try.ntmps41
  go_wp2_with fail
  refine (maGood_any s _).mono ?_
  rintro e w1 ⟨rfl, hb⟩
  have hb1 : Below w.heap.size w w1 := HA.out.trans (hb.mono HA.out.size)
  have hx := HX.out.next hb
  obtain ⟨h0, h1, h2, h3, h4⟩ := hx.cells
  have hbl := hx.lt
  clear hb hx
  cases hg : goodB s
  · have HV : Hid (depthV s n = 0 ∧ depthB s n = false) := by show _ ∧ _; unfold depthV depthB; rw [hg]; exact ⟨rfl, rfl⟩
    clear hg
    go_wp2
    go_ret2
    exact ⟨ret_ib HV.out.1.symm HV.out.2.symm, hb1⟩
  · go_wp2_with fail
    refine (l1In_any _ _ _ _).mono ?_
    rintro e w' ⟨rfl, rfl⟩
    cases hi : inB 0 1000000 n
    · have HV : Hid (depthV s n = 0 ∧ depthB s n = false) := by show _ ∧ _; unfold depthV depthB; rw [hg, hi]; exact ⟨rfl, rfl⟩
      clear hg hi
      go_wp2
      go_ret2
      exact ⟨ret_ib HV.out.1.symm HV.out.2.symm, hb1⟩
    · have HV : Hid (depthV s n = s.dep + n / 1000 ∧ depthB s n = true) := by show _ ∧ _; unfold depthV depthB; rw [hg, hi]; exact ⟨rfl, rfl⟩
      obtain ⟨b0, b1, b2, b3, b4⟩ := good_bounds hg
      have hn : 0 ≤ n ∧ n ≤ 1000000 := by simpa [inB] using hi
      clear hg hi
      go_wp2
      go_ret2
      exact ⟨ret_ib HV.out.1.symm HV.out.2.symm, hb1⟩
theorem implDepth_any (s : Sk) (n : Int) (w : World) :
    Calls Try.prog 42 #[.agg #[.int .i64 s.dep, .int .i64 s.lef, .int .i64 s.fac, .int .i64 s.rig, .int .i64 s.foo], .int .i64 n] w fun e w' => e = .returned (.tuple #[.int .i64 (depthV s n), .bool (depthB s n)]) ∧ Below w.heap.size w w' := by
  have HX := Lib.hid (SkAt.new w 25 s)
  have HA : Hid (Below w.heap.size w (w.alloc (.cells #[.int .i64 s.dep, .int .i64 s.lef, .int .i64 s.fac, .int .i64 s.rig, .int .i64 s.foo] 25))) := Lib.hid ((Below.refl _ _).alloc (Nat.le_refl _) _)
  go_enter Try.func42, Try.ntmps42
  go_wp2_with fail
  refine (implIsStrike_any s _).mono ?_
  rintro e w1 ⟨rfl, hb⟩
  have hb1 : Below w.heap.size w w1 := HA.out.trans (hb.mono HA.out.size)
  have hx := HX.out.next hb
  obtain ⟨h0, h1, h2, h3, h4⟩ := hx.cells
  have hbl := hx.lt
  clear hb hx
  cases hg : goodB s
  · have HV : Hid (depthV s n = 0 ∧ depthB s n = false) := by show _ ∧ _; unfold depthV depthB; rw [hg]; exact ⟨rfl, rfl⟩
    clear hg
    go_wp2
    go_ret2
    exact ⟨ret_ib HV.out.1.symm HV.out.2.symm, hb1⟩
  · rcases (by omega : (0 ≤ n ∧ n ≤ 1000000) ∨ n < 0 ∨ (0 ≤ n ∧ 1000000 < n)) with ⟨g1, g2⟩ | g1 | ⟨g1, g2⟩
    · have HV : Hid (depthV s n = s.dep + n / 1000 ∧ depthB s n = true) := by show _ ∧ _; unfold depthV depthB; rw [hg]; simp [inB, g1, g2]
      obtain ⟨b0, b1, b2, b3, b4⟩ := good_bounds hg
      clear hg
      go_wp2
      go_ret2
      exact ⟨ret_ib HV.out.1.symm HV.out.2.symm, hb1⟩
    · have HV : Hid (depthV s n = 0 ∧ depthB s n = false) := by show _ ∧ _; unfold depthV depthB; rw [hg]; simp [inB]; omega
      clear hg
      go_wp2
      go_ret2
      exact ⟨ret_ib HV.out.1.symm HV.out.2.symm, hb1⟩
    · have HV : Hid (depthV s n = 0 ∧ depthB s n = false) := by show _ ∧ _; unfold depthV depthB; rw [hg]; simp [inB]; omega
      clear hg
      go_wp2
      go_ret2
      exact ⟨ret_ib HV.out.1.symm HV.out.2.symm, hb1⟩
end Go.Proofs.Ytbbaphhkdhdelaa

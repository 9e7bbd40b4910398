/-
  The contracts of CastsLeft, in spec and in impl, and of impl.isPartTolerance: each answers what the plain words here say and changes nothing that was there.
-/
import Derived.Test.YtbbaphhkdhdelaaJus
namespace Go.Proofs.Ytbbaphhkdhdelaa
open Go.RowKit
set_option linter.unusedVariables false

theorem tolerance_any (n : Int) (w : World) :
    Calls Try.prog 60 #[.int .i64 n] w fun e w' => e = .returned (.bool (inB 0 999 n)) ∧ w = w' := by
  rcases (by omega : (0 ≤ n ∧ n ≤ 999) ∨ n < 0 ∨ (0 ≤ n ∧ 999 < n)) with ⟨g1, g2⟩ | g1 | ⟨g1, g2⟩
  · have HV : Hid (inB 0 999 n = true) := by show _ = _; simp [inB, g1, g2]
    go_enter Try.func60, Try.ntmps60
    go_wp2
    go_ret
    exact ⟨ret_bool HV.out.symm, rfl⟩
  · have HV : Hid (inB 0 999 n = false) := by show _ = _; simp [inB]; omega
    have g2 : ¬ 0 ≤ n := by omega
    go_enter Try.func60, Try.ntmps60
    go_wp2
    go_ret
    exact ⟨ret_bool HV.out.symm, rfl⟩
  · have HV : Hid (inB 0 999 n = false) := by show _ = _; simp [inB]; omega
    go_enter Try.func60, Try.ntmps60
    go_wp2
    go_ret
    exact ⟨ret_bool (by rw [HV.out]; exact decide_eq_false (by omega)), rfl⟩

def castsB (s t : Sk) (n : Int) : Bool := askB s t && inB 0 999 n && decide (s.dep - t.dep ≤ n)
def castsV (s t : Sk) (n : Int) : Int := if castsB s t n then min 1000000 (1000 * (t.dep + n - s.dep) + 999) else 0
theorem casts_no {s t : Sk} {n : Int} (h : castsB s t n = false) : castsV s t n = 0 ∧ castsB s t n = false := ⟨by unfold castsV; rw [h]; rfl, h⟩
theorem casts_yes {s t : Sk} {n : Int} (h : castsB s t n = true) : castsV s t n = min 1000000 (1000 * (t.dep + n - s.dep) + 999) ∧ castsB s t n = true := ⟨by unfold castsV; rw [h]; rfl, h⟩

set_option maxHeartbeats 1000000 in
theorem specCasts_any (s t : Sk) (n : Int) (w : World) :
    Calls Try.prog 43 #[.agg #[.int .i64 s.dep, .int .i64 s.lef, .int .i64 s.fac, .int .i64 s.rig, .int .i64 s.foo], .agg #[.int .i64 t.dep, .int .i64 t.lef, .int .i64 t.fac, .int .i64 t.rig, .int .i64 t.foo], .int .i64 n] w fun e w' => e = .returned (.tuple #[.int .i64 (castsV s t n), .bool (castsB s t n)]) ∧ Below w.heap.size w w' := by
  have HX : Hid (SkAt ((w.alloc (.cells #[.int .i64 s.dep, .int .i64 s.lef, .int .i64 s.fac, .int .i64 s.rig, .int .i64 s.foo] 25)).alloc (.cells #[.int .i64 t.dep, .int .i64 t.lef, .int .i64 t.fac, .int .i64 t.rig, .int .i64 t.foo] 25)) w.heap.size 25 s) := Lib.hid ((SkAt.new w _ s).alloc _)
  have HY : Hid (SkAt ((w.alloc (.cells #[.int .i64 s.dep, .int .i64 s.lef, .int .i64 s.fac, .int .i64 s.rig, .int .i64 s.foo] 25)).alloc (.cells #[.int .i64 t.dep, .int .i64 t.lef, .int .i64 t.fac, .int .i64 t.rig, .int .i64 t.foo] 25)) (w.heap.size + 1) 25 t) := Lib.hid (heap_alloc2_new _ _ _)
  have HA : Hid (Below w.heap.size w ((w.alloc (.cells #[.int .i64 s.dep, .int .i64 s.lef, .int .i64 s.fac, .int .i64 s.rig, .int .i64 s.foo] 25)).alloc (.cells #[.int .i64 t.dep, .int .i64 t.lef, .int .i64 t.fac, .int .i64 t.rig, .int .i64 t.foo] 25))) := Lib.hid (((Below.refl _ _).alloc (Nat.le_refl _) _).alloc (by simp) _)
  go_enter Try.func43, Try.ntmps43
  go_wp2_with fail
  refine (maGood_any s _).mono ?_
  rintro e w1 ⟨rfl, hb1⟩
  have HA1 : Hid (Below w.heap.size w w1) := Lib.hid (HA.out.trans (hb1.mono HA.out.size))
  have HX1 := Lib.hid (HX.out.next hb1)
  have HY1 := Lib.hid (HY.out.next hb1)
  obtain ⟨y0, y1, y2, y3, y4⟩ := HY1.out.cells
  have hyl := HY1.out.lt
  clear hb1 HX HY HA
  cases hg : goodB s
  · have HV : Hid (castsV s t n = 0 ∧ castsB s t n = false) := Lib.hid (casts_no (by unfold castsB askB; rw [hg]; rfl))
    clear hg
    go_wp2
    go_ret2
    exact ⟨ret_ib HV.out.1.symm HV.out.2.symm, HA1.out⟩
  have HG := Lib.hid hg; clear hg
  go_wp2_with fail
  refine (maGood_any t _).mono ?_
  rintro e w2 ⟨rfl, hb2⟩
  have HA2 : Hid (Below w.heap.size w w2) := Lib.hid (HA1.out.trans (hb2.mono HA1.out.size))
  have HX2 := Lib.hid (HX1.out.next hb2)
  have HY2 := Lib.hid (HY1.out.next hb2)
  clear hb2 HX1 HY1 HA1 y0 y1 y2 y3 y4 hyl
  obtain ⟨y0, y1, y2, y3, y4⟩ := HY2.out.cells
  obtain ⟨x0, x1, x2, x3, x4⟩ := HX2.out.cells
  have hyl := HY2.out.lt; have hxl := HX2.out.lt
  cases hh : goodB t
  · have HV : Hid (castsV s t n = 0 ∧ castsB s t n = false) := Lib.hid (casts_no (by unfold castsB askB; rw [HG.out, hh]; rfl))
    clear hh
    go_wp2
    go_ret2
    exact ⟨ret_ib HV.out.1.symm HV.out.2.symm, HA2.out⟩
  have HH := Lib.hid hh; clear hh
  go_wp2_with fail
  refine (l1In_any _ _ _ _).mono ?_
  rintro e w' ⟨rfl, rfl⟩
  cases hi : inB 0 999 n
  · have HV : Hid (castsV s t n = 0 ∧ castsB s t n = false) := Lib.hid (casts_no (by unfold castsB askB; rw [HG.out, HH.out, hi]; rfl))
    clear hi
    go_wp2
    go_ret2
    exact ⟨ret_ib HV.out.1.symm HV.out.2.symm, HA2.out⟩
  have HI := Lib.hid hi
  have hn : 0 ≤ n ∧ n ≤ 999 := by simpa [inB] using hi
  obtain ⟨n1, n2⟩ := hn
  obtain ⟨⟨bs1, bs2⟩, _⟩ := good_bounds HG.out
  obtain ⟨⟨bt1, bt2⟩, _⟩ := good_bounds HH.out
  clear hi
  by_cases hd : n < s.dep - t.dep
  · have HV : Hid (castsV s t n = 0 ∧ castsB s t n = false) := Lib.hid (casts_no (by unfold castsB askB; rw [HG.out, HH.out, HI.out]; simp; omega))
    go_wp2
    go_ret2
    exact ⟨ret_ib HV.out.1.symm HV.out.2.symm, HA2.out⟩
  · have HV : Hid (castsV s t n = min 1000000 (1000 * (t.dep + n - s.dep) + 999) ∧ castsB s t n = true) := Lib.hid (casts_yes (by unfold castsB askB; rw [HG.out, HH.out, HI.out]; simp; omega))
    have hd' : s.dep - t.dep ≤ n := by omega
    go_wp2_with fail
    refine (l1Least_any _ _ _).mono ?_
    rintro e w' ⟨rfl, rfl⟩
    have HM : Hid ((if (1000000 : Int) < 1000 * (t.dep + n - s.dep) + 999 then (1000000 : Int) else 1000 * (t.dep + n - s.dep) + 999) = min 1000000 (1000 * (t.dep + n - s.dep) + 999)) := by show _ = _; split <;> omega
    rw [HM.out]
    clear HM
    generalize min 1000000 (1000 * (t.dep + n - s.dep) + 999) = m at *
    go_wp2
    go_ret2
    exact ⟨ret_ib HV.out.1.symm HV.out.2.symm, HA2.out⟩

set_option maxHeartbeats 1000000 in
theorem implCasts_any (s t : Sk) (n : Int) (w : World) :
    Calls Try.prog 44 #[.agg #[.int .i64 s.dep, .int .i64 s.lef, .int .i64 s.fac, .int .i64 s.rig, .int .i64 s.foo], .agg #[.int .i64 t.dep, .int .i64 t.lef, .int .i64 t.fac, .int .i64 t.rig, .int .i64 t.foo], .int .i64 n] w fun e w' => e = .returned (.tuple #[.int .i64 (castsV s t n), .bool (castsB s t n)]) ∧ Below w.heap.size w w' := by
  have HX : Hid (SkAt ((w.alloc (.cells #[.int .i64 s.dep, .int .i64 s.lef, .int .i64 s.fac, .int .i64 s.rig, .int .i64 s.foo] 25)).alloc (.cells #[.int .i64 t.dep, .int .i64 t.lef, .int .i64 t.fac, .int .i64 t.rig, .int .i64 t.foo] 25)) w.heap.size 25 s) := Lib.hid ((SkAt.new w _ s).alloc _)
  have HY : Hid (SkAt ((w.alloc (.cells #[.int .i64 s.dep, .int .i64 s.lef, .int .i64 s.fac, .int .i64 s.rig, .int .i64 s.foo] 25)).alloc (.cells #[.int .i64 t.dep, .int .i64 t.lef, .int .i64 t.fac, .int .i64 t.rig, .int .i64 t.foo] 25)) (w.heap.size + 1) 25 t) := Lib.hid (heap_alloc2_new _ _ _)
  have HA : Hid (Below w.heap.size w ((w.alloc (.cells #[.int .i64 s.dep, .int .i64 s.lef, .int .i64 s.fac, .int .i64 s.rig, .int .i64 s.foo] 25)).alloc (.cells #[.int .i64 t.dep, .int .i64 t.lef, .int .i64 t.fac, .int .i64 t.rig, .int .i64 t.foo] 25))) := Lib.hid (((Below.refl _ _).alloc (Nat.le_refl _) _).alloc (by simp) _)
  go_enter Try.func44, Try.ntmps44
  go_wp2_with fail
  refine (implIsStrike_any s _).mono ?_
  rintro e w1 ⟨rfl, hb1⟩
  have HA1 : Hid (Below w.heap.size w w1) := Lib.hid (HA.out.trans (hb1.mono HA.out.size))
  have HX1 := Lib.hid (HX.out.next hb1)
  have HY1 := Lib.hid (HY.out.next hb1)
  obtain ⟨y0, y1, y2, y3, y4⟩ := HY1.out.cells
  have hyl := HY1.out.lt
  clear hb1 HX HY HA
  cases hg : goodB s
  · have HV : Hid (castsV s t n = 0 ∧ castsB s t n = false) := Lib.hid (casts_no (by unfold castsB askB; rw [hg]; rfl))
    clear hg
    go_wp2
    go_ret2
    exact ⟨ret_ib HV.out.1.symm HV.out.2.symm, HA1.out⟩
  have HG := Lib.hid hg; clear hg
  go_wp2_with fail
  refine (implIsStrike_any t _).mono ?_
  rintro e w2 ⟨rfl, hb2⟩
  have HA2 : Hid (Below w.heap.size w w2) := Lib.hid (HA1.out.trans (hb2.mono HA1.out.size))
  have HX2 := Lib.hid (HX1.out.next hb2)
  have HY2 := Lib.hid (HY1.out.next hb2)
  clear hb2 HX1 HY1 HA1 y0 y1 y2 y3 y4 hyl
  obtain ⟨y0, y1, y2, y3, y4⟩ := HY2.out.cells
  obtain ⟨x0, x1, x2, x3, x4⟩ := HX2.out.cells
  have hyl := HY2.out.lt; have hxl := HX2.out.lt
  cases hh : goodB t
  · have HV : Hid (castsV s t n = 0 ∧ castsB s t n = false) := Lib.hid (casts_no (by unfold castsB askB; rw [HG.out, hh]; rfl))
    clear hh
    go_wp2
    go_ret2
    exact ⟨ret_ib HV.out.1.symm HV.out.2.symm, HA2.out⟩
  have HH := Lib.hid hh; clear hh
  go_wp2_with fail
  refine (tolerance_any _ _).mono ?_
  rintro e w' ⟨rfl, rfl⟩
  cases hi : inB 0 999 n
  · have HV : Hid (castsV s t n = 0 ∧ castsB s t n = false) := Lib.hid (casts_no (by unfold castsB askB; rw [HG.out, HH.out, hi]; rfl))
    clear hi
    go_wp2
    go_ret2
    exact ⟨ret_ib HV.out.1.symm HV.out.2.symm, HA2.out⟩
  have HI := Lib.hid hi
  have hn : 0 ≤ n ∧ n ≤ 999 := by simpa [inB] using hi
  obtain ⟨n1, n2⟩ := hn
  obtain ⟨⟨bs1, bs2⟩, _⟩ := good_bounds HG.out
  obtain ⟨⟨bt1, bt2⟩, _⟩ := good_bounds HH.out
  clear hi
  by_cases hd : t.dep + n - s.dep < 0
  · have HV : Hid (castsV s t n = 0 ∧ castsB s t n = false) := Lib.hid (casts_no (by unfold castsB askB; rw [HG.out, HH.out, HI.out]; simp; omega))
    go_wp2
    go_ret2
    exact ⟨ret_ib HV.out.1.symm HV.out.2.symm, HA2.out⟩
  · have HV : Hid (castsV s t n = min ((t.dep + n - s.dep + 1) * 1000 - 1) 1000000 ∧ castsB s t n = true) := by
      have h := casts_yes (s := s) (t := t) (n := n) (by unfold castsB askB; rw [HG.out, HH.out, HI.out]; simp; omega)
      exact Lib.hid ⟨h.1.trans (by omega), h.2⟩
    have hd' : 0 ≤ t.dep + n - s.dep := by omega
    go_wp2
    go_ret2
    exact ⟨ret_ib HV.out.1.symm HV.out.2.symm, HA2.out⟩
end Go.Proofs.Ytbbaphhkdhdelaa

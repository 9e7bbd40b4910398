/-
  The contract of CentreStrike, in spec and in impl: it answers what the plain words here say and changes nothing that was there.
-/
import Derived.Test.YtbbaphhkdhdelaaWid
namespace Go.Proofs.Ytbbaphhkdhdelaa
open Go.RowKit
set_option linter.unusedVariables false

def zSk : Sk := ⟨0, 0, 0, 0, 0⟩
def midK (s : Sk) (m : Int) : Sk := ⟨s.dep, m, s.fac, m, s.foo⟩
def centreV (s : Sk) : Sk := if goodB s then midK s (if s.lef < s.rig then s.lef else s.rig) else zSk

set_option maxRecDepth 100000 in
set_option maxHeartbeats 1000000 in
theorem specCentre_any (s : Sk) (w : World) :
    Calls Try.prog 39 #[.agg #[.int .i64 s.dep, .int .i64 s.lef, .int .i64 s.fac, .int .i64 s.rig, .int .i64 s.foo]] w fun e w' => e = .returned (.tuple #[.agg #[.int .i64 (centreV s).dep, .int .i64 (centreV s).lef, .int .i64 (centreV s).fac, .int .i64 (centreV s).rig, .int .i64 (centreV s).foo], .bool (goodB s)]) ∧ Below w.heap.size w w' := by
  have HX : Hid (SkAt ((w.alloc (.cells #[.int .i64 s.dep, .int .i64 s.lef, .int .i64 s.fac, .int .i64 s.rig, .int .i64 s.foo] 25)).alloc (.cells #[.int .i64 0, .int .i64 0, .int .i64 0, .int .i64 0, .int .i64 0] 25)) w.heap.size 25 s) := Lib.hid ((SkAt.new w _ s).alloc _)
  have HZ : Hid (SkAt ((w.alloc (.cells #[.int .i64 s.dep, .int .i64 s.lef, .int .i64 s.fac, .int .i64 s.rig, .int .i64 s.foo] 25)).alloc (.cells #[.int .i64 0, .int .i64 0, .int .i64 0, .int .i64 0, .int .i64 0] 25)) (w.heap.size + 1) 25 zSk) := Lib.hid (heap_alloc2_new _ _ _)
  have HA : Hid (Below w.heap.size w ((w.alloc (.cells #[.int .i64 s.dep, .int .i64 s.lef, .int .i64 s.fac, .int .i64 s.rig, .int .i64 s.foo] 25)).alloc (.cells #[.int .i64 0, .int .i64 0, .int .i64 0, .int .i64 0, .int .i64 0] 25))) := Lib.hid (((Below.refl _ _).alloc (Nat.le_refl _) _).alloc (by simp) _)
  go_enter Try.func39, Try.ntmps39
  go_wp2_with fail
  refine (maGood_any s _).mono ?_
  rintro e w1 ⟨rfl, hb⟩
  have HB : Hid (Below w.heap.size w w1) := Lib.hid (HA.out.trans (hb.mono HA.out.size))
  have hx := HX.out.next hb
  have hz := HZ.out.next hb
  obtain ⟨h0, h1, h2, h3, h4⟩ := hx.cells
  have hf0 := hx.free 0; have hf1 := hx.free 1; have hf2 := hx.free 2; have hf3 := hx.free 3; have hf4 := hx.free 4
  obtain ⟨z0, z1, z2, z3, z4⟩ := hz.cells
  simp only [zSk] at z0 z1 z2 z3 z4
  have zf0 := hz.free 0; have zf1 := hz.free 1; have zf2 := hz.free 2; have zf3 := hz.free 3; have zf4 := hz.free 4
  have hbl := hz.lt
  have hbl' : w.heap.size < w1.heap.size := by omega
  clear hb hx hz
  cases hg : goodB s
  · have HV : Hid (centreV s = zSk) := by show _ = _; unfold centreV; rw [hg]; rfl
    have HG := Lib.hid hg; clear hg
    go_wp2
    refine bodyPost_ret (v := .tuple #[.agg #[.int .i64 zSk.dep, .int .i64 zSk.lef, .int .i64 zSk.fac, .int .i64 zSk.rig, .int .i64 zSk.foo], .bool false]) (by simp [results, Try.results39, go_sem, z0, z1, z2, z3, z4, zf0, zf1, zf2, zf3, zf4, h0, h1, h2, h3, h4, hf0, hf1, hf2, hf3, hf4, zSk, midK]) rfl ⟨ret_kb (a := zSk) (a' := centreV s) HV.out.symm HG.out.symm, by repeat (first | (with_reducible exact HB.out) | (refine Below.setCell ?_ (by first | (simp; done) | (simp; omega)) _))⟩
  · have HV : Hid (centreV s = midK s (if s.lef < s.rig then s.lef else s.rig)) := by show _ = _; unfold centreV; rw [hg]; rfl
    have HG := Lib.hid hg; clear hg
    go_wp2_with fail
    refine (l1Least_any _ _ _).mono ?_
    rintro e w' ⟨rfl, rfl⟩
    generalize (if s.lef < s.rig then s.lef else s.rig) = m at *
    go_wp2
    refine bodyPost_ret (v := .tuple #[.agg #[.int .i64 (midK s m).dep, .int .i64 (midK s m).lef, .int .i64 (midK s m).fac, .int .i64 (midK s m).rig, .int .i64 (midK s m).foo], .bool true]) (by simp [results, Try.results39, go_sem, z0, z1, z2, z3, z4, zf0, zf1, zf2, zf3, zf4, h0, h1, h2, h3, h4, hf0, hf1, hf2, hf3, hf4, zSk, midK]) rfl ⟨ret_kb (a := (midK s m)) (a' := centreV s) HV.out.symm HG.out.symm, by repeat (first | (with_reducible exact HB.out) | (refine Below.setCell ?_ (by first | (simp; done) | (simp; omega)) _))⟩

set_option maxRecDepth 100000 in
set_option maxHeartbeats 1000000 in
theorem implCentre_any (s : Sk) (w : World) :
    Calls Try.prog 40 #[.agg #[.int .i64 s.dep, .int .i64 s.lef, .int .i64 s.fac, .int .i64 s.rig, .int .i64 s.foo]] w fun e w' => e = .returned (.tuple #[.agg #[.int .i64 (centreV s).dep, .int .i64 (centreV s).lef, .int .i64 (centreV s).fac, .int .i64 (centreV s).rig, .int .i64 (centreV s).foo], .bool (goodB s)]) ∧ Below w.heap.size w w' := by
  have HX : Hid (SkAt ((w.alloc (.cells #[.int .i64 s.dep, .int .i64 s.lef, .int .i64 s.fac, .int .i64 s.rig, .int .i64 s.foo] 25)).alloc (.cells #[.int .i64 0, .int .i64 0, .int .i64 0, .int .i64 0, .int .i64 0] 25)) w.heap.size 25 s) := Lib.hid ((SkAt.new w _ s).alloc _)
  have HZ : Hid (SkAt ((w.alloc (.cells #[.int .i64 s.dep, .int .i64 s.lef, .int .i64 s.fac, .int .i64 s.rig, .int .i64 s.foo] 25)).alloc (.cells #[.int .i64 0, .int .i64 0, .int .i64 0, .int .i64 0, .int .i64 0] 25)) (w.heap.size + 1) 25 zSk) := Lib.hid (heap_alloc2_new _ _ _)
  have HA : Hid (Below w.heap.size w ((w.alloc (.cells #[.int .i64 s.dep, .int .i64 s.lef, .int .i64 s.fac, .int .i64 s.rig, .int .i64 s.foo] 25)).alloc (.cells #[.int .i64 0, .int .i64 0, .int .i64 0, .int .i64 0, .int .i64 0] 25))) := Lib.hid (((Below.refl _ _).alloc (Nat.le_refl _) _).alloc (by simp) _)
  go_enter Try.func40, Try.ntmps40
  go_wp2_with fail
  refine (implIsStrike_any s _).mono ?_
  rintro e w1 ⟨rfl, hb⟩
  have HB : Hid (Below w.heap.size w w1) := Lib.hid (HA.out.trans (hb.mono HA.out.size))
  have hx := HX.out.next hb
  have hz := HZ.out.next hb
  obtain ⟨h0, h1, h2, h3, h4⟩ := hx.cells
  have hf0 := hx.free 0; have hf1 := hx.free 1; have hf2 := hx.free 2; have hf3 := hx.free 3; have hf4 := hx.free 4
  obtain ⟨z0, z1, z2, z3, z4⟩ := hz.cells
  simp only [zSk] at z0 z1 z2 z3 z4
  have zf0 := hz.free 0; have zf1 := hz.free 1; have zf2 := hz.free 2; have zf3 := hz.free 3; have zf4 := hz.free 4
  have hbl := hz.lt
  have hbl' : w.heap.size < w1.heap.size := by omega
  clear hb hx hz
  cases hg : goodB s
  · have HV : Hid (centreV s = zSk) := by show _ = _; unfold centreV; rw [hg]; rfl
    have HG := Lib.hid hg; clear hg
    go_wp2
    refine bodyPost_ret (v := .tuple #[.agg #[.int .i64 zSk.dep, .int .i64 zSk.lef, .int .i64 zSk.fac, .int .i64 zSk.rig, .int .i64 zSk.foo], .bool false]) (by simp [results, Try.results40, go_sem, z0, z1, z2, z3, z4, zf0, zf1, zf2, zf3, zf4, h0, h1, h2, h3, h4, hf0, hf1, hf2, hf3, hf4, zSk, midK]) rfl ⟨ret_kb (a := zSk) (a' := centreV s) HV.out.symm HG.out.symm, by repeat (first | (with_reducible exact HB.out) | (refine Below.setCell ?_ (by first | (simp; done) | (simp; omega)) _))⟩
  · have HV : Hid (centreV s = midK s (min s.lef s.rig)) := by show _ = _; unfold centreV; rw [hg, if_pos rfl]; congr 1; split <;> omega
    have HG := Lib.hid hg; clear hg
    go_wp2
    generalize min s.lef s.rig = m at *
    refine bodyPost_ret (v := .tuple #[.agg #[.int .i64 (midK s m).dep, .int .i64 (midK s m).lef, .int .i64 (midK s m).fac, .int .i64 (midK s m).rig, .int .i64 (midK s m).foo], .bool true]) (by simp [results, Try.results40, go_sem, z0, z1, z2, z3, z4, zf0, zf1, zf2, zf3, zf4, h0, h1, h2, h3, h4, hf0, hf1, hf2, hf3, hf4, zSk, midK]) rfl ⟨ret_kb (a := (midK s m)) (a' := centreV s) HV.out.symm HG.out.symm, by repeat (first | (with_reducible exact HB.out) | (refine Below.setCell ?_ (by first | (simp; done) | (simp; omega)) _))⟩
end Go.Proofs.Ytbbaphhkdhdelaa

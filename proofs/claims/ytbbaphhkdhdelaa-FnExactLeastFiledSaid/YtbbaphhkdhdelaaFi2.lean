/-
  The contracts of FilingsFor, in spec and in impl: each answers what the plain words here say and changes nothing that was there.
-/
import Derived.Test.YtbbaphhkdhdelaaFil
namespace Go.Proofs.Ytbbaphhkdhdelaa
open Go.RowKit
set_option linter.unusedVariables false

def filL (s t : Sk) : List Int := if canV s t then difL s t else []
theorem filL_len (s t : Sk) : (filL s t).length ≤ 5 := by unfold filL; split <;> simp [difL_len]
def FilTo (w : World) (e : Ending) (w' : World) (L : List Int) (B : Bool) : Prop := ∃ v T, e = .returned (.tuple #[v, .bool B]) ∧ Below w.heap.size w w' ∧ w'.ownsRow w.heap.size T 1 v L.length (intsZ L)
theorem FilTo.no {w w' : World} {L : List Int} {B : Bool} (h : L = [] ∧ B = false) (hb : Below w.heap.size w w') : FilTo w (.returned (.tuple #[.slice none 0 0, .bool false])) w' L B := by
  obtain ⟨rfl, rfl⟩ := h
  exact ⟨_, 0, rfl, hb, own_nil _ _ _ _⟩
theorem FilTo.yes {w w' : World} {L M : List Int} {B : Bool} {v : Value} {T : TypeId} (h : L = M ∧ B = true) (hb : Below w.heap.size w w') (ho : w'.ownsRow w.heap.size T 1 v M.length (intsZ M)) : FilTo w (.returned (.tuple #[v, .bool true])) w' L B := by
  obtain ⟨rfl, rfl⟩ := h
  exact ⟨_, _, rfl, hb, ho⟩
theorem fil_no {s t : Sk} (h : canV s t = false) : filL s t = [] ∧ canV s t = false := ⟨by unfold filL; rw [h]; rfl, h⟩
theorem fil_yes {s t : Sk} (h : canV s t = true) : filL s t = difL s t ∧ canV s t = true := ⟨by unfold filL; rw [h]; rfl, h⟩
theorem Own.five {w : World} {b base : Nat} {T : TypeId} {s : Sk} (h : SkAt w b T s) (hb : base ≤ b) : w.ownsRow base T 1 (.slice (some ⟨b, 0, none⟩) 5 5) s.zs.length (intsZ s.zs) :=
  ⟨by simp [intsZ], .inr ⟨b, 5, _, rfl, hb, h, by simp [Sk.zs], by decide, rfl, rfl⟩⟩

set_option maxHeartbeats 1000000 in
theorem specFil_any (s t : Sk) (w : World) :
    Calls Try.prog 19 #[.agg #[.int .i64 s.dep, .int .i64 s.lef, .int .i64 s.fac, .int .i64 s.rig, .int .i64 s.foo], .agg #[.int .i64 t.dep, .int .i64 t.lef, .int .i64 t.fac, .int .i64 t.rig, .int .i64 t.foo]] w fun e w' => FilTo w e w' (filL s t) (canV s t) := by
  have HX : Hid (SkAt ((w.alloc (.cells #[.int .i64 s.dep, .int .i64 s.lef, .int .i64 s.fac, .int .i64 s.rig, .int .i64 s.foo] 25)).alloc (.cells #[.int .i64 t.dep, .int .i64 t.lef, .int .i64 t.fac, .int .i64 t.rig, .int .i64 t.foo] 25)) w.heap.size 25 s) := Lib.hid ((SkAt.new w _ s).alloc _)
  have HY : Hid (SkAt ((w.alloc (.cells #[.int .i64 s.dep, .int .i64 s.lef, .int .i64 s.fac, .int .i64 s.rig, .int .i64 s.foo] 25)).alloc (.cells #[.int .i64 t.dep, .int .i64 t.lef, .int .i64 t.fac, .int .i64 t.rig, .int .i64 t.foo] 25)) (w.heap.size + 1) 25 t) := Lib.hid (heap_alloc2_new _ _ _)
  have HA : Hid (Below w.heap.size w ((w.alloc (.cells #[.int .i64 s.dep, .int .i64 s.lef, .int .i64 s.fac, .int .i64 s.rig, .int .i64 s.foo] 25)).alloc (.cells #[.int .i64 t.dep, .int .i64 t.lef, .int .i64 t.fac, .int .i64 t.rig, .int .i64 t.foo] 25))) := Lib.hid (((Below.refl _ _).alloc (Nat.le_refl _) _).alloc (by simp) _)
  go_enter Try.func19, Try.ntmps19
  go_wp2_with fail
  refine (maGood_any s _).mono ?_
  rintro e w1 ⟨rfl, hb1⟩
  have HA1 : Hid (Below w.heap.size w w1) := Lib.hid (HA.out.trans (hb1.mono HA.out.size))
  have HX1 := Lib.hid (HX.out.next hb1)
  have HY1 := Lib.hid (HY.out.next hb1)
  obtain ⟨y0, y1, y2, y3, y4⟩ := HY1.out.cells
  have hyl := HY1.out.lt
  clear hb1 HX HY HA
  cases hg : goodB s
  · have HV : Hid (filL s t = [] ∧ canV s t = false) := Lib.hid (fil_no (by unfold canV askB; rw [hg]; rfl))
    clear hg
    go_wp2
    go_ret2
    exact FilTo.no HV.out HA1.out
  have HG := Lib.hid hg; clear hg
  go_wp2_with fail
  refine (maGood_any t _).mono ?_
  rintro e w2 ⟨rfl, hb2⟩
  have HA2 : Hid (Below w.heap.size w w2) := Lib.hid (HA1.out.trans (hb2.mono HA1.out.size))
  have HX2 := Lib.hid (HX1.out.next hb2)
  have HY2 := Lib.hid (HY1.out.next hb2)
  clear hb2 HX1 HY1 HA1 y0 y1 y2 y3 y4 hyl
  obtain ⟨y0, y1, y2, y3, y4⟩ := HY2.out.cells
  obtain ⟨x0, x1, x2, x3, x4⟩ := HX2.out.cells
  have hyl := HY2.out.lt; have hxl := HX2.out.lt
  cases hh : goodB t
  · have HV : Hid (filL s t = [] ∧ canV s t = false) := Lib.hid (fil_no (by unfold canV askB; rw [HG.out, hh]; rfl))
    clear hh
    go_wp2
    go_ret2
    exact FilTo.no HV.out HA2.out
  have HH := Lib.hid hh; clear hh
  go_wp2_with fail
  refine (maCan_any s t _).mono ?_
  rintro e w3 ⟨rfl, hb3⟩
  have HA3 : Hid (Below w.heap.size w w3) := Lib.hid (HA2.out.trans (hb3.mono HA2.out.size))
  have HX3 := Lib.hid (HX2.out.next hb3)
  have HY3 := Lib.hid (HY2.out.next hb3)
  clear hb3 HX2 HY2 HA2 y0 y1 y2 y3 y4 hyl x0 x1 x2 x3 x4 hxl
  obtain ⟨y0, y1, y2, y3, y4⟩ := HY3.out.cells
  obtain ⟨x0, x1, x2, x3, x4⟩ := HX3.out.cells
  have hyl := HY3.out.lt; have hxl := HX3.out.lt
  cases hc : canB s t
  · have HV : Hid (filL s t = [] ∧ canV s t = false) := Lib.hid (fil_no (by unfold canV askB; rw [HG.out, HH.out, hc]; rfl))
    clear hc
    go_wp2
    go_ret2
    exact FilTo.no HV.out HA3.out
  have HV : Hid (filL s t = difL s t ∧ canV s t = true) := Lib.hid (fil_yes (by unfold canV askB; rw [HG.out, HH.out, hc]; rfl))
  clear hc
  go_wp2_with fail
  refine (maFilings_any s t _ HG.out HH.out).mono ?_
  rintro e w4 ⟨v, rfl, hb4, ho4⟩
  have HA4 : Hid (Below w.heap.size w w4) := Lib.hid (HA3.out.trans (hb4.mono HA3.out.size))
  have HO4 := Lib.hid (Joins.ownsRow_le ho4 HA3.out.size)
  clear hb4 ho4
  go_wp2
  go_ret2
  exact FilTo.yes HV.out HA4.out HO4.out

set_option maxHeartbeats 1000000 in
theorem implFil_any (s t : Sk) (w : World) :
    Calls Try.prog 20 #[.agg #[.int .i64 s.dep, .int .i64 s.lef, .int .i64 s.fac, .int .i64 s.rig, .int .i64 s.foo], .agg #[.int .i64 t.dep, .int .i64 t.lef, .int .i64 t.fac, .int .i64 t.rig, .int .i64 t.foo]] w fun e w' => FilTo w e w' (filL s t) (canV s t) := by
  have HX : Hid (SkAt ((w.alloc (.cells #[.int .i64 s.dep, .int .i64 s.lef, .int .i64 s.fac, .int .i64 s.rig, .int .i64 s.foo] 25)).alloc (.cells #[.int .i64 t.dep, .int .i64 t.lef, .int .i64 t.fac, .int .i64 t.rig, .int .i64 t.foo] 25)) w.heap.size 25 s) := Lib.hid ((SkAt.new w _ s).alloc _)
  have HY : Hid (SkAt ((w.alloc (.cells #[.int .i64 s.dep, .int .i64 s.lef, .int .i64 s.fac, .int .i64 s.rig, .int .i64 s.foo] 25)).alloc (.cells #[.int .i64 t.dep, .int .i64 t.lef, .int .i64 t.fac, .int .i64 t.rig, .int .i64 t.foo] 25)) (w.heap.size + 1) 25 t) := Lib.hid (heap_alloc2_new _ _ _)
  have HA : Hid (Below w.heap.size w ((w.alloc (.cells #[.int .i64 s.dep, .int .i64 s.lef, .int .i64 s.fac, .int .i64 s.rig, .int .i64 s.foo] 25)).alloc (.cells #[.int .i64 t.dep, .int .i64 t.lef, .int .i64 t.fac, .int .i64 t.rig, .int .i64 t.foo] 25))) := Lib.hid (((Below.refl _ _).alloc (Nat.le_refl _) _).alloc (by simp) _)
  go_enter Try.func20, Try.ntmps20
  go_wp2_with fail
  refine (implIsStrike_any s _).mono ?_
  rintro e w1 ⟨rfl, hb1⟩
  have HA1 : Hid (Below w.heap.size w w1) := Lib.hid (HA.out.trans (hb1.mono HA.out.size))
  have HX1 := Lib.hid (HX.out.next hb1)
  have HY1 := Lib.hid (HY.out.next hb1)
  obtain ⟨y0, y1, y2, y3, y4⟩ := HY1.out.cells
  have hyl := HY1.out.lt
  clear hb1 HX HY HA
  cases hg : goodB s
  · have HV : Hid (filL s t = [] ∧ canV s t = false) := Lib.hid (fil_no (by unfold canV askB; rw [hg]; rfl))
    clear hg
    go_wp2
    go_ret2
    exact FilTo.no HV.out HA1.out
  have HG := Lib.hid hg; clear hg
  go_wp2_with fail
  refine (implIsStrike_any t _).mono ?_
  rintro e w2 ⟨rfl, hb2⟩
  have HA2 : Hid (Below w.heap.size w w2) := Lib.hid (HA1.out.trans (hb2.mono HA1.out.size))
  have HX2 := Lib.hid (HX1.out.next hb2)
  have HY2 := Lib.hid (HY1.out.next hb2)
  clear hb2 HX1 HY1 HA1 y0 y1 y2 y3 y4 hyl
  obtain ⟨y0, y1, y2, y3, y4⟩ := HY2.out.cells
  obtain ⟨x0, x1, x2, x3, x4⟩ := HX2.out.cells
  have hyl := HY2.out.lt; have hxl := HX2.out.lt
  cases hh : goodB t
  · have HV : Hid (filL s t = [] ∧ canV s t = false) := Lib.hid (fil_no (by unfold canV askB; rw [HG.out, hh]; rfl))
    clear hh
    go_wp2
    go_ret2
    exact FilTo.no HV.out HA2.out
  have HH := Lib.hid hh; clear hh
  go_wp2_with fail
  refine (isJustifiable_any s t _).mono ?_
  rintro e w3 ⟨rfl, hb3⟩
  have HA3 : Hid (Below w.heap.size w w3) := Lib.hid (HA2.out.trans (hb3.mono HA2.out.size))
  have HX3 := Lib.hid (HX2.out.next hb3)
  have HY3 := Lib.hid (HY2.out.next hb3)
  clear hb3 HX2 HY2 HA2 y0 y1 y2 y3 y4 hyl x0 x1 x2 x3 x4 hxl
  obtain ⟨y0, y1, y2, y3, y4⟩ := HY3.out.cells
  obtain ⟨x0, x1, x2, x3, x4⟩ := HX3.out.cells
  have hyl := HY3.out.lt; have hxl := HX3.out.lt
  cases hc : canB s t
  · have HV : Hid (filL s t = [] ∧ canV s t = false) := Lib.hid (fil_no (by unfold canV askB; rw [HG.out, HH.out, hc]; rfl))
    clear hc
    go_wp2
    go_ret2
    exact FilTo.no HV.out HA3.out
  have HV : Hid (filL s t = difL s t ∧ canV s t = true) := Lib.hid (fil_yes (by unfold canV askB; rw [HG.out, HH.out, hc]; rfl))
  clear hc
  go_wp2_with fail
  refine (partDiff_any s t _ HG.out HH.out).mono ?_
  rintro e w4 ⟨rfl, hb4⟩
  have HA4 : Hid (Below w.heap.size w w4) := Lib.hid (HA3.out.trans (hb4.mono HA3.out.size))
  have HA5 : Hid (Below w.heap.size w (w4.alloc (.cells #[.int .i64 (difK s t).dep, .int .i64 (difK s t).lef, .int .i64 (difK s t).fac, .int .i64 (difK s t).rig, .int .i64 (difK s t).foo] 60))) := Lib.hid (HA4.out.alloc HA4.out.size _)
  have HO5 : Hid ((w4.alloc (.cells #[.int .i64 (difK s t).dep, .int .i64 (difK s t).lef, .int .i64 (difK s t).fac, .int .i64 (difK s t).rig, .int .i64 (difK s t).foo] 60)).ownsRow w.heap.size 60 1 (.slice (some ⟨w4.heap.size, 0, none⟩) 5 5) (difL s t).length (intsZ (difL s t))) := by
    show World.ownsRow _ _ _ _ _ _ _
    rw [difK_zs]
    exact Own.five (SkAt.new _ _ _) HA4.out.size
  clear hb4
  generalize difK s t = m at *
  go_wp2
  go_ret2
  exact FilTo.yes HV.out HA5.out HO5.out
end Go.Proofs.Ytbbaphhkdhdelaa

/-
  The contracts of impl.isJustifiable, CanBeJustified (spec and impl): each answers what the plain words here say and changes nothing that was there.
-/
import Derived.Test.YtbbaphhkdhdelaaCan
namespace Go.Proofs.Ytbbaphhkdhdelaa
open Go.RowKit
set_option linter.unusedVariables false

theorem infoI : (Try.prog.info? 3).map (fun i => (i.zero, i.size, i.bytes)) = some (some (.int .i64 0), 1, 8) := by kernel_rfl
theorem cellsI : Try.prog.cellsOf 3 = 1 := by kernel_rfl
theorem run_items5 (d : Nat) (s t : Sk) (w : World) : (Op.eqItems (d + 1) 3 1 #[.int .i64 s.dep, .int .i64 s.lef, .int .i64 s.fac, .int .i64 s.rig, .int .i64 s.foo] #[.int .i64 t.dep, .int .i64 t.lef, .int .i64 t.fac, .int .i64 t.rig, .int .i64 t.foo] (List.range 5)).run Try.prog w = .ok (decide (s = t)) w := by
  obtain ⟨a0, a1, a2, a3, a4⟩ := s
  obtain ⟨b0, b1, b2, b3, b4⟩ := t
  have e : List.range 5 = [0, 1, 2, 3, 4] := rfl
  rw [e]
  have hq : ∀ x y : Int, (Op.equalIn (d + 1) 3 (.int .i64 x) (.int .i64 y)).run Try.prog w = .ok (x == y) w := fun x y => run_equalIn_int (P := Try.prog) w d 3 .i64 .i64 x y Try.underlying3
  have hp : ∀ (c0 c1 c2 c3 c4 : Int) (j : Nat) (hj : j < 5), (part 3 #[.int .i64 c0, .int .i64 c1, .int .i64 c2, .int .i64 c3, .int .i64 c4] j).run Try.prog w = .ok (.int .i64 ([c0, c1, c2, c3, c4].getD j 0)) w := by
    intro c0 c1 c2 c3 c4 j hj
    have hc : j = 0 ∨ j = 1 ∨ j = 2 ∨ j = 3 ∨ j = 4 := by omega
    rcases hc with rfl | rfl | rfl | rfl | rfl <;> simp [part, Sem.run_bind]
  simp only [Op.eqItems, Nat.zero_mul, Nat.one_mul, Nat.mul_one, Sem.run_bind, hp _ _ _ _ _ 0 (by omega), hp _ _ _ _ _ 1 (by omega), hp _ _ _ _ _ 2 (by omega), hp _ _ _ _ _ 3 (by omega), hp _ _ _ _ _ 4 (by omega), Result.andThen_ok, hq, Sem.run_ite, Sem.run_pure]
  simp
  by_cases h0 : a0 = b0 <;> by_cases h1 : a1 = b1 <;> by_cases h2 : a2 = b2 <;> by_cases h3 : a3 = b3 <;> by_cases h4 : a4 = b4 <;> simp [h0, h1, h2, h3, h4]
theorem run_eql5 (s t : Sk) (w : World) : (binOp .eql 62 (.agg #[.int .i64 s.dep, .int .i64 s.lef, .int .i64 s.fac, .int .i64 s.rig, .int .i64 s.foo]) (.agg #[.int .i64 t.dep, .int .i64 t.lef, .int .i64 t.fac, .int .i64 t.rig, .int .i64 t.foo])).run Try.prog w = .ok (.bool (decide (s = t))) w := by
  obtain ⟨i0, hi, hz0, hz1, hz2⟩ := info_parts infoI
  have h1 := run_eql_struct (P := Try.prog) w 62 #[.int .i64 s.dep, .int .i64 s.lef, .int .i64 s.fac, .int .i64 s.rig, .int .i64 s.foo] #[.int .i64 t.dep, .int .i64 t.lef, .int .i64 t.fac, .int .i64 t.rig, .int .i64 t.foo]
  have h2 := run_equalIn_struct (P := Try.prog) w 9999 62 #[.int .i64 s.dep, .int .i64 s.lef, .int .i64 s.fac, .int .i64 s.rig, .int .i64 s.foo] #[.int .i64 t.dep, .int .i64 t.lef, .int .i64 t.fac, .int .i64 t.rig, .int .i64 t.foo] (by kernel_rfl) (by kernel_rfl)
  have h3 := run_equalIn_array (P := Try.prog) (w := w) 9998 #[.int .i64 s.dep, .int .i64 s.lef, .int .i64 s.fac, .int .i64 s.rig, .int .i64 s.foo] #[.int .i64 t.dep, .int .i64 t.lef, .int .i64 t.fac, .int .i64 t.rig, .int .i64 t.foo] Try.underlying60 hi
  rw [cellsI, run_items5] at h3
  have hp : ∀ u : Sk, (part 60 #[.int .i64 u.dep, .int .i64 u.lef, .int .i64 u.fac, .int .i64 u.rig, .int .i64 u.foo] 0).run Try.prog w = .ok (.agg #[.int .i64 u.dep, .int .i64 u.lef, .int .i64 u.fac, .int .i64 u.rig, .int .i64 u.foo]) w := fun u => by kernel_rfl
  rw [h1, h2]
  simp only [Program.fieldsOf, Try.underlying62, Op.eqFields]
  simp [Sem.run_bind, hp, h3]
  by_cases h : s = t <;> simp [h]

set_option maxRecDepth 100000 in
set_option maxHeartbeats 1000000 in
theorem isJustifiable_any (s t : Sk) (w : World) :
    Calls Try.prog 49 #[.agg #[.int .i64 s.dep, .int .i64 s.lef, .int .i64 s.fac, .int .i64 s.rig, .int .i64 s.foo], .agg #[.int .i64 t.dep, .int .i64 t.lef, .int .i64 t.fac, .int .i64 t.rig, .int .i64 t.foo]] w fun e w' => e = .returned (.bool (canB s t)) ∧ Below w.heap.size w w' := by
  have HX : Hid (SkAt ((w.alloc (.cells #[.int .i64 s.dep, .int .i64 s.lef, .int .i64 s.fac, .int .i64 s.rig, .int .i64 s.foo] 25)).alloc (.cells #[.int .i64 t.dep, .int .i64 t.lef, .int .i64 t.fac, .int .i64 t.rig, .int .i64 t.foo] 25)) w.heap.size 25 s) := Lib.hid ((SkAt.new w _ s).alloc _)
  have HY : Hid (SkAt ((w.alloc (.cells #[.int .i64 s.dep, .int .i64 s.lef, .int .i64 s.fac, .int .i64 s.rig, .int .i64 s.foo] 25)).alloc (.cells #[.int .i64 t.dep, .int .i64 t.lef, .int .i64 t.fac, .int .i64 t.rig, .int .i64 t.foo] 25)) (w.heap.size + 1) 25 t) := Lib.hid (heap_alloc2_new _ _ _)
  have HA : Hid (Below w.heap.size w ((w.alloc (.cells #[.int .i64 s.dep, .int .i64 s.lef, .int .i64 s.fac, .int .i64 s.rig, .int .i64 s.foo] 25)).alloc (.cells #[.int .i64 t.dep, .int .i64 t.lef, .int .i64 t.fac, .int .i64 t.rig, .int .i64 t.foo] 25))) := Lib.hid (((Below.refl _ _).alloc (Nat.le_refl _) _).alloc (by simp) _)
  have heq := run_eql5 (minK s t) t
  have HEQ := Lib.hid heq; clear heq
  go_enter Try.func49, Try.ntmps49
  go_wp2_with fail
  refine (numberParts_any t _).mono ?_
  rintro e w1 ⟨rfl, hb1⟩
  have HA1 : Hid (Below w.heap.size w w1) := Lib.hid (HA.out.trans (hb1.mono HA.out.size))
  have HX1 := Lib.hid (HX.out.next hb1)
  have HY1 := Lib.hid (HY.out.next hb1)
  clear hb1 HX HY HA
  obtain ⟨w2, hw2⟩ : ∃ x : World, x = w1.alloc (.cells #[.int .i64 t.dep, .int .i64 t.lef, .int .i64 t.fac, .int .i64 t.rig, .int .i64 t.foo] 62) := ⟨_, rfl⟩
  have HA2 : Hid (Below w.heap.size w w2) := by show Below _ _ _; rw [hw2]; exact HA1.out.alloc HA1.out.size _
  have hx2 : SkAt w2 w.heap.size 25 s := by rw [hw2]; exact HX1.out.alloc _
  have hy2 : SkAt w2 (w.heap.size + 1) 25 t := by rw [hw2]; exact HY1.out.alloc _
  have hn2 : SkAt w2 w1.heap.size 62 t := by rw [hw2]; exact SkAt.new _ _ _
  obtain ⟨x0, x1, x2, x3, x4⟩ := hx2.kept (B := w2.heap.size) hx2.lt
  obtain ⟨y0, y1, y2, y3, y4⟩ := hy2.kept (B := w2.heap.size) hy2.lt
  obtain ⟨n0, n1, n2, n3, n4⟩ := hn2.kept (B := w2.heap.size) hn2.lt
  have HW2 := Lib.hid hw2
  clear hx2 hy2 hn2 HA1 HX1 HY1 hw2
  by_cases hf : s.fac = t.fac
  · have hd : (s.fac == t.fac) = true := by simp [hf]
    have HC : Hid (canB s t = decide (minK s t = t)) := by show _ = _; unfold canB; rw [minK_eq, hd]; simp
    have HF := Lib.hid hf; clear hf
    go_wp2_with fail
    rw [← HW2.out]
    refine region_kept w2.heap.size (by kernel_rfl) (by kernel_rfl) ?_
    repeat (go_big_quiet_step (fail))
    go_big_quiet_step ((go_at_call 46; exact kept_call _ (Nat.le_refl _) (numberParts_any s _)))
    repeat (go_big_quiet_step (fail))
    go_big_quiet_step ((go_at_call 56; exact kept_call _ (Nat.le_refl _) (lesserParts_any s t _)))
    have heq := HEQ.out
    generalize minK s t = m at *
    repeat (go_big_quiet_step (fail))
    refine wpQuiet_nil ?_
    intro w3 hb3
    have HB := Lib.hid (HA2.out.trans (hb3.mono HA2.out.size))
    clear hb3 x0 x1 x2 x3 x4 y0 y1 y2 y3 y4 n0 n1 n2 n3 n4 heq HEQ
    go_wp2
    go_ret
    exact ⟨ret_bool HC.out.symm, HB.out⟩
  · have hd : (s.fac == t.fac) = false := by simp [hf]
    have HC : Hid (canB s t = false) := by show _ = _; unfold canB; rw [hd]; simp
    have HF := Lib.hid hf; clear hf
    go_wp2_with fail
    rw [← HW2.out]
    refine region_kept w2.heap.size (by kernel_rfl) (by kernel_rfl) ?_
    repeat (go_big_quiet_step (fail))
    refine wpQuiet_nil ?_
    intro w3 hb3
    have HB := Lib.hid (HA2.out.trans (hb3.mono HA2.out.size))
    clear hb3 x0 x1 x2 x3 x4 y0 y1 y2 y3 y4 n0 n1 n2 n3 n4 HEQ
    go_wp2
    go_ret
    exact ⟨ret_bool HC.out.symm, HB.out⟩

/-- Both are valid. -/
def askB (s t : Sk) : Bool := goodB s && goodB t
def canV (s t : Sk) : Bool := askB s t && canB s t
theorem specCan_any (s t : Sk) (w : World) :
    Calls Try.prog 24 #[.agg #[.int .i64 s.dep, .int .i64 s.lef, .int .i64 s.fac, .int .i64 s.rig, .int .i64 s.foo], .agg #[.int .i64 t.dep, .int .i64 t.lef, .int .i64 t.fac, .int .i64 t.rig, .int .i64 t.foo]] w fun e w' => e = .returned (.tuple #[.bool (canV s t), .bool (askB s t)]) ∧ Below w.heap.size w w' := by
  have HX : Hid (SkAt ((w.alloc (.cells #[.int .i64 s.dep, .int .i64 s.lef, .int .i64 s.fac, .int .i64 s.rig, .int .i64 s.foo] 25)).alloc (.cells #[.int .i64 t.dep, .int .i64 t.lef, .int .i64 t.fac, .int .i64 t.rig, .int .i64 t.foo] 25)) w.heap.size 25 s) := Lib.hid ((SkAt.new w _ s).alloc _)
  have HY : Hid (SkAt ((w.alloc (.cells #[.int .i64 s.dep, .int .i64 s.lef, .int .i64 s.fac, .int .i64 s.rig, .int .i64 s.foo] 25)).alloc (.cells #[.int .i64 t.dep, .int .i64 t.lef, .int .i64 t.fac, .int .i64 t.rig, .int .i64 t.foo] 25)) (w.heap.size + 1) 25 t) := Lib.hid (heap_alloc2_new _ _ _)
  have HA : Hid (Below w.heap.size w ((w.alloc (.cells #[.int .i64 s.dep, .int .i64 s.lef, .int .i64 s.fac, .int .i64 s.rig, .int .i64 s.foo] 25)).alloc (.cells #[.int .i64 t.dep, .int .i64 t.lef, .int .i64 t.fac, .int .i64 t.rig, .int .i64 t.foo] 25))) := Lib.hid (((Below.refl _ _).alloc (Nat.le_refl _) _).alloc (by simp) _)
  go_enter Try.func24, Try.ntmps24
  go_wp2_with fail
  refine (maGood_any s _).mono ?_
  rintro e w1 ⟨rfl, hb1⟩
  have HA1 : Hid (Below w.heap.size w w1) := Lib.hid (HA.out.trans (hb1.mono HA.out.size))
  have HX1 := Lib.hid (HX.out.next hb1)
  have HY1 := Lib.hid (HY.out.next hb1)
  obtain ⟨y0, y1, y2, y3, y4⟩ := HY1.out.cells
  have hyl := HY1.out.lt
  clear hb1 HX HY HA
  cases hg : goodB s
  · have HV : Hid (canV s t = false ∧ askB s t = false) := by show _ ∧ _; unfold canV askB; rw [hg]; exact ⟨rfl, rfl⟩
    clear hg
    go_wp2
    go_ret2
    exact ⟨ret_bb HV.out.1.symm HV.out.2.symm, HA1.out⟩
  · have HG := Lib.hid hg; clear hg
    go_wp2_with fail
    refine (maGood_any t _).mono ?_
    rintro e w2 ⟨rfl, hb2⟩
    have HA2 : Hid (Below w.heap.size w w2) := Lib.hid (HA1.out.trans (hb2.mono HA1.out.size))
    have HX2 := Lib.hid (HX1.out.next hb2)
    have HY2 := Lib.hid (HY1.out.next hb2)
    clear hb2 HX1 HY1 HA1 y0 y1 y2 y3 y4 hyl
    obtain ⟨y0, y1, y2, y3, y4⟩ := HY2.out.cells
    obtain ⟨x0, x1, x2, x3, x4⟩ := HX2.out.cells
    have hyl := HY2.out.lt; have hxl := HX2.out.lt
    cases hh : goodB t
    · have HV : Hid (canV s t = false ∧ askB s t = false) := by show _ ∧ _; unfold canV askB; rw [HG.out, hh]; exact ⟨rfl, rfl⟩
      clear hh
      go_wp2
      go_ret2
      exact ⟨ret_bb HV.out.1.symm HV.out.2.symm, HA2.out⟩
    · have HV : Hid (canV s t = canB s t ∧ askB s t = true) := by show _ ∧ _; unfold canV askB; rw [HG.out, hh]; exact ⟨rfl, rfl⟩
      clear hh
      go_wp2_with fail
      refine (maCan_any s t _).mono ?_
      rintro e w3 ⟨rfl, hb3⟩
      have HB := Lib.hid (HA2.out.trans (hb3.mono HA2.out.size))
      clear hb3
      go_wp2
      go_ret2
      exact ⟨ret_bb HV.out.1.symm HV.out.2.symm, HB.out⟩
theorem implCan_any (s t : Sk) (w : World) :
    Calls Try.prog 25 #[.agg #[.int .i64 s.dep, .int .i64 s.lef, .int .i64 s.fac, .int .i64 s.rig, .int .i64 s.foo], .agg #[.int .i64 t.dep, .int .i64 t.lef, .int .i64 t.fac, .int .i64 t.rig, .int .i64 t.foo]] w fun e w' => e = .returned (.tuple #[.bool (canV s t), .bool (askB s t)]) ∧ Below w.heap.size w w' := by
  have HX : Hid (SkAt ((w.alloc (.cells #[.int .i64 s.dep, .int .i64 s.lef, .int .i64 s.fac, .int .i64 s.rig, .int .i64 s.foo] 25)).alloc (.cells #[.int .i64 t.dep, .int .i64 t.lef, .int .i64 t.fac, .int .i64 t.rig, .int .i64 t.foo] 25)) w.heap.size 25 s) := Lib.hid ((SkAt.new w _ s).alloc _)
  have HY : Hid (SkAt ((w.alloc (.cells #[.int .i64 s.dep, .int .i64 s.lef, .int .i64 s.fac, .int .i64 s.rig, .int .i64 s.foo] 25)).alloc (.cells #[.int .i64 t.dep, .int .i64 t.lef, .int .i64 t.fac, .int .i64 t.rig, .int .i64 t.foo] 25)) (w.heap.size + 1) 25 t) := Lib.hid (heap_alloc2_new _ _ _)
  have HA : Hid (Below w.heap.size w ((w.alloc (.cells #[.int .i64 s.dep, .int .i64 s.lef, .int .i64 s.fac, .int .i64 s.rig, .int .i64 s.foo] 25)).alloc (.cells #[.int .i64 t.dep, .int .i64 t.lef, .int .i64 t.fac, .int .i64 t.rig, .int .i64 t.foo] 25))) := Lib.hid (((Below.refl _ _).alloc (Nat.le_refl _) _).alloc (by simp) _)
  go_enter Try.func25, Try.ntmps25
  go_wp2_with fail
  refine (implIsStrike_any s _).mono ?_
  rintro e w1 ⟨rfl, hb1⟩
  have HA1 : Hid (Below w.heap.size w w1) := Lib.hid (HA.out.trans (hb1.mono HA.out.size))
  have HX1 := Lib.hid (HX.out.next hb1)
  have HY1 := Lib.hid (HY.out.next hb1)
  obtain ⟨y0, y1, y2, y3, y4⟩ := HY1.out.cells
  have hyl := HY1.out.lt
  clear hb1 HX HY HA
  cases hg : goodB s
  · have HV : Hid (canV s t = false ∧ askB s t = false) := by show _ ∧ _; unfold canV askB; rw [hg]; exact ⟨rfl, rfl⟩
    clear hg
    go_wp2
    go_ret2
    exact ⟨ret_bb HV.out.1.symm HV.out.2.symm, HA1.out⟩
  · have HG := Lib.hid hg; clear hg
    go_wp2_with fail
    refine (implIsStrike_any t _).mono ?_
    rintro e w2 ⟨rfl, hb2⟩
    have HA2 : Hid (Below w.heap.size w w2) := Lib.hid (HA1.out.trans (hb2.mono HA1.out.size))
    have HX2 := Lib.hid (HX1.out.next hb2)
    have HY2 := Lib.hid (HY1.out.next hb2)
    clear hb2 HX1 HY1 HA1 y0 y1 y2 y3 y4 hyl
    obtain ⟨y0, y1, y2, y3, y4⟩ := HY2.out.cells
    obtain ⟨x0, x1, x2, x3, x4⟩ := HX2.out.cells
    have hyl := HY2.out.lt; have hxl := HX2.out.lt
    cases hh : goodB t
    · have HV : Hid (canV s t = false ∧ askB s t = false) := by show _ ∧ _; unfold canV askB; rw [HG.out, hh]; exact ⟨rfl, rfl⟩
      clear hh
      go_wp2
      go_ret2
      exact ⟨ret_bb HV.out.1.symm HV.out.2.symm, HA2.out⟩
    · have HV : Hid (canV s t = canB s t ∧ askB s t = true) := by show _ ∧ _; unfold canV askB; rw [HG.out, hh]; exact ⟨rfl, rfl⟩
      clear hh
      go_wp2_with fail
      refine (isJustifiable_any s t _).mono ?_
      rintro e w3 ⟨rfl, hb3⟩
      have HB := Lib.hid (HA2.out.trans (hb3.mono HA2.out.size))
      clear hb3
      go_wp2
      go_ret2
      exact ⟨ret_bb HV.out.1.symm HV.out.2.symm, HB.out⟩
end Go.Proofs.Ytbbaphhkdhdelaa

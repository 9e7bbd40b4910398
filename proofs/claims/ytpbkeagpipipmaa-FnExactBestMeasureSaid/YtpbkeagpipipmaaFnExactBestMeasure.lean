/-
  FnExactBestMeasure: for every input (a slice of ints, a rule, an int, an int) the law returns true, and what it was given reads as before. Conditions: none beyond the given statement's own.
-/
import Derived.Test.YtpbkeagpipipmaaRows
import Derived.Test.YtpbkeagpipipmaaUj
import Derived.Test.YtpbkeagpipipmaaVr
import Derived.Test.YtpbkeagpipipmaaOpenIz
import Derived.Test.YtpbkeagpipipmaaOpenUa
import Derived.Deep.RegionLaw
import Derived.Deep.DeepCutAuto
import Derived.Test.YtpbkeagpipipmaaTail
import Derived.ProofKit
import Derived.OpenShut
import Derived.ShutString
import Derived.ChangeOld
import Derived.Lib.SmallJoins
namespace Go.Proofs.Ytpbkeagpipipmaa.fnExactBestMeasure
open Go.ChangeShapes Go.WideShapes Go.ChangeAt Go.RowKit Go.Joins
open Go.ChangeMaps (open_string shut_string)
set_option linter.unusedVariables false

theorem own : ownKnob Try.prog.godebug = none := by kernel_rfl
theorem laidOut : laidOutB Try.prog = true := by kernel_rfl

set_option maxRecDepth 100000 in
set_option maxHeartbeats 2000000 in
theorem walk (A0 : Option Addr) (l0 : List Int) (c0 : Nat) (ru1 : Ru) (a2 : Int) (a3 : Int) (w : World) (hs0 : IntsIn w A0 l0) (hl0 : l0.length ≤ maxLen) (r2 : -9223372036854775808 ≤ a2 ∧ a2 ≤ 9223372036854775807) (r3 : -9223372036854775808 ≤ a3 ∧ a3 ≤ 9223372036854775807) :
    Calls Try.prog 12 #[.slice A0 l0.length c0, .agg #[.int .i64 ru1.lst, .int .i64 ru1.nrm, .int .i64 ru1.mst], .int .i64 a2, .int .i64 a3] w fun e w' => e = .returned (.bool true) ∧ Below w.heap.size w w' := by
  have HS0 := Lib.hid hs0; clear hs0
  unfold maxLen at hl0
  have HR2 := Lib.hid r2; clear r2
  have HR3 := Lib.hid r3; clear r3
  obtain ⟨w0, hw0⟩ : ∃ w0 : World, w0 = (w.alloc (.cells #[.int .i64 ru1.lst, .int .i64 ru1.nrm, .int .i64 ru1.mst] 49)) := ⟨_, rfl⟩
  have hwz : w0.heap.size = w.heap.size + 1 := by rw [hw0]; simp
  have HWZ := Lib.hid hwz; clear hwz
  have A_0 : Hid (Below w.heap.size w w0) := Lib.hid (show Below _ _ _ by rw [hw0]; exact ((Below.refl _ _).alloc (by simp) _))
  have X1_0 : Hid (RuAt w0 (w.heap.size) 49 ru1) := Lib.hid (show RuAt _ _ _ _ by rw [hw0]; exact (RuAt.new _ _ _))
  have HW0 := Lib.hid hw0; clear hw0
  by_cases hlong0 : (1048576 : Int) < l0.length
  · go_enter Try.func12, Try.ntmps12
    go_wp2
    go_ret
    exact ⟨rfl, by first | exact A_0.out | (rw [HW0.out] at A_0; exact A_0.out)⟩
  have hn0 : l0.length ≤ 1048576 := by omega
  obtain ⟨V0, hV0⟩ : ∃ V, V = bmV l0 ru1 a2 a3 := ⟨_, rfl⟩
  have HV0 := Lib.hid hV0; clear hV0
  have hne0 : (V0 != V0) = false := by simp
  obtain ⟨V1, hV1⟩ : ∃ V, V = bmB l0 ru1 a2 a3 := ⟨_, rfl⟩
  have HV1 := Lib.hid hV1; clear hV1
  have hne1 : (V1 != V1) = false := by simp
  have HSP : Hid (∀ (W : World) (B0 : Option Addr), l0.length ≤ 1048576 → IntsIn W B0 l0 → Calls Try.prog 35 #[.slice B0 l0.length l0.length, .agg #[.int .i64 ru1.lst, .int .i64 ru1.nrm, .int .i64 ru1.mst], .int .i64 a2, .int .i64 a3] W fun e W' => e = .returned (.tuple #[.int .i64 V0, .bool V1]) ∧ Below W.heap.size W W') := Lib.hid (by
    rw [HV0.out, HV1.out]; exact fun W B0 h0 i0 => specBestMeasure_any l0 B0 l0.length ru1 a2 a3 W i0 h0)
  have HIM : Hid (∀ (W : World) (B0 : Option Addr), l0.length ≤ 1048576 → IntsIn W B0 l0 → Calls Try.prog 34 #[.slice B0 l0.length l0.length, .agg #[.int .i64 ru1.lst, .int .i64 ru1.nrm, .int .i64 ru1.mst], .int .i64 a2, .int .i64 a3] W fun e W' => e = .returned (.tuple #[.int .i64 V0, .bool V1]) ∧ Below W.heap.size W W') := Lib.hid (by
    rw [HV0.out, HV1.out]; exact fun W B0 h0 i0 => implBestMeasure_any l0 B0 l0.length ru1 a2 a3 W i0 h0)
  go_enter Try.func12, Try.ntmps12
  have HDB : Hid (Below w0.heap.size w0 w0.drew) := Lib.hid ((Below.refl _ _).drew)
  have HXA : Hid (RuAt w0.drew (w.heap.size) 49 ru1) := Lib.hid X1_0.out
  have HSR : Hid (IntsIn w0.drew A0 l0) := Lib.hid (HS0.out.below (A_0.out).drew (Nat.le_refl _))
  obtain ⟨q0, q1, q2⟩ := (X1_0.out).cells
  have ql := (X1_0.out).lt
  go_wp2_with fail
  rw [← HW0.out]
  go_cut [9, 10] (fun s9 s10 wx => s9 = .int .i64 V0 ∧ s10 = .bool V1 ∧ Below w0.heap.size w0 wx)
  case first =>
    go_region_law (first
      | (go_simp; go_at_call 41; refine (toIntOwn_any l0 A0 c0 _ HSR.out hn0).mono ?_; rintro e uA ⟨rfl, hcA, hrA⟩; have HDA := Lib.hid (HDB.out.trans (hcA.mono HDB.out.size)); have HXB := Lib.hid (HXA.out.next hcA); have HRA := Lib.hid hrA; obtain ⟨z0, z1, z2⟩ := HXB.out.cells; have zl := HXB.out.lt; clear q0 q1 q2 ql hcA hrA)
      | (go_simp; go_at_call 40; refine (toRule_any ru1 _).mono ?_; rintro e uB ⟨rfl, hcB⟩; have HDC := Lib.hid (HDA.out.trans (hcB.mono HDA.out.size)); have HRB := Lib.hid (own_below HRA.out hcB); clear z0 z1 z2 zl hcB)
      | (go_simp; go_at_call 35; refine (HSP.out _ _ hn0 (own_in HRB.out)).mono ?_; rintro e u3 ⟨rfl, hb3⟩; have hbV := HDC.out.trans (hb3.mono HDC.out.size)))
    all_goals (go_wp2_with fail; go_meet; exact ⟨rfl, rfl, hbV⟩)
  case rest =>
  clear q0 q1 q2 ql HDB HXA HSR
  obtain ⟨rfl, rfl, hb1⟩ := hcut
  obtain ⟨u1, hwu1⟩ : ∃ u, u = wc := ⟨_, rfl⟩
  subst hwu1
  have A_1 : Hid (Below w.heap.size w u1) := Lib.hid ((A_0.out).trans (Below.mono hb1 (A_0.out).size))
  have X1_1 : Hid (RuAt u1 (w.heap.size) 49 ru1) := Lib.hid ((X1_0.out).next hb1)
  clear A_0 X1_0
  clear hb1
  go_wp2_with fail
  refine (toIntOwn_any l0 A0 c0 _ (HS0.out.below A_1.out (by first | exact Nat.le_refl _)) hn0).mono ?_
  rintro e u2 ⟨rfl, hb2, hr2⟩
  have hB2 : u1.heap.size < u2.heap.size := row_lt hr2
  have A_2 : Hid (Below w.heap.size w u2) := Lib.hid ((A_1.out).trans (Below.mono hb2 (A_1.out).size))
  have X1_2 : Hid (RuAt u2 (w.heap.size) 49 ru1) := Lib.hid ((X1_1.out).next hb2)
  clear A_1 X1_1
  clear hb2
  have X_0_2 : Hid (u2.ownsRow 0 3 1 (.slice (some ⟨u1.heap.size, 0, none⟩) l0.length l0.length) l0.length (intsZ l0)) := Lib.hid hr2
  clear hr2
  obtain ⟨q0, q1, q2⟩ := (X1_2.out).cells
  have ql := (X1_2.out).lt
  go_wp2_with fail
  refine (toRule_any ru1 _).mono ?_
  rintro e u3 ⟨rfl, hb3⟩
  clear q0 q1 q2 ql
  have hzhb3 : u2.heap.size ≤ u3.heap.size := hb3.size
  have A_3 : Hid (Below w.heap.size w u3) := Lib.hid ((A_2.out).trans (Below.mono hb3 (A_2.out).size))
  have X1_3 : Hid (RuAt u3 (w.heap.size) 49 ru1) := Lib.hid ((X1_2.out).next hb3)
  have X_0_3 : Hid (u3.ownsRow 0 3 1 (.slice (some ⟨u1.heap.size, 0, none⟩) l0.length l0.length) l0.length (intsZ l0)) := Lib.hid (own_below X_0_2.out hb3)
  clear A_2 X1_2 X_0_2
  clear hb3
  go_wp2_with fail
  refine (HIM.out _ _ hn0 (own_in X_0_3.out)).mono ?_
  rintro e u4 ⟨rfl, hb4⟩
  have A_4 : Hid (Below w.heap.size w u4) := Lib.hid ((A_3.out).trans (Below.mono hb4 (A_3.out).size))
  have X1_4 : Hid (RuAt u4 (w.heap.size) 49 ru1) := Lib.hid ((X1_3.out).next hb4)
  have X_0_4 : Hid (u4.ownsRow 0 3 1 (.slice (some ⟨u1.heap.size, 0, none⟩) l0.length l0.length) l0.length (intsZ l0)) := Lib.hid (own_below X_0_3.out hb4)
  clear A_3 X1_3 X_0_3
  clear hb4
  go_wp2_with fail
  refine (toIntOwn_any l0 A0 c0 _ (HS0.out.below A_4.out (by first | exact Nat.le_refl _)) hn0).mono ?_
  rintro e u5 ⟨rfl, hb5, hr5⟩
  have hB5 : u4.heap.size < u5.heap.size := row_lt hr5
  have A_5 : Hid (Below w.heap.size w u5) := Lib.hid ((A_4.out).trans (Below.mono hb5 (A_4.out).size))
  have X1_5 : Hid (RuAt u5 (w.heap.size) 49 ru1) := Lib.hid ((X1_4.out).next hb5)
  have X_0_5 : Hid (u5.ownsRow 0 3 1 (.slice (some ⟨u1.heap.size, 0, none⟩) l0.length l0.length) l0.length (intsZ l0)) := Lib.hid (own_below X_0_4.out hb5)
  clear A_4 X1_4 X_0_4
  clear hb5
  have W0_5 : Hid (u5.ownsRow 0 3 1 (.slice (some ⟨u4.heap.size, 0, none⟩) l0.length l0.length) l0.length (intsZ l0)) := Lib.hid hr5
  clear hr5
  go_wp2_with fail
  refine (eqIntS_any l0 l0 _ _ _ _ _ (own_in X_0_5.out) (own_in W0_5.out) (by unfold maxLen; omega) (by unfold maxLen; omega)).mono ?_
  rintro e u6 ⟨rfl, hb6⟩
  rw [show decide (l0 = l0) = true from decide_eq_true rfl]
  clear W0_5
  have A_6 : Hid (Below w.heap.size w u6) := Lib.hid ((A_5.out).trans (Below.mono hb6 (A_5.out).size))
  have X1_6 : Hid (RuAt u6 (w.heap.size) 49 ru1) := Lib.hid ((X1_5.out).next hb6)
  have X_0_6 : Hid (u6.ownsRow 0 3 1 (.slice (some ⟨u1.heap.size, 0, none⟩) l0.length l0.length) l0.length (intsZ l0)) := Lib.hid (own_below X_0_5.out hb6)
  clear A_5 X1_5 X_0_5
  clear hb6
  go_wp2
  go_ret
  exact ⟨rfl, A_6.out⟩

set_option maxRecDepth 100000 in
theorem lifted (os : Os) (started : os.Started) (H : Type) (enc : TypeId × Value → H) :
    ReturnsInHanded {} Try.checked os 12 .any (Rows.fnExactBestMeasureSpec.pre6 enc Try.prog Try.f12 Rows.fnExactBestMeasureRow.domain false) (Rows.fnExactBestMeasureSpec.post enc Try.prog Try.f12 false true false false) := by
  refine returnsInHanded_of_change (C := Try.checked) own started (by kernel_rfl) Try.func12
    (ChangeSpec.witness6 (enc := enc) (C := Try.checked) false ⟨#[], #[.slice none 0 0, .agg #[.int .i64 0, .int .i64 0, .int .i64 0], .int .i64 0, .int .i64 0], []⟩ 8 (by kernel_rfl) (by kernel_rfl) (by kernel_rfl) (by kernel_rfl)) ?_
  intro W base args ds gs before hval0 hW hcnd _
  have hval : ∀ (j : Nat) t v, Try.f12.params[j]? = some t → args[j]? = some v → Value.okWide Try.prog W .any base t v := hval0
  have hW' := hW
  obtain ⟨p, q, hA0, hV, rfl, hfz, hnd⟩ := hW
  have hA : DataW.TrodAll enc Try.prog W 0 (fun _ => true) true Try.f12.params.toList args.toList ds p := hA0
  rw [Try.params12] at hA hval
  obtain ⟨v0, vs0, d0, ds0, p0, q0, hargs, rfl, rfl, h0, r0⟩ := trodAll_cons hA
  obtain ⟨v1, vs1, d1, ds1, p1, q1, rfl, rfl, rfl, h1, r1⟩ := trodAll_cons r0
  obtain ⟨v2, vs2, d2, ds2, p2, q2, rfl, rfl, rfl, h2, r2⟩ := trodAll_cons r1
  obtain ⟨v3, vs3, d3, ds3, p3, q3, rfl, rfl, rfl, h3, r3⟩ := trodAll_cons r2
  obtain ⟨rfl, rfl, rfl⟩ := trodAll_nil r3
  obtain rfl : args = #[v0, v1, v2, v3] := by cases args; simp_all
  obtain ⟨rfl, rfl⟩ := trodVars_none hV
  have k0 := h0
  have lt0 : ∀ x ∈ p0, x.block < W.heap.size := by obtain ⟨m, hm⟩ := k0; exact DataW.trod_lt m _ _ _ hm
  have k1 := h1
  have lt1 : ∀ x ∈ p1, x.block < W.heap.size := by obtain ⟨m, hm⟩ := k1; exact DataW.trod_lt m _ _ _ hm
  have k2 := h2
  have lt2 : ∀ x ∈ p2, x.block < W.heap.size := by obtain ⟨m, hm⟩ := k2; exact DataW.trod_lt m _ _ _ hm
  have k3 := h3
  have lt3 : ∀ x ∈ p3, x.block < W.heap.size := by obtain ⟨m, hm⟩ := k3; exact DataW.trod_lt m _ _ _ hm
  obtain ⟨A0, f0, c0, rfl, hs0, hl0⟩ := open_intz (hval 0 23 v0 rfl rfl) h0
  obtain ⟨m1, rfl, wm1⟩ := open_ru (hval 1 49 v1 rfl rfl) h1
  obtain ⟨a2, rfl, rfl, rfl, wa2⟩ := open_int Try.underlying3 (hval 2 3 v2 rfl rfl) h2
  obtain ⟨a3, rfl, rfl, rfl, wa3⟩ := open_int Try.underlying3 (hval 3 3 v3 rfl rfl) h3
  clear hA0 hval0
  refine (walk A0 f0 c0 m1 a2 a3 W hs0 hl0 (wf_range wa2) (wf_range wa3)).mono fun e W' ⟨he, bel⟩ => ?_
  subst he
  exact ⟨_, rfl, _, _, _, [], _, [], hW', trodAll_mk1 (shut_bool Try.underlying4 _), (trodAll_cons_mk (Below.trod laidOut (by kernel_rfl) (of_decide_eq_true (by kernel_rfl)) k0 bel lt0) (trodAll_cons_mk (Below.trod laidOut (by kernel_rfl) (of_decide_eq_true (by kernel_rfl)) k1 bel lt1) (trodAll_cons_mk (Below.trod laidOut (by kernel_rfl) (of_decide_eq_true (by kernel_rfl)) k2 bel lt2) (trodAll_cons_mk (Below.trod laidOut (by kernel_rfl) (of_decide_eq_true (by kernel_rfl)) k3 bel lt3) trodAll_mk0)))), rfl, bel.frame _, fun h => by cases h⟩

theorem over : Rows.fnExactBestMeasureRow.holds Try.pinned (OpenSpec.ofChange Rows.fnExactBestMeasureSpec) :=
  OpenClaim.holds_of_wide 12 Try.f12 rfl rfl rfl rfl rfl rfl rfl ⟨rfl, rfl, rfl, rfl, rfl⟩ rfl rfl rfl rfl rfl (by kernel_rfl) Try.func12 (by kernel_rfl)
    (of_decide_eq_true (by kernel_rfl)) (by unfold Func.isWrapper; first | (rw [if_pos (by decide +kernel)]; kernel_rfl) | (rw [if_neg (by decide +kernel)]; exact ⟨rfl, rfl⟩))
    (fun os started H enc _ => lifted os started H enc)

theorem proved : Rows.FnExactBestMeasureSaid := over
end Go.Proofs.Ytpbkeagpipipmaa.fnExactBestMeasure

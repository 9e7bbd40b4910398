/-
  FnExactIsRule: for every input (a rule) the law returns true, and what it was given reads as before. Conditions: none beyond the given statement's own.
-/
import Derived.Test.YtpbkeagpipipmaaRows
import Derived.Test.YtpbkeagpipipmaaUb
import Derived.Test.YtpbkeagpipipmaaVr
import Derived.Test.YtpbkeagpipipmaaOpenIz
import Derived.Test.YtpbkeagpipipmaaOpenUa
import Derived.ProofKit
import Derived.OpenShut
import Derived.ShutString
import Derived.ChangeOld
import Derived.Lib.SmallJoins
namespace Go.Proofs.Ytpbkeagpipipmaa.fnExactIsRule
open Go.ChangeShapes Go.WideShapes Go.ChangeAt Go.RowKit Go.Joins
open Go.ChangeMaps (open_string shut_string)
set_option linter.unusedVariables false

theorem own : ownKnob Try.prog.godebug = none := by kernel_rfl
theorem laidOut : laidOutB Try.prog = true := by kernel_rfl

set_option maxRecDepth 100000 in
set_option maxHeartbeats 2000000 in
theorem walk (ru0 : Ru) (w : World)  :
    Calls Try.prog 5 #[.agg #[.int .i64 ru0.lst, .int .i64 ru0.nrm, .int .i64 ru0.mst]] w fun e w' => e = .returned (.bool true) ∧ Below w.heap.size w w' := by
  obtain ⟨w0, hw0⟩ : ∃ w0 : World, w0 = (w.alloc (.cells #[.int .i64 ru0.lst, .int .i64 ru0.nrm, .int .i64 ru0.mst] 49)) := ⟨_, rfl⟩
  have hwz : w0.heap.size = w.heap.size + 1 := by rw [hw0]; simp
  have HWZ := Lib.hid hwz; clear hwz
  have A_0 : Hid (Below w.heap.size w w0) := Lib.hid (show Below _ _ _ by rw [hw0]; exact ((Below.refl _ _).alloc (by simp) _))
  have X0_0 : Hid (RuAt w0 (w.heap.size) 49 ru0) := Lib.hid (show RuAt _ _ _ _ by rw [hw0]; exact (RuAt.new _ _ _))
  have HW0 := Lib.hid hw0; clear hw0
  obtain ⟨V0, hV0⟩ : ∃ V, V = juB ru0 := ⟨_, rfl⟩
  have HV0 := Lib.hid hV0; clear hV0
  have hne0 : (V0 != V0) = false := by simp
  have HSP : Hid (∀ (W : World), Calls Try.prog 29 #[.agg #[.int .i64 ru0.lst, .int .i64 ru0.nrm, .int .i64 ru0.mst]] W fun e W' => e = .returned (.bool V0) ∧ Below W.heap.size W W') := Lib.hid (by
    rw [HV0.out]; exact fun W => specIsRule_any ru0 W)
  have HIM : Hid (∀ (W : World), Calls Try.prog 26 #[.agg #[.int .i64 ru0.lst, .int .i64 ru0.nrm, .int .i64 ru0.mst]] W fun e W' => e = .returned (.bool V0) ∧ Below W.heap.size W W') := Lib.hid (by
    rw [HV0.out]; exact fun W => implIsRule_any ru0 W)
  go_enter Try.func5, Try.ntmps5
  obtain ⟨q0, q1, q2⟩ := (X0_0.out).cells
  have ql := (X0_0.out).lt
  go_wp2_with fail
  rw [← HW0.out]
  refine (toRule_any ru0 _).mono ?_
  rintro e u1 ⟨rfl, hb1⟩
  clear q0 q1 q2 ql
  have hzhb1 : w0.heap.size ≤ u1.heap.size := hb1.size
  have A_1 : Hid (Below w.heap.size w u1) := Lib.hid ((A_0.out).trans (Below.mono hb1 (A_0.out).size))
  have X0_1 : Hid (RuAt u1 (w.heap.size) 49 ru0) := Lib.hid ((X0_0.out).next hb1)
  clear A_0 X0_0
  clear hb1
  go_wp2_with fail
  refine (HSP.out _   ).mono ?_
  rintro e u2 ⟨rfl, hb2⟩
  have A_2 : Hid (Below w.heap.size w u2) := Lib.hid ((A_1.out).trans (Below.mono hb2 (A_1.out).size))
  have X0_2 : Hid (RuAt u2 (w.heap.size) 49 ru0) := Lib.hid ((X0_1.out).next hb2)
  clear A_1 X0_1
  clear hb2
  obtain ⟨q0, q1, q2⟩ := (X0_2.out).cells
  have ql := (X0_2.out).lt
  go_wp2_with fail
  refine (toRule_any ru0 _).mono ?_
  rintro e u3 ⟨rfl, hb3⟩
  clear q0 q1 q2 ql
  have hzhb3 : u2.heap.size ≤ u3.heap.size := hb3.size
  have A_3 : Hid (Below w.heap.size w u3) := Lib.hid ((A_2.out).trans (Below.mono hb3 (A_2.out).size))
  have X0_3 : Hid (RuAt u3 (w.heap.size) 49 ru0) := Lib.hid ((X0_2.out).next hb3)
  clear A_2 X0_2
  clear hb3
  go_wp2_with fail
  refine (HIM.out _   ).mono ?_
  rintro e u4 ⟨rfl, hb4⟩
  have A_4 : Hid (Below w.heap.size w u4) := Lib.hid ((A_3.out).trans (Below.mono hb4 (A_3.out).size))
  have X0_4 : Hid (RuAt u4 (w.heap.size) 49 ru0) := Lib.hid ((X0_3.out).next hb4)
  clear A_3 X0_3
  clear hb4
  go_wp2
  go_ret
  exact ⟨rfl, A_4.out⟩

set_option maxRecDepth 100000 in
theorem lifted (os : Os) (started : os.Started) (H : Type) (enc : TypeId × Value → H) :
    ReturnsInHanded {} Try.checked os 5 .any (Rows.fnExactIsRuleSpec.pre6 enc Try.prog Try.f5 Rows.fnExactIsRuleRow.domain false) (Rows.fnExactIsRuleSpec.post enc Try.prog Try.f5 false true false false) := by
  refine returnsInHanded_of_change (C := Try.checked) own started (by kernel_rfl) Try.func5
    (ChangeSpec.witness6 (enc := enc) (C := Try.checked) false ⟨#[], #[.agg #[.int .i64 0, .int .i64 0, .int .i64 0]], []⟩ 8 (by kernel_rfl) (by kernel_rfl) (by kernel_rfl) (by kernel_rfl)) ?_
  intro W base args ds gs before hval0 hW hcnd _
  have hval : ∀ (j : Nat) t v, Try.f5.params[j]? = some t → args[j]? = some v → Value.okWide Try.prog W .any base t v := hval0
  have hW' := hW
  obtain ⟨p, q, hA0, hV, rfl, hfz, hnd⟩ := hW
  have hA : DataW.TrodAll enc Try.prog W 0 (fun _ => true) true Try.f5.params.toList args.toList ds p := hA0
  rw [Try.params5] at hA hval
  obtain ⟨v0, vs0, d0, ds0, p0, q0, hargs, rfl, rfl, h0, r0⟩ := trodAll_cons hA
  obtain ⟨rfl, rfl, rfl⟩ := trodAll_nil r0
  obtain rfl : args = #[v0] := by cases args; simp_all
  obtain ⟨rfl, rfl⟩ := trodVars_none hV
  have k0 := h0
  have lt0 : ∀ x ∈ p0, x.block < W.heap.size := by obtain ⟨m, hm⟩ := k0; exact DataW.trod_lt m _ _ _ hm
  obtain ⟨m0, rfl, wm0⟩ := open_ru (hval 0 49 v0 rfl rfl) h0
  clear hA0 hval0
  refine (walk m0 W ).mono fun e W' ⟨he, bel⟩ => ?_
  subst he
  exact ⟨_, rfl, _, _, _, [], _, [], hW', trodAll_mk1 (shut_bool Try.underlying4 _), (trodAll_cons_mk (Below.trod laidOut (by kernel_rfl) (of_decide_eq_true (by kernel_rfl)) k0 bel lt0) trodAll_mk0), rfl, bel.frame _, fun h => by cases h⟩

theorem over : Rows.fnExactIsRuleRow.holds Try.pinned (OpenSpec.ofChange Rows.fnExactIsRuleSpec) :=
  OpenClaim.holds_of_wide 5 Try.f5 rfl rfl rfl rfl rfl rfl rfl ⟨rfl, rfl, rfl, rfl, rfl⟩ rfl rfl rfl rfl rfl (by kernel_rfl) Try.func5 (by kernel_rfl)
    (of_decide_eq_true (by kernel_rfl)) (by unfold Func.isWrapper; first | (rw [if_pos (by decide +kernel)]; kernel_rfl) | (rw [if_neg (by decide +kernel)]; exact ⟨rfl, rfl⟩))
    (fun os started H enc _ => lifted os started H enc)

theorem proved : Rows.FnExactIsRuleSaid := over
end Go.Proofs.Ytpbkeagpipipmaa.fnExactIsRule

/-
  FnExactIsPattern: for every input (a text) the law returns true, and what it was given reads as before. Conditions: none beyond the given statement's own.
-/
import Derived.Test.YtcbhhbcfnaekpaaRows
import Derived.Test.YtcbhhbcfnaekpaaHyj
import Derived.Test.YtcbhhbcfnaekpaaHyl
import Derived.ProofKit
import Derived.OpenShut
import Derived.ShutString
import Derived.ChangeOld
import Derived.Lib.SmallJoins
namespace Go.Proofs.Ytcbhhbcfnaekpaa.fnExactIsPattern
open Go Go.ChangeShapes Go.WideShapes Go.ChangeAt Go.RowKit Go.Joins
open Go.ChangeMaps (open_string shut_string)
set_option linter.unusedVariables false

theorem own : ownKnob Try.prog.godebug = none := by kernel_rfl
theorem laidOut : laidOutB Try.prog = true := by kernel_rfl

set_option maxRecDepth 100000 in
set_option maxHeartbeats 4000000 in
theorem walk (t0 : ByteArray) (w : World) (ht0 : t0.size ≤ maxLen) :
    Calls Try.prog 3 #[.string t0] w fun e w' => e = .returned (.bool true) ∧ Below w.heap.size w w' := by
  unfold maxLen at ht0
  by_cases hlong0 : (1048576 : Int) < t0.size
  · go_enter Try.func3, Try.ntmps3
    go_wp2
    go_ret
    exact ⟨rfl, Below.refl _ _⟩
  have htn0 : t0.size ≤ 1048576 := by omega
  have A_0 : Hid (Below w.heap.size w w) := Lib.hid (Below.refl _ _)
  obtain ⟨V0, hV0⟩ : ∃ V, V = ptB t0 := ⟨_, rfl⟩
  have HV0 := Lib.hid hV0; clear hV0
  have hne0 : (V0 != V0) = false := by simp
  have HSP : Hid (∀ (W : World), Calls Try.prog 5 #[.string t0] W fun e W' => e = .returned (.bool V0) ∧ Below W.heap.size W W') := Lib.hid (by
    rw [HV0.out]; exact fun W => specIsPattern_any t0 W htn0)
  have HIM : Hid (∀ (W : World), Calls Try.prog 6 #[.string t0] W fun e W' => e = .returned (.bool V0) ∧ Below W.heap.size W W') := Lib.hid (by
    rw [HV0.out]; exact fun W => implIsPattern_any t0 W htn0)
  go_enter Try.func3, Try.ntmps3
  go_wp2_with fail
  refine (HSP.out _   ).mono ?_
  rintro e u1 ⟨rfl, hb1⟩
  have A_1 : Hid (Below w.heap.size w u1) := Lib.hid ((A_0.out).trans (Below.mono hb1 (A_0.out).size))
  clear A_0
  clear hb1
  go_wp2_with fail
  refine (HIM.out _   ).mono ?_
  rintro e u2 ⟨rfl, hb2⟩
  have A_2 : Hid (Below w.heap.size w u2) := Lib.hid ((A_1.out).trans (Below.mono hb2 (A_1.out).size))
  clear A_1
  clear hb2
  go_wp2
  go_ret
  exact ⟨rfl, A_2.out⟩

set_option maxRecDepth 100000 in
theorem lifted (os : Os) (started : os.Started) (H : Type) (enc : TypeId × Value → H) :
    ReturnsInHanded {} Try.checked os 3 .any (Rows.fnExactIsPatternSpec.pre6 enc Try.prog Try.f3 Rows.fnExactIsPatternRow.domain false) (Rows.fnExactIsPatternSpec.post enc Try.prog Try.f3 false true false false) := by
  refine returnsInHanded_of_change (C := Try.checked) own started (by kernel_rfl) Try.func3
    (ChangeSpec.witness6 (enc := enc) (C := Try.checked) false ⟨#[], #[.string ⟨#[]⟩], []⟩ 8 (by kernel_rfl) (by kernel_rfl) (by kernel_rfl) (by kernel_rfl)) ?_
  intro W base args ds gs before hval0 hW hcnd _
  have hval : ∀ (j : Nat) t v, Try.f3.params[j]? = some t → args[j]? = some v → Value.okWide Try.prog W .any base t v := hval0
  have hW' := hW
  obtain ⟨p, q, hA0, hV, rfl, hfz, hnd⟩ := hW
  have hA : DataW.TrodAll enc Try.prog W 0 (fun _ => true) true Try.f3.params.toList args.toList ds p := hA0
  rw [Try.params3] at hA hval
  obtain ⟨v0, vs0, d0, ds0, p0, q0, hargs, rfl, rfl, h0, r0⟩ := trodAll_cons hA
  obtain ⟨rfl, rfl, rfl⟩ := trodAll_nil r0
  obtain rfl : args = #[v0] := by cases args; simp_all
  obtain ⟨rfl, rfl⟩ := trodVars_none hV
  have k0 := h0
  have lt0 : ∀ x ∈ p0, x.block < W.heap.size := by obtain ⟨m, hm⟩ := k0; exact DataW.trod_lt m _ _ _ hm
  obtain ⟨t0, rfl, rfl, rfl, wt0⟩ := open_string Try.underlying9 (hval 0 9 v0 rfl rfl) h0
  clear hA0 hval0
  refine (walk t0 W wt0).mono fun e W' ⟨he, bel⟩ => ?_
  subst he
  exact ⟨_, rfl, _, _, _, [], _, [], hW', trodAll_mk1 (shut_bool Try.underlying4 _), (trodAll_cons_mk (Below.trod laidOut (by kernel_rfl) (of_decide_eq_true (by kernel_rfl)) k0 bel lt0) trodAll_mk0), rfl, bel.frame _, fun h => by cases h⟩

theorem over : Rows.fnExactIsPatternRow.holds Try.pinned (OpenSpec.ofChange Rows.fnExactIsPatternSpec) :=
  OpenClaim.holds_of_wide 3 Try.f3 rfl rfl rfl rfl rfl rfl rfl ⟨rfl, rfl, rfl, rfl, rfl⟩ rfl rfl rfl rfl rfl (by kernel_rfl) Try.func3 (by kernel_rfl)
    (of_decide_eq_true (by kernel_rfl)) (by unfold Func.isWrapper; first | (rw [if_pos (by decide +kernel)]; kernel_rfl) | (rw [if_neg (by decide +kernel)]; exact ⟨rfl, rfl⟩))
    (fun os started H enc _ => lifted os started H enc)

theorem proved : Rows.FnExactIsPatternSaid := over
end Go.Proofs.Ytcbhhbcfnaekpaa.fnExactIsPattern

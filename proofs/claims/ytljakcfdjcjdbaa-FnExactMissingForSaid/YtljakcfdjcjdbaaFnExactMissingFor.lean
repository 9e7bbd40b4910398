/-
  FnExactMissingFor: for every input (a slice of slips, an int) the law returns true, and what it was given reads as before. Conditions: none beyond the given statement's own.
-/
import Derived.Test.YtljakcfdjcjdbaaRows
import Derived.Test.YtljakcfdjcjdbaaPs
import Derived.Test.YtljakcfdjcjdbaaPt
import Derived.Test.YtljakcfdjcjdbaaVr
import Derived.Test.YtljakcfdjcjdbaaPr
import Derived.Test.YtljakcfdjcjdbaaOpenIz
import Derived.Test.YtljakcfdjcjdbaaOpenPa
import Derived.Deep.RegionLaw
import Derived.Deep.DeepCutAuto
import Derived.Test.YtljakcfdjcjdbaaTail
import Derived.ProofKit
import Derived.OpenShut
import Derived.ShutString
import Derived.ChangeOld
import Derived.Lib.SmallJoins
namespace Go.Proofs.Ytljakcfdjcjdbaa.fnExactMissingFor
open Go.ChangeShapes Go.WideShapes Go.ChangeAt Go.RowKit Go.Joins
open Go.ChangeMaps (open_string shut_string)
set_option linter.unusedVariables false

theorem own : ownKnob Try.prog.godebug = none := by kernel_rfl
theorem laidOut : laidOutB Try.prog = true := by kernel_rfl

set_option maxRecDepth 100000 in
set_option maxHeartbeats 2000000 in
theorem walk (A0 : Option Addr) (f0 : List Sl) (c0 : Nat) (a1 : Int) (w : World) (hs0 : SlsIn w A0 f0) (hl0 : f0.length ≤ maxLen) (r1 : -9223372036854775808 ≤ a1 ∧ a1 ≤ 9223372036854775807) :
    Calls Try.prog 8 #[.slice A0 f0.length c0, .int .i64 a1] w fun e w' => e = .returned (.bool true) ∧ Below w.heap.size w w' := by
  have HS0 := Lib.hid hs0; clear hs0
  unfold maxLen at hl0
  have HR1 := Lib.hid r1; clear r1
  have A_0 : Hid (Below w.heap.size w w) := Lib.hid (show Below _ _ _ by exact (Below.refl _ _))
  obtain ⟨V0, hV0⟩ : ∃ V, V = misV f0 a1 := ⟨_, rfl⟩
  have HV0 := Lib.hid hV0; clear hV0
  have hne0 : (V0 != V0) = false := by simp
  obtain ⟨V1, hV1⟩ : ∃ V, V = misB f0 a1 := ⟨_, rfl⟩
  have HV1 := Lib.hid hV1; clear hV1
  have hne1 : (V1 != V1) = false := by simp
  have HSP : Hid (∀ (W : World) (B0 : Option Addr), f0.length ≤ 1048576 → SlsIn W B0 f0 → Calls Try.prog 33 #[.slice B0 f0.length f0.length, .int .i64 a1] W fun e W' => e = .returned (.tuple #[.int .i64 V0, .bool V1]) ∧ Below W.heap.size W W') := Lib.hid (by
    rw [HV0.out, HV1.out]; exact fun W B0 h0 i0 => specMissingFor_any f0 B0 f0.length a1 W i0 h0)
  have HIM : Hid (∀ (W : World) (B0 : Option Addr), f0.length ≤ 1048576 → SlsIn W B0 f0 → Calls Try.prog 34 #[.slice B0 f0.length f0.length, .int .i64 a1] W fun e W' => e = .returned (.tuple #[.int .i64 V0, .bool V1]) ∧ Below W.heap.size W W') := Lib.hid (by
    rw [HV0.out, HV1.out]; exact fun W B0 h0 i0 => implMissingFor_any f0 B0 f0.length a1 W i0 h0)
  go_enter Try.func8, Try.ntmps8
  go_wp2_with fail
  refine (szSlipS_any f0 A0 c0 1048576 _ (by unfold maxLen; omega) (by omega) (by omega)).mono ?_
  rintro e w' ⟨rfl, hww⟩
  subst hww
  by_cases hz0 : (1048576 : Int) < (f0.length : Int)
  · rw [if_pos hz0]
    go_wp2
    go_ret
    exact ⟨rfl, A_0.out⟩
  rw [if_neg hz0]
  have hn0 : f0.length ≤ 1048576 := by omega
  have hnn0 : ¬ (1048576 : Int) - (f0.length : Int) < 0 := by omega
  clear hz0
  go_wp2_with fail
  refine (toSlOwn_any f0 A0 c0 _ (HS0.out.below A_0.out (by first | exact Nat.le_refl _)) hn0).mono ?_
  rintro e u1 ⟨rfl, hb1, hr1⟩
  have hB1 : w.heap.size < u1.heap.size := row_lt hr1
  have A_1 : Hid (Below w.heap.size w u1) := Lib.hid ((A_0.out).trans (Below.mono hb1 (A_0.out).size))
  clear A_0
  clear hb1
  have Z0_1 : Hid (u1.ownsRow 0 57 2 (.slice (some ⟨w.heap.size, 0, none⟩) f0.length f0.length) f0.length (flatSl f0)) := Lib.hid hr1
  clear hr1
  go_wp2_with fail
  refine (HSP.out _ _ hn0 (own_in_sl Z0_1.out)).mono ?_
  rintro e u2 ⟨rfl, hb2⟩
  have A_2 : Hid (Below w.heap.size w u2) := Lib.hid ((A_1.out).trans (Below.mono hb2 (A_1.out).size))
  have Z0_2 : Hid (u2.ownsRow 0 57 2 (.slice (some ⟨w.heap.size, 0, none⟩) f0.length f0.length) f0.length (flatSl f0)) := Lib.hid (own_below Z0_1.out hb2)
  clear A_1 Z0_1
  clear hb2
  clear Z0_2
  go_wp2_with fail
  refine (toSlOwn_any f0 A0 c0 _ (HS0.out.below A_2.out (by first | exact Nat.le_refl _)) hn0).mono ?_
  rintro e u3 ⟨rfl, hb3, hr3⟩
  have hB3 : u2.heap.size < u3.heap.size := row_lt hr3
  have A_3 : Hid (Below w.heap.size w u3) := Lib.hid ((A_2.out).trans (Below.mono hb3 (A_2.out).size))
  clear A_2
  clear hb3
  have X_0_3 : Hid (u3.ownsRow 0 57 2 (.slice (some ⟨u2.heap.size, 0, none⟩) f0.length f0.length) f0.length (flatSl f0)) := Lib.hid hr3
  clear hr3
  go_wp2_with fail
  refine (HIM.out _ _ hn0 (own_in_sl X_0_3.out)).mono ?_
  rintro e u4 ⟨rfl, hb4⟩
  have A_4 : Hid (Below w.heap.size w u4) := Lib.hid ((A_3.out).trans (Below.mono hb4 (A_3.out).size))
  have X_0_4 : Hid (u4.ownsRow 0 57 2 (.slice (some ⟨u2.heap.size, 0, none⟩) f0.length f0.length) f0.length (flatSl f0)) := Lib.hid (own_below X_0_3.out hb4)
  clear A_3 X_0_3
  clear hb4
  go_wp2_with fail
  refine (toSlOwn_any f0 A0 c0 _ (HS0.out.below A_4.out (by first | exact Nat.le_refl _)) hn0).mono ?_
  rintro e u5 ⟨rfl, hb5, hr5⟩
  have hB5 : u4.heap.size < u5.heap.size := row_lt hr5
  have A_5 : Hid (Below w.heap.size w u5) := Lib.hid ((A_4.out).trans (Below.mono hb5 (A_4.out).size))
  have X_0_5 : Hid (u5.ownsRow 0 57 2 (.slice (some ⟨u2.heap.size, 0, none⟩) f0.length f0.length) f0.length (flatSl f0)) := Lib.hid (own_below X_0_4.out hb5)
  clear A_4 X_0_4
  clear hb5
  have W0_5 : Hid (u5.ownsRow 0 57 2 (.slice (some ⟨u4.heap.size, 0, none⟩) f0.length f0.length) f0.length (flatSl f0)) := Lib.hid hr5
  clear hr5
  go_wp2_with fail
  refine (eqSlipS_any f0 f0 _ _ _ _ _ (own_in_sl X_0_5.out) (own_in_sl W0_5.out) (by unfold maxLen; omega) (by unfold maxLen; omega)).mono ?_
  rintro e u6 ⟨rfl, hb6⟩
  rw [show decide (f0 = f0) = true from decide_eq_true rfl]
  clear W0_5
  have A_6 : Hid (Below w.heap.size w u6) := Lib.hid ((A_5.out).trans (Below.mono hb6 (A_5.out).size))
  have X_0_6 : Hid (u6.ownsRow 0 57 2 (.slice (some ⟨u2.heap.size, 0, none⟩) f0.length f0.length) f0.length (flatSl f0)) := Lib.hid (own_below X_0_5.out hb6)
  clear A_5 X_0_5
  clear hb6
  go_wp2
  go_ret
  exact ⟨rfl, A_6.out⟩

set_option maxRecDepth 100000 in
theorem lifted (os : Os) (started : os.Started) (H : Type) (enc : TypeId × Value → H) :
    ReturnsInHanded {} Try.checked os 8 .any (Rows.fnExactMissingForSpec.pre6 enc Try.prog Try.f8 Rows.fnExactMissingForRow.domain false) (Rows.fnExactMissingForSpec.post enc Try.prog Try.f8 false true false false) := by
  refine returnsInHanded_of_change (C := Try.checked) own started (by kernel_rfl) Try.func8
    (ChangeSpec.witness6 (enc := enc) (C := Try.checked) false ⟨#[], #[.slice none 0 0, .int .i64 0], []⟩ 8 (by kernel_rfl) (by kernel_rfl) (by kernel_rfl) (by kernel_rfl)) ?_
  intro W base args ds gs before hval0 hW hcnd _
  have hval : ∀ (j : Nat) t v, Try.f8.params[j]? = some t → args[j]? = some v → Value.okWide Try.prog W .any base t v := hval0
  have hW' := hW
  obtain ⟨p, q, hA0, hV, rfl, hfz, hnd⟩ := hW
  have hA : DataW.TrodAll enc Try.prog W 0 (fun _ => true) true Try.f8.params.toList args.toList ds p := hA0
  rw [Try.params8] at hA hval
  obtain ⟨v0, vs0, d0, ds0, p0, q0, hargs, rfl, rfl, h0, r0⟩ := trodAll_cons hA
  obtain ⟨v1, vs1, d1, ds1, p1, q1, rfl, rfl, rfl, h1, r1⟩ := trodAll_cons r0
  obtain ⟨rfl, rfl, rfl⟩ := trodAll_nil r1
  obtain rfl : args = #[v0, v1] := by cases args; simp_all
  obtain ⟨rfl, rfl⟩ := trodVars_none hV
  have k0 := h0
  have lt0 : ∀ x ∈ p0, x.block < W.heap.size := by obtain ⟨m, hm⟩ := k0; exact DataW.trod_lt m _ _ _ hm
  have k1 := h1
  have lt1 : ∀ x ∈ p1, x.block < W.heap.size := by obtain ⟨m, hm⟩ := k1; exact DataW.trod_lt m _ _ _ hm
  obtain ⟨A0, f0, c0, rfl, hs0, hl0⟩ := open_sls (hval 0 22 v0 rfl rfl) h0
  obtain ⟨a1, rfl, rfl, rfl, wa1⟩ := open_int Try.underlying3 (hval 1 3 v1 rfl rfl) h1
  clear hA0 hval0
  refine (walk A0 f0 c0 a1 W hs0 hl0 (wf_range wa1)).mono fun e W' ⟨he, bel⟩ => ?_
  subst he
  exact ⟨_, rfl, _, _, _, [], _, [], hW', trodAll_mk1 (shut_bool Try.underlying4 _), (trodAll_cons_mk (Below.trod laidOut (by kernel_rfl) (of_decide_eq_true (by kernel_rfl)) k0 bel lt0) (trodAll_cons_mk (Below.trod laidOut (by kernel_rfl) (of_decide_eq_true (by kernel_rfl)) k1 bel lt1) trodAll_mk0)), rfl, bel.frame _, fun h => by cases h⟩

theorem over : Rows.fnExactMissingForRow.holds Try.pinned (OpenSpec.ofChange Rows.fnExactMissingForSpec) :=
  OpenClaim.holds_of_wide 8 Try.f8 rfl rfl rfl rfl rfl rfl rfl ⟨rfl, rfl, rfl, rfl, rfl⟩ rfl rfl rfl rfl rfl (by kernel_rfl) Try.func8 (by kernel_rfl)
    (of_decide_eq_true (by kernel_rfl)) (by unfold Func.isWrapper; first | (rw [if_pos (by decide +kernel)]; kernel_rfl) | (rw [if_neg (by decide +kernel)]; exact ⟨rfl, rfl⟩))
    (fun os started H enc _ => lifted os started H enc)

theorem proved : Rows.FnExactMissingForSaid := over
end Go.Proofs.Ytljakcfdjcjdbaa.fnExactMissingFor

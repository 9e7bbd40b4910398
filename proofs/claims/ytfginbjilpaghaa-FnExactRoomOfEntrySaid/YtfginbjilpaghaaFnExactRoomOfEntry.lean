/-
  FnExactRoomOfEntry: for every input (an int, a slice of entries, an int, an int) the law returns true, and what it was given reads as before. Conditions: none beyond the given statement's own.
-/
import Derived.Test.YtfginbjilpaghaaRows
import Derived.Test.YtfginbjilpaghaaFa
import Derived.Test.YtfginbjilpaghaaVr
import Derived.Test.YtfginbjilpaghaaEr
import Derived.Test.YtfginbjilpaghaaOpenEa
import Derived.Deep.RegionLaw
import Derived.Deep.DeepCutAuto
import Derived.Test.YtfginbjilpaghaaTail
import Derived.ProofKit
import Derived.OpenShut
import Derived.ShutString
import Derived.ChangeOld
import Derived.Lib.SmallJoins
namespace Go.Proofs.Ytfginbjilpaghaa.fnExactRoomOfEntry
open Go.ChangeShapes Go.WideShapes Go.ChangeAt Go.RowKit Go.Joins
open Go.ChangeMaps (open_string shut_string)
set_option linter.unusedVariables false

theorem own : ownKnob Try.prog.godebug = none := by kernel_rfl
theorem laidOut : laidOutB Try.prog = true := by kernel_rfl

set_option maxRecDepth 100000 in
set_option maxHeartbeats 2000000 in
theorem walk (a0 : Int) (A1 : Option Addr) (f1 : List En) (c1 : Nat) (a2 : Int) (a3 : Int) (w : World) (r0 : -9223372036854775808 ≤ a0 ∧ a0 ≤ 9223372036854775807) (hs1 : EnsIn w A1 f1) (hl1 : f1.length ≤ maxLen) (hrr1 : EnR f1) (r2 : -9223372036854775808 ≤ a2 ∧ a2 ≤ 9223372036854775807) (r3 : -9223372036854775808 ≤ a3 ∧ a3 ≤ 9223372036854775807) :
    Calls Try.prog 8 #[.int .i64 a0, .slice A1 f1.length c1, .int .i64 a2, .int .i64 a3] w fun e w' => e = .returned (.bool true) ∧ Below w.heap.size w w' := by
  have HS1 := Lib.hid hs1; clear hs1
  unfold maxLen at hl1
  have HRR1 := Lib.hid hrr1; clear hrr1
  have HR0 := Lib.hid r0; clear r0
  have HR2 := Lib.hid r2; clear r2
  have HR3 := Lib.hid r3; clear r3
  have A_0 : Hid (Below w.heap.size w w) := Lib.hid (show Below _ _ _ by exact (Below.refl _ _))
  obtain ⟨V0, hV0⟩ : ∃ V, V = roV a0 f1 a2 a3 := ⟨_, rfl⟩
  have HV0 := Lib.hid hV0; clear hV0
  have hne0 : (V0 != V0) = false := by simp
  obtain ⟨V1, hV1⟩ : ∃ V, V = roB a0 f1 a2 a3 := ⟨_, rfl⟩
  have HV1 := Lib.hid hV1; clear hV1
  have hne1 : (V1 != V1) = false := by simp
  have HSP : Hid (∀ (W : World) (B1 : Option Addr), f1.length ≤ 1048576 → EnsIn W B1 f1 → Calls Try.prog 31 #[.int .i64 a0, .slice B1 f1.length f1.length, .int .i64 a2, .int .i64 a3] W fun e W' => e = .returned (.tuple #[.int .i64 V0, .bool V1]) ∧ Below W.heap.size W W') := Lib.hid (by
    rw [HV0.out, HV1.out]; exact fun W B1 h1 i1 => specRoomOfEntry_any a0 f1 B1 f1.length a2 a3 W i1 h1)
  have HIM : Hid (∀ (W : World) (B1 : Option Addr), f1.length ≤ 1048576 → EnsIn W B1 f1 → Calls Try.prog 32 #[.int .i64 a0, .slice B1 f1.length f1.length, .int .i64 a2, .int .i64 a3] W fun e W' => e = .returned (.tuple #[.int .i64 V0, .bool V1]) ∧ Below W.heap.size W W') := Lib.hid (by
    rw [HV0.out, HV1.out]; exact fun W B1 h1 i1 => implRoomOfEntry_any a0 f1 B1 f1.length a2 a3 W i1 h1 HRR1.out)
  go_enter Try.func8, Try.ntmps8
  go_wp2_with fail
  refine (szEntryS_any f1 A1 c1 (1048576) _ (by unfold maxLen; omega) (by omega) (by omega)).mono ?_
  rintro e w' ⟨rfl, hww⟩
  subst hww
  by_cases hz1 : (1048576 : Int) < (f1.length : Int)
  · rw [if_pos hz1]
    go_wp2
    go_ret
    exact ⟨rfl, A_0.out⟩
  rw [if_neg hz1]
  have hn1 : f1.length ≤ 1048576 := by omega
  have hnn1 : ¬ (1048576 : Int) - (f1.length : Int) < 0 := by omega
  clear hz1
  go_wp2_with fail
  refine (toEnOwn_any f1 A1 c1 _ (HS1.out.below A_0.out (by first | exact Nat.le_refl _)) hn1).mono ?_
  rintro e u1 ⟨rfl, hb1, hr1⟩
  have hB1 : w.heap.size < u1.heap.size := row_lt hr1
  have A_1 : Hid (Below w.heap.size w u1) := Lib.hid ((A_0.out).trans (Below.mono hb1 (A_0.out).size))
  clear A_0
  clear hb1
  have Z1_1 : Hid (u1.ownsRow 0 45 3 (.slice (some ⟨w.heap.size, 0, none⟩) f1.length f1.length) f1.length (flatEn f1)) := Lib.hid hr1
  clear hr1
  go_wp2_with fail
  refine (HSP.out _ _ hn1 (own_in_en Z1_1.out)).mono ?_
  rintro e u2 ⟨rfl, hb2⟩
  have A_2 : Hid (Below w.heap.size w u2) := Lib.hid ((A_1.out).trans (Below.mono hb2 (A_1.out).size))
  have Z1_2 : Hid (u2.ownsRow 0 45 3 (.slice (some ⟨w.heap.size, 0, none⟩) f1.length f1.length) f1.length (flatEn f1)) := Lib.hid (own_below Z1_1.out hb2)
  clear A_1 Z1_1
  clear hb2
  clear Z1_2
  go_wp2_with fail
  refine (toEnOwn_any f1 A1 c1 _ (HS1.out.below A_2.out (by first | exact Nat.le_refl _)) hn1).mono ?_
  rintro e u3 ⟨rfl, hb3, hr3⟩
  have hB3 : u2.heap.size < u3.heap.size := row_lt hr3
  have A_3 : Hid (Below w.heap.size w u3) := Lib.hid ((A_2.out).trans (Below.mono hb3 (A_2.out).size))
  clear A_2
  clear hb3
  have X_1_3 : Hid (u3.ownsRow 0 45 3 (.slice (some ⟨u2.heap.size, 0, none⟩) f1.length f1.length) f1.length (flatEn f1)) := Lib.hid hr3
  clear hr3
  go_wp2_with fail
  refine (HIM.out _ _ hn1 (own_in_en X_1_3.out)).mono ?_
  rintro e u4 ⟨rfl, hb4⟩
  have A_4 : Hid (Below w.heap.size w u4) := Lib.hid ((A_3.out).trans (Below.mono hb4 (A_3.out).size))
  have X_1_4 : Hid (u4.ownsRow 0 45 3 (.slice (some ⟨u2.heap.size, 0, none⟩) f1.length f1.length) f1.length (flatEn f1)) := Lib.hid (own_below X_1_3.out hb4)
  clear A_3 X_1_3
  clear hb4
  go_wp2_with fail
  refine (toEnOwn_any f1 A1 c1 _ (HS1.out.below A_4.out (by first | exact Nat.le_refl _)) hn1).mono ?_
  rintro e u5 ⟨rfl, hb5, hr5⟩
  have hB5 : u4.heap.size < u5.heap.size := row_lt hr5
  have A_5 : Hid (Below w.heap.size w u5) := Lib.hid ((A_4.out).trans (Below.mono hb5 (A_4.out).size))
  have X_1_5 : Hid (u5.ownsRow 0 45 3 (.slice (some ⟨u2.heap.size, 0, none⟩) f1.length f1.length) f1.length (flatEn f1)) := Lib.hid (own_below X_1_4.out hb5)
  clear A_4 X_1_4
  clear hb5
  have W1_5 : Hid (u5.ownsRow 0 45 3 (.slice (some ⟨u4.heap.size, 0, none⟩) f1.length f1.length) f1.length (flatEn f1)) := Lib.hid hr5
  clear hr5
  go_wp2_with fail
  refine (eqEntryS_any f1 f1 _ _ _ _ _ (own_in_en X_1_5.out) (own_in_en W1_5.out) (by unfold maxLen; omega) (by unfold maxLen; omega)).mono ?_
  rintro e u6 ⟨rfl, hb6⟩
  rw [show decide (f1 = f1) = true from decide_eq_true rfl]
  clear W1_5
  have A_6 : Hid (Below w.heap.size w u6) := Lib.hid ((A_5.out).trans (Below.mono hb6 (A_5.out).size))
  have X_1_6 : Hid (u6.ownsRow 0 45 3 (.slice (some ⟨u2.heap.size, 0, none⟩) f1.length f1.length) f1.length (flatEn f1)) := Lib.hid (own_below X_1_5.out hb6)
  clear A_5 X_1_5
  clear hb6
  go_wp2
  go_ret
  exact ⟨rfl, A_6.out⟩

set_option maxRecDepth 100000 in
theorem lifted (os : Os) (started : os.Started) (H : Type) (enc : TypeId × Value → H) :
    ReturnsInHanded {} Try.checked os 8 .any (Rows.fnExactRoomOfEntrySpec.pre6 enc Try.prog Try.f8 Rows.fnExactRoomOfEntryRow.domain false) (Rows.fnExactRoomOfEntrySpec.post enc Try.prog Try.f8 false true false false) := by
  refine returnsInHanded_of_change (C := Try.checked) own started (by kernel_rfl) Try.func8
    (ChangeSpec.witness6 (enc := enc) (C := Try.checked) false ⟨#[], #[.int .i64 0, .slice none 0 0, .int .i64 0, .int .i64 0], []⟩ 8 (by kernel_rfl) (by kernel_rfl) (by kernel_rfl) (by kernel_rfl)) ?_
  intro W base args ds gs before hval0 hW hcnd _
  have hval : ∀ (j : Nat) t v, Try.f8.params[j]? = some t → args[j]? = some v → Value.okWide Try.prog W .any base t v := hval0
  have hW' := hW
  obtain ⟨p, q, hA0, hV, rfl, hfz, hnd⟩ := hW
  have hA : DataW.TrodAll enc Try.prog W 0 (fun _ => true) true Try.f8.params.toList args.toList ds p := hA0
  rw [Try.params8] at hA hval
  obtain ⟨v0, vs0, d0, ds0, p0, q0, hargs, rfl, rfl, h0, r0⟩ := trodAll_cons hA
  obtain ⟨v1, vs1, d1, ds1, p1, q1, rfl, rfl, rfl, h1, r1⟩ := trodAll_cons r0
  obtain ⟨v2, vs2, d2, ds2, p2, q2, rfl, rfl, rfl, h2, r2⟩ := trodAll_cons r1
  obtain ⟨v3, vs3, d3, ds3, p3, q3, rfl, rfl, rfl, h3, r3⟩ := trodAll_cons r2
  obtain ⟨rfl, rfl, rfl⟩ := trodAll_nil r3
  obtain rfl : args = #[v0, v1, v2, v3] := by cases args; simp_all
  obtain ⟨rfl, rfl⟩ := trodVars_none hV
  have k0 := h0
  have lt0 : ∀ x ∈ p0, x.block < W.heap.size := by obtain ⟨m, hm⟩ := k0; exact DataW.trod_lt m _ _ _ hm
  have k1 := h1
  have lt1 : ∀ x ∈ p1, x.block < W.heap.size := by obtain ⟨m, hm⟩ := k1; exact DataW.trod_lt m _ _ _ hm
  have k2 := h2
  have lt2 : ∀ x ∈ p2, x.block < W.heap.size := by obtain ⟨m, hm⟩ := k2; exact DataW.trod_lt m _ _ _ hm
  have k3 := h3
  have lt3 : ∀ x ∈ p3, x.block < W.heap.size := by obtain ⟨m, hm⟩ := k3; exact DataW.trod_lt m _ _ _ hm
  obtain ⟨a0, rfl, rfl, rfl, wa0⟩ := open_int Try.underlying3 (hval 0 3 v0 rfl rfl) h0
  obtain ⟨A1, f1, c1, rfl, hs1, hl1, hrr1⟩ := open_ens (hval 1 22 v1 rfl rfl) h1
  obtain ⟨a2, rfl, rfl, rfl, wa2⟩ := open_int Try.underlying3 (hval 2 3 v2 rfl rfl) h2
  obtain ⟨a3, rfl, rfl, rfl, wa3⟩ := open_int Try.underlying3 (hval 3 3 v3 rfl rfl) h3
  clear hA0 hval0
  refine (walk a0 A1 f1 c1 a2 a3 W (wf_range wa0) hs1 hl1 hrr1 (wf_range wa2) (wf_range wa3)).mono fun e W' ⟨he, bel⟩ => ?_
  subst he
  exact ⟨_, rfl, _, _, _, [], _, [], hW', trodAll_mk1 (shut_bool Try.underlying4 _), (trodAll_cons_mk (Below.trod laidOut (by kernel_rfl) (of_decide_eq_true (by kernel_rfl)) k0 bel lt0) (trodAll_cons_mk (Below.trod laidOut (by kernel_rfl) (of_decide_eq_true (by kernel_rfl)) k1 bel lt1) (trodAll_cons_mk (Below.trod laidOut (by kernel_rfl) (of_decide_eq_true (by kernel_rfl)) k2 bel lt2) (trodAll_cons_mk (Below.trod laidOut (by kernel_rfl) (of_decide_eq_true (by kernel_rfl)) k3 bel lt3) trodAll_mk0)))), rfl, bel.frame _, fun h => by cases h⟩

theorem over : Rows.fnExactRoomOfEntryRow.holds Try.pinned (OpenSpec.ofChange Rows.fnExactRoomOfEntrySpec) :=
  OpenClaim.holds_of_wide 8 Try.f8 rfl rfl rfl rfl rfl rfl rfl ⟨rfl, rfl, rfl, rfl, rfl⟩ rfl rfl rfl rfl rfl (by kernel_rfl) Try.func8 (by kernel_rfl)
    (of_decide_eq_true (by kernel_rfl)) (by unfold Func.isWrapper; first | (rw [if_pos (by decide +kernel)]; kernel_rfl) | (rw [if_neg (by decide +kernel)]; exact ⟨rfl, rfl⟩))
    (fun os started H enc _ => lifted os started H enc)

theorem proved : Rows.FnExactRoomOfEntrySaid := over
end Go.Proofs.Ytfginbjilpaghaa.fnExactRoomOfEntry

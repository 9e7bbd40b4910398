/-
  FnExactNearestFree: for every input (a slice of Box structs, an int, an int) the law returns true, and what it was given reads as before. Conditions: none beyond the given statement's own.
-/
import Derived.Test.YtllafkeheppkjaaRows
import Derived.Test.YtllafkeheppkjaaNh
import Derived.Test.YtllafkeheppkjaaOpenBx
import Derived.Test.YtllafkeheppkjaaOpenI
import Derived.Test.YtllafkeheppkjaaTos
import Derived.ProofKit
import Derived.OpenShut
import Derived.ShutString
import Derived.ChangeOld
import Derived.Lib.SmallJoins
namespace Go.Proofs.Ytllafkeheppkjaa.fnExactNearestFree
open Go.ChangeShapes Go.WideShapes Go.ChangeAt Go.RowKit Go.Joins
open Go.ChangeMaps (open_string shut_string)
set_option linter.unusedVariables false

theorem own : ownKnob Try.prog.godebug = none := by kernel_rfl
theorem laidOut : laidOutB Try.prog = true := by kernel_rfl

set_option maxRecDepth 100000 in
set_option maxHeartbeats 1000000 in
theorem walk (A0 : Option Addr) (f0 : List Bx) (c0 : Nat) (a1 : Int) (a2 : Int) (w : World) (hs0 : BxsIn w A0 f0) (ho0 : BxsOk f0) (hl0 : f0.length ≤ maxLen) (r1 : -9223372036854775808 ≤ a1 ∧ a1 ≤ 9223372036854775807) (r2 : -9223372036854775808 ≤ a2 ∧ a2 ≤ 9223372036854775807) :
    Calls Try.prog 9 #[.slice A0 f0.length c0, .int .i64 a1, .int .i64 a2] w fun e w' => e = .returned (.bool true) ∧ Below w.heap.size w w' := by
  have HS0 := Lib.hid hs0; clear hs0
  have HO0 := Lib.hid ho0; clear ho0
  unfold maxLen at hl0
  have HR1 := Lib.hid r1; clear r1
  have HR2 := Lib.hid r2; clear r2
  have A_0 : Hid (Below w.heap.size w w) := Lib.hid (Below.refl _ _)
  have hle0 : (1048576 : Int) ≤ 1048576 := by omega
  go_enter Try.func9, Try.ntmps9
  go_wp2_with fail
  have hfin0 := szBx_len f0 1048576 (by omega)
  have hle0 := szBx_range f0 1048576 (by omega)
  refine (szBoxS_any f0 A0 c0 1048576 _ (HS0.out.below A_0.out (Nat.le_refl _)) HO0.out hl0 (by omega) (by omega)).mono ?_
  rintro e u1 ⟨rfl, hb1⟩
  have A_1 : Hid (Below w.heap.size w u1) := Lib.hid ((A_0.out).trans (Below.mono hb1 (A_0.out).size))
  clear A_0
  clear hb1
  generalize szBxS f0 1048576 = z0 at *
  by_cases hz0 : z0 < 0
  · go_wp2
    go_ret
    exact ⟨rfl, A_1.out⟩
  have hn0 : f0.length ≤ 1048576 := hfin0 (by omega)
  clear hfin0
  go_wp2_with fail
  refine (toBoxS_any f0 A0 c0 _ (HS0.out.below A_1.out (Nat.le_refl _)) hn0).mono ?_
  rintro e u2 ⟨rfl, hb2, hr2⟩
  have hB2 : u1.heap.size < u2.heap.size := row_lt hr2
  have A_2 : Hid (Below w.heap.size w u2) := Lib.hid ((A_1.out).trans (Below.mono hb2 (A_1.out).size))
  clear A_1
  clear hb2
  have Z0_2 : Hid (u2.ownsRow 0 26 4 (.slice (some ⟨u1.heap.size, 0, none⟩) f0.length f0.length) f0.length (flatBx f0)) := Lib.hid hr2
  clear hr2
  -- S
  go_wp2_with fail
  refine (specNearestFree_any f0 _ _ a1 a2 _ (own_in_bx Z0_2.out) hn0 HO0.out (Nat.le_refl _)).mono ?_
  rintro e u3 ⟨rfl, hb3⟩
  have A_3 : Hid (Below w.heap.size w u3) := Lib.hid ((A_2.out).trans (Below.mono hb3 (A_2.out).size))
  have Z0_3 : Hid (u3.ownsRow 0 26 4 (.slice (some ⟨u1.heap.size, 0, none⟩) f0.length f0.length) f0.length (flatBx f0)) := Lib.hid (own_below Z0_2.out hb3)
  clear A_2 Z0_2
  clear hb3
  clear Z0_3
  go_wp2_with fail
  refine (toBoxS_any f0 A0 c0 _ (HS0.out.below A_3.out (Nat.le_refl _)) hn0).mono ?_
  rintro e u4 ⟨rfl, hb4, hr4⟩
  have hB4 : u3.heap.size < u4.heap.size := row_lt hr4
  have A_4 : Hid (Below w.heap.size w u4) := Lib.hid ((A_3.out).trans (Below.mono hb4 (A_3.out).size))
  clear A_3
  clear hb4
  have X0_4 : Hid (u4.ownsRow 0 26 4 (.slice (some ⟨u3.heap.size, 0, none⟩) f0.length f0.length) f0.length (flatBx f0)) := Lib.hid hr4
  clear hr4
  -- G
  go_wp2_with fail
  refine (implNearestFree_any f0 _ _ a1 a2 _ (own_in_bx X0_4.out) hn0 HO0.out (Nat.le_refl _)).mono ?_
  rintro e u5 ⟨rfl, hb5⟩
  have A_5 : Hid (Below w.heap.size w u5) := Lib.hid ((A_4.out).trans (Below.mono hb5 (A_4.out).size))
  have X0_5 : Hid (u5.ownsRow 0 26 4 (.slice (some ⟨u3.heap.size, 0, none⟩) f0.length f0.length) f0.length (flatBx f0)) := Lib.hid (own_below X0_4.out hb5)
  clear A_4 X0_4
  clear hb5
  generalize ((((nfA f0 a1 a2).getD (0, 0)).1 : Nat) : Int) = g0 at *
  have hne0 : (g0 != g0) = false := by simp
  generalize ((((nfA f0 a1 a2).getD (0, 0)).2 : Nat) : Int) = g1 at *
  have hne1 : (g1 != g1) = false := by simp
  generalize (nfA f0 a1 a2).isSome = g2 at *
  have hne2 : (g2 != g2) = false := by simp
  -- argument 0 is as it was
  go_wp2_with fail
  refine (toBoxS_any f0 A0 c0 _ (HS0.out.below A_5.out (Nat.le_refl _)) hn0).mono ?_
  rintro e u6 ⟨rfl, hb6, hr6⟩
  have A_6 : Hid (Below w.heap.size w u6) := Lib.hid ((A_5.out).trans (Below.mono hb6 (A_5.out).size))
  have X0_6 : Hid (u6.ownsRow 0 26 4 (.slice (some ⟨u3.heap.size, 0, none⟩) f0.length f0.length) f0.length (flatBx f0)) := Lib.hid (own_below X0_5.out hb6)
  clear A_5 X0_5
  clear hb6
  go_wp2_with fail
  refine (eqBoxS_any f0 f0 _ _ _ _ _ (own_in_bx X0_6.out) (own_in_bx hr6) (by unfold maxLen; omega) (by unfold maxLen; omega)).mono ?_
  rintro e u7 ⟨rfl, hb7⟩
  rw [show decide (f0 = f0) = true from decide_eq_true rfl]
  clear hr6
  have A_7 : Hid (Below w.heap.size w u7) := Lib.hid ((A_6.out).trans (Below.mono hb7 (A_6.out).size))
  have X0_7 : Hid (u7.ownsRow 0 26 4 (.slice (some ⟨u3.heap.size, 0, none⟩) f0.length f0.length) f0.length (flatBx f0)) := Lib.hid (own_below X0_6.out hb7)
  clear A_6 X0_6
  clear hb7
  go_wp2
  go_ret
  exact ⟨rfl, A_7.out⟩

set_option maxRecDepth 100000 in
theorem lifted (os : Os) (started : os.Started) (H : Type) (enc : TypeId × Value → H) :
    ReturnsInHanded {} Try.checked os 9 .any (Rows.fnExactNearestFreeSpec.pre6 enc Try.prog Try.f9 Rows.fnExactNearestFreeRow.domain false) (Rows.fnExactNearestFreeSpec.post enc Try.prog Try.f9 false true false false) := by
  refine returnsInHanded_of_change (C := Try.checked) own started (by kernel_rfl) Try.func9
    (ChangeSpec.witness6 (enc := enc) (C := Try.checked) false ⟨#[], #[.slice none 0 0, .int .i64 0, .int .i64 0], []⟩ 8 (by kernel_rfl) (by kernel_rfl) (by kernel_rfl) (by kernel_rfl)) ?_
  intro W base args ds gs before hval0 hW hcnd _
  have hval : ∀ (j : Nat) t v, Try.f9.params[j]? = some t → args[j]? = some v → Value.okWide Try.prog W .any base t v := hval0
  have hW' := hW
  obtain ⟨p, q, hA0, hV, rfl, hfz, hnd⟩ := hW
  have hA : DataW.TrodAll enc Try.prog W 0 (fun _ => true) true Try.f9.params.toList args.toList ds p := hA0
  rw [Try.params9] at hA hval
  obtain ⟨v0, vs0, d0, ds0, p0, q0, hargs, rfl, rfl, h0, r0⟩ := trodAll_cons hA
  obtain ⟨v1, vs1, d1, ds1, p1, q1, rfl, rfl, rfl, h1, r1⟩ := trodAll_cons r0
  obtain ⟨v2, vs2, d2, ds2, p2, q2, rfl, rfl, rfl, h2, r2⟩ := trodAll_cons r1
  obtain ⟨rfl, rfl, rfl⟩ := trodAll_nil r2
  obtain rfl : args = #[v0, v1, v2] := by cases args; simp_all
  obtain ⟨rfl, rfl⟩ := trodVars_none hV
  have k0 := h0
  have lt0 : ∀ x ∈ p0, x.block < W.heap.size := by obtain ⟨m, hm⟩ := k0; exact DataW.trod_lt m _ _ _ hm
  have k1 := h1
  have lt1 : ∀ x ∈ p1, x.block < W.heap.size := by obtain ⟨m, hm⟩ := k1; exact DataW.trod_lt m _ _ _ hm
  have k2 := h2
  have lt2 : ∀ x ∈ p2, x.block < W.heap.size := by obtain ⟨m, hm⟩ := k2; exact DataW.trod_lt m _ _ _ hm
  obtain ⟨A0, f0, c0, rfl, hs0, ho0, hl0⟩ := open_bxs (hval 0 29 v0 rfl rfl) h0
  obtain ⟨a1, rfl, rfl, rfl, wa1⟩ := open_int Try.underlying3 (hval 1 3 v1 rfl rfl) h1
  obtain ⟨a2, rfl, rfl, rfl, wa2⟩ := open_int Try.underlying3 (hval 2 3 v2 rfl rfl) h2
  clear hA0 hval0
  refine (walk A0 f0 c0 a1 a2 W hs0 ho0 hl0 (wf_range wa1) (wf_range wa2)).mono fun e W' ⟨he, bel⟩ => ?_
  subst he
  exact ⟨_, rfl, _, _, _, [], _, [], hW', trodAll_mk1 (shut_bool Try.underlying4 _), (trodAll_cons_mk (Below.trod laidOut (by kernel_rfl) (of_decide_eq_true (by kernel_rfl)) k0 bel lt0) (trodAll_cons_mk (Below.trod laidOut (by kernel_rfl) (of_decide_eq_true (by kernel_rfl)) k1 bel lt1) (trodAll_cons_mk (Below.trod laidOut (by kernel_rfl) (of_decide_eq_true (by kernel_rfl)) k2 bel lt2) trodAll_mk0))), rfl, bel.frame _, fun h => by cases h⟩

theorem over : Rows.fnExactNearestFreeRow.holds Try.pinned (OpenSpec.ofChange Rows.fnExactNearestFreeSpec) :=
  OpenClaim.holds_of_wide 9 Try.f9 rfl rfl rfl rfl rfl rfl rfl ⟨rfl, rfl, rfl, rfl, rfl⟩ rfl rfl rfl rfl rfl (by kernel_rfl) Try.func9 (by kernel_rfl)
    (of_decide_eq_true (by kernel_rfl)) (by unfold Func.isWrapper; first | (rw [if_pos (by decide +kernel)]; kernel_rfl) | (rw [if_neg (by decide +kernel)]; exact ⟨rfl, rfl⟩))
    (fun os started H enc _ => lifted os started H enc)

theorem proved : Rows.FnExactNearestFreeSaid := over
end Go.Proofs.Ytllafkeheppkjaa.fnExactNearestFree

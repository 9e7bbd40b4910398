/-
  FnExactBestSwap: for every input (a slice of Box structs, a slice of strings) the law returns true, and what it was given reads as before. Conditions: none beyond the given statement's own.
-/
import Derived.Test.YtllafkeheppkjaaRows
import Derived.Test.YtllafkeheppkjaaBt
import Derived.Test.YtllafkeheppkjaaOpenBx
import Derived.Test.YtllafkeheppkjaaOpenI
import Derived.Test.YtllafkeheppkjaaTos
import Derived.ProofKit
import Derived.OpenShut
import Derived.ShutString
import Derived.ChangeOld
import Derived.Lib.SmallJoins
namespace Go.Proofs.Ytllafkeheppkjaa.fnExactBestSwap
open Go.ChangeShapes Go.WideShapes Go.ChangeAt Go.RowKit Go.Joins
open Go.ChangeMaps (open_string shut_string)
set_option linter.unusedVariables false

theorem own : ownKnob Try.prog.godebug = none := by kernel_rfl
theorem laidOut : laidOutB Try.prog = true := by kernel_rfl

set_option maxRecDepth 100000 in
set_option maxHeartbeats 1000000 in
theorem walk (A0 : Option Addr) (f0 : List Bx) (c0 : Nat) (A1 : Option Addr) (s1 : List ByteArray) (c1 : Nat) (w : World) (hs0 : BxsIn w A0 f0) (ho0 : BxsOk f0) (hl0 : f0.length ≤ maxLen) (hs1 : StrsIn w A1 s1) (ho1 : StrsOk s1) (hl1 : s1.length ≤ maxLen) :
    Calls Try.prog 8 #[.slice A0 f0.length c0, .slice A1 s1.length c1] w fun e w' => e = .returned (.bool true) ∧ Below w.heap.size w w' := by
  have HS0 := Lib.hid hs0; clear hs0
  have HO0 := Lib.hid ho0; clear ho0
  unfold maxLen at hl0
  have HS1 := Lib.hid hs1; clear hs1
  have HO1 := Lib.hid ho1; clear ho1
  unfold maxLen at hl1
  have A_0 : Hid (Below w.heap.size w w) := Lib.hid (Below.refl _ _)
  have hle0 : (1048576 : Int) ≤ 1048576 := by omega
  go_enter Try.func8, Try.ntmps8
  go_wp2_with fail
  have hfin0 := szBx_len f0 1048576 (by omega)
  have hle0 := szBx_range f0 1048576 (by omega)
  refine (szBoxS_any f0 A0 c0 1048576 _ (HS0.out.below A_0.out (Nat.le_refl _)) HO0.out hl0 (by omega) (by omega)).mono ?_
  rintro e u1 ⟨rfl, hb1⟩
  have A_1 : Hid (Below w.heap.size w u1) := Lib.hid ((A_0.out).trans (Below.mono hb1 (A_0.out).size))
  clear A_0
  clear hb1
  generalize szBxS f0 1048576 = z0 at *
  by_cases hz0 : z0 < 0
  · go_wp2
    go_ret
    exact ⟨rfl, A_1.out⟩
  have hn0 : f0.length ≤ 1048576 := hfin0 (by omega)
  clear hfin0
  go_wp2_with fail
  have hfin1 := szStrs_len s1 z0 (by omega)
  refine (szStringS_any s1 A1 c1 z0 _ (HS1.out.below A_1.out (Nat.le_refl _)) HO1.out hl1 (by omega) (by omega)).mono ?_
  rintro e u2 ⟨rfl, hb2⟩
  have A_2 : Hid (Below w.heap.size w u2) := Lib.hid ((A_1.out).trans (Below.mono hb2 (A_1.out).size))
  clear A_1
  clear hb2
  generalize szStringSF s1 z0 = z1 at *
  by_cases hz1 : z1 < 0
  · go_wp2
    go_ret
    exact ⟨rfl, A_2.out⟩
  have hn1 : s1.length ≤ 1048576 := hfin1 (by omega)
  clear hfin1
  go_wp2_with fail
  refine (toBoxS_any f0 A0 c0 _ (HS0.out.below A_2.out (Nat.le_refl _)) hn0).mono ?_
  rintro e u3 ⟨rfl, hb3, hr3⟩
  have hB3 : u2.heap.size < u3.heap.size := row_lt hr3
  have A_3 : Hid (Below w.heap.size w u3) := Lib.hid ((A_2.out).trans (Below.mono hb3 (A_2.out).size))
  clear A_2
  clear hb3
  have Z0_3 : Hid (u3.ownsRow 0 26 4 (.slice (some ⟨u2.heap.size, 0, none⟩) f0.length f0.length) f0.length (flatBx f0)) := Lib.hid hr3
  clear hr3
  go_wp2_with fail
  refine (toStrOwn_any s1 A1 c1 _ (HS1.out.below A_3.out (Nat.le_refl _)) hn1).mono ?_
  rintro e u4 ⟨rfl, hb4, hr4⟩
  have hB4 : u3.heap.size < u4.heap.size := row_lt hr4
  have A_4 : Hid (Below w.heap.size w u4) := Lib.hid ((A_3.out).trans (Below.mono hb4 (A_3.out).size))
  have Z0_4 : Hid (u4.ownsRow 0 26 4 (.slice (some ⟨u2.heap.size, 0, none⟩) f0.length f0.length) f0.length (flatBx f0)) := Lib.hid (own_below Z0_3.out hb4)
  clear A_3 Z0_3
  clear hb4
  have Z1_4 : Hid (u4.ownsRow 0 9 1 (.slice (some ⟨u3.heap.size, 0, none⟩) s1.length s1.length) s1.length (strs s1)) := Lib.hid hr4
  clear hr4
  -- S
  go_wp2_with fail
  refine (specBestSwap_any f0 _ _ s1 _ _ _ (own_in_bx Z0_4.out) hn0 HO0.out (Nat.le_refl _) (own_in_s Z1_4.out) HO1.out hn1).mono ?_
  rintro e u5 ⟨rfl, hb5⟩
  have A_5 : Hid (Below w.heap.size w u5) := Lib.hid ((A_4.out).trans (Below.mono hb5 (A_4.out).size))
  have Z0_5 : Hid (u5.ownsRow 0 26 4 (.slice (some ⟨u2.heap.size, 0, none⟩) f0.length f0.length) f0.length (flatBx f0)) := Lib.hid (own_below Z0_4.out hb5)
  have Z1_5 : Hid (u5.ownsRow 0 9 1 (.slice (some ⟨u3.heap.size, 0, none⟩) s1.length s1.length) s1.length (strs s1)) := Lib.hid (own_below Z1_4.out hb5)
  clear A_4 Z0_4 Z1_4
  clear hb5
  clear Z0_5
  clear Z1_5
  go_wp2_with fail
  refine (toBoxS_any f0 A0 c0 _ (HS0.out.below A_5.out (Nat.le_refl _)) hn0).mono ?_
  rintro e u6 ⟨rfl, hb6, hr6⟩
  have hB6 : u5.heap.size < u6.heap.size := row_lt hr6
  have A_6 : Hid (Below w.heap.size w u6) := Lib.hid ((A_5.out).trans (Below.mono hb6 (A_5.out).size))
  clear A_5
  clear hb6
  have X0_6 : Hid (u6.ownsRow 0 26 4 (.slice (some ⟨u5.heap.size, 0, none⟩) f0.length f0.length) f0.length (flatBx f0)) := Lib.hid hr6
  clear hr6
  go_wp2_with fail
  refine (toStrOwn_any s1 A1 c1 _ (HS1.out.below A_6.out (Nat.le_refl _)) hn1).mono ?_
  rintro e u7 ⟨rfl, hb7, hr7⟩
  have hB7 : u6.heap.size < u7.heap.size := row_lt hr7
  have A_7 : Hid (Below w.heap.size w u7) := Lib.hid ((A_6.out).trans (Below.mono hb7 (A_6.out).size))
  have X0_7 : Hid (u7.ownsRow 0 26 4 (.slice (some ⟨u5.heap.size, 0, none⟩) f0.length f0.length) f0.length (flatBx f0)) := Lib.hid (own_below X0_6.out hb7)
  clear A_6 X0_6
  clear hb7
  have X1_7 : Hid (u7.ownsRow 0 9 1 (.slice (some ⟨u6.heap.size, 0, none⟩) s1.length s1.length) s1.length (strs s1)) := Lib.hid hr7
  clear hr7
  -- G
  go_wp2_with fail
  refine (implBestSwap_any f0 _ _ s1 _ _ _ (own_in_bx X0_7.out) hn0 HO0.out (Nat.le_refl _) (own_in_s X1_7.out) HO1.out hn1).mono ?_
  rintro e u8 ⟨rfl, hb8⟩
  have A_8 : Hid (Below w.heap.size w u8) := Lib.hid ((A_7.out).trans (Below.mono hb8 (A_7.out).size))
  have X0_8 : Hid (u8.ownsRow 0 26 4 (.slice (some ⟨u5.heap.size, 0, none⟩) f0.length f0.length) f0.length (flatBx f0)) := Lib.hid (own_below X0_7.out hb8)
  have X1_8 : Hid (u8.ownsRow 0 9 1 (.slice (some ⟨u6.heap.size, 0, none⟩) s1.length s1.length) s1.length (strs s1)) := Lib.hid (own_below X1_7.out hb8)
  clear A_7 X0_7 X1_7
  clear hb8
  generalize ((((bsA f0 s1).getD (0, 0)).1 : Nat) : Int) = g0 at *
  have hne0 : (g0 != g0) = false := by simp
  generalize ((((bsA f0 s1).getD (0, 0)).2 : Nat) : Int) = g1 at *
  have hne1 : (g1 != g1) = false := by simp
  generalize bsV f0 s1 = g2 at *
  have hne2 : (g2 != g2) = false := by simp
  generalize (bsA f0 s1).isSome = g3 at *
  have hne3 : (g3 != g3) = false := by simp
  -- argument 0 is as it was
  go_wp2_with fail
  refine (toBoxS_any f0 A0 c0 _ (HS0.out.below A_8.out (Nat.le_refl _)) hn0).mono ?_
  rintro e u9 ⟨rfl, hb9, hr9⟩
  have A_9 : Hid (Below w.heap.size w u9) := Lib.hid ((A_8.out).trans (Below.mono hb9 (A_8.out).size))
  have X0_9 : Hid (u9.ownsRow 0 26 4 (.slice (some ⟨u5.heap.size, 0, none⟩) f0.length f0.length) f0.length (flatBx f0)) := Lib.hid (own_below X0_8.out hb9)
  have X1_9 : Hid (u9.ownsRow 0 9 1 (.slice (some ⟨u6.heap.size, 0, none⟩) s1.length s1.length) s1.length (strs s1)) := Lib.hid (own_below X1_8.out hb9)
  clear A_8 X0_8 X1_8
  clear hb9
  go_wp2_with fail
  refine (eqBoxS_any f0 f0 _ _ _ _ _ (own_in_bx X0_9.out) (own_in_bx hr9) (by unfold maxLen; omega) (by unfold maxLen; omega)).mono ?_
  rintro e u10 ⟨rfl, hb10⟩
  rw [show decide (f0 = f0) = true from decide_eq_true rfl]
  clear hr9
  have A_10 : Hid (Below w.heap.size w u10) := Lib.hid ((A_9.out).trans (Below.mono hb10 (A_9.out).size))
  have X0_10 : Hid (u10.ownsRow 0 26 4 (.slice (some ⟨u5.heap.size, 0, none⟩) f0.length f0.length) f0.length (flatBx f0)) := Lib.hid (own_below X0_9.out hb10)
  have X1_10 : Hid (u10.ownsRow 0 9 1 (.slice (some ⟨u6.heap.size, 0, none⟩) s1.length s1.length) s1.length (strs s1)) := Lib.hid (own_below X1_9.out hb10)
  clear A_9 X0_9 X1_9
  clear hb10
  -- argument 1 is as it was
  go_wp2_with fail
  refine (toStrOwn_any s1 A1 c1 _ (HS1.out.below A_10.out (Nat.le_refl _)) hn1).mono ?_
  rintro e u11 ⟨rfl, hb11, hr11⟩
  have A_11 : Hid (Below w.heap.size w u11) := Lib.hid ((A_10.out).trans (Below.mono hb11 (A_10.out).size))
  have X0_11 : Hid (u11.ownsRow 0 26 4 (.slice (some ⟨u5.heap.size, 0, none⟩) f0.length f0.length) f0.length (flatBx f0)) := Lib.hid (own_below X0_10.out hb11)
  have X1_11 : Hid (u11.ownsRow 0 9 1 (.slice (some ⟨u6.heap.size, 0, none⟩) s1.length s1.length) s1.length (strs s1)) := Lib.hid (own_below X1_10.out hb11)
  clear A_10 X0_10 X1_10
  clear hb11
  go_wp2_with fail
  refine (eqStringS_any s1 s1 _ _ _ _ _ (own_in_s X1_11.out) (own_in_s hr11) (by unfold maxLen; omega) (by unfold maxLen; omega)).mono ?_
  rintro e u12 ⟨rfl, hb12⟩
  rw [show decide (s1 = s1) = true from decide_eq_true rfl]
  clear hr11
  have A_12 : Hid (Below w.heap.size w u12) := Lib.hid ((A_11.out).trans (Below.mono hb12 (A_11.out).size))
  have X0_12 : Hid (u12.ownsRow 0 26 4 (.slice (some ⟨u5.heap.size, 0, none⟩) f0.length f0.length) f0.length (flatBx f0)) := Lib.hid (own_below X0_11.out hb12)
  have X1_12 : Hid (u12.ownsRow 0 9 1 (.slice (some ⟨u6.heap.size, 0, none⟩) s1.length s1.length) s1.length (strs s1)) := Lib.hid (own_below X1_11.out hb12)
  clear A_11 X0_11 X1_11
  clear hb12
  go_wp2
  go_ret
  exact ⟨rfl, A_12.out⟩

set_option maxRecDepth 100000 in
theorem lifted (os : Os) (started : os.Started) (H : Type) (enc : TypeId × Value → H) :
    ReturnsInHanded {} Try.checked os 8 .any (Rows.fnExactBestSwapSpec.pre6 enc Try.prog Try.f8 Rows.fnExactBestSwapRow.domain false) (Rows.fnExactBestSwapSpec.post enc Try.prog Try.f8 false true false false) := by
  refine returnsInHanded_of_change (C := Try.checked) own started (by kernel_rfl) Try.func8
    (ChangeSpec.witness6 (enc := enc) (C := Try.checked) false ⟨#[], #[.slice none 0 0, .slice none 0 0], []⟩ 8 (by kernel_rfl) (by kernel_rfl) (by kernel_rfl) (by kernel_rfl)) ?_
  intro W base args ds gs before hval0 hW hcnd _
  have hval : ∀ (j : Nat) t v, Try.f8.params[j]? = some t → args[j]? = some v → Value.okWide Try.prog W .any base t v := hval0
  have hW' := hW
  obtain ⟨p, q, hA0, hV, rfl, hfz, hnd⟩ := hW
  have hA : DataW.TrodAll enc Try.prog W 0 (fun _ => true) true Try.f8.params.toList args.toList ds p := hA0
  rw [Try.params8] at hA hval
  obtain ⟨v0, vs0, d0, ds0, p0, q0, hargs, rfl, rfl, h0, r0⟩ := trodAll_cons hA
  obtain ⟨v1, vs1, d1, ds1, p1, q1, rfl, rfl, rfl, h1, r1⟩ := trodAll_cons r0
  obtain ⟨rfl, rfl, rfl⟩ := trodAll_nil r1
  obtain rfl : args = #[v0, v1] := by cases args; simp_all
  obtain ⟨rfl, rfl⟩ := trodVars_none hV
  have k0 := h0
  have lt0 : ∀ x ∈ p0, x.block < W.heap.size := by obtain ⟨m, hm⟩ := k0; exact DataW.trod_lt m _ _ _ hm
  have k1 := h1
  have lt1 : ∀ x ∈ p1, x.block < W.heap.size := by obtain ⟨m, hm⟩ := k1; exact DataW.trod_lt m _ _ _ hm
  obtain ⟨A0, f0, c0, rfl, hs0, ho0, hl0⟩ := open_bxs (hval 0 29 v0 rfl rfl) h0
  obtain ⟨A1, f1, c1, rfl, hs1, ho1, hl1⟩ := open_strs (hval 1 39 v1 rfl rfl) h1
  clear hA0 hval0
  refine (walk A0 f0 c0 A1 f1 c1 W hs0 ho0 hl0 hs1 ho1 hl1).mono fun e W' ⟨he, bel⟩ => ?_
  subst he
  exact ⟨_, rfl, _, _, _, [], _, [], hW', trodAll_mk1 (shut_bool Try.underlying4 _), (trodAll_cons_mk (Below.trod laidOut (by kernel_rfl) (of_decide_eq_true (by kernel_rfl)) k0 bel lt0) (trodAll_cons_mk (Below.trod laidOut (by kernel_rfl) (of_decide_eq_true (by kernel_rfl)) k1 bel lt1) trodAll_mk0)), rfl, bel.frame _, fun h => by cases h⟩

theorem over : Rows.fnExactBestSwapRow.holds Try.pinned (OpenSpec.ofChange Rows.fnExactBestSwapSpec) :=
  OpenClaim.holds_of_wide 8 Try.f8 rfl rfl rfl rfl rfl rfl rfl ⟨rfl, rfl, rfl, rfl, rfl⟩ rfl rfl rfl rfl rfl (by kernel_rfl) Try.func8 (by kernel_rfl)
    (of_decide_eq_true (by kernel_rfl)) (by unfold Func.isWrapper; first | (rw [if_pos (by decide +kernel)]; kernel_rfl) | (rw [if_neg (by decide +kernel)]; exact ⟨rfl, rfl⟩))
    (fun os started H enc _ => lifted os started H enc)

theorem proved : Rows.FnExactBestSwapSaid := over
end Go.Proofs.Ytllafkeheppkjaa.fnExactBestSwap

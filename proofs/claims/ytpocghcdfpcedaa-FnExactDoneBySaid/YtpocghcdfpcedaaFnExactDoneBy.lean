/-
  FnExactDoneBy: for every input (a machine, a slice of castings, a slice of ints, an int) the law returns true, and what it was given reads as before. Conditions: none beyond the given statement's own.
-/
import Derived.Test.YtpocghcdfpcedaaRows
import Derived.Test.YtpocghcdfpcedaaKi
import Derived.Test.YtpocghcdfpcedaaKr
import Derived.Test.YtpocghcdfpcedaaOpenKc
import Derived.Test.YtpocghcdfpcedaaOpenKm
import Derived.Test.YtpocghcdfpcedaaOpenIz
import Derived.ProofKit
import Derived.OpenShut
import Derived.ShutString
import Derived.ChangeOld
import Derived.Lib.SmallJoins
namespace Go.Proofs.Ytpocghcdfpcedaa.fnExactDoneBy
open Go.ChangeShapes Go.WideShapes Go.ChangeAt Go.RowKit Go.Joins
open Go.ChangeMaps (open_string shut_string)
set_option linter.unusedVariables false

theorem own : ownKnob Try.prog.godebug = none := by kernel_rfl
theorem laidOut : laidOutB Try.prog = true := by kernel_rfl

set_option maxRecDepth 100000 in
set_option maxHeartbeats 2000000 in
theorem walk (m0 : Mc) (A1 : Option Addr) (f1 : List Ca) (c1 : Nat) (A2 : Option Addr) (l2 : List Int) (c2 : Nat) (a3 : Int) (w : World) (hs1 : CasIn w A1 f1) (hl1 : f1.length ≤ maxLen) (hs2 : IntsIn w A2 l2) (hl2 : l2.length ≤ maxLen) (r3 : -9223372036854775808 ≤ a3 ∧ a3 ≤ 9223372036854775807) :
    Calls Try.prog 9 #[.agg #[.int .i64 m0.bod, .int .i64 m0.hou, .int .i64 m0.cha], .slice A1 f1.length c1, .slice A2 l2.length c2, .int .i64 a3] w fun e w' => e = .returned (.bool true) ∧ Below w.heap.size w w' := by
  have HS1 := Lib.hid hs1; clear hs1
  unfold maxLen at hl1
  have HS2 := Lib.hid hs2; clear hs2
  unfold maxLen at hl2
  have HR3 := Lib.hid r3; clear r3
  obtain ⟨w0, hw0⟩ : ∃ w0 : World, w0 = (w.alloc (.cells #[.int .i64 m0.bod, .int .i64 m0.hou, .int .i64 m0.cha] 30)) := ⟨_, rfl⟩
  have hwz : w0.heap.size = w.heap.size + 1 := by rw [hw0]; simp
  have HWZ := Lib.hid hwz; clear hwz
  have A_0 : Hid (Below w.heap.size w w0) := Lib.hid (show Below _ _ _ by rw [hw0]; exact ((Below.refl _ _).alloc (by simp) _))
  have X0_0 : Hid (McAt w0 (w.heap.size) 30 m0) := Lib.hid (show McAt _ _ _ _ by rw [hw0]; exact (McAt.new _ _ _))
  have HW0 := Lib.hid hw0; clear hw0
  by_cases hlong2 : (1048576 : Int) < l2.length
  · go_enter Try.func9, Try.ntmps9
    go_wp2
    go_ret
    exact ⟨rfl, by first | exact A_0.out | (rw [HW0.out] at A_0; exact A_0.out)⟩
  have hn2 : l2.length ≤ 1048576 := by omega
  obtain ⟨V0, hV0⟩ : ∃ V, V = dnV m0 f1 l2 a3 := ⟨_, rfl⟩
  have HV0 := Lib.hid hV0; clear hV0
  have hne0 : (V0 != V0) = false := by simp
  obtain ⟨V1, hV1⟩ : ∃ V, V = dnB m0 f1 l2 a3 := ⟨_, rfl⟩
  have HV1 := Lib.hid hV1; clear hV1
  have hne1 : (V1 != V1) = false := by simp
  have HSP : Hid (∀ (W : World) (B1 : Option Addr) (B2 : Option Addr), f1.length ≤ 1048576 → l2.length ≤ 1048576 → CasIn W B1 f1 → IntsIn W B2 l2 → Calls Try.prog 36 #[.agg #[.int .i64 m0.bod, .int .i64 m0.hou, .int .i64 m0.cha], .slice B1 f1.length f1.length, .slice B2 l2.length l2.length, .int .i64 a3] W fun e W' => e = .returned (.tuple #[.int .i64 V0, .bool V1]) ∧ Below W.heap.size W W') := Lib.hid (by
    rw [HV0.out, HV1.out]; exact fun W B1 B2 h1 h2 i1 i2 => specDoneBy_any m0 f1 B1 f1.length l2 B2 l2.length a3 W i1 h1 i2 h2 (Nat.le_refl _))
  have HIM : Hid (∀ (W : World) (B1 : Option Addr) (B2 : Option Addr), f1.length ≤ 1048576 → l2.length ≤ 1048576 → CasIn W B1 f1 → IntsIn W B2 l2 → Calls Try.prog 37 #[.agg #[.int .i64 m0.bod, .int .i64 m0.hou, .int .i64 m0.cha], .slice B1 f1.length f1.length, .slice B2 l2.length l2.length, .int .i64 a3] W fun e W' => e = .returned (.tuple #[.int .i64 V0, .bool V1]) ∧ Below W.heap.size W W') := Lib.hid (by
    rw [HV0.out, HV1.out]; exact fun W B1 B2 h1 h2 i1 i2 => implDoneBy_any m0 f1 B1 f1.length l2 B2 l2.length a3 W i1 h1 i2 h2)
  go_enter Try.func9, Try.ntmps9
  go_wp2_with fail
  rw [← HW0.out]
  refine (szCastingS_any f1 A1 c1 1048576 _ (by unfold maxLen; omega) (by omega) (by omega)).mono ?_
  rintro e w' ⟨rfl, hww⟩
  subst hww
  by_cases hz1 : (1048576 : Int) < (f1.length : Int)
  · rw [if_pos hz1]
    go_wp2
    go_ret
    exact ⟨rfl, A_0.out⟩
  rw [if_neg hz1]
  have hn1 : f1.length ≤ 1048576 := by omega
  have hnn1 : ¬ (1048576 : Int) - (f1.length : Int) < 0 := by omega
  clear hz1
  obtain ⟨q0, q1, q2⟩ := (X0_0.out).cells
  have ql := (X0_0.out).lt
  go_wp2_with fail
  refine (toMachine_any m0 _).mono ?_
  rintro e u1 ⟨rfl, hb1⟩
  clear q0 q1 q2 ql
  have hzhb1 : w0.heap.size ≤ u1.heap.size := hb1.size
  have A_1 : Hid (Below w.heap.size w u1) := Lib.hid ((A_0.out).trans (Below.mono hb1 (A_0.out).size))
  have X0_1 : Hid (McAt u1 (w.heap.size) 30 m0) := Lib.hid ((X0_0.out).next hb1)
  clear A_0 X0_0
  clear hb1
  go_wp2_with fail
  refine (toCaOwn_any f1 A1 c1 _ (HS1.out.below A_1.out (by first | exact Nat.le_refl _)) hn1).mono ?_
  rintro e u2 ⟨rfl, hb2, hr2⟩
  have hB2 : u1.heap.size < u2.heap.size := row_lt hr2
  have A_2 : Hid (Below w.heap.size w u2) := Lib.hid ((A_1.out).trans (Below.mono hb2 (A_1.out).size))
  have X0_2 : Hid (McAt u2 (w.heap.size) 30 m0) := Lib.hid ((X0_1.out).next hb2)
  clear A_1 X0_1
  clear hb2
  have Z1_2 : Hid (u2.ownsRow 0 39 2 (.slice (some ⟨u1.heap.size, 0, none⟩) f1.length f1.length) f1.length (flatCa f1)) := Lib.hid hr2
  clear hr2
  go_wp2_with fail
  refine (toIntOwn_any l2 A2 c2 _ (HS2.out.below A_2.out (by first | exact Nat.le_refl _)) hn2).mono ?_
  rintro e u3 ⟨rfl, hb3, hr3⟩
  have hB3 : u2.heap.size < u3.heap.size := row_lt hr3
  have A_3 : Hid (Below w.heap.size w u3) := Lib.hid ((A_2.out).trans (Below.mono hb3 (A_2.out).size))
  have X0_3 : Hid (McAt u3 (w.heap.size) 30 m0) := Lib.hid ((X0_2.out).next hb3)
  have Z1_3 : Hid (u3.ownsRow 0 39 2 (.slice (some ⟨u1.heap.size, 0, none⟩) f1.length f1.length) f1.length (flatCa f1)) := Lib.hid (own_below Z1_2.out hb3)
  clear A_2 X0_2 Z1_2
  clear hb3
  have Z2_3 : Hid (u3.ownsRow 0 3 1 (.slice (some ⟨u2.heap.size, 0, none⟩) l2.length l2.length) l2.length (intsZ l2)) := Lib.hid hr3
  clear hr3
  go_wp2_with fail
  refine (HSP.out _ _ _ hn1 hn2 (own_in_ca Z1_3.out) (own_in Z2_3.out)).mono ?_
  rintro e u4 ⟨rfl, hb4⟩
  have A_4 : Hid (Below w.heap.size w u4) := Lib.hid ((A_3.out).trans (Below.mono hb4 (A_3.out).size))
  have X0_4 : Hid (McAt u4 (w.heap.size) 30 m0) := Lib.hid ((X0_3.out).next hb4)
  have Z1_4 : Hid (u4.ownsRow 0 39 2 (.slice (some ⟨u1.heap.size, 0, none⟩) f1.length f1.length) f1.length (flatCa f1)) := Lib.hid (own_below Z1_3.out hb4)
  have Z2_4 : Hid (u4.ownsRow 0 3 1 (.slice (some ⟨u2.heap.size, 0, none⟩) l2.length l2.length) l2.length (intsZ l2)) := Lib.hid (own_below Z2_3.out hb4)
  clear A_3 X0_3 Z1_3 Z2_3
  clear hb4
  clear Z1_4
  clear Z2_4
  go_wp2_with fail
  refine (toCaOwn_any f1 A1 c1 _ (HS1.out.below A_4.out (by first | exact Nat.le_refl _)) hn1).mono ?_
  rintro e u5 ⟨rfl, hb5, hr5⟩
  have hB5 : u4.heap.size < u5.heap.size := row_lt hr5
  have A_5 : Hid (Below w.heap.size w u5) := Lib.hid ((A_4.out).trans (Below.mono hb5 (A_4.out).size))
  have X0_5 : Hid (McAt u5 (w.heap.size) 30 m0) := Lib.hid ((X0_4.out).next hb5)
  clear A_4 X0_4
  clear hb5
  have X_1_5 : Hid (u5.ownsRow 0 39 2 (.slice (some ⟨u4.heap.size, 0, none⟩) f1.length f1.length) f1.length (flatCa f1)) := Lib.hid hr5
  clear hr5
  go_wp2_with fail
  refine (toIntOwn_any l2 A2 c2 _ (HS2.out.below A_5.out (by first | exact Nat.le_refl _)) hn2).mono ?_
  rintro e u6 ⟨rfl, hb6, hr6⟩
  have hB6 : u5.heap.size < u6.heap.size := row_lt hr6
  have A_6 : Hid (Below w.heap.size w u6) := Lib.hid ((A_5.out).trans (Below.mono hb6 (A_5.out).size))
  have X0_6 : Hid (McAt u6 (w.heap.size) 30 m0) := Lib.hid ((X0_5.out).next hb6)
  have X_1_6 : Hid (u6.ownsRow 0 39 2 (.slice (some ⟨u4.heap.size, 0, none⟩) f1.length f1.length) f1.length (flatCa f1)) := Lib.hid (own_below X_1_5.out hb6)
  clear A_5 X0_5 X_1_5
  clear hb6
  have X_2_6 : Hid (u6.ownsRow 0 3 1 (.slice (some ⟨u5.heap.size, 0, none⟩) l2.length l2.length) l2.length (intsZ l2)) := Lib.hid hr6
  clear hr6
  obtain ⟨q0, q1, q2⟩ := (X0_6.out).cells
  have ql := (X0_6.out).lt
  go_wp2_with fail
  refine (toMachine_any m0 _).mono ?_
  rintro e u7 ⟨rfl, hb7⟩
  clear q0 q1 q2 ql
  have hzhb7 : u6.heap.size ≤ u7.heap.size := hb7.size
  have A_7 : Hid (Below w.heap.size w u7) := Lib.hid ((A_6.out).trans (Below.mono hb7 (A_6.out).size))
  have X0_7 : Hid (McAt u7 (w.heap.size) 30 m0) := Lib.hid ((X0_6.out).next hb7)
  have X_1_7 : Hid (u7.ownsRow 0 39 2 (.slice (some ⟨u4.heap.size, 0, none⟩) f1.length f1.length) f1.length (flatCa f1)) := Lib.hid (own_below X_1_6.out hb7)
  have X_2_7 : Hid (u7.ownsRow 0 3 1 (.slice (some ⟨u5.heap.size, 0, none⟩) l2.length l2.length) l2.length (intsZ l2)) := Lib.hid (own_below X_2_6.out hb7)
  clear A_6 X0_6 X_1_6 X_2_6
  clear hb7
  go_wp2_with fail
  refine (HIM.out _ _ _ hn1 hn2 (own_in_ca X_1_7.out) (own_in X_2_7.out)).mono ?_
  rintro e u8 ⟨rfl, hb8⟩
  have A_8 : Hid (Below w.heap.size w u8) := Lib.hid ((A_7.out).trans (Below.mono hb8 (A_7.out).size))
  have X0_8 : Hid (McAt u8 (w.heap.size) 30 m0) := Lib.hid ((X0_7.out).next hb8)
  have X_1_8 : Hid (u8.ownsRow 0 39 2 (.slice (some ⟨u4.heap.size, 0, none⟩) f1.length f1.length) f1.length (flatCa f1)) := Lib.hid (own_below X_1_7.out hb8)
  have X_2_8 : Hid (u8.ownsRow 0 3 1 (.slice (some ⟨u5.heap.size, 0, none⟩) l2.length l2.length) l2.length (intsZ l2)) := Lib.hid (own_below X_2_7.out hb8)
  clear A_7 X0_7 X_1_7 X_2_7
  clear hb8
  go_wp2_with fail
  refine (toCaOwn_any f1 A1 c1 _ (HS1.out.below A_8.out (by first | exact Nat.le_refl _)) hn1).mono ?_
  rintro e u9 ⟨rfl, hb9, hr9⟩
  have hB9 : u8.heap.size < u9.heap.size := row_lt hr9
  have A_9 : Hid (Below w.heap.size w u9) := Lib.hid ((A_8.out).trans (Below.mono hb9 (A_8.out).size))
  have X0_9 : Hid (McAt u9 (w.heap.size) 30 m0) := Lib.hid ((X0_8.out).next hb9)
  have X_1_9 : Hid (u9.ownsRow 0 39 2 (.slice (some ⟨u4.heap.size, 0, none⟩) f1.length f1.length) f1.length (flatCa f1)) := Lib.hid (own_below X_1_8.out hb9)
  have X_2_9 : Hid (u9.ownsRow 0 3 1 (.slice (some ⟨u5.heap.size, 0, none⟩) l2.length l2.length) l2.length (intsZ l2)) := Lib.hid (own_below X_2_8.out hb9)
  clear A_8 X0_8 X_1_8 X_2_8
  clear hb9
  have W1_9 : Hid (u9.ownsRow 0 39 2 (.slice (some ⟨u8.heap.size, 0, none⟩) f1.length f1.length) f1.length (flatCa f1)) := Lib.hid hr9
  clear hr9
  go_wp2_with fail
  refine (eqCastingS_any f1 f1 _ _ _ _ _ (own_in_ca X_1_9.out) (own_in_ca W1_9.out) (by unfold maxLen; omega) (by unfold maxLen; omega)).mono ?_
  rintro e u10 ⟨rfl, hb10⟩
  rw [show decide (f1 = f1) = true from decide_eq_true rfl]
  clear W1_9
  have A_10 : Hid (Below w.heap.size w u10) := Lib.hid ((A_9.out).trans (Below.mono hb10 (A_9.out).size))
  have X0_10 : Hid (McAt u10 (w.heap.size) 30 m0) := Lib.hid ((X0_9.out).next hb10)
  have X_1_10 : Hid (u10.ownsRow 0 39 2 (.slice (some ⟨u4.heap.size, 0, none⟩) f1.length f1.length) f1.length (flatCa f1)) := Lib.hid (own_below X_1_9.out hb10)
  have X_2_10 : Hid (u10.ownsRow 0 3 1 (.slice (some ⟨u5.heap.size, 0, none⟩) l2.length l2.length) l2.length (intsZ l2)) := Lib.hid (own_below X_2_9.out hb10)
  clear A_9 X0_9 X_1_9 X_2_9
  clear hb10
  go_wp2_with fail
  refine (toIntOwn_any l2 A2 c2 _ (HS2.out.below A_10.out (by first | exact Nat.le_refl _)) hn2).mono ?_
  rintro e u11 ⟨rfl, hb11, hr11⟩
  have hB11 : u10.heap.size < u11.heap.size := row_lt hr11
  have A_11 : Hid (Below w.heap.size w u11) := Lib.hid ((A_10.out).trans (Below.mono hb11 (A_10.out).size))
  have X0_11 : Hid (McAt u11 (w.heap.size) 30 m0) := Lib.hid ((X0_10.out).next hb11)
  have X_1_11 : Hid (u11.ownsRow 0 39 2 (.slice (some ⟨u4.heap.size, 0, none⟩) f1.length f1.length) f1.length (flatCa f1)) := Lib.hid (own_below X_1_10.out hb11)
  have X_2_11 : Hid (u11.ownsRow 0 3 1 (.slice (some ⟨u5.heap.size, 0, none⟩) l2.length l2.length) l2.length (intsZ l2)) := Lib.hid (own_below X_2_10.out hb11)
  clear A_10 X0_10 X_1_10 X_2_10
  clear hb11
  have W2_11 : Hid (u11.ownsRow 0 3 1 (.slice (some ⟨u10.heap.size, 0, none⟩) l2.length l2.length) l2.length (intsZ l2)) := Lib.hid hr11
  clear hr11
  go_wp2_with fail
  refine (eqIntS_any l2 l2 _ _ _ _ _ (own_in X_2_11.out) (own_in W2_11.out) (by unfold maxLen; omega) (by unfold maxLen; omega)).mono ?_
  rintro e u12 ⟨rfl, hb12⟩
  rw [show decide (l2 = l2) = true from decide_eq_true rfl]
  clear W2_11
  have A_12 : Hid (Below w.heap.size w u12) := Lib.hid ((A_11.out).trans (Below.mono hb12 (A_11.out).size))
  have X0_12 : Hid (McAt u12 (w.heap.size) 30 m0) := Lib.hid ((X0_11.out).next hb12)
  have X_1_12 : Hid (u12.ownsRow 0 39 2 (.slice (some ⟨u4.heap.size, 0, none⟩) f1.length f1.length) f1.length (flatCa f1)) := Lib.hid (own_below X_1_11.out hb12)
  have X_2_12 : Hid (u12.ownsRow 0 3 1 (.slice (some ⟨u5.heap.size, 0, none⟩) l2.length l2.length) l2.length (intsZ l2)) := Lib.hid (own_below X_2_11.out hb12)
  clear A_11 X0_11 X_1_11 X_2_11
  clear hb12
  go_wp2
  go_ret
  exact ⟨rfl, A_12.out⟩

set_option maxRecDepth 100000 in
theorem lifted (os : Os) (started : os.Started) (H : Type) (enc : TypeId × Value → H) :
    ReturnsInHanded {} Try.checked os 9 .any (Rows.fnExactDoneBySpec.pre6 enc Try.prog Try.f9 Rows.fnExactDoneByRow.domain false) (Rows.fnExactDoneBySpec.post enc Try.prog Try.f9 false true false false) := by
  refine returnsInHanded_of_change (C := Try.checked) own started (by kernel_rfl) Try.func9
    (ChangeSpec.witness6 (enc := enc) (C := Try.checked) false ⟨#[], #[.agg #[.int .i64 0, .int .i64 0, .int .i64 0], .slice none 0 0, .slice none 0 0, .int .i64 0], []⟩ 8 (by kernel_rfl) (by kernel_rfl) (by kernel_rfl) (by kernel_rfl)) ?_
  intro W base args ds gs before hval0 hW hcnd _
  have hval : ∀ (j : Nat) t v, Try.f9.params[j]? = some t → args[j]? = some v → Value.okWide Try.prog W .any base t v := hval0
  have hW' := hW
  obtain ⟨p, q, hA0, hV, rfl, hfz, hnd⟩ := hW
  have hA : DataW.TrodAll enc Try.prog W 0 (fun _ => true) true Try.f9.params.toList args.toList ds p := hA0
  rw [Try.params9] at hA hval
  obtain ⟨v0, vs0, d0, ds0, p0, q0, hargs, rfl, rfl, h0, r0⟩ := trodAll_cons hA
  obtain ⟨v1, vs1, d1, ds1, p1, q1, rfl, rfl, rfl, h1, r1⟩ := trodAll_cons r0
  obtain ⟨v2, vs2, d2, ds2, p2, q2, rfl, rfl, rfl, h2, r2⟩ := trodAll_cons r1
  obtain ⟨v3, vs3, d3, ds3, p3, q3, rfl, rfl, rfl, h3, r3⟩ := trodAll_cons r2
  obtain ⟨rfl, rfl, rfl⟩ := trodAll_nil r3
  obtain rfl : args = #[v0, v1, v2, v3] := by cases args; simp_all
  obtain ⟨rfl, rfl⟩ := trodVars_none hV
  have k0 := h0
  have lt0 : ∀ x ∈ p0, x.block < W.heap.size := by obtain ⟨m, hm⟩ := k0; exact DataW.trod_lt m _ _ _ hm
  have k1 := h1
  have lt1 : ∀ x ∈ p1, x.block < W.heap.size := by obtain ⟨m, hm⟩ := k1; exact DataW.trod_lt m _ _ _ hm
  have k2 := h2
  have lt2 : ∀ x ∈ p2, x.block < W.heap.size := by obtain ⟨m, hm⟩ := k2; exact DataW.trod_lt m _ _ _ hm
  have k3 := h3
  have lt3 : ∀ x ∈ p3, x.block < W.heap.size := by obtain ⟨m, hm⟩ := k3; exact DataW.trod_lt m _ _ _ hm
  obtain ⟨m0, rfl, wm0⟩ := open_mc (hval 0 30 v0 rfl rfl) h0
  obtain ⟨A1, f1, c1, rfl, hs1, hl1⟩ := open_cas (hval 1 22 v1 rfl rfl) h1
  obtain ⟨A2, f2, c2, rfl, hs2, hl2⟩ := open_intz (hval 2 42 v2 rfl rfl) h2
  obtain ⟨a3, rfl, rfl, rfl, wa3⟩ := open_int Try.underlying3 (hval 3 3 v3 rfl rfl) h3
  clear hA0 hval0
  refine (walk m0 A1 f1 c1 A2 f2 c2 a3 W hs1 hl1 hs2 hl2 (wf_range wa3)).mono fun e W' ⟨he, bel⟩ => ?_
  subst he
  exact ⟨_, rfl, _, _, _, [], _, [], hW', trodAll_mk1 (shut_bool Try.underlying4 _), (trodAll_cons_mk (Below.trod laidOut (by kernel_rfl) (of_decide_eq_true (by kernel_rfl)) k0 bel lt0) (trodAll_cons_mk (Below.trod laidOut (by kernel_rfl) (of_decide_eq_true (by kernel_rfl)) k1 bel lt1) (trodAll_cons_mk (Below.trod laidOut (by kernel_rfl) (of_decide_eq_true (by kernel_rfl)) k2 bel lt2) (trodAll_cons_mk (Below.trod laidOut (by kernel_rfl) (of_decide_eq_true (by kernel_rfl)) k3 bel lt3) trodAll_mk0)))), rfl, bel.frame _, fun h => by cases h⟩

theorem over : Rows.fnExactDoneByRow.holds Try.pinned (OpenSpec.ofChange Rows.fnExactDoneBySpec) :=
  OpenClaim.holds_of_wide 9 Try.f9 rfl rfl rfl rfl rfl rfl rfl ⟨rfl, rfl, rfl, rfl, rfl⟩ rfl rfl rfl rfl rfl (by kernel_rfl) Try.func9 (by kernel_rfl)
    (of_decide_eq_true (by kernel_rfl)) (by unfold Func.isWrapper; first | (rw [if_pos (by decide +kernel)]; kernel_rfl) | (rw [if_neg (by decide +kernel)]; exact ⟨rfl, rfl⟩))
    (fun os started H enc _ => lifted os started H enc)

theorem proved : Rows.FnExactDoneBySaid := over
end Go.Proofs.Ytpocghcdfpcedaa.fnExactDoneBy

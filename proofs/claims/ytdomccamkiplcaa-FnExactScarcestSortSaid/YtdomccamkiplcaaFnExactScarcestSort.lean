/-
  FnExactScarcestSort: for every input (a slice of sorts, a slice of ints, a slice of strings) the law returns true, and what it was given reads as before. Conditions: none beyond the given statement's own.
-/
import Derived.Test.YtdomccamkiplcaaRows
import Derived.Test.YtdomccamkiplcaaTim
import Derived.Test.YtdomccamkiplcaaOpenI
import Derived.Test.YtdomccamkiplcaaTos
import Derived.ProofKit
import Derived.OpenShut
import Derived.ShutString
import Derived.ChangeOld
import Derived.Lib.SmallJoins
namespace Go.Proofs.Ytdomccamkiplcaa.fnExactScarcestSort
open Go.ChangeShapes Go.WideShapes Go.ChangeAt Go.RowKit Go.Joins
open Go.ChangeMaps (open_string shut_string)
set_option linter.unusedVariables false

theorem own : ownKnob Try.prog.godebug = none := by kernel_rfl
theorem laidOut : laidOutB Try.prog = true := by kernel_rfl

set_option maxRecDepth 100000 in
set_option maxHeartbeats 1000000 in
theorem walk (A0 : Option Addr) (f0 : List (ByteArray × Int)) (c0 : Nat) (A1 : Option Addr) (l1 : List Int) (c1 : Nat) (A2 : Option Addr) (s2 : List ByteArray) (c2 : Nat) (w : World) (hs0 : SortsIn w 0 A0 f0) (ho0 : CodesOk f0) (hl0 : f0.length ≤ maxLen) (hs1 : IntsIn w A1 l1) (hl1 : l1.length ≤ maxLen) (hs2 : StrsIn w A2 s2) (ho2 : StrsOk s2) (hl2 : s2.length ≤ maxLen) :
    Calls Try.prog 10 #[.slice A0 f0.length c0, .slice A1 l1.length c1, .slice A2 s2.length c2] w fun e w' => e = .returned (.bool true) ∧ Below w.heap.size w w' := by
  have HS0 := Lib.hid hs0; clear hs0
  have HO0 := Lib.hid ho0; clear ho0
  unfold maxLen at hl0
  have HS1 := Lib.hid hs1; clear hs1
  unfold maxLen at hl1
  have HS2 := Lib.hid hs2; clear hs2
  have HO2 := Lib.hid ho2; clear ho2
  unfold maxLen at hl2
  have A_0 : Hid (Below w.heap.size w w) := Lib.hid (Below.refl _ _)
  by_cases hlong1 : (1048576 : Int) < l1.length
  · go_enter Try.func10, Try.ntmps10
    go_wp2
    go_ret
    exact ⟨rfl, Below.refl _ _⟩
  have hn1 : l1.length ≤ 1048576 := by omega
  have hle0 : (1048576 : Int) ≤ 1048576 := by omega
  go_enter Try.func10, Try.ntmps10
  go_wp2_with fail
  have hfin0 := sz_len f0
  have hle0 := sz_range f0 1048576 (by omega)
  refine (szSortS_any f0 A0 c0 1048576 0 _ (HS0.out.below A_0.out (Nat.le_refl _)) HO0.out hl0 (by omega) (by omega)).mono ?_
  rintro e u1 ⟨rfl, hb1⟩
  have A_1 : Hid (Below w.heap.size w u1) := Lib.hid ((A_0.out).trans (Below.mono hb1 (A_0.out).size))
  clear A_0
  clear hb1
  generalize szSortSF f0 1048576 = z0 at *
  by_cases hz0 : z0 < 0
  · go_wp2
    go_ret
    exact ⟨rfl, A_1.out⟩
  have hn0 : f0.length ≤ 1048576 := hfin0 (by omega)
  clear hfin0
  go_wp2_with fail
  have hfin2 := szStrs_len s2 z0 (by omega)
  refine (szStringS_any s2 A2 c2 z0 _ (HS2.out.below A_1.out (Nat.le_refl _)) HO2.out hl2 (by omega) (by omega)).mono ?_
  rintro e u2 ⟨rfl, hb2⟩
  have A_2 : Hid (Below w.heap.size w u2) := Lib.hid ((A_1.out).trans (Below.mono hb2 (A_1.out).size))
  clear A_1
  clear hb2
  generalize szStringSF s2 z0 = z2 at *
  by_cases hz2 : z2 < 0
  · go_wp2
    go_ret
    exact ⟨rfl, A_2.out⟩
  have hn2 : s2.length ≤ 1048576 := hfin2 (by omega)
  clear hfin2
  go_wp2_with fail
  refine (toSortOwn_any f0 A0 c0 _ (HS0.out.below A_2.out (Nat.le_refl _)) hn0).mono ?_
  rintro e u3 ⟨rfl, hb3, hr3⟩
  have hB3 : u2.heap.size < u3.heap.size := row_lt hr3
  have A_3 : Hid (Below w.heap.size w u3) := Lib.hid ((A_2.out).trans (Below.mono hb3 (A_2.out).size))
  clear A_2
  clear hb3
  have Z0_3 : Hid (u3.ownsRow 0 77 2 (.slice (some ⟨u2.heap.size, 0, none⟩) f0.length f0.length) f0.length (flat f0)) := Lib.hid hr3
  clear hr3
  go_wp2_with fail
  refine (toIntOwn_any l1 A1 c1 _ (HS1.out.below A_3.out (Nat.le_refl _)) hn1).mono ?_
  rintro e u4 ⟨rfl, hb4, hr4⟩
  have hB4 : u3.heap.size < u4.heap.size := row_lt hr4
  have A_4 : Hid (Below w.heap.size w u4) := Lib.hid ((A_3.out).trans (Below.mono hb4 (A_3.out).size))
  have Z0_4 : Hid (u4.ownsRow 0 77 2 (.slice (some ⟨u2.heap.size, 0, none⟩) f0.length f0.length) f0.length (flat f0)) := Lib.hid (own_below Z0_3.out hb4)
  clear A_3 Z0_3
  clear hb4
  have Z1_4 : Hid (u4.ownsRow 0 3 1 (.slice (some ⟨u3.heap.size, 0, none⟩) l1.length l1.length) l1.length (intsZ l1)) := Lib.hid hr4
  clear hr4
  go_wp2_with fail
  refine (toStrOwn_any s2 A2 c2 _ (HS2.out.below A_4.out (Nat.le_refl _)) hn2).mono ?_
  rintro e u5 ⟨rfl, hb5, hr5⟩
  have hB5 : u4.heap.size < u5.heap.size := row_lt hr5
  have A_5 : Hid (Below w.heap.size w u5) := Lib.hid ((A_4.out).trans (Below.mono hb5 (A_4.out).size))
  have Z0_5 : Hid (u5.ownsRow 0 77 2 (.slice (some ⟨u2.heap.size, 0, none⟩) f0.length f0.length) f0.length (flat f0)) := Lib.hid (own_below Z0_4.out hb5)
  have Z1_5 : Hid (u5.ownsRow 0 3 1 (.slice (some ⟨u3.heap.size, 0, none⟩) l1.length l1.length) l1.length (intsZ l1)) := Lib.hid (own_below Z1_4.out hb5)
  clear A_4 Z0_4 Z1_4
  clear hb5
  have Z2_5 : Hid (u5.ownsRow 0 9 1 (.slice (some ⟨u4.heap.size, 0, none⟩) s2.length s2.length) s2.length (strs s2)) := Lib.hid hr5
  clear hr5
  -- S
  go_wp2_with fail
  refine (specSca_any f0 _ _ l1 _ _ s2 _ _ 0 _ (own_in_f Z0_5.out) hn0 HO0.out (own_in Z1_5.out) hn1 (own_in_s Z2_5.out) HO2.out hn2).mono ?_
  rintro e u6 ⟨rfl, hb6⟩
  have A_6 : Hid (Below w.heap.size w u6) := Lib.hid ((A_5.out).trans (Below.mono hb6 (A_5.out).size))
  have Z0_6 : Hid (u6.ownsRow 0 77 2 (.slice (some ⟨u2.heap.size, 0, none⟩) f0.length f0.length) f0.length (flat f0)) := Lib.hid (own_below Z0_5.out hb6)
  have Z1_6 : Hid (u6.ownsRow 0 3 1 (.slice (some ⟨u3.heap.size, 0, none⟩) l1.length l1.length) l1.length (intsZ l1)) := Lib.hid (own_below Z1_5.out hb6)
  have Z2_6 : Hid (u6.ownsRow 0 9 1 (.slice (some ⟨u4.heap.size, 0, none⟩) s2.length s2.length) s2.length (strs s2)) := Lib.hid (own_below Z2_5.out hb6)
  clear A_5 Z0_5 Z1_5 Z2_5
  clear hb6
  clear Z0_6
  clear Z1_6
  clear Z2_6
  go_wp2_with fail
  refine (toSortOwn_any f0 A0 c0 _ (HS0.out.below A_6.out (Nat.le_refl _)) hn0).mono ?_
  rintro e u7 ⟨rfl, hb7, hr7⟩
  have hB7 : u6.heap.size < u7.heap.size := row_lt hr7
  have A_7 : Hid (Below w.heap.size w u7) := Lib.hid ((A_6.out).trans (Below.mono hb7 (A_6.out).size))
  clear A_6
  clear hb7
  have X0_7 : Hid (u7.ownsRow 0 77 2 (.slice (some ⟨u6.heap.size, 0, none⟩) f0.length f0.length) f0.length (flat f0)) := Lib.hid hr7
  clear hr7
  go_wp2_with fail
  refine (toIntOwn_any l1 A1 c1 _ (HS1.out.below A_7.out (Nat.le_refl _)) hn1).mono ?_
  rintro e u8 ⟨rfl, hb8, hr8⟩
  have hB8 : u7.heap.size < u8.heap.size := row_lt hr8
  have A_8 : Hid (Below w.heap.size w u8) := Lib.hid ((A_7.out).trans (Below.mono hb8 (A_7.out).size))
  have X0_8 : Hid (u8.ownsRow 0 77 2 (.slice (some ⟨u6.heap.size, 0, none⟩) f0.length f0.length) f0.length (flat f0)) := Lib.hid (own_below X0_7.out hb8)
  clear A_7 X0_7
  clear hb8
  have X1_8 : Hid (u8.ownsRow 0 3 1 (.slice (some ⟨u7.heap.size, 0, none⟩) l1.length l1.length) l1.length (intsZ l1)) := Lib.hid hr8
  clear hr8
  go_wp2_with fail
  refine (toStrOwn_any s2 A2 c2 _ (HS2.out.below A_8.out (Nat.le_refl _)) hn2).mono ?_
  rintro e u9 ⟨rfl, hb9, hr9⟩
  have hB9 : u8.heap.size < u9.heap.size := row_lt hr9
  have A_9 : Hid (Below w.heap.size w u9) := Lib.hid ((A_8.out).trans (Below.mono hb9 (A_8.out).size))
  have X0_9 : Hid (u9.ownsRow 0 77 2 (.slice (some ⟨u6.heap.size, 0, none⟩) f0.length f0.length) f0.length (flat f0)) := Lib.hid (own_below X0_8.out hb9)
  have X1_9 : Hid (u9.ownsRow 0 3 1 (.slice (some ⟨u7.heap.size, 0, none⟩) l1.length l1.length) l1.length (intsZ l1)) := Lib.hid (own_below X1_8.out hb9)
  clear A_8 X0_8 X1_8
  clear hb9
  have X2_9 : Hid (u9.ownsRow 0 9 1 (.slice (some ⟨u8.heap.size, 0, none⟩) s2.length s2.length) s2.length (strs s2)) := Lib.hid hr9
  clear hr9
  -- G
  go_wp2_with fail
  refine (implSca_any f0 _ _ l1 _ _ s2 _ _ 0 _ (own_in_f X0_9.out) hn0 HO0.out (own_in X1_9.out) hn1 (own_in_s X2_9.out) HO2.out hn2).mono ?_
  rintro e u10 ⟨rfl, hb10⟩
  have A_10 : Hid (Below w.heap.size w u10) := Lib.hid ((A_9.out).trans (Below.mono hb10 (A_9.out).size))
  have X0_10 : Hid (u10.ownsRow 0 77 2 (.slice (some ⟨u6.heap.size, 0, none⟩) f0.length f0.length) f0.length (flat f0)) := Lib.hid (own_below X0_9.out hb10)
  have X1_10 : Hid (u10.ownsRow 0 3 1 (.slice (some ⟨u7.heap.size, 0, none⟩) l1.length l1.length) l1.length (intsZ l1)) := Lib.hid (own_below X1_9.out hb10)
  have X2_10 : Hid (u10.ownsRow 0 9 1 (.slice (some ⟨u8.heap.size, 0, none⟩) s2.length s2.length) s2.length (strs s2)) := Lib.hid (own_below X2_9.out hb10)
  clear A_9 X0_9 X1_9 X2_9
  clear hb10
  generalize (scaR f0 l1 s2).getD 0 = g0 at *
  have hne0 : (g0 != g0) = false := by simp
  generalize (scaR f0 l1 s2).isSome = g1 at *
  have hne1 : (g1 != g1) = false := by simp
  -- argument 0 is as it was
  go_wp2_with fail
  refine (toSortOwn_any f0 A0 c0 _ (HS0.out.below A_10.out (Nat.le_refl _)) hn0).mono ?_
  rintro e u11 ⟨rfl, hb11, hr11⟩
  have A_11 : Hid (Below w.heap.size w u11) := Lib.hid ((A_10.out).trans (Below.mono hb11 (A_10.out).size))
  have X0_11 : Hid (u11.ownsRow 0 77 2 (.slice (some ⟨u6.heap.size, 0, none⟩) f0.length f0.length) f0.length (flat f0)) := Lib.hid (own_below X0_10.out hb11)
  have X1_11 : Hid (u11.ownsRow 0 3 1 (.slice (some ⟨u7.heap.size, 0, none⟩) l1.length l1.length) l1.length (intsZ l1)) := Lib.hid (own_below X1_10.out hb11)
  have X2_11 : Hid (u11.ownsRow 0 9 1 (.slice (some ⟨u8.heap.size, 0, none⟩) s2.length s2.length) s2.length (strs s2)) := Lib.hid (own_below X2_10.out hb11)
  clear A_10 X0_10 X1_10 X2_10
  clear hb11
  go_wp2_with fail
  refine (eqSortS_any f0 f0 _ _ _ _ 0 0 _ (own_in_f X0_11.out) (own_in_f hr11) (by unfold maxLen; omega) (by unfold maxLen; omega)).mono ?_
  rintro e u12 ⟨rfl, hb12⟩
  rw [show decide (f0 = f0) = true from decide_eq_true rfl]
  clear hr11
  have A_12 : Hid (Below w.heap.size w u12) := Lib.hid ((A_11.out).trans (Below.mono hb12 (A_11.out).size))
  have X0_12 : Hid (u12.ownsRow 0 77 2 (.slice (some ⟨u6.heap.size, 0, none⟩) f0.length f0.length) f0.length (flat f0)) := Lib.hid (own_below X0_11.out hb12)
  have X1_12 : Hid (u12.ownsRow 0 3 1 (.slice (some ⟨u7.heap.size, 0, none⟩) l1.length l1.length) l1.length (intsZ l1)) := Lib.hid (own_below X1_11.out hb12)
  have X2_12 : Hid (u12.ownsRow 0 9 1 (.slice (some ⟨u8.heap.size, 0, none⟩) s2.length s2.length) s2.length (strs s2)) := Lib.hid (own_below X2_11.out hb12)
  clear A_11 X0_11 X1_11 X2_11
  clear hb12
  -- argument 1 is as it was
  go_wp2_with fail
  refine (toIntOwn_any l1 A1 c1 _ (HS1.out.below A_12.out (Nat.le_refl _)) hn1).mono ?_
  rintro e u13 ⟨rfl, hb13, hr13⟩
  have A_13 : Hid (Below w.heap.size w u13) := Lib.hid ((A_12.out).trans (Below.mono hb13 (A_12.out).size))
  have X0_13 : Hid (u13.ownsRow 0 77 2 (.slice (some ⟨u6.heap.size, 0, none⟩) f0.length f0.length) f0.length (flat f0)) := Lib.hid (own_below X0_12.out hb13)
  have X1_13 : Hid (u13.ownsRow 0 3 1 (.slice (some ⟨u7.heap.size, 0, none⟩) l1.length l1.length) l1.length (intsZ l1)) := Lib.hid (own_below X1_12.out hb13)
  have X2_13 : Hid (u13.ownsRow 0 9 1 (.slice (some ⟨u8.heap.size, 0, none⟩) s2.length s2.length) s2.length (strs s2)) := Lib.hid (own_below X2_12.out hb13)
  clear A_12 X0_12 X1_12 X2_12
  clear hb13
  go_wp2_with fail
  refine (eqIntS_any l1 l1 _ _ _ _ _ (own_in X1_13.out) (own_in hr13) (by unfold maxLen; omega) (by unfold maxLen; omega)).mono ?_
  rintro e u14 ⟨rfl, hb14⟩
  rw [show decide (l1 = l1) = true from decide_eq_true rfl]
  clear hr13
  have A_14 : Hid (Below w.heap.size w u14) := Lib.hid ((A_13.out).trans (Below.mono hb14 (A_13.out).size))
  have X0_14 : Hid (u14.ownsRow 0 77 2 (.slice (some ⟨u6.heap.size, 0, none⟩) f0.length f0.length) f0.length (flat f0)) := Lib.hid (own_below X0_13.out hb14)
  have X1_14 : Hid (u14.ownsRow 0 3 1 (.slice (some ⟨u7.heap.size, 0, none⟩) l1.length l1.length) l1.length (intsZ l1)) := Lib.hid (own_below X1_13.out hb14)
  have X2_14 : Hid (u14.ownsRow 0 9 1 (.slice (some ⟨u8.heap.size, 0, none⟩) s2.length s2.length) s2.length (strs s2)) := Lib.hid (own_below X2_13.out hb14)
  clear A_13 X0_13 X1_13 X2_13
  clear hb14
  -- argument 2 is as it was
  go_wp2_with fail
  refine (toStrOwn_any s2 A2 c2 _ (HS2.out.below A_14.out (Nat.le_refl _)) hn2).mono ?_
  rintro e u15 ⟨rfl, hb15, hr15⟩
  have A_15 : Hid (Below w.heap.size w u15) := Lib.hid ((A_14.out).trans (Below.mono hb15 (A_14.out).size))
  have X0_15 : Hid (u15.ownsRow 0 77 2 (.slice (some ⟨u6.heap.size, 0, none⟩) f0.length f0.length) f0.length (flat f0)) := Lib.hid (own_below X0_14.out hb15)
  have X1_15 : Hid (u15.ownsRow 0 3 1 (.slice (some ⟨u7.heap.size, 0, none⟩) l1.length l1.length) l1.length (intsZ l1)) := Lib.hid (own_below X1_14.out hb15)
  have X2_15 : Hid (u15.ownsRow 0 9 1 (.slice (some ⟨u8.heap.size, 0, none⟩) s2.length s2.length) s2.length (strs s2)) := Lib.hid (own_below X2_14.out hb15)
  clear A_14 X0_14 X1_14 X2_14
  clear hb15
  go_wp2_with fail
  refine (eqStringS_any s2 s2 _ _ _ _ _ (own_in_s X2_15.out) (own_in_s hr15) (by unfold maxLen; omega) (by unfold maxLen; omega)).mono ?_
  rintro e u16 ⟨rfl, hb16⟩
  rw [show decide (s2 = s2) = true from decide_eq_true rfl]
  clear hr15
  have A_16 : Hid (Below w.heap.size w u16) := Lib.hid ((A_15.out).trans (Below.mono hb16 (A_15.out).size))
  have X0_16 : Hid (u16.ownsRow 0 77 2 (.slice (some ⟨u6.heap.size, 0, none⟩) f0.length f0.length) f0.length (flat f0)) := Lib.hid (own_below X0_15.out hb16)
  have X1_16 : Hid (u16.ownsRow 0 3 1 (.slice (some ⟨u7.heap.size, 0, none⟩) l1.length l1.length) l1.length (intsZ l1)) := Lib.hid (own_below X1_15.out hb16)
  have X2_16 : Hid (u16.ownsRow 0 9 1 (.slice (some ⟨u8.heap.size, 0, none⟩) s2.length s2.length) s2.length (strs s2)) := Lib.hid (own_below X2_15.out hb16)
  clear A_15 X0_15 X1_15 X2_15
  clear hb16
  go_wp2
  go_ret
  exact ⟨rfl, A_16.out⟩

set_option maxRecDepth 100000 in
theorem lifted (os : Os) (started : os.Started) (H : Type) (enc : TypeId × Value → H) :
    ReturnsInHanded {} Try.checked os 10 .any (Rows.fnExactScarcestSortSpec.pre6 enc Try.prog Try.f10 Rows.fnExactScarcestSortRow.domain false) (Rows.fnExactScarcestSortSpec.post enc Try.prog Try.f10 false true false false) := by
  refine returnsInHanded_of_change (C := Try.checked) own started (by kernel_rfl) Try.func10
    (ChangeSpec.witness6 (enc := enc) (C := Try.checked) false ⟨#[], #[.slice none 0 0, .slice none 0 0, .slice none 0 0], []⟩ 8 (by kernel_rfl) (by kernel_rfl) (by kernel_rfl) (by kernel_rfl)) ?_
  intro W base args ds gs before hval0 hW hcnd _
  have hval : ∀ (j : Nat) t v, Try.f10.params[j]? = some t → args[j]? = some v → Value.okWide Try.prog W .any base t v := hval0
  have hW' := hW
  obtain ⟨p, q, hA0, hV, rfl, hfz, hnd⟩ := hW
  have hA : DataW.TrodAll enc Try.prog W 0 (fun _ => true) true Try.f10.params.toList args.toList ds p := hA0
  rw [Try.params10] at hA hval
  obtain ⟨v0, vs0, d0, ds0, p0, q0, hargs, rfl, rfl, h0, r0⟩ := trodAll_cons hA
  obtain ⟨v1, vs1, d1, ds1, p1, q1, rfl, rfl, rfl, h1, r1⟩ := trodAll_cons r0
  obtain ⟨v2, vs2, d2, ds2, p2, q2, rfl, rfl, rfl, h2, r2⟩ := trodAll_cons r1
  obtain ⟨rfl, rfl, rfl⟩ := trodAll_nil r2
  obtain rfl : args = #[v0, v1, v2] := by cases args; simp_all
  obtain ⟨rfl, rfl⟩ := trodVars_none hV
  have k0 := h0
  have lt0 : ∀ x ∈ p0, x.block < W.heap.size := by obtain ⟨m, hm⟩ := k0; exact DataW.trod_lt m _ _ _ hm
  have k1 := h1
  have lt1 : ∀ x ∈ p1, x.block < W.heap.size := by obtain ⟨m, hm⟩ := k1; exact DataW.trod_lt m _ _ _ hm
  have k2 := h2
  have lt2 : ∀ x ∈ p2, x.block < W.heap.size := by obtain ⟨m, hm⟩ := k2; exact DataW.trod_lt m _ _ _ hm
  obtain ⟨A0, f0, c0, rfl, hs0, ho0, hl0⟩ := open_sorts (hval 0 43 v0 rfl rfl) h0
  obtain ⟨A1, f1, c1, rfl, hs1, hl1⟩ := open_intz (hval 1 24 v1 rfl rfl) h1
  obtain ⟨A2, f2, c2, rfl, hs2, ho2, hl2⟩ := open_strs (hval 2 25 v2 rfl rfl) h2
  clear hA0 hval0
  refine (walk A0 f0 c0 A1 f1 c1 A2 f2 c2 W hs0 ho0 hl0 hs1 hl1 hs2 ho2 hl2).mono fun e W' ⟨he, bel⟩ => ?_
  subst he
  exact ⟨_, rfl, _, _, _, [], _, [], hW', trodAll_mk1 (shut_bool Try.underlying4 _), (trodAll_cons_mk (Below.trod laidOut (by kernel_rfl) (of_decide_eq_true (by kernel_rfl)) k0 bel lt0) (trodAll_cons_mk (Below.trod laidOut (by kernel_rfl) (of_decide_eq_true (by kernel_rfl)) k1 bel lt1) (trodAll_cons_mk (Below.trod laidOut (by kernel_rfl) (of_decide_eq_true (by kernel_rfl)) k2 bel lt2) trodAll_mk0))), rfl, bel.frame _, fun h => by cases h⟩

theorem over : Rows.fnExactScarcestSortRow.holds Try.pinned (OpenSpec.ofChange Rows.fnExactScarcestSortSpec) :=
  OpenClaim.holds_of_wide 10 Try.f10 rfl rfl rfl rfl rfl rfl rfl ⟨rfl, rfl, rfl, rfl, rfl⟩ rfl rfl rfl rfl rfl (by kernel_rfl) Try.func10 (by kernel_rfl)
    (of_decide_eq_true (by kernel_rfl)) (by unfold Func.isWrapper; first | (rw [if_pos (by decide +kernel)]; kernel_rfl) | (rw [if_neg (by decide +kernel)]; exact ⟨rfl, rfl⟩))
    (fun os started H enc _ => lifted os started H enc)

theorem proved : Rows.FnExactScarcestSortSaid := over
end Go.Proofs.Ytdomccamkiplcaa.fnExactScarcestSort

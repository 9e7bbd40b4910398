/-
  FnExactPiecesOf: for every input (a slice of slips, a slice of ints) the law returns true, and what it was given reads as before. Conditions: none beyond the given statement's own.
-/
import Derived.Test.YtljakcfdjcjdbaaRows
import Derived.Test.YtljakcfdjcjdbaaPc
import Derived.Test.YtljakcfdjcjdbaaVr
import Derived.Test.YtljakcfdjcjdbaaPr
import Derived.Test.YtljakcfdjcjdbaaOpenIz
import Derived.Test.YtljakcfdjcjdbaaOpenPa
import Derived.Deep.RegionLaw
import Derived.Deep.DeepCutAuto
import Derived.Test.YtljakcfdjcjdbaaTail
import Derived.ProofKit
import Derived.OpenShut
import Derived.ShutString
import Derived.ChangeOld
import Derived.Lib.SmallJoins
namespace Go.Proofs.Ytljakcfdjcjdbaa.fnExactPiecesOf
open Go.ChangeShapes Go.WideShapes Go.ChangeAt Go.RowKit Go.Joins
open Go.ChangeMaps (open_string shut_string)
set_option linter.unusedVariables false

theorem own : ownKnob Try.prog.godebug = none := by kernel_rfl
theorem laidOut : laidOutB Try.prog = true := by kernel_rfl

set_option maxRecDepth 100000 in
set_option maxHeartbeats 2000000 in
theorem walk (A0 : Option Addr) (f0 : List Sl) (c0 : Nat) (A1 : Option Addr) (l1 : List Int) (c1 : Nat) (w : World) (hs0 : SlsIn w A0 f0) (hl0 : f0.length ≤ maxLen) (hs1 : IntsIn w A1 l1) (hl1 : l1.length ≤ maxLen) :
    Calls Try.prog 6 #[.slice A0 f0.length c0, .slice A1 l1.length c1] w fun e w' => e = .returned (.bool true) ∧ Below w.heap.size w w' := by
  have HS0 := Lib.hid hs0; clear hs0
  unfold maxLen at hl0
  have HS1 := Lib.hid hs1; clear hs1
  unfold maxLen at hl1
  have A_0 : Hid (Below w.heap.size w w) := Lib.hid (show Below _ _ _ by exact (Below.refl _ _))
  by_cases hlong1 : (1048576 : Int) < l1.length
  · go_enter Try.func6, Try.ntmps6
    go_wp2
    go_ret
    exact ⟨rfl, by first | exact A_0.out | (rw [HW0.out] at A_0; exact A_0.out)⟩
  have hn1 : l1.length ≤ 1048576 := by omega
  obtain ⟨V0, hV0⟩ : ∃ V, V = pcV f0 l1 := ⟨_, rfl⟩
  have HV0 := Lib.hid hV0; clear hV0
  have hne0 : (V0 != V0) = false := by simp
  obtain ⟨V1, hV1⟩ : ∃ V, V = lnV f0 l1 := ⟨_, rfl⟩
  have HV1 := Lib.hid hV1; clear hV1
  have hne1 : (V1 != V1) = false := by simp
  obtain ⟨V2, hV2⟩ : ∃ V, V = cntsB f0 l1 := ⟨_, rfl⟩
  have HV2 := Lib.hid hV2; clear hV2
  have hne2 : (V2 != V2) = false := by simp
  have HSP : Hid (∀ (W : World) (B0 : Option Addr) (B1 : Option Addr), f0.length ≤ 1048576 → l1.length ≤ 1048576 → SlsIn W B0 f0 → IntsIn W B1 l1 → Calls Try.prog 27 #[.slice B0 f0.length f0.length, .slice B1 l1.length l1.length] W fun e W' => e = .returned (.tuple #[.int .i64 V0, .int .i64 V1, .bool V2]) ∧ Below W.heap.size W W') := Lib.hid (by
    rw [HV0.out, HV1.out, HV2.out]; exact fun W B0 B1 h0 h1 i0 i1 => specPiecesOf_any f0 B0 f0.length l1 B1 l1.length W i0 h0 i1 h1)
  have HIM : Hid (∀ (W : World) (B0 : Option Addr) (B1 : Option Addr), f0.length ≤ 1048576 → l1.length ≤ 1048576 → SlsIn W B0 f0 → IntsIn W B1 l1 → Calls Try.prog 29 #[.slice B0 f0.length f0.length, .slice B1 l1.length l1.length] W fun e W' => e = .returned (.tuple #[.int .i64 V0, .int .i64 V1, .bool V2]) ∧ Below W.heap.size W W') := Lib.hid (by
    rw [HV0.out, HV1.out, HV2.out]; exact fun W B0 B1 h0 h1 i0 i1 => implPiecesOf_any f0 B0 f0.length l1 B1 l1.length W i0 h0 i1 h1)
  go_enter Try.func6, Try.ntmps6
  go_wp2_with fail
  refine (szSlipS_any f0 A0 c0 1048576 _ (by unfold maxLen; omega) (by omega) (by omega)).mono ?_
  rintro e w' ⟨rfl, hww⟩
  subst hww
  by_cases hz0 : (1048576 : Int) < (f0.length : Int)
  · rw [if_pos hz0]
    go_wp2
    go_ret
    exact ⟨rfl, A_0.out⟩
  rw [if_neg hz0]
  have hn0 : f0.length ≤ 1048576 := by omega
  have hnn0 : ¬ (1048576 : Int) - (f0.length : Int) < 0 := by omega
  clear hz0
  go_wp2_with fail
  refine (toSlOwn_any f0 A0 c0 _ (HS0.out.below A_0.out (by first | exact Nat.le_refl _)) hn0).mono ?_
  rintro e u1 ⟨rfl, hb1, hr1⟩
  have hB1 : w.heap.size < u1.heap.size := row_lt hr1
  have A_1 : Hid (Below w.heap.size w u1) := Lib.hid ((A_0.out).trans (Below.mono hb1 (A_0.out).size))
  clear A_0
  clear hb1
  have Z0_1 : Hid (u1.ownsRow 0 57 2 (.slice (some ⟨w.heap.size, 0, none⟩) f0.length f0.length) f0.length (flatSl f0)) := Lib.hid hr1
  clear hr1
  go_wp2_with fail
  refine (toIntOwn_any l1 A1 c1 _ (HS1.out.below A_1.out (by first | exact Nat.le_refl _)) hn1).mono ?_
  rintro e u2 ⟨rfl, hb2, hr2⟩
  have hB2 : u1.heap.size < u2.heap.size := row_lt hr2
  have A_2 : Hid (Below w.heap.size w u2) := Lib.hid ((A_1.out).trans (Below.mono hb2 (A_1.out).size))
  have Z0_2 : Hid (u2.ownsRow 0 57 2 (.slice (some ⟨w.heap.size, 0, none⟩) f0.length f0.length) f0.length (flatSl f0)) := Lib.hid (own_below Z0_1.out hb2)
  clear A_1 Z0_1
  clear hb2
  have Z1_2 : Hid (u2.ownsRow 0 3 1 (.slice (some ⟨u1.heap.size, 0, none⟩) l1.length l1.length) l1.length (intsZ l1)) := Lib.hid hr2
  clear hr2
  go_wp2_with fail
  refine (HSP.out _ _ _ hn0 hn1 (own_in_sl Z0_2.out) (own_in Z1_2.out)).mono ?_
  rintro e u3 ⟨rfl, hb3⟩
  have A_3 : Hid (Below w.heap.size w u3) := Lib.hid ((A_2.out).trans (Below.mono hb3 (A_2.out).size))
  have Z0_3 : Hid (u3.ownsRow 0 57 2 (.slice (some ⟨w.heap.size, 0, none⟩) f0.length f0.length) f0.length (flatSl f0)) := Lib.hid (own_below Z0_2.out hb3)
  have Z1_3 : Hid (u3.ownsRow 0 3 1 (.slice (some ⟨u1.heap.size, 0, none⟩) l1.length l1.length) l1.length (intsZ l1)) := Lib.hid (own_below Z1_2.out hb3)
  clear A_2 Z0_2 Z1_2
  clear hb3
  clear Z0_3
  clear Z1_3
  go_wp2_with fail
  refine (toSlOwn_any f0 A0 c0 _ (HS0.out.below A_3.out (by first | exact Nat.le_refl _)) hn0).mono ?_
  rintro e u4 ⟨rfl, hb4, hr4⟩
  have hB4 : u3.heap.size < u4.heap.size := row_lt hr4
  have A_4 : Hid (Below w.heap.size w u4) := Lib.hid ((A_3.out).trans (Below.mono hb4 (A_3.out).size))
  clear A_3
  clear hb4
  have X_0_4 : Hid (u4.ownsRow 0 57 2 (.slice (some ⟨u3.heap.size, 0, none⟩) f0.length f0.length) f0.length (flatSl f0)) := Lib.hid hr4
  clear hr4
  go_wp2_with fail
  refine (toIntOwn_any l1 A1 c1 _ (HS1.out.below A_4.out (by first | exact Nat.le_refl _)) hn1).mono ?_
  rintro e u5 ⟨rfl, hb5, hr5⟩
  have hB5 : u4.heap.size < u5.heap.size := row_lt hr5
  have A_5 : Hid (Below w.heap.size w u5) := Lib.hid ((A_4.out).trans (Below.mono hb5 (A_4.out).size))
  have X_0_5 : Hid (u5.ownsRow 0 57 2 (.slice (some ⟨u3.heap.size, 0, none⟩) f0.length f0.length) f0.length (flatSl f0)) := Lib.hid (own_below X_0_4.out hb5)
  clear A_4 X_0_4
  clear hb5
  have X_1_5 : Hid (u5.ownsRow 0 3 1 (.slice (some ⟨u4.heap.size, 0, none⟩) l1.length l1.length) l1.length (intsZ l1)) := Lib.hid hr5
  clear hr5
  go_wp2_with fail
  refine (HIM.out _ _ _ hn0 hn1 (own_in_sl X_0_5.out) (own_in X_1_5.out)).mono ?_
  rintro e u6 ⟨rfl, hb6⟩
  have A_6 : Hid (Below w.heap.size w u6) := Lib.hid ((A_5.out).trans (Below.mono hb6 (A_5.out).size))
  have X_0_6 : Hid (u6.ownsRow 0 57 2 (.slice (some ⟨u3.heap.size, 0, none⟩) f0.length f0.length) f0.length (flatSl f0)) := Lib.hid (own_below X_0_5.out hb6)
  have X_1_6 : Hid (u6.ownsRow 0 3 1 (.slice (some ⟨u4.heap.size, 0, none⟩) l1.length l1.length) l1.length (intsZ l1)) := Lib.hid (own_below X_1_5.out hb6)
  clear A_5 X_0_5 X_1_5
  clear hb6
  go_wp2_with fail
  refine (toSlOwn_any f0 A0 c0 _ (HS0.out.below A_6.out (by first | exact Nat.le_refl _)) hn0).mono ?_
  rintro e u7 ⟨rfl, hb7, hr7⟩
  have hB7 : u6.heap.size < u7.heap.size := row_lt hr7
  have A_7 : Hid (Below w.heap.size w u7) := Lib.hid ((A_6.out).trans (Below.mono hb7 (A_6.out).size))
  have X_0_7 : Hid (u7.ownsRow 0 57 2 (.slice (some ⟨u3.heap.size, 0, none⟩) f0.length f0.length) f0.length (flatSl f0)) := Lib.hid (own_below X_0_6.out hb7)
  have X_1_7 : Hid (u7.ownsRow 0 3 1 (.slice (some ⟨u4.heap.size, 0, none⟩) l1.length l1.length) l1.length (intsZ l1)) := Lib.hid (own_below X_1_6.out hb7)
  clear A_6 X_0_6 X_1_6
  clear hb7
  have W0_7 : Hid (u7.ownsRow 0 57 2 (.slice (some ⟨u6.heap.size, 0, none⟩) f0.length f0.length) f0.length (flatSl f0)) := Lib.hid hr7
  clear hr7
  go_wp2_with fail
  refine (eqSlipS_any f0 f0 _ _ _ _ _ (own_in_sl X_0_7.out) (own_in_sl W0_7.out) (by unfold maxLen; omega) (by unfold maxLen; omega)).mono ?_
  rintro e u8 ⟨rfl, hb8⟩
  rw [show decide (f0 = f0) = true from decide_eq_true rfl]
  clear W0_7
  have A_8 : Hid (Below w.heap.size w u8) := Lib.hid ((A_7.out).trans (Below.mono hb8 (A_7.out).size))
  have X_0_8 : Hid (u8.ownsRow 0 57 2 (.slice (some ⟨u3.heap.size, 0, none⟩) f0.length f0.length) f0.length (flatSl f0)) := Lib.hid (own_below X_0_7.out hb8)
  have X_1_8 : Hid (u8.ownsRow 0 3 1 (.slice (some ⟨u4.heap.size, 0, none⟩) l1.length l1.length) l1.length (intsZ l1)) := Lib.hid (own_below X_1_7.out hb8)
  clear A_7 X_0_7 X_1_7
  clear hb8
  go_wp2_with fail
  refine (toIntOwn_any l1 A1 c1 _ (HS1.out.below A_8.out (by first | exact Nat.le_refl _)) hn1).mono ?_
  rintro e u9 ⟨rfl, hb9, hr9⟩
  have hB9 : u8.heap.size < u9.heap.size := row_lt hr9
  have A_9 : Hid (Below w.heap.size w u9) := Lib.hid ((A_8.out).trans (Below.mono hb9 (A_8.out).size))
  have X_0_9 : Hid (u9.ownsRow 0 57 2 (.slice (some ⟨u3.heap.size, 0, none⟩) f0.length f0.length) f0.length (flatSl f0)) := Lib.hid (own_below X_0_8.out hb9)
  have X_1_9 : Hid (u9.ownsRow 0 3 1 (.slice (some ⟨u4.heap.size, 0, none⟩) l1.length l1.length) l1.length (intsZ l1)) := Lib.hid (own_below X_1_8.out hb9)
  clear A_8 X_0_8 X_1_8
  clear hb9
  have W1_9 : Hid (u9.ownsRow 0 3 1 (.slice (some ⟨u8.heap.size, 0, none⟩) l1.length l1.length) l1.length (intsZ l1)) := Lib.hid hr9
  clear hr9
  go_wp2_with fail
  refine (eqIntS_any l1 l1 _ _ _ _ _ (own_in X_1_9.out) (own_in W1_9.out) (by unfold maxLen; omega) (by unfold maxLen; omega)).mono ?_
  rintro e u10 ⟨rfl, hb10⟩
  rw [show decide (l1 = l1) = true from decide_eq_true rfl]
  clear W1_9
  have A_10 : Hid (Below w.heap.size w u10) := Lib.hid ((A_9.out).trans (Below.mono hb10 (A_9.out).size))
  have X_0_10 : Hid (u10.ownsRow 0 57 2 (.slice (some ⟨u3.heap.size, 0, none⟩) f0.length f0.length) f0.length (flatSl f0)) := Lib.hid (own_below X_0_9.out hb10)
  have X_1_10 : Hid (u10.ownsRow 0 3 1 (.slice (some ⟨u4.heap.size, 0, none⟩) l1.length l1.length) l1.length (intsZ l1)) := Lib.hid (own_below X_1_9.out hb10)
  clear A_9 X_0_9 X_1_9
  clear hb10
  go_wp2
  go_ret
  exact ⟨rfl, A_10.out⟩

set_option maxRecDepth 100000 in
theorem lifted (os : Os) (started : os.Started) (H : Type) (enc : TypeId × Value → H) :
    ReturnsInHanded {} Try.checked os 6 .any (Rows.fnExactPiecesOfSpec.pre6 enc Try.prog Try.f6 Rows.fnExactPiecesOfRow.domain false) (Rows.fnExactPiecesOfSpec.post enc Try.prog Try.f6 false true false false) := by
  refine returnsInHanded_of_change (C := Try.checked) own started (by kernel_rfl) Try.func6
    (ChangeSpec.witness6 (enc := enc) (C := Try.checked) false ⟨#[], #[.slice none 0 0, .slice none 0 0], []⟩ 8 (by kernel_rfl) (by kernel_rfl) (by kernel_rfl) (by kernel_rfl)) ?_
  intro W base args ds gs before hval0 hW hcnd _
  have hval : ∀ (j : Nat) t v, Try.f6.params[j]? = some t → args[j]? = some v → Value.okWide Try.prog W .any base t v := hval0
  have hW' := hW
  obtain ⟨p, q, hA0, hV, rfl, hfz, hnd⟩ := hW
  have hA : DataW.TrodAll enc Try.prog W 0 (fun _ => true) true Try.f6.params.toList args.toList ds p := hA0
  rw [Try.params6] at hA hval
  obtain ⟨v0, vs0, d0, ds0, p0, q0, hargs, rfl, rfl, h0, r0⟩ := trodAll_cons hA
  obtain ⟨v1, vs1, d1, ds1, p1, q1, rfl, rfl, rfl, h1, r1⟩ := trodAll_cons r0
  obtain ⟨rfl, rfl, rfl⟩ := trodAll_nil r1
  obtain rfl : args = #[v0, v1] := by cases args; simp_all
  obtain ⟨rfl, rfl⟩ := trodVars_none hV
  have k0 := h0
  have lt0 : ∀ x ∈ p0, x.block < W.heap.size := by obtain ⟨m, hm⟩ := k0; exact DataW.trod_lt m _ _ _ hm
  have k1 := h1
  have lt1 : ∀ x ∈ p1, x.block < W.heap.size := by obtain ⟨m, hm⟩ := k1; exact DataW.trod_lt m _ _ _ hm
  obtain ⟨A0, f0, c0, rfl, hs0, hl0⟩ := open_sls (hval 0 22 v0 rfl rfl) h0
  obtain ⟨A1, f1, c1, rfl, hs1, hl1⟩ := open_intz (hval 1 31 v1 rfl rfl) h1
  clear hA0 hval0
  refine (walk A0 f0 c0 A1 f1 c1 W hs0 hl0 hs1 hl1).mono fun e W' ⟨he, bel⟩ => ?_
  subst he
  exact ⟨_, rfl, _, _, _, [], _, [], hW', trodAll_mk1 (shut_bool Try.underlying4 _), (trodAll_cons_mk (Below.trod laidOut (by kernel_rfl) (of_decide_eq_true (by kernel_rfl)) k0 bel lt0) (trodAll_cons_mk (Below.trod laidOut (by kernel_rfl) (of_decide_eq_true (by kernel_rfl)) k1 bel lt1) trodAll_mk0)), rfl, bel.frame _, fun h => by cases h⟩

theorem over : Rows.fnExactPiecesOfRow.holds Try.pinned (OpenSpec.ofChange Rows.fnExactPiecesOfSpec) :=
  OpenClaim.holds_of_wide 6 Try.f6 rfl rfl rfl rfl rfl rfl rfl ⟨rfl, rfl, rfl, rfl, rfl⟩ rfl rfl rfl rfl rfl (by kernel_rfl) Try.func6 (by kernel_rfl)
    (of_decide_eq_true (by kernel_rfl)) (by unfold Func.isWrapper; first | (rw [if_pos (by decide +kernel)]; kernel_rfl) | (rw [if_neg (by decide +kernel)]; exact ⟨rfl, rfl⟩))
    (fun os started H enc _ => lifted os started H enc)

theorem proved : Rows.FnExactPiecesOfSaid := over
end Go.Proofs.Ytljakcfdjcjdbaa.fnExactPiecesOf

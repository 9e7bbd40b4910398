/-
  FnExactSwapBoxes: for every input (a slice of Box structs, an int, an int) the law returns true, and what it was given reads as before. Conditions: none beyond the given statement's own.
-/
import Derived.Test.YtllafkeheppkjaaRows
import Derived.Test.YtllafkeheppkjaaSz
import Derived.Test.YtllafkeheppkjaaOpenBx
import Derived.Test.YtllafkeheppkjaaOpenI
import Derived.Test.YtllafkeheppkjaaTos
import Derived.ProofKit
import Derived.OpenShut
import Derived.ShutString
import Derived.ChangeOld
import Derived.Lib.SmallJoins
namespace Go.Proofs.Ytllafkeheppkjaa.fnExactSwapBoxes
open Go.ChangeShapes Go.WideShapes Go.ChangeAt Go.RowKit Go.Joins
open Go.ChangeMaps (open_string shut_string)
set_option linter.unusedVariables false

theorem own : ownKnob Try.prog.godebug = none := by kernel_rfl
theorem laidOut : laidOutB Try.prog = true := by kernel_rfl

set_option maxRecDepth 100000 in
set_option maxHeartbeats 1000000 in
theorem walk (A0 : Option Addr) (f0 : List Bx) (c0 : Nat) (a1 : Int) (a2 : Int) (w : World) (hs0 : BxsIn w A0 f0) (ho0 : BxsOk f0) (hl0 : f0.length ≤ maxLen) (r1 : -9223372036854775808 ≤ a1 ∧ a1 ≤ 9223372036854775807) (r2 : -9223372036854775808 ≤ a2 ∧ a2 ≤ 9223372036854775807) :
    Calls Try.prog 7 #[.slice A0 f0.length c0, .int .i64 a1, .int .i64 a2] w fun e w' => e = .returned (.bool true) ∧ Below w.heap.size w w' := by
  have HS0 := Lib.hid hs0; clear hs0
  have HO0 := Lib.hid ho0; clear ho0
  unfold maxLen at hl0
  have HR1 := Lib.hid r1; clear r1
  have HR2 := Lib.hid r2; clear r2
  have A_0 : Hid (Below w.heap.size w w) := Lib.hid (Below.refl _ _)
  have hle0 : (1048576 : Int) ≤ 1048576 := by omega
  go_enter Try.func7, Try.ntmps7
  go_wp2_with fail
  have hfin0 := szBx_len f0 1048576 (by omega)
  have hle0 := szBx_range f0 1048576 (by omega)
  refine (szBoxS_any f0 A0 c0 1048576 _ (HS0.out.below A_0.out (Nat.le_refl _)) HO0.out hl0 (by omega) (by omega)).mono ?_
  rintro e u1 ⟨rfl, hb1⟩
  have A_1 : Hid (Below w.heap.size w u1) := Lib.hid ((A_0.out).trans (Below.mono hb1 (A_0.out).size))
  clear A_0
  clear hb1
  generalize szBxS f0 1048576 = z0 at *
  by_cases hz0 : z0 < 0
  · go_wp2
    go_ret
    exact ⟨rfl, A_1.out⟩
  have hn0 : f0.length ≤ 1048576 := hfin0 (by omega)
  clear hfin0
  go_wp2_with fail
  refine (toBoxS_any f0 A0 c0 _ (HS0.out.below A_1.out (Nat.le_refl _)) hn0).mono ?_
  rintro e u2 ⟨rfl, hb2, hr2⟩
  have hB2 : u1.heap.size < u2.heap.size := row_lt hr2
  have A_2 : Hid (Below w.heap.size w u2) := Lib.hid ((A_1.out).trans (Below.mono hb2 (A_1.out).size))
  clear A_1
  clear hb2
  have Z0_2 : Hid (u2.ownsRow 0 26 4 (.slice (some ⟨u1.heap.size, 0, none⟩) f0.length f0.length) f0.length (flatBx f0)) := Lib.hid hr2
  clear hr2
  -- S
  go_wp2_with fail
  refine (specSwapBoxes_any f0 _ _ a1 a2 _ (own_in_bx Z0_2.out) hn0 HO0.out (Nat.le_refl _)).mono ?_
  intro e u3 hto
  obtain ⟨vS, rfl, hb3, hoS⟩ := hto
  obtain ⟨AS, cS, rfl⟩ := own_form_bx hoS
  have hszS : u2.heap.size ≤ u3.heap.size := hb3.size
  have ltS : Hid (∀ k, (Value.slice AS ((swR f0 a1 a2).getD []).length cS).ownBlock = some k → k < u3.heap.size) := Lib.hid (own_bound hoS)
  have A_3 : Hid (Below w.heap.size w u3) := Lib.hid ((A_2.out).trans (Below.mono hb3 (A_2.out).size))
  have Z0_3 : Hid (u3.ownsRow 0 26 4 (.slice (some ⟨u1.heap.size, 0, none⟩) f0.length f0.length) f0.length (flatBx f0)) := Lib.hid (own_below Z0_2.out hb3)
  clear A_2 Z0_2
  clear hb3
  have hwle0 : Hid (w.heap.size ≤ u3.heap.size) := Lib.hid A_3.out.size
  have OS_3 : Hid (u3.ownsRow 0 26 4 (.slice AS ((swR f0 a1 a2).getD []).length cS) ((swR f0 a1 a2).getD []).length (flatBx ((swR f0 a1 a2).getD []))) := Lib.hid (own_up hoS)
  clear hoS
  clear Z0_3
  go_wp2_with fail
  refine (toBoxS_any f0 A0 c0 _ (HS0.out.below A_3.out (Nat.le_refl _)) hn0).mono ?_
  rintro e u4 ⟨rfl, hb4, hr4⟩
  have hB4 : u3.heap.size < u4.heap.size := row_lt hr4
  have A_4 : Hid (Below w.heap.size w u4) := Lib.hid ((A_3.out).trans (Below.mono hb4 (A_3.out).size))
  have OS_4 : Hid (u4.ownsRow 0 26 4 (.slice AS ((swR f0 a1 a2).getD []).length cS) ((swR f0 a1 a2).getD []).length (flatBx ((swR f0 a1 a2).getD []))) := Lib.hid (own_below OS_3.out hb4)
  clear A_3 OS_3
  clear hb4
  have X0_4 : Hid (u4.ownsRow 0 26 4 (.slice (some ⟨u3.heap.size, 0, none⟩) f0.length f0.length) f0.length (flatBx f0)) := Lib.hid hr4
  clear hr4
  -- G
  go_wp2_with fail
  refine (implSwapBoxes_any f0 _ _ a1 a2 _ (own_in_bx X0_4.out) hn0 HO0.out (Nat.le_refl _)).mono ?_
  intro e u5 hto
  obtain ⟨vG, rfl, hb5, hoG⟩ := hto
  obtain ⟨AG, cG, rfl⟩ := own_form_bx hoG
  have hszG : u4.heap.size ≤ u5.heap.size := hb5.size
  have frG : Hid (∀ k, (Value.slice AG ((swR f0 a1 a2).getD []).length cG).ownBlock = some k → u4.heap.size ≤ k) := Lib.hid (own_lt hoG)
  have A_5 : Hid (Below w.heap.size w u5) := Lib.hid ((A_4.out).trans (Below.mono hb5 (A_4.out).size))
  have OS_5 : Hid (u5.ownsRow 0 26 4 (.slice AS ((swR f0 a1 a2).getD []).length cS) ((swR f0 a1 a2).getD []).length (flatBx ((swR f0 a1 a2).getD []))) := Lib.hid (own_below OS_4.out hb5)
  have X0_5 : Hid (u5.ownsRow 0 26 4 (.slice (some ⟨u3.heap.size, 0, none⟩) f0.length f0.length) f0.length (flatBx f0)) := Lib.hid (own_below X0_4.out hb5)
  clear A_4 OS_4 X0_4
  clear hb5
  have OG_5 : Hid (u5.ownsRow 0 26 4 (.slice AG ((swR f0 a1 a2).getD []).length cG) ((swR f0 a1 a2).getD []).length (flatBx ((swR f0 a1 a2).getD []))) := Lib.hid (own_up hoG)
  clear hoG
  have hmx := swR_short f0 a1 a2
  have HTO : Hid (∀ W B0, BxsIn W B0 f0 → Calls Try.prog 32 #[.slice B0 f0.length f0.length, .int .i64 a1, .int .i64 a2] W fun e W' => ∃ v, e = .returned (.tuple #[v, .bool (swR f0 a1 a2).isSome]) ∧ Below W.heap.size W W' ∧ W'.ownsRow W.heap.size 26 4 v ((swR f0 a1 a2).getD []).length (flatBx ((swR f0 a1 a2).getD []))) := Lib.hid (fun W B0 h0 => implSwapBoxes_any f0 B0 f0.length a1 a2 W h0 hn0 HO0.out (Nat.le_refl _))
  generalize (swR f0 a1 a2).isSome = b at *
  generalize (swR f0 a1 a2).getD [] = L at *
  have hbb : (b != b) = false := by simp
  have hmx2 : L.length ≤ maxLen := by unfold maxLen; omega
  go_wp2_with fail
  refine (eqBoxS_any L L _ _ _ _ _ (own_in_bx OG_5.out) (own_in_bx OS_5.out) hmx2 hmx2).mono ?_
  rintro e u6 ⟨rfl, hb6⟩
  rw [show decide (L = L) = true from decide_eq_true rfl]
  have A_6 : Hid (Below w.heap.size w u6) := Lib.hid ((A_5.out).trans (Below.mono hb6 (A_5.out).size))
  have OS_6 : Hid (u6.ownsRow 0 26 4 (.slice AS L.length cS) L.length (flatBx L)) := Lib.hid (own_below OS_5.out hb6)
  have X0_6 : Hid (u6.ownsRow 0 26 4 (.slice (some ⟨u3.heap.size, 0, none⟩) f0.length f0.length) f0.length (flatBx f0)) := Lib.hid (own_below X0_5.out hb6)
  have OG_6 : Hid (u6.ownsRow 0 26 4 (.slice AG L.length cG) L.length (flatBx L)) := Lib.hid (own_below OG_5.out hb6)
  clear A_5 OS_5 X0_5 OG_5
  clear hb6
  -- argument 0 is as it was
  go_wp2_with fail
  refine (toBoxS_any f0 A0 c0 _ (HS0.out.below A_6.out (Nat.le_refl _)) hn0).mono ?_
  rintro e u7 ⟨rfl, hb7, hr7⟩
  have A_7 : Hid (Below w.heap.size w u7) := Lib.hid ((A_6.out).trans (Below.mono hb7 (A_6.out).size))
  have OS_7 : Hid (u7.ownsRow 0 26 4 (.slice AS L.length cS) L.length (flatBx L)) := Lib.hid (own_below OS_6.out hb7)
  have X0_7 : Hid (u7.ownsRow 0 26 4 (.slice (some ⟨u3.heap.size, 0, none⟩) f0.length f0.length) f0.length (flatBx f0)) := Lib.hid (own_below X0_6.out hb7)
  have OG_7 : Hid (u7.ownsRow 0 26 4 (.slice AG L.length cG) L.length (flatBx L)) := Lib.hid (own_below OG_6.out hb7)
  clear A_6 OS_6 X0_6 OG_6
  clear hb7
  go_wp2_with fail
  refine (eqBoxS_any f0 f0 _ _ _ _ _ (own_in_bx X0_7.out) (own_in_bx hr7) (by unfold maxLen; omega) (by unfold maxLen; omega)).mono ?_
  rintro e u8 ⟨rfl, hb8⟩
  rw [show decide (f0 = f0) = true from decide_eq_true rfl]
  clear hr7
  have A_8 : Hid (Below w.heap.size w u8) := Lib.hid ((A_7.out).trans (Below.mono hb8 (A_7.out).size))
  have OS_8 : Hid (u8.ownsRow 0 26 4 (.slice AS L.length cS) L.length (flatBx L)) := Lib.hid (own_below OS_7.out hb8)
  have X0_8 : Hid (u8.ownsRow 0 26 4 (.slice (some ⟨u3.heap.size, 0, none⟩) f0.length f0.length) f0.length (flatBx f0)) := Lib.hid (own_below X0_7.out hb8)
  have OG_8 : Hid (u8.ownsRow 0 26 4 (.slice AG L.length cG) L.length (flatBx L)) := Lib.hid (own_below OG_7.out hb8)
  clear A_7 OS_7 X0_7 OG_7
  clear hb8
  go_wp2_with fail
  refine (markBoxS_any 1 f0.length 0 _ _ _ X0_8.out (by omega) (by omega)).mono ?_
  rintro e u9 ⟨rfl, hg9, _⟩
  clear X0_8
  have hwle : w.heap.size ≤ u3.heap.size := hwle0.out
  have A_9 : Hid (Below w.heap.size w u9) := Lib.hid ((A_8.out).grown hg9 (A_8.out).size (fun k hk => by have e1 : u3.heap.size = k := Option.some.inj hk; omega))
  have OS_9 : Hid (u9.ownsRow 0 26 4 (.slice AS L.length cS) L.length (flatBx L)) := Lib.hid (own_grown OS_8.out hg9 (fun k hk e => by have e1 : u3.heap.size = k := Option.some.inj e; have e2 := ltS.out k hk; omega))
  have OG_9 : Hid (u9.ownsRow 0 26 4 (.slice AG L.length cG) L.length (flatBx L)) := Lib.hid (own_grown OG_8.out hg9 (fun k hk e => by have e1 : u3.heap.size = k := Option.some.inj e; have e2 := frG.out k hk; omega))
  clear A_8 OS_8 OG_8
  clear hg9
  obtain ⟨k0, hk0⟩ : ∃ k : Nat, k = (1 + 4 * f0.length) := ⟨_, rfl⟩
  rw [← hk0]
  have hkb0 : 1 ≤ k0 ∧ k0 ≤ 1 + 4 * 1048576 := by omega
  clear hk0
  obtain ⟨hka0, hkc0⟩ := hkb0
  have hk0 : ¬ ((k0 : Nat) : Int) < 0 := by omega
  go_wp2_with fail
  refine (eqBoxS_any L L _ _ _ _ _ (own_in_bx OG_9.out) (own_in_bx OS_9.out) hmx2 hmx2).mono ?_
  rintro e u10 ⟨rfl, hb10⟩
  rw [show decide (L = L) = true from decide_eq_true rfl]
  have A_10 : Hid (Below w.heap.size w u10) := Lib.hid ((A_9.out).trans (Below.mono hb10 (A_9.out).size))
  have OS_10 : Hid (u10.ownsRow 0 26 4 (.slice AS L.length cS) L.length (flatBx L)) := Lib.hid (own_below OS_9.out hb10)
  have OG_10 : Hid (u10.ownsRow 0 26 4 (.slice AG L.length cG) L.length (flatBx L)) := Lib.hid (own_below OG_9.out hb10)
  clear A_9 OS_9 OG_9
  clear hb10
  go_wp2_with fail
  refine (markBoxS_any 1 L.length 0 _ _ _ OG_10.out (by omega) (by omega)).mono ?_
  rintro e u11 ⟨rfl, hg11, om⟩
  have hne : ∀ k, (Value.slice AS L.length cS).ownBlock = some k → (Value.slice AG L.length cG).ownBlock ≠ some k := fun k h1 h2 => by have e1 := ltS.out k h1; have e2 := frG.out k h2; omega
  clear OG_10
  have A_11 : Hid (Below w.heap.size w u11) := Lib.hid ((A_10.out).grown hg11 (A_10.out).size (fun k hk => by have e1 := frG.out k hk; omega))
  have OS_11 : Hid (u11.ownsRow 0 26 4 (.slice AS L.length cS) L.length (flatBx L)) := Lib.hid (own_grown OS_10.out hg11 hne)
  clear A_10 OS_10
  have OM_11 : Hid (u11.ownsRow 0 26 4 (.slice AG L.length cG) L.length (flatBx (markBx 1 L.length))) := Lib.hid om
  obtain ⟨km, hkm⟩ : ∃ km : Nat, km = 1 + 4 * L.length := ⟨_, rfl⟩
  rw [← hkm]
  have hkm2 : km ≤ 16777216 := by omega
  have HKM := Lib.hid hkm; clear hkm
  have hqm : ((km : Int) != (km : Int)) = false := by simp
  have hqz : ¬ (km : Int) < 0 := by omega
  clear hg11 om hne
  go_wp2_with fail
  refine (heldBoxS_any 1 L.length _ _ _ (own_in_bx OM_11.out) (by omega) (by have := HKM.out; omega)).mono ?_
  rintro e u12 ⟨rfl, hb12⟩
  rw [← HKM.out]
  have A_12 : Hid (Below w.heap.size w u12) := Lib.hid ((A_11.out).trans (Below.mono hb12 (A_11.out).size))
  have OS_12 : Hid (u12.ownsRow 0 26 4 (.slice AS L.length cS) L.length (flatBx L)) := Lib.hid (own_below OS_11.out hb12)
  have OM_12 : Hid (u12.ownsRow 0 26 4 (.slice AG L.length cG) L.length (flatBx (markBx 1 L.length))) := Lib.hid (own_below OM_11.out hb12)
  clear A_11 OS_11 OM_11
  clear hb12
  -- another call
  go_wp2_with fail
  refine (toBoxS_any f0 A0 c0 _ (HS0.out.below A_12.out (Nat.le_refl _)) hn0).mono ?_
  rintro e u13 ⟨rfl, hb13, hr13⟩
  have hB13 : u12.heap.size < u13.heap.size := row_lt hr13
  have A_13 : Hid (Below w.heap.size w u13) := Lib.hid ((A_12.out).trans (Below.mono hb13 (A_12.out).size))
  have OS_13 : Hid (u13.ownsRow 0 26 4 (.slice AS L.length cS) L.length (flatBx L)) := Lib.hid (own_below OS_12.out hb13)
  have OM_13 : Hid (u13.ownsRow 0 26 4 (.slice AG L.length cG) L.length (flatBx (markBx 1 L.length))) := Lib.hid (own_below OM_12.out hb13)
  clear A_12 OS_12 OM_12
  clear hb13
  have Y0_13 : Hid (u13.ownsRow 0 26 4 (.slice (some ⟨u12.heap.size, 0, none⟩) f0.length f0.length) f0.length (flatBx f0)) := Lib.hid hr13
  clear hr13
  go_wp2_with fail
  refine (HTO.out _ _ (own_in_bx Y0_13.out)).mono ?_
  intro e u14 hto
  obtain ⟨vH, rfl, hb14, hoH⟩ := hto
  obtain ⟨AH, cH, rfl⟩ := own_form_bx hoH
  have A_14 : Hid (Below w.heap.size w u14) := Lib.hid ((A_13.out).trans (Below.mono hb14 (A_13.out).size))
  have OS_14 : Hid (u14.ownsRow 0 26 4 (.slice AS L.length cS) L.length (flatBx L)) := Lib.hid (own_below OS_13.out hb14)
  have OM_14 : Hid (u14.ownsRow 0 26 4 (.slice AG L.length cG) L.length (flatBx (markBx 1 L.length))) := Lib.hid (own_below OM_13.out hb14)
  have Y0_14 : Hid (u14.ownsRow 0 26 4 (.slice (some ⟨u12.heap.size, 0, none⟩) f0.length f0.length) f0.length (flatBx f0)) := Lib.hid (own_below Y0_13.out hb14)
  clear A_13 OS_13 OM_13 Y0_13
  clear hb14
  clear Y0_14
  have OH_14 : Hid (u14.ownsRow 0 26 4 (.slice AH L.length cH) L.length (flatBx L)) := Lib.hid (own_up hoH)
  clear hoH
  go_wp2_with fail
  refine (eqBoxS_any L L _ _ _ _ _ (own_in_bx OH_14.out) (own_in_bx OS_14.out) hmx2 hmx2).mono ?_
  rintro e u15 ⟨rfl, hb15⟩
  rw [show decide (L = L) = true from decide_eq_true rfl]
  have A_15 : Hid (Below w.heap.size w u15) := Lib.hid ((A_14.out).trans (Below.mono hb15 (A_14.out).size))
  have OS_15 : Hid (u15.ownsRow 0 26 4 (.slice AS L.length cS) L.length (flatBx L)) := Lib.hid (own_below OS_14.out hb15)
  have OM_15 : Hid (u15.ownsRow 0 26 4 (.slice AG L.length cG) L.length (flatBx (markBx 1 L.length))) := Lib.hid (own_below OM_14.out hb15)
  have OH_15 : Hid (u15.ownsRow 0 26 4 (.slice AH L.length cH) L.length (flatBx L)) := Lib.hid (own_below OH_14.out hb15)
  clear A_14 OS_14 OM_14 OH_14
  clear hb15
  go_wp2_with fail
  refine (heldBoxS_any 1 L.length _ _ _ (own_in_bx OM_15.out) (by omega) (by have := HKM.out; omega)).mono ?_
  rintro e u16 ⟨rfl, hb16⟩
  rw [← HKM.out]
  have A_16 : Hid (Below w.heap.size w u16) := Lib.hid ((A_15.out).trans (Below.mono hb16 (A_15.out).size))
  have OS_16 : Hid (u16.ownsRow 0 26 4 (.slice AS L.length cS) L.length (flatBx L)) := Lib.hid (own_below OS_15.out hb16)
  have OM_16 : Hid (u16.ownsRow 0 26 4 (.slice AG L.length cG) L.length (flatBx (markBx 1 L.length))) := Lib.hid (own_below OM_15.out hb16)
  have OH_16 : Hid (u16.ownsRow 0 26 4 (.slice AH L.length cH) L.length (flatBx L)) := Lib.hid (own_below OH_15.out hb16)
  clear A_15 OS_15 OM_15 OH_15
  clear hb16
  go_wp2
  go_ret
  exact ⟨rfl, A_16.out⟩

set_option maxRecDepth 100000 in
theorem lifted (os : Os) (started : os.Started) (H : Type) (enc : TypeId × Value → H) :
    ReturnsInHanded {} Try.checked os 7 .any (Rows.fnExactSwapBoxesSpec.pre6 enc Try.prog Try.f7 Rows.fnExactSwapBoxesRow.domain false) (Rows.fnExactSwapBoxesSpec.post enc Try.prog Try.f7 false true false false) := by
  refine returnsInHanded_of_change (C := Try.checked) own started (by kernel_rfl) Try.func7
    (ChangeSpec.witness6 (enc := enc) (C := Try.checked) false ⟨#[], #[.slice none 0 0, .int .i64 0, .int .i64 0], []⟩ 8 (by kernel_rfl) (by kernel_rfl) (by kernel_rfl) (by kernel_rfl)) ?_
  intro W base args ds gs before hval0 hW hcnd _
  have hval : ∀ (j : Nat) t v, Try.f7.params[j]? = some t → args[j]? = some v → Value.okWide Try.prog W .any base t v := hval0
  have hW' := hW
  obtain ⟨p, q, hA0, hV, rfl, hfz, hnd⟩ := hW
  have hA : DataW.TrodAll enc Try.prog W 0 (fun _ => true) true Try.f7.params.toList args.toList ds p := hA0
  rw [Try.params7] at hA hval
  obtain ⟨v0, vs0, d0, ds0, p0, q0, hargs, rfl, rfl, h0, r0⟩ := trodAll_cons hA
  obtain ⟨v1, vs1, d1, ds1, p1, q1, rfl, rfl, rfl, h1, r1⟩ := trodAll_cons r0
  obtain ⟨v2, vs2, d2, ds2, p2, q2, rfl, rfl, rfl, h2, r2⟩ := trodAll_cons r1
  obtain ⟨rfl, rfl, rfl⟩ := trodAll_nil r2
  obtain rfl : args = #[v0, v1, v2] := by cases args; simp_all
  obtain ⟨rfl, rfl⟩ := trodVars_none hV
  have k0 := h0
  have lt0 : ∀ x ∈ p0, x.block < W.heap.size := by obtain ⟨m, hm⟩ := k0; exact DataW.trod_lt m _ _ _ hm
  have k1 := h1
  have lt1 : ∀ x ∈ p1, x.block < W.heap.size := by obtain ⟨m, hm⟩ := k1; exact DataW.trod_lt m _ _ _ hm
  have k2 := h2
  have lt2 : ∀ x ∈ p2, x.block < W.heap.size := by obtain ⟨m, hm⟩ := k2; exact DataW.trod_lt m _ _ _ hm
  obtain ⟨A0, f0, c0, rfl, hs0, ho0, hl0⟩ := open_bxs (hval 0 29 v0 rfl rfl) h0
  obtain ⟨a1, rfl, rfl, rfl, wa1⟩ := open_int Try.underlying3 (hval 1 3 v1 rfl rfl) h1
  obtain ⟨a2, rfl, rfl, rfl, wa2⟩ := open_int Try.underlying3 (hval 2 3 v2 rfl rfl) h2
  clear hA0 hval0
  refine (walk A0 f0 c0 a1 a2 W hs0 ho0 hl0 (wf_range wa1) (wf_range wa2)).mono fun e W' ⟨he, bel⟩ => ?_
  subst he
  exact ⟨_, rfl, _, _, _, [], _, [], hW', trodAll_mk1 (shut_bool Try.underlying4 _), (trodAll_cons_mk (Below.trod laidOut (by kernel_rfl) (of_decide_eq_true (by kernel_rfl)) k0 bel lt0) (trodAll_cons_mk (Below.trod laidOut (by kernel_rfl) (of_decide_eq_true (by kernel_rfl)) k1 bel lt1) (trodAll_cons_mk (Below.trod laidOut (by kernel_rfl) (of_decide_eq_true (by kernel_rfl)) k2 bel lt2) trodAll_mk0))), rfl, bel.frame _, fun h => by cases h⟩

theorem over : Rows.fnExactSwapBoxesRow.holds Try.pinned (OpenSpec.ofChange Rows.fnExactSwapBoxesSpec) :=
  OpenClaim.holds_of_wide 7 Try.f7 rfl rfl rfl rfl rfl rfl rfl ⟨rfl, rfl, rfl, rfl, rfl⟩ rfl rfl rfl rfl rfl (by kernel_rfl) Try.func7 (by kernel_rfl)
    (of_decide_eq_true (by kernel_rfl)) (by unfold Func.isWrapper; first | (rw [if_pos (by decide +kernel)]; kernel_rfl) | (rw [if_neg (by decide +kernel)]; exact ⟨rfl, rfl⟩))
    (fun os started H enc _ => lifted os started H enc)

theorem proved : Rows.FnExactSwapBoxesSaid := over
end Go.Proofs.Ytllafkeheppkjaa.fnExactSwapBoxes

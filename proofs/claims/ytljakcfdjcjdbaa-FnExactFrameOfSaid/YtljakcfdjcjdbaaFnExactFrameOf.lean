/-
  FnExactFrameOf: for every input (a slice of slips, an int, an int, an int) the law returns true, and what it was given reads as before. Conditions: none beyond the given statement's own.
-/
import Derived.Test.YtljakcfdjcjdbaaRows
import Derived.Test.YtljakcfdjcjdbaaRr
import Derived.Test.YtljakcfdjcjdbaaPe
import Derived.Test.YtljakcfdjcjdbaaIntsE
import Derived.Test.YtljakcfdjcjdbaaVr
import Derived.Test.YtljakcfdjcjdbaaPr
import Derived.Test.YtljakcfdjcjdbaaOpenIz
import Derived.Test.YtljakcfdjcjdbaaOpenPa
import Derived.Deep.RegionLaw
import Derived.Deep.DeepCutAuto
import Derived.Test.YtljakcfdjcjdbaaTail
import Derived.ProofKit
import Derived.OpenShut
import Derived.ShutString
import Derived.ChangeOld
import Derived.Lib.SmallJoins
namespace Go.Proofs.Ytljakcfdjcjdbaa.fnExactFrameOf
open Go.ChangeShapes Go.WideShapes Go.ChangeAt Go.RowKit Go.Joins
open Go.ChangeMaps (open_string shut_string)
set_option linter.unusedVariables false

theorem own : ownKnob Try.prog.godebug = none := by kernel_rfl
theorem laidOut : laidOutB Try.prog = true := by kernel_rfl

set_option maxRecDepth 100000 in
set_option maxHeartbeats 2000000 in
theorem walk (A0 : Option Addr) (f0 : List Sl) (c0 : Nat) (a1 : Int) (a2 : Int) (a3 : Int) (w : World) (hs0 : SlsIn w A0 f0) (hl0 : f0.length ≤ maxLen) (r1 : -9223372036854775808 ≤ a1 ∧ a1 ≤ 9223372036854775807) (r2 : -9223372036854775808 ≤ a2 ∧ a2 ≤ 9223372036854775807) (r3 : -9223372036854775808 ≤ a3 ∧ a3 ≤ 9223372036854775807) :
    Calls Try.prog 11 #[.slice A0 f0.length c0, .int .i64 a1, .int .i64 a2, .int .i64 a3] w fun e w' => e = .returned (.bool true) ∧ Below w.heap.size w w' := by
  have HS0 := Lib.hid hs0; clear hs0
  unfold maxLen at hl0
  have HR1 := Lib.hid r1; clear r1
  have HR2 := Lib.hid r2; clear r2
  have HR3 := Lib.hid r3; clear r3
  have A_0 : Hid (Below w.heap.size w w) := Lib.hid (show Below _ _ _ by exact (Below.refl _ _))
  obtain ⟨V0, hV0⟩ : ∃ V, V = frB f0 a1 a2 a3 := ⟨_, rfl⟩
  have HV0 := Lib.hid hV0; clear hV0
  have hne0 : (V0 != V0) = false := by simp
  obtain ⟨N, hN⟩ : ∃ N : Nat, N = frN f0 a1 a2 a3 := ⟨_, rfl⟩
  obtain ⟨R, hR⟩ : ∃ R : Nat → List Int, R = ruK 1048576 f0 (frL a1 a2 a3) := ⟨_, rfl⟩
  have hNM : N ≤ 6 ∧ N * f0.length ≤ 48 := by rw [hN]; exact fr_small _ _ _ _
  obtain ⟨hN6, hNM⟩ := hNM
  have HRL : Hid (∀ i, (R i).length ≤ maxLen) := Lib.hid (fun i => by rw [hR, ruK_len]; unfold maxLen; omega)
  have HNN := Lib.hid hN; clear hN
  have HRR := Lib.hid hR; clear hR
  have HSP : Hid (∀ (W : World) (B0 : Addr), f0.length ≤ 1048576 → SlsIn W (some B0) f0 → Calls Try.prog 42 #[.slice (some B0) f0.length f0.length, .int .i64 a1, .int .i64 a2, .int .i64 a3] W fun e W' => ∃ A c, e = .returned (.tuple #[.slice A N c, .bool V0]) ∧ Below W.heap.size W W' ∧ Gs W' W'.heap.size A N R) := Lib.hid (by
    rw [HV0.out, HNN.out, HRR.out]; exact fun W B0 h0 i0 => specFrameOf_any f0 B0 f0.length a1 a2 a3 W i0 h0)
  have HIM : Hid (∀ (W : World) (B0 : Addr), f0.length ≤ 1048576 → SlsIn W (some B0) f0 → Calls Try.prog 43 #[.slice (some B0) f0.length f0.length, .int .i64 a1, .int .i64 a2, .int .i64 a3] W fun e W' => ∃ A c hs, e = .returned (.tuple #[.slice A N c, .bool V0]) ∧ Below W.heap.size W W' ∧ GI W' W.heap.size A N c f0.length hs R) := Lib.hid (by
    rw [HV0.out, HNN.out, HRR.out]; exact fun W B0 h0 i0 => implFrameOf_any f0 B0 f0.length a1 a2 a3 W i0 h0)
  go_enter Try.func11, Try.ntmps11
  go_wp2_with fail
  refine (szSlipS_any f0 A0 c0 (1048576) _ (by unfold maxLen; omega) (by omega) (by omega)).mono ?_
  rintro e w' ⟨rfl, hww⟩
  subst hww
  by_cases hz0 : (1048576 : Int) < (f0.length : Int)
  · rw [if_pos hz0]
    go_wp2
    go_ret
    exact ⟨rfl, A_0.out⟩
  rw [if_neg hz0]
  have hn0 : f0.length ≤ 1048576 := by omega
  have hnn0 : ¬ (1048576 : Int) - (f0.length : Int) < 0 := by omega
  clear hz0
  go_wp2_with fail
  refine (toSlOwn_any f0 A0 c0 _ (HS0.out.below A_0.out (by first | exact Nat.le_refl _)) hn0).mono ?_
  rintro e u1 ⟨rfl, hb1, hr1⟩
  have hB1 : w.heap.size < u1.heap.size := row_lt hr1
  have A_1 : Hid (Below w.heap.size w u1) := Lib.hid ((A_0.out).trans (Below.mono hb1 (A_0.out).size))
  clear A_0
  clear hb1
  have Z0_1 : Hid (u1.ownsRow 0 57 2 (.slice (some ⟨w.heap.size, 0, none⟩) f0.length f0.length) f0.length (flatSl f0)) := Lib.hid hr1
  clear hr1
  go_wp2_with fail
  refine (HSP.out _ _ hn0 (own_in_sl Z0_1.out)).mono ?_
  intro e u2 hto
  obtain ⟨AS, cS, rfl, hb2, hoS⟩ := hto
  have hszS : u1.heap.size ≤ u2.heap.size := hb2.size
  have A_2 : Hid (Below w.heap.size w u2) := Lib.hid ((A_1.out).trans (Below.mono hb2 (A_1.out).size))
  have Z0_2 : Hid (u2.ownsRow 0 57 2 (.slice (some ⟨w.heap.size, 0, none⟩) f0.length f0.length) f0.length (flatSl f0)) := Lib.hid (own_below Z0_1.out hb2)
  clear A_1 Z0_1
  clear hb2
  have OS_2 : Hid (Gs u2 u2.heap.size AS N R) := Lib.hid hoS
  clear hoS
  clear Z0_2
  have hwle0 : Hid (w.heap.size ≤ u2.heap.size) := Lib.hid (A_2.out).size
  go_wp2_with fail
  refine (toSlOwn_any f0 A0 c0 _ (HS0.out.below A_2.out (by first | exact Nat.le_refl _)) hn0).mono ?_
  rintro e u3 ⟨rfl, hb3, hr3⟩
  have hB3 : u2.heap.size < u3.heap.size := row_lt hr3
  have A_3 : Hid (Below w.heap.size w u3) := Lib.hid ((A_2.out).trans (Below.mono hb3 (A_2.out).size))
  have OS_3 : Hid (Gs u3 u2.heap.size AS N R) := Lib.hid ((OS_2.out).keep hb3 (OS_2.out).1)
  clear A_2 OS_2
  clear hb3
  have X_0_3 : Hid (u3.ownsRow 0 57 2 (.slice (some ⟨u2.heap.size, 0, none⟩) f0.length f0.length) f0.length (flatSl f0)) := Lib.hid hr3
  clear hr3
  go_wp2_with fail
  refine (HIM.out _ _ hn0 (own_in_sl X_0_3.out)).mono ?_
  intro e u4 hto
  obtain ⟨AG, cG, hsG, rfl, hb4, hoG⟩ := hto
  have hszG : u3.heap.size ≤ u4.heap.size := hb4.size
  have A_4 : Hid (Below w.heap.size w u4) := Lib.hid ((A_3.out).trans (Below.mono hb4 (A_3.out).size))
  have OS_4 : Hid (Gs u4 u2.heap.size AS N R) := Lib.hid ((OS_3.out).keep hb4 (OS_3.out).1)
  have X_0_4 : Hid (u4.ownsRow 0 57 2 (.slice (some ⟨u2.heap.size, 0, none⟩) f0.length f0.length) f0.length (flatSl f0)) := Lib.hid (own_below X_0_3.out hb4)
  clear A_3 OS_3 X_0_3
  clear hb4
  have OG_4 : Hid (GI u4 u3.heap.size AG N cG f0.length hsG R) := Lib.hid hoG
  clear hoG
  go_wp2_with fail
  refine (eqIntSS_any N R _ _ _ _ _ _ _ (OG_4.out).gs OS_4.out (by omega) HRL.out).mono ?_
  rintro e u5 ⟨rfl, hb5⟩
  have A_5 : Hid (Below w.heap.size w u5) := Lib.hid ((A_4.out).trans (Below.mono hb5 (A_4.out).size))
  have OS_5 : Hid (Gs u5 u2.heap.size AS N R) := Lib.hid ((OS_4.out).keep hb5 (OS_4.out).1)
  have X_0_5 : Hid (u5.ownsRow 0 57 2 (.slice (some ⟨u2.heap.size, 0, none⟩) f0.length f0.length) f0.length (flatSl f0)) := Lib.hid (own_below X_0_4.out hb5)
  have OG_5 : Hid (GI u5 u3.heap.size AG N cG f0.length hsG R) := Lib.hid ((OG_4.out).below hb5)
  clear A_4 OS_4 X_0_4 OG_4
  clear hb5
  go_wp2_with fail
  refine (toSlOwn_any f0 A0 c0 _ (HS0.out.below A_5.out (by first | exact Nat.le_refl _)) hn0).mono ?_
  rintro e u6 ⟨rfl, hb6, hr6⟩
  have hB6 : u5.heap.size < u6.heap.size := row_lt hr6
  have A_6 : Hid (Below w.heap.size w u6) := Lib.hid ((A_5.out).trans (Below.mono hb6 (A_5.out).size))
  have OS_6 : Hid (Gs u6 u2.heap.size AS N R) := Lib.hid ((OS_5.out).keep hb6 (OS_5.out).1)
  have X_0_6 : Hid (u6.ownsRow 0 57 2 (.slice (some ⟨u2.heap.size, 0, none⟩) f0.length f0.length) f0.length (flatSl f0)) := Lib.hid (own_below X_0_5.out hb6)
  have OG_6 : Hid (GI u6 u3.heap.size AG N cG f0.length hsG R) := Lib.hid ((OG_5.out).below hb6)
  clear A_5 OS_5 X_0_5 OG_5
  clear hb6
  have W0_6 : Hid (u6.ownsRow 0 57 2 (.slice (some ⟨u5.heap.size, 0, none⟩) f0.length f0.length) f0.length (flatSl f0)) := Lib.hid hr6
  clear hr6
  go_wp2_with fail
  refine (eqSlipS_any f0 f0 _ _ _ _ _ (own_in_sl X_0_6.out) (own_in_sl W0_6.out) (by unfold maxLen; omega) (by unfold maxLen; omega)).mono ?_
  rintro e u7 ⟨rfl, hb7⟩
  rw [show decide (f0 = f0) = true from decide_eq_true rfl]
  clear W0_6
  have A_7 : Hid (Below w.heap.size w u7) := Lib.hid ((A_6.out).trans (Below.mono hb7 (A_6.out).size))
  have OS_7 : Hid (Gs u7 u2.heap.size AS N R) := Lib.hid ((OS_6.out).keep hb7 (OS_6.out).1)
  have X_0_7 : Hid (u7.ownsRow 0 57 2 (.slice (some ⟨u2.heap.size, 0, none⟩) f0.length f0.length) f0.length (flatSl f0)) := Lib.hid (own_below X_0_6.out hb7)
  have OG_7 : Hid (GI u7 u3.heap.size AG N cG f0.length hsG R) := Lib.hid ((OG_6.out).below hb7)
  clear A_6 OS_6 X_0_6 OG_6
  clear hb7
  have hwle : w.heap.size ≤ u2.heap.size := hwle0.out
  go_wp2_with fail
  refine (markSlOwn_any 1 f0.length 0 _ _ _ X_0_7.out (by omega)).mono ?_
  rintro e u8 ⟨rfl, hg8⟩
  clear X_0_7
  have A_8 : Hid (Below w.heap.size w u8) := Lib.hid ((A_7.out).grown hg8 (A_7.out).size (fun k hk => by have e1 : u2.heap.size = k := Option.some.inj hk; omega))
  have OS_8 : Hid (Gs u8 u2.heap.size AS N R) := Lib.hid ((OS_7.out).keep ((Below.refl _ _).grown hg8 (OS_7.out).1 (fun k hk => by have e1 : u2.heap.size = k := Option.some.inj hk; omega)) (Nat.le_refl _))
  have OG_8 : Hid (GI u8 u3.heap.size AG N cG f0.length hsG R) := Lib.hid ((OG_7.out).grown hg8 (fun k hk => by have e1 : u2.heap.size = k := Option.some.inj hk; omega))
  clear A_7 OS_7 OG_7
  clear hg8
  obtain ⟨k0, hk0⟩ : ∃ k : Nat, k = (1 + 2 * f0.length) := ⟨_, rfl⟩
  rw [← hk0]
  have hkb0 : 1 ≤ k0 ∧ k0 ≤ 1 + 2 * 1048576 := by omega
  clear hk0
  obtain ⟨hka0, hkc0⟩ := hkb0
  have hk0 : ¬ ((k0 : Nat) : Int) < 0 := by omega
  go_wp2_with fail
  refine (eqIntSS_any N R _ _ _ _ _ _ _ (OG_8.out).gs OS_8.out (by omega) HRL.out).mono ?_
  rintro e u9 ⟨rfl, hb9⟩
  have A_9 : Hid (Below w.heap.size w u9) := Lib.hid ((A_8.out).trans (Below.mono hb9 (A_8.out).size))
  have OS_9 : Hid (Gs u9 u2.heap.size AS N R) := Lib.hid ((OS_8.out).keep hb9 (OS_8.out).1)
  have OG_9 : Hid (GI u9 u3.heap.size AG N cG f0.length hsG R) := Lib.hid ((OG_8.out).below hb9)
  clear A_8 OS_8 OG_8
  clear hb9
  go_wp2_with fail
  refine (markIntSS_any 1 N f0.length _ _ _ _ _ _ OG_9.out (by omega) (by omega)).mono ?_
  rintro e u10 ⟨rfl, hbel, om⟩
  clear OG_9
  have A_10 : Hid (Below w.heap.size w u10) := Lib.hid ((A_9.out).trans (hbel _ (by omega) (A_9.out).size))
  have OS_10 : Hid (Gs u10 u2.heap.size AS N R) := Lib.hid ((OS_9.out).keep (hbel _ (by omega) (OS_9.out).1) (Nat.le_refl _))
  clear A_9 OS_9
  have OM_10 : Hid (GI u10 u3.heap.size AG N cG f0.length hsG (fun i => marks ((1 + i * f0.length : Nat) : Int) f0.length)) := Lib.hid om
  obtain ⟨km, hkm⟩ : ∃ km : Nat, km = 1 + N * f0.length := ⟨_, rfl⟩
  rw [← hkm]
  have hkm2 : km ≤ 16777216 := by omega
  have HKM := Lib.hid hkm; clear hkm
  have hqm : ((km : Int) != (km : Int)) = false := by simp
  have hqz : ¬ (km : Int) < 0 := by omega
  clear hbel om
  go_wp2_with fail
  refine (heldIntSS_any 1 N f0.length (fun i => marks ((1 + i * f0.length : Nat) : Int) f0.length) _ _ _ _ (OM_10.out).gs (fun i _ => rfl) (by omega) (by omega)).mono ?_
  rintro e u11 ⟨rfl, hwu11⟩
  rw [← HKM.out]
  subst hwu11
  -- another call
  go_wp2_with fail
  refine (toSlOwn_any f0 A0 c0 _ (HS0.out.below A_10.out (by first | exact Nat.le_refl _)) hn0).mono ?_
  rintro e u12 ⟨rfl, hb12, hr12⟩
  have hB12 : u10.heap.size < u12.heap.size := row_lt hr12
  have A_11 : Hid (Below w.heap.size w u12) := Lib.hid ((A_10.out).trans (Below.mono hb12 (A_10.out).size))
  have OS_11 : Hid (Gs u12 u2.heap.size AS N R) := Lib.hid ((OS_10.out).keep hb12 (OS_10.out).1)
  have OM_11 : Hid (GI u12 u3.heap.size AG N cG f0.length hsG (fun i => marks ((1 + i * f0.length : Nat) : Int) f0.length)) := Lib.hid ((OM_10.out).below hb12)
  clear A_10 OS_10 OM_10
  clear hb12
  have Y0_11 : Hid (u12.ownsRow 0 57 2 (.slice (some ⟨u10.heap.size, 0, none⟩) f0.length f0.length) f0.length (flatSl f0)) := Lib.hid hr12
  clear hr12
  go_wp2_with fail
  refine (HIM.out _ _ hn0 (own_in_sl Y0_11.out)).mono ?_
  intro e u13 hto
  obtain ⟨AH, cH, hsH, rfl, hb13, hoH⟩ := hto
  have hszH : u12.heap.size ≤ u13.heap.size := hb13.size
  have A_12 : Hid (Below w.heap.size w u13) := Lib.hid ((A_11.out).trans (Below.mono hb13 (A_11.out).size))
  have OS_12 : Hid (Gs u13 u2.heap.size AS N R) := Lib.hid ((OS_11.out).keep hb13 (OS_11.out).1)
  have OM_12 : Hid (GI u13 u3.heap.size AG N cG f0.length hsG (fun i => marks ((1 + i * f0.length : Nat) : Int) f0.length)) := Lib.hid ((OM_11.out).below hb13)
  have Y0_12 : Hid (u13.ownsRow 0 57 2 (.slice (some ⟨u10.heap.size, 0, none⟩) f0.length f0.length) f0.length (flatSl f0)) := Lib.hid (own_below Y0_11.out hb13)
  clear A_11 OS_11 OM_11 Y0_11
  clear hb13
  have OH_12 : Hid (GI u13 u12.heap.size AH N cH f0.length hsH R) := Lib.hid hoH
  clear hoH
  clear Y0_12
  go_wp2_with fail
  refine (eqIntSS_any N R _ _ _ _ _ _ _ (OH_12.out).gs OS_12.out (by omega) HRL.out).mono ?_
  rintro e u14 ⟨rfl, hb14⟩
  have A_13 : Hid (Below w.heap.size w u14) := Lib.hid ((A_12.out).trans (Below.mono hb14 (A_12.out).size))
  have OS_13 : Hid (Gs u14 u2.heap.size AS N R) := Lib.hid ((OS_12.out).keep hb14 (OS_12.out).1)
  have OM_13 : Hid (GI u14 u3.heap.size AG N cG f0.length hsG (fun i => marks ((1 + i * f0.length : Nat) : Int) f0.length)) := Lib.hid ((OM_12.out).below hb14)
  have OH_13 : Hid (GI u14 u12.heap.size AH N cH f0.length hsH R) := Lib.hid ((OH_12.out).below hb14)
  clear A_12 OS_12 OM_12 OH_12
  clear hb14
  go_wp2_with fail
  refine (heldIntSS_any 1 N f0.length (fun i => marks ((1 + i * f0.length : Nat) : Int) f0.length) _ _ _ _ (OM_13.out).gs (fun i _ => rfl) (by omega) (by omega)).mono ?_
  rintro e u15 ⟨rfl, hwu15⟩
  rw [← HKM.out]
  subst hwu15
  go_wp2
  go_ret
  exact ⟨rfl, A_13.out⟩

set_option maxRecDepth 100000 in
theorem lifted (os : Os) (started : os.Started) (H : Type) (enc : TypeId × Value → H) :
    ReturnsInHanded {} Try.checked os 11 .any (Rows.fnExactFrameOfSpec.pre6 enc Try.prog Try.f11 Rows.fnExactFrameOfRow.domain false) (Rows.fnExactFrameOfSpec.post enc Try.prog Try.f11 false true false false) := by
  refine returnsInHanded_of_change (C := Try.checked) own started (by kernel_rfl) Try.func11
    (ChangeSpec.witness6 (enc := enc) (C := Try.checked) false ⟨#[], #[.slice none 0 0, .int .i64 0, .int .i64 0, .int .i64 0], []⟩ 8 (by kernel_rfl) (by kernel_rfl) (by kernel_rfl) (by kernel_rfl)) ?_
  intro W base args ds gs before hval0 hW hcnd _
  have hval : ∀ (j : Nat) t v, Try.f11.params[j]? = some t → args[j]? = some v → Value.okWide Try.prog W .any base t v := hval0
  have hW' := hW
  obtain ⟨p, q, hA0, hV, rfl, hfz, hnd⟩ := hW
  have hA : DataW.TrodAll enc Try.prog W 0 (fun _ => true) true Try.f11.params.toList args.toList ds p := hA0
  rw [Try.params11] at hA hval
  obtain ⟨v0, vs0, d0, ds0, p0, q0, hargs, rfl, rfl, h0, r0⟩ := trodAll_cons hA
  obtain ⟨v1, vs1, d1, ds1, p1, q1, rfl, rfl, rfl, h1, r1⟩ := trodAll_cons r0
  obtain ⟨v2, vs2, d2, ds2, p2, q2, rfl, rfl, rfl, h2, r2⟩ := trodAll_cons r1
  obtain ⟨v3, vs3, d3, ds3, p3, q3, rfl, rfl, rfl, h3, r3⟩ := trodAll_cons r2
  obtain ⟨rfl, rfl, rfl⟩ := trodAll_nil r3
  obtain rfl : args = #[v0, v1, v2, v3] := by cases args; simp_all
  obtain ⟨rfl, rfl⟩ := trodVars_none hV
  have k0 := h0
  have lt0 : ∀ x ∈ p0, x.block < W.heap.size := by obtain ⟨m, hm⟩ := k0; exact DataW.trod_lt m _ _ _ hm
  have k1 := h1
  have lt1 : ∀ x ∈ p1, x.block < W.heap.size := by obtain ⟨m, hm⟩ := k1; exact DataW.trod_lt m _ _ _ hm
  have k2 := h2
  have lt2 : ∀ x ∈ p2, x.block < W.heap.size := by obtain ⟨m, hm⟩ := k2; exact DataW.trod_lt m _ _ _ hm
  have k3 := h3
  have lt3 : ∀ x ∈ p3, x.block < W.heap.size := by obtain ⟨m, hm⟩ := k3; exact DataW.trod_lt m _ _ _ hm
  obtain ⟨A0, f0, c0, rfl, hs0, hl0⟩ := open_sls (hval 0 22 v0 rfl rfl) h0
  obtain ⟨a1, rfl, rfl, rfl, wa1⟩ := open_int Try.underlying3 (hval 1 3 v1 rfl rfl) h1
  obtain ⟨a2, rfl, rfl, rfl, wa2⟩ := open_int Try.underlying3 (hval 2 3 v2 rfl rfl) h2
  obtain ⟨a3, rfl, rfl, rfl, wa3⟩ := open_int Try.underlying3 (hval 3 3 v3 rfl rfl) h3
  clear hA0 hval0
  refine (walk A0 f0 c0 a1 a2 a3 W hs0 hl0 (wf_range wa1) (wf_range wa2) (wf_range wa3)).mono fun e W' ⟨he, bel⟩ => ?_
  subst he
  exact ⟨_, rfl, _, _, _, [], _, [], hW', trodAll_mk1 (shut_bool Try.underlying4 _), (trodAll_cons_mk (Below.trod laidOut (by kernel_rfl) (of_decide_eq_true (by kernel_rfl)) k0 bel lt0) (trodAll_cons_mk (Below.trod laidOut (by kernel_rfl) (of_decide_eq_true (by kernel_rfl)) k1 bel lt1) (trodAll_cons_mk (Below.trod laidOut (by kernel_rfl) (of_decide_eq_true (by kernel_rfl)) k2 bel lt2) (trodAll_cons_mk (Below.trod laidOut (by kernel_rfl) (of_decide_eq_true (by kernel_rfl)) k3 bel lt3) trodAll_mk0)))), rfl, bel.frame _, fun h => by cases h⟩

theorem over : Rows.fnExactFrameOfRow.holds Try.pinned (OpenSpec.ofChange Rows.fnExactFrameOfSpec) :=
  OpenClaim.holds_of_wide 11 Try.f11 rfl rfl rfl rfl rfl rfl rfl ⟨rfl, rfl, rfl, rfl, rfl⟩ rfl rfl rfl rfl rfl (by kernel_rfl) Try.func11 (by kernel_rfl)
    (of_decide_eq_true (by kernel_rfl)) (by unfold Func.isWrapper; first | (rw [if_pos (by decide +kernel)]; kernel_rfl) | (rw [if_neg (by decide +kernel)]; exact ⟨rfl, rfl⟩))
    (fun os started H enc _ => lifted os started H enc)

theorem proved : Rows.FnExactFrameOfSaid := over
end Go.Proofs.Ytljakcfdjcjdbaa.fnExactFrameOf

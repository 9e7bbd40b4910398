/-
  FnExactLatestColumns: for every input (an int, a slice of entries, an int, an int) the law returns true, and what it was given reads as before. Conditions: none beyond the given statement's own.
-/
import Derived.Test.YtfginbjilpaghaaRows
import Derived.Test.YtfginbjilpaghaaFc
import Derived.Test.YtfginbjilpaghaaVr
import Derived.Test.YtfginbjilpaghaaEr
import Derived.Test.YtfginbjilpaghaaOpenEa
import Derived.Deep.RegionLaw
import Derived.Deep.DeepCutAuto
import Derived.Test.YtfginbjilpaghaaTail
import Derived.ProofKit
import Derived.OpenShut
import Derived.ShutString
import Derived.ChangeOld
import Derived.Lib.SmallJoins
namespace Go.Proofs.Ytfginbjilpaghaa.fnExactLatestColumns
open Go.ChangeShapes Go.WideShapes Go.ChangeAt Go.RowKit Go.Joins
open Go.ChangeMaps (open_string shut_string)
set_option linter.unusedVariables false

theorem own : ownKnob Try.prog.godebug = none := by kernel_rfl
theorem laidOut : laidOutB Try.prog = true := by kernel_rfl

set_option maxRecDepth 100000 in
set_option maxHeartbeats 2000000 in
theorem walk (a0 : Int) (A1 : Option Addr) (f1 : List En) (c1 : Nat) (a2 : Int) (a3 : Int) (w : World) (r0 : -9223372036854775808 ≤ a0 ∧ a0 ≤ 9223372036854775807) (hs1 : EnsIn w A1 f1) (hl1 : f1.length ≤ maxLen) (hrr1 : EnR f1) (r2 : -9223372036854775808 ≤ a2 ∧ a2 ≤ 9223372036854775807) (r3 : -9223372036854775808 ≤ a3 ∧ a3 ≤ 9223372036854775807) :
    Calls Try.prog 7 #[.int .i64 a0, .slice A1 f1.length c1, .int .i64 a2, .int .i64 a3] w fun e w' => e = .returned (.bool true) ∧ Below w.heap.size w w' := by
  have HS1 := Lib.hid hs1; clear hs1
  unfold maxLen at hl1
  have HRR1 := Lib.hid hrr1; clear hrr1
  have HR0 := Lib.hid r0; clear r0
  have HR2 := Lib.hid r2; clear r2
  have HR3 := Lib.hid r3; clear r3
  have A_0 : Hid (Below w.heap.size w w) := Lib.hid (show Below _ _ _ by exact (Below.refl _ _))
  obtain ⟨V0, hV0⟩ : ∃ V, V = lcB a0 f1 a2 a3 := ⟨_, rfl⟩
  have HV0 := Lib.hid hV0; clear hV0
  have hne0 : (V0 != V0) = false := by simp
  obtain ⟨L, hL⟩ : ∃ L : List Int, L = lcL a0 f1 a2 a3 := ⟨_, rfl⟩
  have hmx : L.length ≤ 1048576 := by rw [hL]; exact lcL_short a0 f1 a2 a3
  have HL := Lib.hid hL; clear hL
  have hmx2 : L.length ≤ maxLen := by unfold maxLen; omega
  have HSP : Hid (∀ (W : World) (B1 : Option Addr), f1.length ≤ 1048576 → EnsIn W B1 f1 → Calls Try.prog 29 #[.int .i64 a0, .slice B1 f1.length f1.length, .int .i64 a2, .int .i64 a3] W fun e W' => ∃ v T, e = .returned (.tuple #[v, .bool V0]) ∧ Below W.heap.size W W' ∧ W'.ownsRow W.heap.size T 1 v L.length (intsZ L)) := Lib.hid (by
    rw [HV0.out, HL.out]; exact fun W B1 h1 i1 => specLatestColumns_any a0 f1 B1 f1.length a2 a3 W i1 h1)
  have HIM : Hid (∀ (W : World) (B1 : Option Addr), f1.length ≤ 1048576 → EnsIn W B1 f1 → Calls Try.prog 30 #[.int .i64 a0, .slice B1 f1.length f1.length, .int .i64 a2, .int .i64 a3] W fun e W' => ∃ v T, e = .returned (.tuple #[v, .bool V0]) ∧ Below W.heap.size W W' ∧ W'.ownsRow W.heap.size T 1 v L.length (intsZ L)) := Lib.hid (by
    rw [HV0.out, HL.out]; exact fun W B1 h1 i1 => implLatestColumns_any a0 f1 B1 f1.length a2 a3 W i1 h1 HRR1.out)
  go_enter Try.func7, Try.ntmps7
  go_wp2_with fail
  refine (szEntryS_any f1 A1 c1 (1048576) _ (by unfold maxLen; omega) (by omega) (by omega)).mono ?_
  rintro e w' ⟨rfl, hww⟩
  subst hww
  by_cases hz1 : (1048576 : Int) < (f1.length : Int)
  · rw [if_pos hz1]
    go_wp2
    go_ret
    exact ⟨rfl, A_0.out⟩
  rw [if_neg hz1]
  have hn1 : f1.length ≤ 1048576 := by omega
  have hnn1 : ¬ (1048576 : Int) - (f1.length : Int) < 0 := by omega
  clear hz1
  go_wp2_with fail
  refine (toEnOwn_any f1 A1 c1 _ (HS1.out.below A_0.out (by first | exact Nat.le_refl _)) hn1).mono ?_
  rintro e u1 ⟨rfl, hb1, hr1⟩
  have hB1 : w.heap.size < u1.heap.size := row_lt hr1
  have A_1 : Hid (Below w.heap.size w u1) := Lib.hid ((A_0.out).trans (Below.mono hb1 (A_0.out).size))
  clear A_0
  clear hb1
  have Z1_1 : Hid (u1.ownsRow 0 45 3 (.slice (some ⟨w.heap.size, 0, none⟩) f1.length f1.length) f1.length (flatEn f1)) := Lib.hid hr1
  clear hr1
  go_wp2_with fail
  refine (HSP.out _ _ hn1 (own_in_en Z1_1.out)).mono ?_
  intro e u2 hto
  obtain ⟨vS, TS, rfl, hb2, hoS⟩ := hto
  obtain ⟨AS, cS, rfl⟩ := own_form hoS
  have hszS : u1.heap.size ≤ u2.heap.size := hb2.size
  have ltS : Hid (∀ k, (Value.slice AS L.length cS).ownBlock = some k → k < u2.heap.size) := Lib.hid (own_bound hoS)
  have A_2 : Hid (Below w.heap.size w u2) := Lib.hid ((A_1.out).trans (Below.mono hb2 (A_1.out).size))
  have Z1_2 : Hid (u2.ownsRow 0 45 3 (.slice (some ⟨w.heap.size, 0, none⟩) f1.length f1.length) f1.length (flatEn f1)) := Lib.hid (own_below Z1_1.out hb2)
  clear A_1 Z1_1
  clear hb2
  have OS_2 : Hid (u2.ownsRow 0 TS 1 (.slice AS L.length cS) L.length (intsZ L)) := Lib.hid (own_up hoS)
  clear hoS
  clear Z1_2
  have hwle0 : Hid (w.heap.size ≤ u2.heap.size) := Lib.hid (A_2.out).size
  go_wp2_with fail
  refine (toEnOwn_any f1 A1 c1 _ (HS1.out.below A_2.out (by first | exact Nat.le_refl _)) hn1).mono ?_
  rintro e u3 ⟨rfl, hb3, hr3⟩
  have hB3 : u2.heap.size < u3.heap.size := row_lt hr3
  have A_3 : Hid (Below w.heap.size w u3) := Lib.hid ((A_2.out).trans (Below.mono hb3 (A_2.out).size))
  have OS_3 : Hid (u3.ownsRow 0 TS 1 (.slice AS L.length cS) L.length (intsZ L)) := Lib.hid (own_below OS_2.out hb3)
  clear A_2 OS_2
  clear hb3
  have X_1_3 : Hid (u3.ownsRow 0 45 3 (.slice (some ⟨u2.heap.size, 0, none⟩) f1.length f1.length) f1.length (flatEn f1)) := Lib.hid hr3
  clear hr3
  go_wp2_with fail
  refine (HIM.out _ _ hn1 (own_in_en X_1_3.out)).mono ?_
  intro e u4 hto
  obtain ⟨vG, TG, rfl, hb4, hoG⟩ := hto
  obtain ⟨AG, cG, rfl⟩ := own_form hoG
  have hszG : u3.heap.size ≤ u4.heap.size := hb4.size
  have frG : Hid (∀ k, (Value.slice AG L.length cG).ownBlock = some k → u3.heap.size ≤ k) := Lib.hid (own_lt hoG)
  have A_4 : Hid (Below w.heap.size w u4) := Lib.hid ((A_3.out).trans (Below.mono hb4 (A_3.out).size))
  have OS_4 : Hid (u4.ownsRow 0 TS 1 (.slice AS L.length cS) L.length (intsZ L)) := Lib.hid (own_below OS_3.out hb4)
  have X_1_4 : Hid (u4.ownsRow 0 45 3 (.slice (some ⟨u2.heap.size, 0, none⟩) f1.length f1.length) f1.length (flatEn f1)) := Lib.hid (own_below X_1_3.out hb4)
  clear A_3 OS_3 X_1_3
  clear hb4
  have OG_4 : Hid (u4.ownsRow 0 TG 1 (.slice AG L.length cG) L.length (intsZ L)) := Lib.hid (own_up hoG)
  clear hoG
  go_wp2_with fail
  refine (eqIntS_any L L _ _ _ _ _ (own_in OG_4.out) (own_in OS_4.out) hmx2 hmx2).mono ?_
  rintro e u5 ⟨rfl, hb5⟩
  rw [show decide (L = L) = true from decide_eq_true rfl]
  have A_5 : Hid (Below w.heap.size w u5) := Lib.hid ((A_4.out).trans (Below.mono hb5 (A_4.out).size))
  have OS_5 : Hid (u5.ownsRow 0 TS 1 (.slice AS L.length cS) L.length (intsZ L)) := Lib.hid (own_below OS_4.out hb5)
  have X_1_5 : Hid (u5.ownsRow 0 45 3 (.slice (some ⟨u2.heap.size, 0, none⟩) f1.length f1.length) f1.length (flatEn f1)) := Lib.hid (own_below X_1_4.out hb5)
  have OG_5 : Hid (u5.ownsRow 0 TG 1 (.slice AG L.length cG) L.length (intsZ L)) := Lib.hid (own_below OG_4.out hb5)
  clear A_4 OS_4 X_1_4 OG_4
  clear hb5
  go_wp2_with fail
  refine (toEnOwn_any f1 A1 c1 _ (HS1.out.below A_5.out (by first | exact Nat.le_refl _)) hn1).mono ?_
  rintro e u6 ⟨rfl, hb6, hr6⟩
  have hB6 : u5.heap.size < u6.heap.size := row_lt hr6
  have A_6 : Hid (Below w.heap.size w u6) := Lib.hid ((A_5.out).trans (Below.mono hb6 (A_5.out).size))
  have OS_6 : Hid (u6.ownsRow 0 TS 1 (.slice AS L.length cS) L.length (intsZ L)) := Lib.hid (own_below OS_5.out hb6)
  have X_1_6 : Hid (u6.ownsRow 0 45 3 (.slice (some ⟨u2.heap.size, 0, none⟩) f1.length f1.length) f1.length (flatEn f1)) := Lib.hid (own_below X_1_5.out hb6)
  have OG_6 : Hid (u6.ownsRow 0 TG 1 (.slice AG L.length cG) L.length (intsZ L)) := Lib.hid (own_below OG_5.out hb6)
  clear A_5 OS_5 X_1_5 OG_5
  clear hb6
  have W1_6 : Hid (u6.ownsRow 0 45 3 (.slice (some ⟨u5.heap.size, 0, none⟩) f1.length f1.length) f1.length (flatEn f1)) := Lib.hid hr6
  clear hr6
  go_wp2_with fail
  refine (eqEntryS_any f1 f1 _ _ _ _ _ (own_in_en X_1_6.out) (own_in_en W1_6.out) (by unfold maxLen; omega) (by unfold maxLen; omega)).mono ?_
  rintro e u7 ⟨rfl, hb7⟩
  rw [show decide (f1 = f1) = true from decide_eq_true rfl]
  clear W1_6
  have A_7 : Hid (Below w.heap.size w u7) := Lib.hid ((A_6.out).trans (Below.mono hb7 (A_6.out).size))
  have OS_7 : Hid (u7.ownsRow 0 TS 1 (.slice AS L.length cS) L.length (intsZ L)) := Lib.hid (own_below OS_6.out hb7)
  have X_1_7 : Hid (u7.ownsRow 0 45 3 (.slice (some ⟨u2.heap.size, 0, none⟩) f1.length f1.length) f1.length (flatEn f1)) := Lib.hid (own_below X_1_6.out hb7)
  have OG_7 : Hid (u7.ownsRow 0 TG 1 (.slice AG L.length cG) L.length (intsZ L)) := Lib.hid (own_below OG_6.out hb7)
  clear A_6 OS_6 X_1_6 OG_6
  clear hb7
  have hwle : w.heap.size ≤ u2.heap.size := hwle0.out
  go_wp2_with fail
  refine (markEnOwn_any 1 f1.length 0 _ _ _ X_1_7.out (by omega)).mono ?_
  rintro e u8 ⟨rfl, hg8⟩
  clear X_1_7
  have A_8 : Hid (Below w.heap.size w u8) := Lib.hid ((A_7.out).grown hg8 (A_7.out).size (fun k hk => by have e1 : u2.heap.size = k := Option.some.inj hk; omega))
  have OS_8 : Hid (u8.ownsRow 0 TS 1 (.slice AS L.length cS) L.length (intsZ L)) := Lib.hid (own_grown OS_7.out hg8 (fun k hk e => by have e1 : u2.heap.size = k := Option.some.inj e; have e2 := ltS.out k hk; omega))
  have OG_8 : Hid (u8.ownsRow 0 TG 1 (.slice AG L.length cG) L.length (intsZ L)) := Lib.hid (own_grown OG_7.out hg8 (fun k hk e => by have e1 : u2.heap.size = k := Option.some.inj e; have e2 := frG.out k hk; omega))
  clear A_7 OS_7 OG_7
  clear hg8
  obtain ⟨k1, hk1⟩ : ∃ k : Nat, k = (1 + 3 * f1.length) := ⟨_, rfl⟩
  rw [← hk1]
  have hkb1 : 1 ≤ k1 ∧ k1 ≤ 1 + 3 * 1048576 := by omega
  clear hk1
  obtain ⟨hka1, hkc1⟩ := hkb1
  have hk0 : ¬ ((k1 : Nat) : Int) < 0 := by omega
  go_wp2_with fail
  refine (eqIntS_any L L _ _ _ _ _ (own_in OG_8.out) (own_in OS_8.out) hmx2 hmx2).mono ?_
  rintro e u9 ⟨rfl, hb9⟩
  rw [show decide (L = L) = true from decide_eq_true rfl]
  have A_9 : Hid (Below w.heap.size w u9) := Lib.hid ((A_8.out).trans (Below.mono hb9 (A_8.out).size))
  have OS_9 : Hid (u9.ownsRow 0 TS 1 (.slice AS L.length cS) L.length (intsZ L)) := Lib.hid (own_below OS_8.out hb9)
  have OG_9 : Hid (u9.ownsRow 0 TG 1 (.slice AG L.length cG) L.length (intsZ L)) := Lib.hid (own_below OG_8.out hb9)
  clear A_8 OS_8 OG_8
  clear hb9
  go_wp2_with fail
  refine (markIntSE_any 1 L.length 0 _ _ _ _ OG_9.out (by omega) (by omega)).mono ?_
  rintro e u10 ⟨rfl, hg10, om⟩
  have hne : ∀ k, (Value.slice AS L.length cS).ownBlock = some k → (Value.slice AG L.length cG).ownBlock ≠ some k := fun k h1 h2 => by have e1 := ltS.out k h1; have e2 := frG.out k h2; omega
  clear OG_9
  have A_10 : Hid (Below w.heap.size w u10) := Lib.hid ((A_9.out).grown hg10 (A_9.out).size (fun k hk => by have e1 := frG.out k hk; omega))
  have OS_10 : Hid (u10.ownsRow 0 TS 1 (.slice AS L.length cS) L.length (intsZ L)) := Lib.hid (own_grown OS_9.out hg10 hne)
  clear A_9 OS_9
  have OM_10 : Hid (u10.ownsRow 0 TG 1 (.slice AG L.length cG) L.length (intsZ (marks 1 L.length))) := Lib.hid om
  have hqm : (1 + (L.length : Int) != 1 + (L.length : Int)) = false := by simp
  clear hg10 om hne
  go_wp2_with fail
  refine (heldIntS_any 1 L.length _ _ _ (own_in OM_10.out) (by omega) (by omega)).mono ?_
  rintro e u11 ⟨rfl, hwu11⟩
  subst hwu11
  -- another call
  go_wp2_with fail
  refine (toEnOwn_any f1 A1 c1 _ (HS1.out.below A_10.out (by first | exact Nat.le_refl _)) hn1).mono ?_
  rintro e u12 ⟨rfl, hb12, hr12⟩
  have hB12 : u10.heap.size < u12.heap.size := row_lt hr12
  have A_11 : Hid (Below w.heap.size w u12) := Lib.hid ((A_10.out).trans (Below.mono hb12 (A_10.out).size))
  have OS_11 : Hid (u12.ownsRow 0 TS 1 (.slice AS L.length cS) L.length (intsZ L)) := Lib.hid (own_below OS_10.out hb12)
  have OM_11 : Hid (u12.ownsRow 0 TG 1 (.slice AG L.length cG) L.length (intsZ (marks 1 L.length))) := Lib.hid (own_below OM_10.out hb12)
  clear A_10 OS_10 OM_10
  clear hb12
  have Y1_11 : Hid (u12.ownsRow 0 45 3 (.slice (some ⟨u10.heap.size, 0, none⟩) f1.length f1.length) f1.length (flatEn f1)) := Lib.hid hr12
  clear hr12
  go_wp2_with fail
  refine (HIM.out _ _ hn1 (own_in_en Y1_11.out)).mono ?_
  intro e u13 hto
  obtain ⟨vH, TH, rfl, hb13, hoH⟩ := hto
  obtain ⟨AH, cH, rfl⟩ := own_form hoH
  have hszH : u12.heap.size ≤ u13.heap.size := hb13.size
  have A_12 : Hid (Below w.heap.size w u13) := Lib.hid ((A_11.out).trans (Below.mono hb13 (A_11.out).size))
  have OS_12 : Hid (u13.ownsRow 0 TS 1 (.slice AS L.length cS) L.length (intsZ L)) := Lib.hid (own_below OS_11.out hb13)
  have OM_12 : Hid (u13.ownsRow 0 TG 1 (.slice AG L.length cG) L.length (intsZ (marks 1 L.length))) := Lib.hid (own_below OM_11.out hb13)
  have Y1_12 : Hid (u13.ownsRow 0 45 3 (.slice (some ⟨u10.heap.size, 0, none⟩) f1.length f1.length) f1.length (flatEn f1)) := Lib.hid (own_below Y1_11.out hb13)
  clear A_11 OS_11 OM_11 Y1_11
  clear hb13
  have OH_12 : Hid (u13.ownsRow 0 TH 1 (.slice AH L.length cH) L.length (intsZ L)) := Lib.hid (own_up hoH)
  clear hoH
  clear Y1_12
  go_wp2_with fail
  refine (eqIntS_any L L _ _ _ _ _ (own_in OH_12.out) (own_in OS_12.out) hmx2 hmx2).mono ?_
  rintro e u14 ⟨rfl, hb14⟩
  rw [show decide (L = L) = true from decide_eq_true rfl]
  have A_13 : Hid (Below w.heap.size w u14) := Lib.hid ((A_12.out).trans (Below.mono hb14 (A_12.out).size))
  have OS_13 : Hid (u14.ownsRow 0 TS 1 (.slice AS L.length cS) L.length (intsZ L)) := Lib.hid (own_below OS_12.out hb14)
  have OM_13 : Hid (u14.ownsRow 0 TG 1 (.slice AG L.length cG) L.length (intsZ (marks 1 L.length))) := Lib.hid (own_below OM_12.out hb14)
  have OH_13 : Hid (u14.ownsRow 0 TH 1 (.slice AH L.length cH) L.length (intsZ L)) := Lib.hid (own_below OH_12.out hb14)
  clear A_12 OS_12 OM_12 OH_12
  clear hb14
  go_wp2_with fail
  refine (heldIntS_any 1 L.length _ _ _ (own_in OM_13.out) (by omega) (by omega)).mono ?_
  rintro e u15 ⟨rfl, hwu15⟩
  subst hwu15
  go_wp2
  go_ret
  exact ⟨rfl, A_13.out⟩

set_option maxRecDepth 100000 in
theorem lifted (os : Os) (started : os.Started) (H : Type) (enc : TypeId × Value → H) :
    ReturnsInHanded {} Try.checked os 7 .any (Rows.fnExactLatestColumnsSpec.pre6 enc Try.prog Try.f7 Rows.fnExactLatestColumnsRow.domain false) (Rows.fnExactLatestColumnsSpec.post enc Try.prog Try.f7 false true false false) := by
  refine returnsInHanded_of_change (C := Try.checked) own started (by kernel_rfl) Try.func7
    (ChangeSpec.witness6 (enc := enc) (C := Try.checked) false ⟨#[], #[.int .i64 0, .slice none 0 0, .int .i64 0, .int .i64 0], []⟩ 8 (by kernel_rfl) (by kernel_rfl) (by kernel_rfl) (by kernel_rfl)) ?_
  intro W base args ds gs before hval0 hW hcnd _
  have hval : ∀ (j : Nat) t v, Try.f7.params[j]? = some t → args[j]? = some v → Value.okWide Try.prog W .any base t v := hval0
  have hW' := hW
  obtain ⟨p, q, hA0, hV, rfl, hfz, hnd⟩ := hW
  have hA : DataW.TrodAll enc Try.prog W 0 (fun _ => true) true Try.f7.params.toList args.toList ds p := hA0
  rw [Try.params7] at hA hval
  obtain ⟨v0, vs0, d0, ds0, p0, q0, hargs, rfl, rfl, h0, r0⟩ := trodAll_cons hA
  obtain ⟨v1, vs1, d1, ds1, p1, q1, rfl, rfl, rfl, h1, r1⟩ := trodAll_cons r0
  obtain ⟨v2, vs2, d2, ds2, p2, q2, rfl, rfl, rfl, h2, r2⟩ := trodAll_cons r1
  obtain ⟨v3, vs3, d3, ds3, p3, q3, rfl, rfl, rfl, h3, r3⟩ := trodAll_cons r2
  obtain ⟨rfl, rfl, rfl⟩ := trodAll_nil r3
  obtain rfl : args = #[v0, v1, v2, v3] := by cases args; simp_all
  obtain ⟨rfl, rfl⟩ := trodVars_none hV
  have k0 := h0
  have lt0 : ∀ x ∈ p0, x.block < W.heap.size := by obtain ⟨m, hm⟩ := k0; exact DataW.trod_lt m _ _ _ hm
  have k1 := h1
  have lt1 : ∀ x ∈ p1, x.block < W.heap.size := by obtain ⟨m, hm⟩ := k1; exact DataW.trod_lt m _ _ _ hm
  have k2 := h2
  have lt2 : ∀ x ∈ p2, x.block < W.heap.size := by obtain ⟨m, hm⟩ := k2; exact DataW.trod_lt m _ _ _ hm
  have k3 := h3
  have lt3 : ∀ x ∈ p3, x.block < W.heap.size := by obtain ⟨m, hm⟩ := k3; exact DataW.trod_lt m _ _ _ hm
  obtain ⟨a0, rfl, rfl, rfl, wa0⟩ := open_int Try.underlying3 (hval 0 3 v0 rfl rfl) h0
  obtain ⟨A1, f1, c1, rfl, hs1, hl1, hrr1⟩ := open_ens (hval 1 22 v1 rfl rfl) h1
  obtain ⟨a2, rfl, rfl, rfl, wa2⟩ := open_int Try.underlying3 (hval 2 3 v2 rfl rfl) h2
  obtain ⟨a3, rfl, rfl, rfl, wa3⟩ := open_int Try.underlying3 (hval 3 3 v3 rfl rfl) h3
  clear hA0 hval0
  refine (walk a0 A1 f1 c1 a2 a3 W (wf_range wa0) hs1 hl1 hrr1 (wf_range wa2) (wf_range wa3)).mono fun e W' ⟨he, bel⟩ => ?_
  subst he
  exact ⟨_, rfl, _, _, _, [], _, [], hW', trodAll_mk1 (shut_bool Try.underlying4 _), (trodAll_cons_mk (Below.trod laidOut (by kernel_rfl) (of_decide_eq_true (by kernel_rfl)) k0 bel lt0) (trodAll_cons_mk (Below.trod laidOut (by kernel_rfl) (of_decide_eq_true (by kernel_rfl)) k1 bel lt1) (trodAll_cons_mk (Below.trod laidOut (by kernel_rfl) (of_decide_eq_true (by kernel_rfl)) k2 bel lt2) (trodAll_cons_mk (Below.trod laidOut (by kernel_rfl) (of_decide_eq_true (by kernel_rfl)) k3 bel lt3) trodAll_mk0)))), rfl, bel.frame _, fun h => by cases h⟩

theorem over : Rows.fnExactLatestColumnsRow.holds Try.pinned (OpenSpec.ofChange Rows.fnExactLatestColumnsSpec) :=
  OpenClaim.holds_of_wide 7 Try.f7 rfl rfl rfl rfl rfl rfl rfl ⟨rfl, rfl, rfl, rfl, rfl⟩ rfl rfl rfl rfl rfl (by kernel_rfl) Try.func7 (by kernel_rfl)
    (of_decide_eq_true (by kernel_rfl)) (by unfold Func.isWrapper; first | (rw [if_pos (by decide +kernel)]; kernel_rfl) | (rw [if_neg (by decide +kernel)]; exact ⟨rfl, rfl⟩))
    (fun os started H enc _ => lifted os started H enc)

theorem proved : Rows.FnExactLatestColumnsSaid := over
end Go.Proofs.Ytfginbjilpaghaa.fnExactLatestColumns

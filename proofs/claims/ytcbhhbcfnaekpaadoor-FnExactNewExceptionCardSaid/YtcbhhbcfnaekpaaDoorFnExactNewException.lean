/-
  FnExactNewException: for every input (a slice of strings, a text) the law returns true, and what it was given reads as before. Conditions: the given card's own (two tables of unicode/utf8 as the program's text lays them, which this proof does not read).
-/
import Derived.Test.YtcbhhbcfnaekpaaDoorRows
import Derived.Test.YtcbhhbcfnaekpaaDoorHzd
import Derived.Test.YtcbhhbcfnaekpaaDoorHyl
import Derived.ProofKit
import Derived.OpenShut
import Derived.ShutString
import Derived.ChangeOld
import Derived.Lib.SmallJoins
import Derived.Test.YtcbhhbcfnaekpaaDoorCards
import Derived.Test.YtcbhhbcfnaekpaaDoorTie
import Derived.LaidMore
import Derived.LaidHandle
import Derived.MakeChecks
import Derived.Stop.Joined
import Derived.SevenTiedAt
import Derived.Lay
import Derived.HandedShaped
namespace Go.Proofs.YtcbhhbcfnaekpaaDoor.fnExactNewException
open Go Go.ChangeShapes Go.WideShapes Go.ChangeAt Go.RowKit Go.Joins
open Go.ChangeMaps (open_string shut_string)
set_option linter.unusedVariables false

theorem own : ownKnob Tryd.prog.godebug = none := by kernel_rfl
theorem laidOut : laidOutB Tryd.prog = true := by kernel_rfl

set_option maxRecDepth 100000 in
set_option maxHeartbeats 4000000 in
theorem walk (A0 : Option Addr) (s0 : List ByteArray) (c0 : Nat) (t1 : ByteArray) (w : World) (hs0 : StrsIn w A0 s0) (ho0 : StrsOk s0) (hl0 : s0.length ≤ maxLen) (ht1 : t1.size ≤ maxLen) (hy : LayB w) :
    Calls Tryd.prog 10 #[.slice A0 s0.length c0, .string t1] w fun e w' => e = .returned (.bool true) ∧ Below w.heap.size w w' := by
  have HY := Lib.hid hy; clear hy
  have HS0 := Lib.hid hs0; clear hs0
  have HO0 := Lib.hid ho0; clear ho0
  unfold maxLen at hl0
  unfold maxLen at ht1
  by_cases hlong1 : (1048576 : Int) < t1.size
  · go_enter Tryd.func10, Tryd.ntmps10
    go_wp2
    go_ret
    exact ⟨rfl, Below.refl _ _⟩
  have htn1 : t1.size ≤ 1048576 := by omega
  have A_0 : Hid (Below w.heap.size w w) := Lib.hid (Below.refl _ _)
  obtain ⟨V0, hV0⟩ : ∃ V, V = nxB s0 t1 := ⟨_, rfl⟩
  have HV0 := Lib.hid hV0; clear hV0
  have hne0 : (V0 != V0) = false := by simp
  obtain ⟨L, hL⟩ : ∃ L : List ByteArray, L = nxL s0 t1 := ⟨_, rfl⟩
  have hmx : L.length ≤ 1048576 := by rw [hL]; exact (by have := nx_short s0 t1; omega)
  have HL := Lib.hid hL; clear hL
  have hmx2 : L.length ≤ maxLen := by unfold maxLen; omega
  have HSP : Hid (∀ (W : World) (B0 : Option Addr), s0.length ≤ 1048576 → StrsLe s0 → StrsIn W B0 s0 → Calls Tryd.prog 34 #[.slice B0 s0.length s0.length, .string t1] W fun e W' => ∃ v, e = .returned (.tuple #[v, .bool V0]) ∧ Below W.heap.size W W' ∧ W'.ownsRow W.heap.size 9 1 v L.length (strs L)) := Lib.hid (by
    rw [HV0.out, HL.out]; exact fun W B0 h0 o0 i0 => specNewException_any s0 B0 s0.length t1 W i0 o0 h0 htn1)
  have HIM : Hid (∀ (W : World) (B0 : Option Addr), s0.length ≤ 1048576 → StrsLe s0 → StrsIn W B0 s0 → LayB W → Calls Tryd.prog 33 #[.slice B0 s0.length s0.length, .string t1] W fun e W' => ∃ v, e = .returned (.tuple #[v, .bool V0]) ∧ Below W.heap.size W W' ∧ W'.ownsRow W.heap.size 9 1 v L.length (strs L)) := Lib.hid (by
    rw [HV0.out, HL.out]; exact fun W B0 h0 o0 i0 yW => implNewException_any s0 B0 s0.length t1 W i0 o0 h0 htn1 yW)
  go_enter Tryd.func10, Tryd.ntmps10
  go_wp2_with fail
  have hfin0 := szStrs_len s0 1048576 (by omega)
  have hfle0 := szStrs_le s0 1048576 (by omega) (by omega)
  have hrg0 := szStrs_range s0 1048576 (by omega)
  refine (szStringS_any s0 A0 c0 1048576 _ (HS0.out.below A_0.out (Nat.le_refl _)) HO0.out (by unfold maxLen; omega) (by omega) (by omega)).mono ?_
  rintro e u1 ⟨rfl, hb1⟩
  have A_1 : Hid (Below w.heap.size w u1) := Lib.hid ((A_0.out).trans (Below.mono hb1 (A_0.out).size))
  clear A_0
  clear hb1
  generalize szStringSF s0 1048576 = z0 at *
  by_cases hz0 : z0 < 0
  · go_wp2
    go_ret
    exact ⟨rfl, A_1.out⟩
  have hn0 : s0.length ≤ 1048576 := hfin0 (by omega)
  have HLE0 := Lib.hid (hfle0 (by omega))
  clear hfin0 hfle0
  go_wp2_with fail
  refine (toStrOwn_any s0 A0 c0 _ (HS0.out.below A_1.out (by first | exact Nat.le_refl _)) hn0).mono ?_
  rintro e u2 ⟨rfl, hb2, hr2⟩
  have hB2 : u1.heap.size < u2.heap.size := row_lt hr2
  have A_2 : Hid (Below w.heap.size w u2) := Lib.hid ((A_1.out).trans (Below.mono hb2 (A_1.out).size))
  clear A_1
  clear hb2
  have Z0_2 : Hid (u2.ownsRow 0 9 1 (.slice (some ⟨u1.heap.size, 0, none⟩) s0.length s0.length) s0.length (strs s0)) := Lib.hid hr2
  clear hr2
  go_wp2_with fail
  refine (HSP.out _ _ hn0 HLE0.out (own_in_s Z0_2.out)).mono ?_
  intro e u3 hto
  obtain ⟨vS, rfl, hb3, hoS⟩ := hto
  obtain ⟨AS, cS, rfl⟩ := own_form_s hoS
  have hszS : u2.heap.size ≤ u3.heap.size := hb3.size
  have ltS : Hid (∀ k, (Value.slice AS L.length cS).ownBlock = some k → k < u3.heap.size) := Lib.hid (own_bound hoS)
  have A_3 : Hid (Below w.heap.size w u3) := Lib.hid ((A_2.out).trans (Below.mono hb3 (A_2.out).size))
  have Z0_3 : Hid (u3.ownsRow 0 9 1 (.slice (some ⟨u1.heap.size, 0, none⟩) s0.length s0.length) s0.length (strs s0)) := Lib.hid (own_below Z0_2.out hb3)
  clear A_2 Z0_2
  clear hb3
  have OS_3 : Hid (u3.ownsRow 0 9 1 (.slice AS L.length cS) L.length (strs L)) := Lib.hid (own_up hoS)
  clear hoS
  clear Z0_3
  have hwle0 : Hid (w.heap.size ≤ u3.heap.size) := Lib.hid (A_3.out).size
  go_wp2_with fail
  refine (toStrOwn_any s0 A0 c0 _ (HS0.out.below A_3.out (by first | exact Nat.le_refl _)) hn0).mono ?_
  rintro e u4 ⟨rfl, hb4, hr4⟩
  have hB4 : u3.heap.size < u4.heap.size := row_lt hr4
  have A_4 : Hid (Below w.heap.size w u4) := Lib.hid ((A_3.out).trans (Below.mono hb4 (A_3.out).size))
  have OS_4 : Hid (u4.ownsRow 0 9 1 (.slice AS L.length cS) L.length (strs L)) := Lib.hid (own_below OS_3.out hb4)
  clear A_3 OS_3
  clear hb4
  have X_0_4 : Hid (u4.ownsRow 0 9 1 (.slice (some ⟨u3.heap.size, 0, none⟩) s0.length s0.length) s0.length (strs s0)) := Lib.hid hr4
  clear hr4
  go_wp2_with fail
  refine (HIM.out _ _ hn0 HLE0.out (own_in_s X_0_4.out) (HY.out.below A_4.out)).mono ?_
  intro e u5 hto
  obtain ⟨vG, rfl, hb5, hoG⟩ := hto
  obtain ⟨AG, cG, rfl⟩ := own_form_s hoG
  have hszG : u4.heap.size ≤ u5.heap.size := hb5.size
  have frG : Hid (∀ k, (Value.slice AG L.length cG).ownBlock = some k → u4.heap.size ≤ k) := Lib.hid (own_lt hoG)
  have A_5 : Hid (Below w.heap.size w u5) := Lib.hid ((A_4.out).trans (Below.mono hb5 (A_4.out).size))
  have OS_5 : Hid (u5.ownsRow 0 9 1 (.slice AS L.length cS) L.length (strs L)) := Lib.hid (own_below OS_4.out hb5)
  have X_0_5 : Hid (u5.ownsRow 0 9 1 (.slice (some ⟨u3.heap.size, 0, none⟩) s0.length s0.length) s0.length (strs s0)) := Lib.hid (own_below X_0_4.out hb5)
  clear A_4 OS_4 X_0_4
  clear hb5
  have OG_5 : Hid (u5.ownsRow 0 9 1 (.slice AG L.length cG) L.length (strs L)) := Lib.hid (own_up hoG)
  clear hoG
  go_wp2_with fail
  refine (eqStringS_any L L _ _ _ _ _ (own_in_s OG_5.out) (own_in_s OS_5.out) hmx2 hmx2).mono ?_
  rintro e u6 ⟨rfl, hb6⟩
  rw [show decide (L = L) = true from decide_eq_true rfl]
  have A_6 : Hid (Below w.heap.size w u6) := Lib.hid ((A_5.out).trans (Below.mono hb6 (A_5.out).size))
  have OS_6 : Hid (u6.ownsRow 0 9 1 (.slice AS L.length cS) L.length (strs L)) := Lib.hid (own_below OS_5.out hb6)
  have X_0_6 : Hid (u6.ownsRow 0 9 1 (.slice (some ⟨u3.heap.size, 0, none⟩) s0.length s0.length) s0.length (strs s0)) := Lib.hid (own_below X_0_5.out hb6)
  have OG_6 : Hid (u6.ownsRow 0 9 1 (.slice AG L.length cG) L.length (strs L)) := Lib.hid (own_below OG_5.out hb6)
  clear A_5 OS_5 X_0_5 OG_5
  clear hb6
  go_wp2_with fail
  refine (toStrOwn_any s0 A0 c0 _ (HS0.out.below A_6.out (by first | exact Nat.le_refl _)) hn0).mono ?_
  rintro e u7 ⟨rfl, hb7, hr7⟩
  have hB7 : u6.heap.size < u7.heap.size := row_lt hr7
  have A_7 : Hid (Below w.heap.size w u7) := Lib.hid ((A_6.out).trans (Below.mono hb7 (A_6.out).size))
  have OS_7 : Hid (u7.ownsRow 0 9 1 (.slice AS L.length cS) L.length (strs L)) := Lib.hid (own_below OS_6.out hb7)
  have X_0_7 : Hid (u7.ownsRow 0 9 1 (.slice (some ⟨u3.heap.size, 0, none⟩) s0.length s0.length) s0.length (strs s0)) := Lib.hid (own_below X_0_6.out hb7)
  have OG_7 : Hid (u7.ownsRow 0 9 1 (.slice AG L.length cG) L.length (strs L)) := Lib.hid (own_below OG_6.out hb7)
  clear A_6 OS_6 X_0_6 OG_6
  clear hb7
  have W0_7 : Hid (u7.ownsRow 0 9 1 (.slice (some ⟨u6.heap.size, 0, none⟩) s0.length s0.length) s0.length (strs s0)) := Lib.hid hr7
  clear hr7
  go_wp2_with fail
  refine (eqStringS_any s0 s0 _ _ _ _ _ (own_in_s X_0_7.out) (own_in_s W0_7.out) (by unfold maxLen; omega) (by unfold maxLen; omega)).mono ?_
  rintro e u8 ⟨rfl, hb8⟩
  rw [show decide (s0 = s0) = true from decide_eq_true rfl]
  clear W0_7
  have A_8 : Hid (Below w.heap.size w u8) := Lib.hid ((A_7.out).trans (Below.mono hb8 (A_7.out).size))
  have OS_8 : Hid (u8.ownsRow 0 9 1 (.slice AS L.length cS) L.length (strs L)) := Lib.hid (own_below OS_7.out hb8)
  have X_0_8 : Hid (u8.ownsRow 0 9 1 (.slice (some ⟨u3.heap.size, 0, none⟩) s0.length s0.length) s0.length (strs s0)) := Lib.hid (own_below X_0_7.out hb8)
  have OG_8 : Hid (u8.ownsRow 0 9 1 (.slice AG L.length cG) L.length (strs L)) := Lib.hid (own_below OG_7.out hb8)
  clear A_7 OS_7 X_0_7 OG_7
  clear hb8
  have hwle : w.heap.size ≤ u3.heap.size := hwle0.out
  go_wp2_with fail
  refine (markStringS_any 1 s0.length 0 _ _ _ X_0_8.out (by omega) (by omega)).mono ?_
  rintro e u9 ⟨rfl, hg9, _⟩
  clear X_0_8
  have A_9 : Hid (Below w.heap.size w u9) := Lib.hid ((A_8.out).grown hg9 (A_8.out).size (fun k hk => by have e1 : u3.heap.size = k := Option.some.inj hk; omega))
  have OS_9 : Hid (u9.ownsRow 0 9 1 (.slice AS L.length cS) L.length (strs L)) := Lib.hid (own_grown OS_8.out hg9 (fun k hk e => by have e1 : u3.heap.size = k := Option.some.inj e; have e2 := ltS.out k hk; omega))
  have OG_9 : Hid (u9.ownsRow 0 9 1 (.slice AG L.length cG) L.length (strs L)) := Lib.hid (own_grown OG_8.out hg9 (fun k hk e => by have e1 : u3.heap.size = k := Option.some.inj e; have e2 := frG.out k hk; omega))
  clear A_8 OS_8 OG_8
  clear hg9
  obtain ⟨k0, hk0⟩ : ∃ k : Nat, k = (1 + s0.length) := ⟨_, rfl⟩
  rw [← hk0]
  have hkb0 : 1 ≤ k0 ∧ k0 ≤ 1 + 1 * 1048576 := by omega
  clear hk0
  obtain ⟨hka0, hkc0⟩ := hkb0
  have hk0 : ¬ ((k0 : Nat) : Int) < 0 := by omega
  go_wp2_with fail
  refine (eqStringS_any L L _ _ _ _ _ (own_in_s OG_9.out) (own_in_s OS_9.out) hmx2 hmx2).mono ?_
  rintro e u10 ⟨rfl, hb10⟩
  rw [show decide (L = L) = true from decide_eq_true rfl]
  have A_10 : Hid (Below w.heap.size w u10) := Lib.hid ((A_9.out).trans (Below.mono hb10 (A_9.out).size))
  have OS_10 : Hid (u10.ownsRow 0 9 1 (.slice AS L.length cS) L.length (strs L)) := Lib.hid (own_below OS_9.out hb10)
  have OG_10 : Hid (u10.ownsRow 0 9 1 (.slice AG L.length cG) L.length (strs L)) := Lib.hid (own_below OG_9.out hb10)
  clear A_9 OS_9 OG_9
  clear hb10
  go_wp2_with fail
  refine (markStringS_any 1 L.length 0 _ _ _ OG_10.out (by omega) (by omega)).mono ?_
  rintro e u11 ⟨rfl, hg11, om⟩
  have hne : ∀ k, (Value.slice AS L.length cS).ownBlock = some k → (Value.slice AG L.length cG).ownBlock ≠ some k := fun k h1 h2 => by have e1 := ltS.out k h1; have e2 := frG.out k h2; omega
  clear OG_10
  have A_11 : Hid (Below w.heap.size w u11) := Lib.hid ((A_10.out).grown hg11 (A_10.out).size (fun k hk => by have e1 := frG.out k hk; omega))
  have OS_11 : Hid (u11.ownsRow 0 9 1 (.slice AS L.length cS) L.length (strs L)) := Lib.hid (own_grown OS_10.out hg11 hne)
  clear A_10 OS_10
  have OM_11 : Hid (u11.ownsRow 0 9 1 (.slice AG L.length cG) L.length (strs (marksT 1 L.length))) := Lib.hid om
  obtain ⟨km, hkm⟩ : ∃ km : Nat, km = 1 + L.length := ⟨_, rfl⟩
  rw [← hkm]
  have hkm2 : km ≤ 16777216 := by omega
  have HKM := Lib.hid hkm; clear hkm
  have hqm : ((km : Int) != (km : Int)) = false := by simp
  have hqz : ¬ (km : Int) < 0 := by omega
  clear hg11 om hne
  go_wp2_with fail
  refine (heldStringS_any 1 L.length _ _ _ (own_in_s OM_11.out) (by omega) (by have := HKM.out; omega)).mono ?_
  rintro e u12 ⟨rfl, hb12⟩
  rw [← HKM.out]
  have A_12 : Hid (Below w.heap.size w u12) := Lib.hid ((A_11.out).trans (Below.mono hb12 (A_11.out).size))
  have OS_12 : Hid (u12.ownsRow 0 9 1 (.slice AS L.length cS) L.length (strs L)) := Lib.hid (own_below OS_11.out hb12)
  have OM_12 : Hid (u12.ownsRow 0 9 1 (.slice AG L.length cG) L.length (strs (marksT 1 L.length))) := Lib.hid (own_below OM_11.out hb12)
  clear A_11 OS_11 OM_11
  clear hb12
  -- another call
  go_wp2_with fail
  refine (toStrOwn_any s0 A0 c0 _ (HS0.out.below A_12.out (by first | exact Nat.le_refl _)) hn0).mono ?_
  rintro e u13 ⟨rfl, hb13, hr13⟩
  have hB13 : u12.heap.size < u13.heap.size := row_lt hr13
  have A_13 : Hid (Below w.heap.size w u13) := Lib.hid ((A_12.out).trans (Below.mono hb13 (A_12.out).size))
  have OS_13 : Hid (u13.ownsRow 0 9 1 (.slice AS L.length cS) L.length (strs L)) := Lib.hid (own_below OS_12.out hb13)
  have OM_13 : Hid (u13.ownsRow 0 9 1 (.slice AG L.length cG) L.length (strs (marksT 1 L.length))) := Lib.hid (own_below OM_12.out hb13)
  clear A_12 OS_12 OM_12
  clear hb13
  have Y0_13 : Hid (u13.ownsRow 0 9 1 (.slice (some ⟨u12.heap.size, 0, none⟩) s0.length s0.length) s0.length (strs s0)) := Lib.hid hr13
  clear hr13
  go_wp2_with fail
  refine (HIM.out _ _ hn0 HLE0.out (own_in_s Y0_13.out) (HY.out.below A_13.out)).mono ?_
  intro e u14 hto
  obtain ⟨vH, rfl, hb14, hoH⟩ := hto
  obtain ⟨AH, cH, rfl⟩ := own_form_s hoH
  have hszH : u13.heap.size ≤ u14.heap.size := hb14.size
  have A_14 : Hid (Below w.heap.size w u14) := Lib.hid ((A_13.out).trans (Below.mono hb14 (A_13.out).size))
  have OS_14 : Hid (u14.ownsRow 0 9 1 (.slice AS L.length cS) L.length (strs L)) := Lib.hid (own_below OS_13.out hb14)
  have OM_14 : Hid (u14.ownsRow 0 9 1 (.slice AG L.length cG) L.length (strs (marksT 1 L.length))) := Lib.hid (own_below OM_13.out hb14)
  have Y0_14 : Hid (u14.ownsRow 0 9 1 (.slice (some ⟨u12.heap.size, 0, none⟩) s0.length s0.length) s0.length (strs s0)) := Lib.hid (own_below Y0_13.out hb14)
  clear A_13 OS_13 OM_13 Y0_13
  clear hb14
  have OH_14 : Hid (u14.ownsRow 0 9 1 (.slice AH L.length cH) L.length (strs L)) := Lib.hid (own_up hoH)
  clear hoH
  clear Y0_14
  go_wp2_with fail
  refine (eqStringS_any L L _ _ _ _ _ (own_in_s OH_14.out) (own_in_s OS_14.out) hmx2 hmx2).mono ?_
  rintro e u15 ⟨rfl, hb15⟩
  rw [show decide (L = L) = true from decide_eq_true rfl]
  have A_15 : Hid (Below w.heap.size w u15) := Lib.hid ((A_14.out).trans (Below.mono hb15 (A_14.out).size))
  have OS_15 : Hid (u15.ownsRow 0 9 1 (.slice AS L.length cS) L.length (strs L)) := Lib.hid (own_below OS_14.out hb15)
  have OM_15 : Hid (u15.ownsRow 0 9 1 (.slice AG L.length cG) L.length (strs (marksT 1 L.length))) := Lib.hid (own_below OM_14.out hb15)
  have OH_15 : Hid (u15.ownsRow 0 9 1 (.slice AH L.length cH) L.length (strs L)) := Lib.hid (own_below OH_14.out hb15)
  clear A_14 OS_14 OM_14 OH_14
  clear hb15
  go_wp2_with fail
  refine (heldStringS_any 1 L.length _ _ _ (own_in_s OM_15.out) (by omega) (by have := HKM.out; omega)).mono ?_
  rintro e u16 ⟨rfl, hb16⟩
  rw [← HKM.out]
  have A_16 : Hid (Below w.heap.size w u16) := Lib.hid ((A_15.out).trans (Below.mono hb16 (A_15.out).size))
  have OS_16 : Hid (u16.ownsRow 0 9 1 (.slice AS L.length cS) L.length (strs L)) := Lib.hid (own_below OS_15.out hb16)
  have OM_16 : Hid (u16.ownsRow 0 9 1 (.slice AG L.length cG) L.length (strs (marksT 1 L.length))) := Lib.hid (own_below OM_15.out hb16)
  have OH_16 : Hid (u16.ownsRow 0 9 1 (.slice AH L.length cH) L.length (strs L)) := Lib.hid (own_below OH_15.out hb16)
  clear A_15 OS_15 OM_15 OH_15
  clear hb16
  go_wp2
  go_ret
  exact ⟨rfl, A_16.out⟩

def laid2 : List (String × DataW Unit) := [("unicode/utf8.acceptRanges", Rows.laid_unicode_utf8_acceptRanges), ("unicode/utf8.first", Rows.laid_unicode_utf8_first)]
theorem lay_of {W : World} (hsh : W.ShapedOpen Tryd.prog) : LayB W := Tryd.laysM146.s1_3 W hsh
/-- The wrap that hands a proof both the condition and the world's shape. -/
theorem wrap {H : Type} {enc : TypeId × Value → H} {a : Assume} {C : Checked} {os : Os} {f : FuncId} {fn : Func} {s : ChangeSpec} {conds : List PathCond} {apart fresh handsOn again : Bool} {X : World → Array Value → Prop}
    (hX : ∀ (w w' : World) (args : Array Value), w.heap = w'.heap → X w args → X w' args)
    (own : ownKnob C.prog.godebug = none) (started : os.Started) (noInit : C.prog.inits.idxOf? f = none) (hfn : C.prog.funcs[f]? = some fn)
    (witness : ∃ (w : World) (tape : Tape) (i : Input), w.os = os ∧ (w.forCall tape i).Shaped C.prog ∧ i.vars = [] ∧ Input.okWide C.prog (w.forCall tape i) .any w.heap.size f i ∧
      ((s.pre enc C.prog fn conds apart (w.forCall tape i).memory i.args ∧ X (w.forCall tape i).memory i.args) ∧ sizedMet enc C.prog fn (OpenSpec.ofChange s) apart (w.forCall tape i).memory i.args) ∧ a.holds C.prog (lone (Frame.enter C.prog f i.args .normal) [] (w.forCall tape i)))
    (contract : ∀ (W : World) (base : Nat) (args : Array Value) (ds gs : List (DataW H)) (before : List MemPlace),
      (∀ (j : Nat) t v, fn.params[j]? = some t → args[j]? = some v → Value.okWide C.prog W .any base t v) →
      DataW.Whole enc C.prog fn.params.toList s.vars apart W args.toList ds gs before →
      X W args → W.ShapedOpen C.prog →
      Calls C.prog f args W fun e W' => ∃ v, e = .returned v ∧ s.post enc C.prog fn apart fresh handsOn again W args v W') :
    ReturnsInHanded a C os f .any (fun w args => (s.pre enc C.prog fn conds apart w args ∧ X w args) ∧ sizedMet enc C.prog fn (OpenSpec.ofChange s) apart w args) (s.post enc C.prog fn apart fresh handsOn again) := by
  refine returnsInHanded_of_calls own started noInit witness ?_
  intro w tape i _ hsh _ hok hpre hholds
  obtain ⟨_, _, _, fn', hfn', _, _, _, _, hval⟩ := hok
  have e : fn' = fn := Option.some.inj (hfn'.symm.trans hfn)
  subst e
  obtain ⟨⟨⟨ds, gs, before, hw, hc⟩, hx⟩, hz⟩ := hpre
  have hw' := DataW.Whole.of_heap (w' := w.forCall tape i) (by rfl) hw
  refine (contract (w.forCall tape i) w.heap.size i.args ds gs before hval hw' (hX _ _ _ (by rfl) hx) hsh).mono fun e W' ⟨v, he, hp⟩ => ?_
  subst he
  exact ChangeSpec.post_blind hp

set_option maxRecDepth 100000 in
theorem door_met (os : Os) (args : Array Value) : laidMetH Tryd.prog laid2 ((World.laidAll Tryd.prog os laid2).forCall (fun _ _ => 0) ⟨#[], args, []⟩).memory := by
  rw [MakeChecks.laidMetH_plain _ _ _ (by kernel_rfl)]
  exact laidMet_laidAll _ (by kernel_rfl) (by kernel_rfl)

set_option maxRecDepth 100000 in
theorem lifted (os : Os) (started : os.Started) (H : Type) (enc : TypeId × Value → H) :
    ReturnsInHanded {} Tryd.checked os 10 .any (fun w args => (Rows.fnExactNewExceptionSpec.pre enc Tryd.prog Tryd.f10 [] false w args ∧ laidMetH Tryd.prog laid2 w) ∧ sizedMet enc Tryd.prog Tryd.f10 (OpenSpec.ofChange Rows.fnExactNewExceptionSpec) false w args)
      (Rows.fnExactNewExceptionSpec.post enc Tryd.prog Tryd.f10 false true false false) := by
  refine wrap (C := Tryd.checked) (X := fun w _ => laidMetH Tryd.prog laid2 w) (fun _ _ _ hh h => h.of_heap hh) own started (by kernel_rfl) Tryd.func10
    (ChangeSpec.witness_shaped (enc := enc) (C := Tryd.checked) (os := os) (X := fun w _ => laidMetH Tryd.prog laid2 w) false (World.laidAll Tryd.prog os laid2) #[.slice none 0 0, .string ⟨#[]⟩] 8 rfl (World.shaped_of_ZipB (by kernel_rfl) (by kernel_rfl)) (by kernel_rfl) (by kernel_rfl) (by kernel_rfl) (door_met os _)) ?_
  intro W base args ds gs before hval0 hW hL hsh
  have hval : ∀ (j : Nat) t v, Tryd.f10.params[j]? = some t → args[j]? = some v → Value.okWide Tryd.prog W .any base t v := hval0
  have hW' := hW
  obtain ⟨p, q, hA0, hV, rfl, hfz, hnd⟩ := hW
  have hA : DataW.TrodAll enc Tryd.prog W 0 (fun _ => true) true Tryd.f10.params.toList args.toList ds p := hA0
  rw [Tryd.params10] at hA hval
  obtain ⟨v0, vs0, d0, ds0, p0, q0, hargs, rfl, rfl, h0, r0⟩ := trodAll_cons hA
  obtain ⟨v1, vs1, d1, ds1, p1, q1, rfl, rfl, rfl, h1, r1⟩ := trodAll_cons r0
  obtain ⟨rfl, rfl, rfl⟩ := trodAll_nil r1
  obtain rfl : args = #[v0, v1] := by cases args; simp_all
  obtain ⟨rfl, rfl⟩ := trodVars_none hV
  have k0 := h0
  have lt0 : ∀ x ∈ p0, x.block < W.heap.size := by obtain ⟨m, hm⟩ := k0; exact DataW.trod_lt m _ _ _ hm
  have k1 := h1
  have lt1 : ∀ x ∈ p1, x.block < W.heap.size := by obtain ⟨m, hm⟩ := k1; exact DataW.trod_lt m _ _ _ hm
  obtain ⟨A0, f0, c0, rfl, hs0, ho0, hl0⟩ := open_strs (hval 0 23 v0 rfl rfl) h0
  obtain ⟨t1, rfl, rfl, rfl, wt1⟩ := open_string Tryd.underlying9 (hval 1 9 v1 rfl rfl) h1
  clear hA0 hval0
  refine (walk A0 f0 c0 t1 W hs0 ho0 hl0 wt1 (lay_of hsh)).mono fun e W' ⟨he, bel⟩ => ?_
  subst he
  exact ⟨_, rfl, _, _, _, [], _, [], hW', trodAll_mk1 (shut_bool Tryd.underlying4 _), (trodAll_cons_mk (Below.trod laidOut (by kernel_rfl) (of_decide_eq_true (by kernel_rfl)) k0 bel lt0) (trodAll_cons_mk (Below.trod laidOut (by kernel_rfl) (of_decide_eq_true (by kernel_rfl)) k1 bel lt1) trodAll_mk0)), rfl, bel.frame _, fun h => by cases h⟩

theorem over : Rows.FnExactNewExceptionSaid :=
  OpenClaim.holds_of_wide 10 Tryd.f10 rfl rfl rfl rfl rfl rfl rfl ⟨rfl, rfl, rfl, rfl, rfl⟩ rfl rfl rfl rfl rfl (by kernel_rfl) Tryd.func10 (by kernel_rfl)
    (of_decide_eq_true (by kernel_rfl)) (by unfold Func.isWrapper; first | (rw [if_pos (by decide +kernel)]; kernel_rfl) | (rw [if_neg (by decide +kernel)]; exact ⟨rfl, rfl⟩))
    (fun os started H enc _ => lifted os started H enc)

theorem proved : Rows.FnExactNewExceptionCardSaid :=
  Claim7.holds_tied_plain_at .later [] [.data, .pinned] true (true, "2c8310377d7f201b1be5aa71e1a2488674e4727f26cb87bf97b84a8e4d3a74bc") false
    over (fun _ h => by cases h) (by kernel_rfl) (fun _ h => by cases h) fnExactNewException_row_tie rfl ⟨rfl, rfl⟩ (by kernel_rfl) rfl
    (fun f fn hf hfn => by
      obtain rfl : f = 10 := Option.some.inj ((show Tryd.prog.funcNamed "loop.example/g01054/laws.FnExactNewException" = some 10 by kernel_rfl).symm.trans hf) |>.symm
      obtain rfl : fn = Tryd.f10 := (Option.some.inj (Tryd.func10.symm.trans hfn)).symm
      exact ⟨by kernel_rfl, fun j t ht => by
        rw [Tryd.params10] at ht
        have hm : t ∈ [23, 9] := by simpa using Array.mem_of_getElem? ht
        have hall : ([23, 9].all fun u => !Tryd.prog.wantsStandIn u) = true := by kernel_rfl
        exact (show Tryd.prog.wantsStandIn t = false by simpa using List.all_eq_true.1 hall t hm)⟩)
    (by kernel_rfl)
end Go.Proofs.YtcbhhbcfnaekpaaDoor.fnExactNewException

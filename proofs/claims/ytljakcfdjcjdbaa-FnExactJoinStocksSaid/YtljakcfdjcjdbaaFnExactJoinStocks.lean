/-
  FnExactJoinStocks: for every input (a slice of slips, a slice of slips) the law returns true, and what it was given reads as before. Conditions: none beyond the given statement's own.
-/
import Derived.Test.YtljakcfdjcjdbaaRows
import Derived.Test.YtljakcfdjcjdbaaQa
import Derived.Test.YtljakcfdjcjdbaaQe
import Derived.Test.YtljakcfdjcjdbaaPe
import Derived.Test.YtljakcfdjcjdbaaVr
import Derived.Test.YtljakcfdjcjdbaaPr
import Derived.Test.YtljakcfdjcjdbaaOpenIz
import Derived.Test.YtljakcfdjcjdbaaOpenPa
import Derived.Deep.RegionLaw
import Derived.Deep.DeepCutAuto
import Derived.Test.YtljakcfdjcjdbaaTail
import Derived.ProofKit
import Derived.OpenShut
import Derived.ShutString
import Derived.ChangeOld
import Derived.Lib.SmallJoins
namespace Go.Proofs.Ytljakcfdjcjdbaa.fnExactJoinStocks
open Go.ChangeShapes Go.WideShapes Go.ChangeAt Go.RowKit Go.Joins
open Go.ChangeMaps (open_string shut_string)
set_option linter.unusedVariables false

theorem own : ownKnob Try.prog.godebug = none := by kernel_rfl
theorem laidOut : laidOutB Try.prog = true := by kernel_rfl

set_option maxRecDepth 100000 in
set_option maxHeartbeats 2000000 in
theorem walk (A0 : Option Addr) (f0 : List Sl) (c0 : Nat) (A1 : Option Addr) (f1 : List Sl) (c1 : Nat) (w : World) (hs0 : SlsIn w A0 f0) (hl0 : f0.length ≤ maxLen) (hs1 : SlsIn w A1 f1) (hl1 : f1.length ≤ maxLen) :
    Calls Try.prog 13 #[.slice A0 f0.length c0, .slice A1 f1.length c1] w fun e w' => e = .returned (.bool true) ∧ Below w.heap.size w w' := by
  have HS0 := Lib.hid hs0; clear hs0
  unfold maxLen at hl0
  have HS1 := Lib.hid hs1; clear hs1
  unfold maxLen at hl1
  have A_0 : Hid (Below w.heap.size w w) := Lib.hid (show Below _ _ _ by exact (Below.refl _ _))
  obtain ⟨V0, hV0⟩ : ∃ V, V = joinB f0 f1 := ⟨_, rfl⟩
  have HV0 := Lib.hid hV0; clear hV0
  have hne0 : (V0 != V0) = false := by simp
  obtain ⟨L, hL⟩ : ∃ L : List Sl, L = joinV f0 f1 := ⟨_, rfl⟩
  have hmx : L.length ≤ 1048576 := by rw [hL]; exact joinV_short f0 f1
  have HL := Lib.hid hL; clear hL
  have hmx2 : L.length ≤ maxLen := by unfold maxLen; omega
  have HSP : Hid (∀ (W : World) (B0 : Addr) (B1 : Addr), f0.length ≤ 1048576 → f1.length ≤ 1048576 → SlsIn W (some B0) f0 → SlsIn W (some B1) f1 → Calls Try.prog 46 #[.slice (some B0) f0.length f0.length, .slice (some B1) f1.length f1.length] W fun e W' => ∃ v T, e = .returned (.tuple #[v, .bool V0]) ∧ Below W.heap.size W W' ∧ W'.ownsRow W.heap.size T 2 v L.length (flatSl L)) := Lib.hid (by
    rw [HV0.out, HL.out]; exact fun W B0 B1 h0 h1 i0 i1 => specJoinStocks_any f0 B0 f0.length f1 B1 f1.length W i0 h0 i1 h1)
  have HIM : Hid (∀ (W : World) (B0 : Addr) (B1 : Addr), f0.length ≤ 1048576 → f1.length ≤ 1048576 → SlsIn W (some B0) f0 → SlsIn W (some B1) f1 → Calls Try.prog 47 #[.slice (some B0) f0.length f0.length, .slice (some B1) f1.length f1.length] W fun e W' => ∃ v T, e = .returned (.tuple #[v, .bool V0]) ∧ Below W.heap.size W W' ∧ W'.ownsRow W.heap.size T 2 v L.length (flatSl L)) := Lib.hid (by
    rw [HV0.out, HL.out]; exact fun W B0 B1 h0 h1 i0 i1 => implJoinStocks_any f0 B0 f0.length f1 B1 f1.length W i0 h0 i1 h1)
  go_enter Try.func13, Try.ntmps13
  go_wp2_with fail
  refine (szSlipS_any f0 A0 c0 (1048576) _ (by unfold maxLen; omega) (by omega) (by omega)).mono ?_
  rintro e w' ⟨rfl, hww⟩
  subst hww
  by_cases hz0 : (1048576 : Int) < (f0.length : Int)
  · rw [if_pos hz0]
    go_wp2
    go_ret
    exact ⟨rfl, A_0.out⟩
  rw [if_neg hz0]
  have hn0 : f0.length ≤ 1048576 := by omega
  have hnn0 : ¬ (1048576 : Int) - (f0.length : Int) < 0 := by omega
  clear hz0
  go_wp2_with fail
  refine (szSlipS_any f1 A1 c1 (1048576 - (f0.length : Int)) _ (by unfold maxLen; omega) (by omega) (by omega)).mono ?_
  rintro e w' ⟨rfl, hww⟩
  subst hww
  by_cases hz1 : (1048576 - (f0.length : Int) : Int) < (f1.length : Int)
  · rw [if_pos hz1]
    go_wp2
    go_ret
    exact ⟨rfl, A_0.out⟩
  rw [if_neg hz1]
  have hn1 : f1.length ≤ 1048576 := by omega
  have hnn1 : ¬ (1048576 - (f0.length : Int) : Int) - (f1.length : Int) < 0 := by omega
  clear hz1
  go_wp2_with fail
  refine (toSlOwn_any f0 A0 c0 _ (HS0.out.below A_0.out (by first | exact Nat.le_refl _)) hn0).mono ?_
  rintro e u1 ⟨rfl, hb1, hr1⟩
  have hB1 : w.heap.size < u1.heap.size := row_lt hr1
  have A_1 : Hid (Below w.heap.size w u1) := Lib.hid ((A_0.out).trans (Below.mono hb1 (A_0.out).size))
  clear A_0
  clear hb1
  have Z0_1 : Hid (u1.ownsRow 0 57 2 (.slice (some ⟨w.heap.size, 0, none⟩) f0.length f0.length) f0.length (flatSl f0)) := Lib.hid hr1
  clear hr1
  go_wp2_with fail
  refine (toSlOwn_any f1 A1 c1 _ (HS1.out.below A_1.out (by first | exact Nat.le_refl _)) hn1).mono ?_
  rintro e u2 ⟨rfl, hb2, hr2⟩
  have hB2 : u1.heap.size < u2.heap.size := row_lt hr2
  have A_2 : Hid (Below w.heap.size w u2) := Lib.hid ((A_1.out).trans (Below.mono hb2 (A_1.out).size))
  have Z0_2 : Hid (u2.ownsRow 0 57 2 (.slice (some ⟨w.heap.size, 0, none⟩) f0.length f0.length) f0.length (flatSl f0)) := Lib.hid (own_below Z0_1.out hb2)
  clear A_1 Z0_1
  clear hb2
  have Z1_2 : Hid (u2.ownsRow 0 57 2 (.slice (some ⟨u1.heap.size, 0, none⟩) f1.length f1.length) f1.length (flatSl f1)) := Lib.hid hr2
  clear hr2
  go_wp2_with fail
  refine (HSP.out _ _ _ hn0 hn1 (own_in_sl Z0_2.out) (own_in_sl Z1_2.out)).mono ?_
  intro e u3 hto
  obtain ⟨vS, TS, rfl, hb3, hoS⟩ := hto
  obtain ⟨AS, cS, rfl⟩ := own_form_sl hoS
  have hszS : u2.heap.size ≤ u3.heap.size := hb3.size
  have ltS : Hid (∀ k, (Value.slice AS L.length cS).ownBlock = some k → k < u3.heap.size) := Lib.hid (own_bound hoS)
  have A_3 : Hid (Below w.heap.size w u3) := Lib.hid ((A_2.out).trans (Below.mono hb3 (A_2.out).size))
  have Z0_3 : Hid (u3.ownsRow 0 57 2 (.slice (some ⟨w.heap.size, 0, none⟩) f0.length f0.length) f0.length (flatSl f0)) := Lib.hid (own_below Z0_2.out hb3)
  have Z1_3 : Hid (u3.ownsRow 0 57 2 (.slice (some ⟨u1.heap.size, 0, none⟩) f1.length f1.length) f1.length (flatSl f1)) := Lib.hid (own_below Z1_2.out hb3)
  clear A_2 Z0_2 Z1_2
  clear hb3
  have OS_3 : Hid (u3.ownsRow 0 TS 2 (.slice AS L.length cS) L.length (flatSl L)) := Lib.hid (own_up hoS)
  clear hoS
  clear Z0_3
  clear Z1_3
  have hwle0 : Hid (w.heap.size ≤ u3.heap.size) := Lib.hid (A_3.out).size
  go_wp2_with fail
  refine (toSlOwn_any f0 A0 c0 _ (HS0.out.below A_3.out (by first | exact Nat.le_refl _)) hn0).mono ?_
  rintro e u4 ⟨rfl, hb4, hr4⟩
  have hB4 : u3.heap.size < u4.heap.size := row_lt hr4
  have A_4 : Hid (Below w.heap.size w u4) := Lib.hid ((A_3.out).trans (Below.mono hb4 (A_3.out).size))
  have OS_4 : Hid (u4.ownsRow 0 TS 2 (.slice AS L.length cS) L.length (flatSl L)) := Lib.hid (own_below OS_3.out hb4)
  clear A_3 OS_3
  clear hb4
  have X_0_4 : Hid (u4.ownsRow 0 57 2 (.slice (some ⟨u3.heap.size, 0, none⟩) f0.length f0.length) f0.length (flatSl f0)) := Lib.hid hr4
  clear hr4
  go_wp2_with fail
  refine (toSlOwn_any f1 A1 c1 _ (HS1.out.below A_4.out (by first | exact Nat.le_refl _)) hn1).mono ?_
  rintro e u5 ⟨rfl, hb5, hr5⟩
  have hB5 : u4.heap.size < u5.heap.size := row_lt hr5
  have A_5 : Hid (Below w.heap.size w u5) := Lib.hid ((A_4.out).trans (Below.mono hb5 (A_4.out).size))
  have OS_5 : Hid (u5.ownsRow 0 TS 2 (.slice AS L.length cS) L.length (flatSl L)) := Lib.hid (own_below OS_4.out hb5)
  have X_0_5 : Hid (u5.ownsRow 0 57 2 (.slice (some ⟨u3.heap.size, 0, none⟩) f0.length f0.length) f0.length (flatSl f0)) := Lib.hid (own_below X_0_4.out hb5)
  clear A_4 OS_4 X_0_4
  clear hb5
  have X_1_5 : Hid (u5.ownsRow 0 57 2 (.slice (some ⟨u4.heap.size, 0, none⟩) f1.length f1.length) f1.length (flatSl f1)) := Lib.hid hr5
  clear hr5
  go_wp2_with fail
  refine (HIM.out _ _ _ hn0 hn1 (own_in_sl X_0_5.out) (own_in_sl X_1_5.out)).mono ?_
  intro e u6 hto
  obtain ⟨vG, TG, rfl, hb6, hoG⟩ := hto
  obtain ⟨AG, cG, rfl⟩ := own_form_sl hoG
  have hszG : u5.heap.size ≤ u6.heap.size := hb6.size
  have frG : Hid (∀ k, (Value.slice AG L.length cG).ownBlock = some k → u5.heap.size ≤ k) := Lib.hid (own_lt hoG)
  have A_6 : Hid (Below w.heap.size w u6) := Lib.hid ((A_5.out).trans (Below.mono hb6 (A_5.out).size))
  have OS_6 : Hid (u6.ownsRow 0 TS 2 (.slice AS L.length cS) L.length (flatSl L)) := Lib.hid (own_below OS_5.out hb6)
  have X_0_6 : Hid (u6.ownsRow 0 57 2 (.slice (some ⟨u3.heap.size, 0, none⟩) f0.length f0.length) f0.length (flatSl f0)) := Lib.hid (own_below X_0_5.out hb6)
  have X_1_6 : Hid (u6.ownsRow 0 57 2 (.slice (some ⟨u4.heap.size, 0, none⟩) f1.length f1.length) f1.length (flatSl f1)) := Lib.hid (own_below X_1_5.out hb6)
  clear A_5 OS_5 X_0_5 X_1_5
  clear hb6
  have OG_6 : Hid (u6.ownsRow 0 TG 2 (.slice AG L.length cG) L.length (flatSl L)) := Lib.hid (own_up hoG)
  clear hoG
  go_wp2_with fail
  refine (eqSlipS_any L L _ _ _ _ _ (own_in_sl OG_6.out) (own_in_sl OS_6.out) hmx2 hmx2).mono ?_
  rintro e u7 ⟨rfl, hb7⟩
  rw [show decide (L = L) = true from decide_eq_true rfl]
  have A_7 : Hid (Below w.heap.size w u7) := Lib.hid ((A_6.out).trans (Below.mono hb7 (A_6.out).size))
  have OS_7 : Hid (u7.ownsRow 0 TS 2 (.slice AS L.length cS) L.length (flatSl L)) := Lib.hid (own_below OS_6.out hb7)
  have X_0_7 : Hid (u7.ownsRow 0 57 2 (.slice (some ⟨u3.heap.size, 0, none⟩) f0.length f0.length) f0.length (flatSl f0)) := Lib.hid (own_below X_0_6.out hb7)
  have X_1_7 : Hid (u7.ownsRow 0 57 2 (.slice (some ⟨u4.heap.size, 0, none⟩) f1.length f1.length) f1.length (flatSl f1)) := Lib.hid (own_below X_1_6.out hb7)
  have OG_7 : Hid (u7.ownsRow 0 TG 2 (.slice AG L.length cG) L.length (flatSl L)) := Lib.hid (own_below OG_6.out hb7)
  clear A_6 OS_6 X_0_6 X_1_6 OG_6
  clear hb7
  go_wp2_with fail
  refine (toSlOwn_any f0 A0 c0 _ (HS0.out.below A_7.out (by first | exact Nat.le_refl _)) hn0).mono ?_
  rintro e u8 ⟨rfl, hb8, hr8⟩
  have hB8 : u7.heap.size < u8.heap.size := row_lt hr8
  have A_8 : Hid (Below w.heap.size w u8) := Lib.hid ((A_7.out).trans (Below.mono hb8 (A_7.out).size))
  have OS_8 : Hid (u8.ownsRow 0 TS 2 (.slice AS L.length cS) L.length (flatSl L)) := Lib.hid (own_below OS_7.out hb8)
  have X_0_8 : Hid (u8.ownsRow 0 57 2 (.slice (some ⟨u3.heap.size, 0, none⟩) f0.length f0.length) f0.length (flatSl f0)) := Lib.hid (own_below X_0_7.out hb8)
  have X_1_8 : Hid (u8.ownsRow 0 57 2 (.slice (some ⟨u4.heap.size, 0, none⟩) f1.length f1.length) f1.length (flatSl f1)) := Lib.hid (own_below X_1_7.out hb8)
  have OG_8 : Hid (u8.ownsRow 0 TG 2 (.slice AG L.length cG) L.length (flatSl L)) := Lib.hid (own_below OG_7.out hb8)
  clear A_7 OS_7 X_0_7 X_1_7 OG_7
  clear hb8
  have W0_8 : Hid (u8.ownsRow 0 57 2 (.slice (some ⟨u7.heap.size, 0, none⟩) f0.length f0.length) f0.length (flatSl f0)) := Lib.hid hr8
  clear hr8
  go_wp2_with fail
  refine (eqSlipS_any f0 f0 _ _ _ _ _ (own_in_sl X_0_8.out) (own_in_sl W0_8.out) (by unfold maxLen; omega) (by unfold maxLen; omega)).mono ?_
  rintro e u9 ⟨rfl, hb9⟩
  rw [show decide (f0 = f0) = true from decide_eq_true rfl]
  clear W0_8
  have A_9 : Hid (Below w.heap.size w u9) := Lib.hid ((A_8.out).trans (Below.mono hb9 (A_8.out).size))
  have OS_9 : Hid (u9.ownsRow 0 TS 2 (.slice AS L.length cS) L.length (flatSl L)) := Lib.hid (own_below OS_8.out hb9)
  have X_0_9 : Hid (u9.ownsRow 0 57 2 (.slice (some ⟨u3.heap.size, 0, none⟩) f0.length f0.length) f0.length (flatSl f0)) := Lib.hid (own_below X_0_8.out hb9)
  have X_1_9 : Hid (u9.ownsRow 0 57 2 (.slice (some ⟨u4.heap.size, 0, none⟩) f1.length f1.length) f1.length (flatSl f1)) := Lib.hid (own_below X_1_8.out hb9)
  have OG_9 : Hid (u9.ownsRow 0 TG 2 (.slice AG L.length cG) L.length (flatSl L)) := Lib.hid (own_below OG_8.out hb9)
  clear A_8 OS_8 X_0_8 X_1_8 OG_8
  clear hb9
  go_wp2_with fail
  refine (toSlOwn_any f1 A1 c1 _ (HS1.out.below A_9.out (by first | exact Nat.le_refl _)) hn1).mono ?_
  rintro e u10 ⟨rfl, hb10, hr10⟩
  have hB10 : u9.heap.size < u10.heap.size := row_lt hr10
  have A_10 : Hid (Below w.heap.size w u10) := Lib.hid ((A_9.out).trans (Below.mono hb10 (A_9.out).size))
  have OS_10 : Hid (u10.ownsRow 0 TS 2 (.slice AS L.length cS) L.length (flatSl L)) := Lib.hid (own_below OS_9.out hb10)
  have X_0_10 : Hid (u10.ownsRow 0 57 2 (.slice (some ⟨u3.heap.size, 0, none⟩) f0.length f0.length) f0.length (flatSl f0)) := Lib.hid (own_below X_0_9.out hb10)
  have X_1_10 : Hid (u10.ownsRow 0 57 2 (.slice (some ⟨u4.heap.size, 0, none⟩) f1.length f1.length) f1.length (flatSl f1)) := Lib.hid (own_below X_1_9.out hb10)
  have OG_10 : Hid (u10.ownsRow 0 TG 2 (.slice AG L.length cG) L.length (flatSl L)) := Lib.hid (own_below OG_9.out hb10)
  clear A_9 OS_9 X_0_9 X_1_9 OG_9
  clear hb10
  have W1_10 : Hid (u10.ownsRow 0 57 2 (.slice (some ⟨u9.heap.size, 0, none⟩) f1.length f1.length) f1.length (flatSl f1)) := Lib.hid hr10
  clear hr10
  go_wp2_with fail
  refine (eqSlipS_any f1 f1 _ _ _ _ _ (own_in_sl X_1_10.out) (own_in_sl W1_10.out) (by unfold maxLen; omega) (by unfold maxLen; omega)).mono ?_
  rintro e u11 ⟨rfl, hb11⟩
  rw [show decide (f1 = f1) = true from decide_eq_true rfl]
  clear W1_10
  have A_11 : Hid (Below w.heap.size w u11) := Lib.hid ((A_10.out).trans (Below.mono hb11 (A_10.out).size))
  have OS_11 : Hid (u11.ownsRow 0 TS 2 (.slice AS L.length cS) L.length (flatSl L)) := Lib.hid (own_below OS_10.out hb11)
  have X_0_11 : Hid (u11.ownsRow 0 57 2 (.slice (some ⟨u3.heap.size, 0, none⟩) f0.length f0.length) f0.length (flatSl f0)) := Lib.hid (own_below X_0_10.out hb11)
  have X_1_11 : Hid (u11.ownsRow 0 57 2 (.slice (some ⟨u4.heap.size, 0, none⟩) f1.length f1.length) f1.length (flatSl f1)) := Lib.hid (own_below X_1_10.out hb11)
  have OG_11 : Hid (u11.ownsRow 0 TG 2 (.slice AG L.length cG) L.length (flatSl L)) := Lib.hid (own_below OG_10.out hb11)
  clear A_10 OS_10 X_0_10 X_1_10 OG_10
  clear hb11
  have hwle : w.heap.size ≤ u3.heap.size := hwle0.out
  go_wp2_with fail
  refine (markSlOwn_any 1 f0.length 0 _ _ _ X_0_11.out (by omega)).mono ?_
  rintro e u12 ⟨rfl, hg12⟩
  clear X_0_11
  have A_12 : Hid (Below w.heap.size w u12) := Lib.hid ((A_11.out).grown hg12 (A_11.out).size (fun k hk => by have e1 : u3.heap.size = k := Option.some.inj hk; omega))
  have OS_12 : Hid (u12.ownsRow 0 TS 2 (.slice AS L.length cS) L.length (flatSl L)) := Lib.hid (own_grown OS_11.out hg12 (fun k hk e => by have e1 : u3.heap.size = k := Option.some.inj e; have e2 := ltS.out k hk; omega))
  have X_1_12 : Hid (u12.ownsRow 0 57 2 (.slice (some ⟨u4.heap.size, 0, none⟩) f1.length f1.length) f1.length (flatSl f1)) := Lib.hid (own_grown X_1_11.out hg12 (fun k hk e => by have e1 : u3.heap.size = k := Option.some.inj e; have e2 : u4.heap.size = k := Option.some.inj hk; omega))
  have OG_12 : Hid (u12.ownsRow 0 TG 2 (.slice AG L.length cG) L.length (flatSl L)) := Lib.hid (own_grown OG_11.out hg12 (fun k hk e => by have e1 : u3.heap.size = k := Option.some.inj e; have e2 := frG.out k hk; omega))
  clear A_11 OS_11 X_1_11 OG_11
  clear hg12
  obtain ⟨k0, hk0⟩ : ∃ k : Nat, k = (1 + 2 * f0.length) := ⟨_, rfl⟩
  rw [← hk0]
  have hkb0 : 1 ≤ k0 ∧ k0 ≤ 1 + 2 * 1048576 := by omega
  clear hk0
  obtain ⟨hka0, hkc0⟩ := hkb0
  go_wp2_with fail
  refine (markSlOwn_any k0 f1.length 0 _ _ _ X_1_12.out (by omega)).mono ?_
  rintro e u13 ⟨rfl, hg13⟩
  clear X_1_12
  have A_13 : Hid (Below w.heap.size w u13) := Lib.hid ((A_12.out).grown hg13 (A_12.out).size (fun k hk => by have e1 : u4.heap.size = k := Option.some.inj hk; omega))
  have OS_13 : Hid (u13.ownsRow 0 TS 2 (.slice AS L.length cS) L.length (flatSl L)) := Lib.hid (own_grown OS_12.out hg13 (fun k hk e => by have e1 : u4.heap.size = k := Option.some.inj e; have e2 := ltS.out k hk; omega))
  have OG_13 : Hid (u13.ownsRow 0 TG 2 (.slice AG L.length cG) L.length (flatSl L)) := Lib.hid (own_grown OG_12.out hg13 (fun k hk e => by have e1 : u4.heap.size = k := Option.some.inj e; have e2 := frG.out k hk; omega))
  clear A_12 OS_12 OG_12
  clear hg13
  obtain ⟨k1, hk1⟩ : ∃ k : Nat, k = (k0 + 2 * f1.length) := ⟨_, rfl⟩
  rw [← hk1]
  have hkb1 : 1 ≤ k1 ∧ k1 ≤ 1 + 4 * 1048576 := by omega
  clear hk1
  obtain ⟨hka1, hkc1⟩ := hkb1
  have hk0 : ¬ ((k1 : Nat) : Int) < 0 := by omega
  go_wp2_with fail
  refine (eqSlipS_any L L _ _ _ _ _ (own_in_sl OG_13.out) (own_in_sl OS_13.out) hmx2 hmx2).mono ?_
  rintro e u14 ⟨rfl, hb14⟩
  rw [show decide (L = L) = true from decide_eq_true rfl]
  have A_14 : Hid (Below w.heap.size w u14) := Lib.hid ((A_13.out).trans (Below.mono hb14 (A_13.out).size))
  have OS_14 : Hid (u14.ownsRow 0 TS 2 (.slice AS L.length cS) L.length (flatSl L)) := Lib.hid (own_below OS_13.out hb14)
  have OG_14 : Hid (u14.ownsRow 0 TG 2 (.slice AG L.length cG) L.length (flatSl L)) := Lib.hid (own_below OG_13.out hb14)
  clear A_13 OS_13 OG_13
  clear hb14
  go_wp2_with fail
  refine (markSlipS_any 1 L.length 0 _ _ _ _ OG_14.out (by omega) (by omega)).mono ?_
  rintro e u15 ⟨rfl, hg15, om⟩
  have hne : ∀ k, (Value.slice AS L.length cS).ownBlock = some k → (Value.slice AG L.length cG).ownBlock ≠ some k := fun k h1 h2 => by have e1 := ltS.out k h1; have e2 := frG.out k h2; omega
  clear OG_14
  have A_15 : Hid (Below w.heap.size w u15) := Lib.hid ((A_14.out).grown hg15 (A_14.out).size (fun k hk => by have e1 := frG.out k hk; omega))
  have OS_15 : Hid (u15.ownsRow 0 TS 2 (.slice AS L.length cS) L.length (flatSl L)) := Lib.hid (own_grown OS_14.out hg15 hne)
  clear A_14 OS_14
  have OM_15 : Hid (u15.ownsRow 0 TG 2 (.slice AG L.length cG) L.length (flatSl (markSl 1 L.length))) := Lib.hid om
  obtain ⟨km, hkm⟩ : ∃ km : Nat, km = 1 + 2 * L.length := ⟨_, rfl⟩
  rw [← hkm]
  have hkm2 : km ≤ 16777216 := by omega
  have HKM := Lib.hid hkm; clear hkm
  have hqm : ((km : Int) != (km : Int)) = false := by simp
  have hqz : ¬ (km : Int) < 0 := by omega
  clear hg15 om hne
  go_wp2_with fail
  refine (heldSlipS_any 1 L.length _ _ _ (own_in_sl OM_15.out) (by omega) (by have := HKM.out; omega)).mono ?_
  rintro e u16 ⟨rfl, hwu16⟩
  rw [← HKM.out]
  subst hwu16
  -- another call
  go_wp2_with fail
  refine (toSlOwn_any f0 A0 c0 _ (HS0.out.below A_15.out (by first | exact Nat.le_refl _)) hn0).mono ?_
  rintro e u17 ⟨rfl, hb17, hr17⟩
  have hB17 : u15.heap.size < u17.heap.size := row_lt hr17
  have A_16 : Hid (Below w.heap.size w u17) := Lib.hid ((A_15.out).trans (Below.mono hb17 (A_15.out).size))
  have OS_16 : Hid (u17.ownsRow 0 TS 2 (.slice AS L.length cS) L.length (flatSl L)) := Lib.hid (own_below OS_15.out hb17)
  have OM_16 : Hid (u17.ownsRow 0 TG 2 (.slice AG L.length cG) L.length (flatSl (markSl 1 L.length))) := Lib.hid (own_below OM_15.out hb17)
  clear A_15 OS_15 OM_15
  clear hb17
  have Y0_16 : Hid (u17.ownsRow 0 57 2 (.slice (some ⟨u15.heap.size, 0, none⟩) f0.length f0.length) f0.length (flatSl f0)) := Lib.hid hr17
  clear hr17
  go_wp2_with fail
  refine (toSlOwn_any f1 A1 c1 _ (HS1.out.below A_16.out (by first | exact Nat.le_refl _)) hn1).mono ?_
  rintro e u18 ⟨rfl, hb18, hr18⟩
  have hB18 : u17.heap.size < u18.heap.size := row_lt hr18
  have A_17 : Hid (Below w.heap.size w u18) := Lib.hid ((A_16.out).trans (Below.mono hb18 (A_16.out).size))
  have OS_17 : Hid (u18.ownsRow 0 TS 2 (.slice AS L.length cS) L.length (flatSl L)) := Lib.hid (own_below OS_16.out hb18)
  have OM_17 : Hid (u18.ownsRow 0 TG 2 (.slice AG L.length cG) L.length (flatSl (markSl 1 L.length))) := Lib.hid (own_below OM_16.out hb18)
  have Y0_17 : Hid (u18.ownsRow 0 57 2 (.slice (some ⟨u15.heap.size, 0, none⟩) f0.length f0.length) f0.length (flatSl f0)) := Lib.hid (own_below Y0_16.out hb18)
  clear A_16 OS_16 OM_16 Y0_16
  clear hb18
  have Y1_17 : Hid (u18.ownsRow 0 57 2 (.slice (some ⟨u17.heap.size, 0, none⟩) f1.length f1.length) f1.length (flatSl f1)) := Lib.hid hr18
  clear hr18
  go_wp2_with fail
  refine (HIM.out _ _ _ hn0 hn1 (own_in_sl Y0_17.out) (own_in_sl Y1_17.out)).mono ?_
  intro e u19 hto
  obtain ⟨vH, TH, rfl, hb19, hoH⟩ := hto
  obtain ⟨AH, cH, rfl⟩ := own_form_sl hoH
  have hszH : u18.heap.size ≤ u19.heap.size := hb19.size
  have A_18 : Hid (Below w.heap.size w u19) := Lib.hid ((A_17.out).trans (Below.mono hb19 (A_17.out).size))
  have OS_18 : Hid (u19.ownsRow 0 TS 2 (.slice AS L.length cS) L.length (flatSl L)) := Lib.hid (own_below OS_17.out hb19)
  have OM_18 : Hid (u19.ownsRow 0 TG 2 (.slice AG L.length cG) L.length (flatSl (markSl 1 L.length))) := Lib.hid (own_below OM_17.out hb19)
  have Y0_18 : Hid (u19.ownsRow 0 57 2 (.slice (some ⟨u15.heap.size, 0, none⟩) f0.length f0.length) f0.length (flatSl f0)) := Lib.hid (own_below Y0_17.out hb19)
  have Y1_18 : Hid (u19.ownsRow 0 57 2 (.slice (some ⟨u17.heap.size, 0, none⟩) f1.length f1.length) f1.length (flatSl f1)) := Lib.hid (own_below Y1_17.out hb19)
  clear A_17 OS_17 OM_17 Y0_17 Y1_17
  clear hb19
  have OH_18 : Hid (u19.ownsRow 0 TH 2 (.slice AH L.length cH) L.length (flatSl L)) := Lib.hid (own_up hoH)
  clear hoH
  clear Y0_18
  clear Y1_18
  go_wp2_with fail
  refine (eqSlipS_any L L _ _ _ _ _ (own_in_sl OH_18.out) (own_in_sl OS_18.out) hmx2 hmx2).mono ?_
  rintro e u20 ⟨rfl, hb20⟩
  rw [show decide (L = L) = true from decide_eq_true rfl]
  have A_19 : Hid (Below w.heap.size w u20) := Lib.hid ((A_18.out).trans (Below.mono hb20 (A_18.out).size))
  have OS_19 : Hid (u20.ownsRow 0 TS 2 (.slice AS L.length cS) L.length (flatSl L)) := Lib.hid (own_below OS_18.out hb20)
  have OM_19 : Hid (u20.ownsRow 0 TG 2 (.slice AG L.length cG) L.length (flatSl (markSl 1 L.length))) := Lib.hid (own_below OM_18.out hb20)
  have OH_19 : Hid (u20.ownsRow 0 TH 2 (.slice AH L.length cH) L.length (flatSl L)) := Lib.hid (own_below OH_18.out hb20)
  clear A_18 OS_18 OM_18 OH_18
  clear hb20
  go_wp2_with fail
  refine (heldSlipS_any 1 L.length _ _ _ (own_in_sl OM_19.out) (by omega) (by have := HKM.out; omega)).mono ?_
  rintro e u21 ⟨rfl, hwu21⟩
  rw [← HKM.out]
  subst hwu21
  go_wp2
  go_ret
  exact ⟨rfl, A_19.out⟩

set_option maxRecDepth 100000 in
theorem lifted (os : Os) (started : os.Started) (H : Type) (enc : TypeId × Value → H) :
    ReturnsInHanded {} Try.checked os 13 .any (Rows.fnExactJoinStocksSpec.pre6 enc Try.prog Try.f13 Rows.fnExactJoinStocksRow.domain false) (Rows.fnExactJoinStocksSpec.post enc Try.prog Try.f13 false true false false) := by
  refine returnsInHanded_of_change (C := Try.checked) own started (by kernel_rfl) Try.func13
    (ChangeSpec.witness6 (enc := enc) (C := Try.checked) false ⟨#[], #[.slice none 0 0, .slice none 0 0], []⟩ 8 (by kernel_rfl) (by kernel_rfl) (by kernel_rfl) (by kernel_rfl)) ?_
  intro W base args ds gs before hval0 hW hcnd _
  have hval : ∀ (j : Nat) t v, Try.f13.params[j]? = some t → args[j]? = some v → Value.okWide Try.prog W .any base t v := hval0
  have hW' := hW
  obtain ⟨p, q, hA0, hV, rfl, hfz, hnd⟩ := hW
  have hA : DataW.TrodAll enc Try.prog W 0 (fun _ => true) true Try.f13.params.toList args.toList ds p := hA0
  rw [Try.params13] at hA hval
  obtain ⟨v0, vs0, d0, ds0, p0, q0, hargs, rfl, rfl, h0, r0⟩ := trodAll_cons hA
  obtain ⟨v1, vs1, d1, ds1, p1, q1, rfl, rfl, rfl, h1, r1⟩ := trodAll_cons r0
  obtain ⟨rfl, rfl, rfl⟩ := trodAll_nil r1
  obtain rfl : args = #[v0, v1] := by cases args; simp_all
  obtain ⟨rfl, rfl⟩ := trodVars_none hV
  have k0 := h0
  have lt0 : ∀ x ∈ p0, x.block < W.heap.size := by obtain ⟨m, hm⟩ := k0; exact DataW.trod_lt m _ _ _ hm
  have k1 := h1
  have lt1 : ∀ x ∈ p1, x.block < W.heap.size := by obtain ⟨m, hm⟩ := k1; exact DataW.trod_lt m _ _ _ hm
  obtain ⟨A0, f0, c0, rfl, hs0, hl0⟩ := open_sls (hval 0 22 v0 rfl rfl) h0
  obtain ⟨A1, f1, c1, rfl, hs1, hl1⟩ := open_sls (hval 1 22 v1 rfl rfl) h1
  clear hA0 hval0
  refine (walk A0 f0 c0 A1 f1 c1 W hs0 hl0 hs1 hl1).mono fun e W' ⟨he, bel⟩ => ?_
  subst he
  exact ⟨_, rfl, _, _, _, [], _, [], hW', trodAll_mk1 (shut_bool Try.underlying4 _), (trodAll_cons_mk (Below.trod laidOut (by kernel_rfl) (of_decide_eq_true (by kernel_rfl)) k0 bel lt0) (trodAll_cons_mk (Below.trod laidOut (by kernel_rfl) (of_decide_eq_true (by kernel_rfl)) k1 bel lt1) trodAll_mk0)), rfl, bel.frame _, fun h => by cases h⟩

theorem over : Rows.fnExactJoinStocksRow.holds Try.pinned (OpenSpec.ofChange Rows.fnExactJoinStocksSpec) :=
  OpenClaim.holds_of_wide 13 Try.f13 rfl rfl rfl rfl rfl rfl rfl ⟨rfl, rfl, rfl, rfl, rfl⟩ rfl rfl rfl rfl rfl (by kernel_rfl) Try.func13 (by kernel_rfl)
    (of_decide_eq_true (by kernel_rfl)) (by unfold Func.isWrapper; first | (rw [if_pos (by decide +kernel)]; kernel_rfl) | (rw [if_neg (by decide +kernel)]; exact ⟨rfl, rfl⟩))
    (fun os started H enc _ => lifted os started H enc)

theorem proved : Rows.FnExactJoinStocksSaid := over
end Go.Proofs.Ytljakcfdjcjdbaa.fnExactJoinStocks

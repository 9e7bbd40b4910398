/-
  FnExactRulesOf: for every input (a slice of slips, a slice of ints) the law returns true, and what it was given reads as before. Conditions: none beyond the given statement's own.
-/
import Derived.Test.YtljakcfdjcjdbaaRows
import Derived.Test.YtljakcfdjcjdbaaRq
import Derived.Test.YtljakcfdjcjdbaaPe
import Derived.Test.YtljakcfdjcjdbaaIntsE
import Derived.Test.YtljakcfdjcjdbaaVr
import Derived.Test.YtljakcfdjcjdbaaPr
import Derived.Test.YtljakcfdjcjdbaaOpenIz
import Derived.Test.YtljakcfdjcjdbaaOpenPa
import Derived.Deep.RegionLaw
import Derived.Deep.DeepCutAuto
import Derived.Test.YtljakcfdjcjdbaaTail
import Derived.ProofKit
import Derived.OpenShut
import Derived.ShutString
import Derived.ChangeOld
import Derived.Lib.SmallJoins
namespace Go.Proofs.Ytljakcfdjcjdbaa.fnExactRulesOf
open Go.ChangeShapes Go.WideShapes Go.ChangeAt Go.RowKit Go.Joins
open Go.ChangeMaps (open_string shut_string)
set_option linter.unusedVariables false

theorem own : ownKnob Try.prog.godebug = none := by kernel_rfl
theorem laidOut : laidOutB Try.prog = true := by kernel_rfl

set_option maxRecDepth 100000 in
set_option maxHeartbeats 2000000 in
theorem walk (A0 : Option Addr) (f0 : List Sl) (c0 : Nat) (A1 : Option Addr) (l1 : List Int) (c1 : Nat) (w : World) (hs0 : SlsIn w A0 f0) (hl0 : f0.length ≤ maxLen) (hs1 : IntsIn w A1 l1) (hl1 : l1.length ≤ maxLen) :
    Calls Try.prog 10 #[.slice A0 f0.length c0, .slice A1 l1.length c1] w fun e w' => e = .returned (.bool true) ∧ Below w.heap.size w w' := by
  have HS0 := Lib.hid hs0; clear hs0
  unfold maxLen at hl0
  have HS1 := Lib.hid hs1; clear hs1
  unfold maxLen at hl1
  have A_0 : Hid (Below w.heap.size w w) := Lib.hid (show Below _ _ _ by exact (Below.refl _ _))
  by_cases hlong1 : (1048576 : Int) < l1.length
  · go_enter Try.func10, Try.ntmps10
    go_wp2
    go_ret
    exact ⟨rfl, by first | exact A_0.out | (rw [HW0.out] at A_0; exact A_0.out)⟩
  have hn1 : l1.length ≤ 1048576 := by omega
  obtain ⟨V0, hV0⟩ : ∃ V, V = rsB f0 l1 := ⟨_, rfl⟩
  have HV0 := Lib.hid hV0; clear hV0
  have hne0 : (V0 != V0) = false := by simp
  obtain ⟨N, hN⟩ : ∃ N : Nat, N = rsN f0 l1 := ⟨_, rfl⟩
  obtain ⟨R, hR⟩ : ∃ R : Nat → List Int, R = ruK 1048576 f0 l1 := ⟨_, rfl⟩
  have hNM : N ≤ 6 ∧ N * f0.length ≤ 48 := by rw [hN]; exact rs_small _ _
  obtain ⟨hN6, hNM⟩ := hNM
  have HRL : Hid (∀ i, (R i).length ≤ maxLen) := Lib.hid (fun i => by rw [hR, ruK_len]; unfold maxLen; omega)
  have HNN := Lib.hid hN; clear hN
  have HRR := Lib.hid hR; clear hR
  have HSP : Hid (∀ (W : World) (B0 : Addr) (B1 : Option Addr), f0.length ≤ 1048576 → l1.length ≤ 1048576 → SlsIn W (some B0) f0 → IntsIn W B1 l1 → Calls Try.prog 37 #[.slice (some B0) f0.length f0.length, .slice B1 l1.length l1.length] W fun e W' => ∃ A c, e = .returned (.tuple #[.slice A N c, .bool V0]) ∧ Below W.heap.size W W' ∧ Gs W' W'.heap.size A N R) := Lib.hid (by
    rw [HV0.out, HNN.out, HRR.out]; exact fun W B0 B1 h0 h1 i0 i1 => specRulesOf_any f0 B0 f0.length l1 B1 l1.length W i0 h0 i1 h1)
  have HIM : Hid (∀ (W : World) (B0 : Addr) (B1 : Option Addr), f0.length ≤ 1048576 → l1.length ≤ 1048576 → SlsIn W (some B0) f0 → IntsIn W B1 l1 → Calls Try.prog 38 #[.slice (some B0) f0.length f0.length, .slice B1 l1.length l1.length] W fun e W' => ∃ A c hs, e = .returned (.tuple #[.slice A N c, .bool V0]) ∧ Below W.heap.size W W' ∧ GI W' W.heap.size A N c f0.length hs R) := Lib.hid (by
    rw [HV0.out, HNN.out, HRR.out]; exact fun W B0 B1 h0 h1 i0 i1 => implRulesOf_any f0 B0 f0.length l1 B1 l1.length W i0 h0 i1 h1)
  go_enter Try.func10, Try.ntmps10
  go_wp2_with fail
  refine (szSlipS_any f0 A0 c0 (1048576) _ (by unfold maxLen; omega) (by omega) (by omega)).mono ?_
  rintro e w' ⟨rfl, hww⟩
  subst hww
  by_cases hz0 : (1048576 : Int) < (f0.length : Int)
  · rw [if_pos hz0]
    go_wp2
    go_ret
    exact ⟨rfl, A_0.out⟩
  rw [if_neg hz0]
  have hn0 : f0.length ≤ 1048576 := by omega
  have hnn0 : ¬ (1048576 : Int) - (f0.length : Int) < 0 := by omega
  clear hz0
  go_wp2_with fail
  refine (toSlOwn_any f0 A0 c0 _ (HS0.out.below A_0.out (by first | exact Nat.le_refl _)) hn0).mono ?_
  rintro e u1 ⟨rfl, hb1, hr1⟩
  have hB1 : w.heap.size < u1.heap.size := row_lt hr1
  have A_1 : Hid (Below w.heap.size w u1) := Lib.hid ((A_0.out).trans (Below.mono hb1 (A_0.out).size))
  clear A_0
  clear hb1
  have Z0_1 : Hid (u1.ownsRow 0 57 2 (.slice (some ⟨w.heap.size, 0, none⟩) f0.length f0.length) f0.length (flatSl f0)) := Lib.hid hr1
  clear hr1
  go_wp2_with fail
  refine (toIntOwn_any l1 A1 c1 _ (HS1.out.below A_1.out (by first | exact Nat.le_refl _)) hn1).mono ?_
  rintro e u2 ⟨rfl, hb2, hr2⟩
  have hB2 : u1.heap.size < u2.heap.size := row_lt hr2
  have A_2 : Hid (Below w.heap.size w u2) := Lib.hid ((A_1.out).trans (Below.mono hb2 (A_1.out).size))
  have Z0_2 : Hid (u2.ownsRow 0 57 2 (.slice (some ⟨w.heap.size, 0, none⟩) f0.length f0.length) f0.length (flatSl f0)) := Lib.hid (own_below Z0_1.out hb2)
  clear A_1 Z0_1
  clear hb2
  have Z1_2 : Hid (u2.ownsRow 0 3 1 (.slice (some ⟨u1.heap.size, 0, none⟩) l1.length l1.length) l1.length (intsZ l1)) := Lib.hid hr2
  clear hr2
  go_wp2_with fail
  refine (HSP.out _ _ _ hn0 hn1 (own_in_sl Z0_2.out) (own_in Z1_2.out)).mono ?_
  intro e u3 hto
  obtain ⟨AS, cS, rfl, hb3, hoS⟩ := hto
  have hszS : u2.heap.size ≤ u3.heap.size := hb3.size
  have A_3 : Hid (Below w.heap.size w u3) := Lib.hid ((A_2.out).trans (Below.mono hb3 (A_2.out).size))
  have Z0_3 : Hid (u3.ownsRow 0 57 2 (.slice (some ⟨w.heap.size, 0, none⟩) f0.length f0.length) f0.length (flatSl f0)) := Lib.hid (own_below Z0_2.out hb3)
  have Z1_3 : Hid (u3.ownsRow 0 3 1 (.slice (some ⟨u1.heap.size, 0, none⟩) l1.length l1.length) l1.length (intsZ l1)) := Lib.hid (own_below Z1_2.out hb3)
  clear A_2 Z0_2 Z1_2
  clear hb3
  have OS_3 : Hid (Gs u3 u3.heap.size AS N R) := Lib.hid hoS
  clear hoS
  clear Z0_3
  clear Z1_3
  have hwle0 : Hid (w.heap.size ≤ u3.heap.size) := Lib.hid (A_3.out).size
  go_wp2_with fail
  refine (toSlOwn_any f0 A0 c0 _ (HS0.out.below A_3.out (by first | exact Nat.le_refl _)) hn0).mono ?_
  rintro e u4 ⟨rfl, hb4, hr4⟩
  have hB4 : u3.heap.size < u4.heap.size := row_lt hr4
  have A_4 : Hid (Below w.heap.size w u4) := Lib.hid ((A_3.out).trans (Below.mono hb4 (A_3.out).size))
  have OS_4 : Hid (Gs u4 u3.heap.size AS N R) := Lib.hid ((OS_3.out).keep hb4 (OS_3.out).1)
  clear A_3 OS_3
  clear hb4
  have X_0_4 : Hid (u4.ownsRow 0 57 2 (.slice (some ⟨u3.heap.size, 0, none⟩) f0.length f0.length) f0.length (flatSl f0)) := Lib.hid hr4
  clear hr4
  go_wp2_with fail
  refine (toIntOwn_any l1 A1 c1 _ (HS1.out.below A_4.out (by first | exact Nat.le_refl _)) hn1).mono ?_
  rintro e u5 ⟨rfl, hb5, hr5⟩
  have hB5 : u4.heap.size < u5.heap.size := row_lt hr5
  have A_5 : Hid (Below w.heap.size w u5) := Lib.hid ((A_4.out).trans (Below.mono hb5 (A_4.out).size))
  have OS_5 : Hid (Gs u5 u3.heap.size AS N R) := Lib.hid ((OS_4.out).keep hb5 (OS_4.out).1)
  have X_0_5 : Hid (u5.ownsRow 0 57 2 (.slice (some ⟨u3.heap.size, 0, none⟩) f0.length f0.length) f0.length (flatSl f0)) := Lib.hid (own_below X_0_4.out hb5)
  clear A_4 OS_4 X_0_4
  clear hb5
  have X_1_5 : Hid (u5.ownsRow 0 3 1 (.slice (some ⟨u4.heap.size, 0, none⟩) l1.length l1.length) l1.length (intsZ l1)) := Lib.hid hr5
  clear hr5
  go_wp2_with fail
  refine (HIM.out _ _ _ hn0 hn1 (own_in_sl X_0_5.out) (own_in X_1_5.out)).mono ?_
  intro e u6 hto
  obtain ⟨AG, cG, hsG, rfl, hb6, hoG⟩ := hto
  have hszG : u5.heap.size ≤ u6.heap.size := hb6.size
  have A_6 : Hid (Below w.heap.size w u6) := Lib.hid ((A_5.out).trans (Below.mono hb6 (A_5.out).size))
  have OS_6 : Hid (Gs u6 u3.heap.size AS N R) := Lib.hid ((OS_5.out).keep hb6 (OS_5.out).1)
  have X_0_6 : Hid (u6.ownsRow 0 57 2 (.slice (some ⟨u3.heap.size, 0, none⟩) f0.length f0.length) f0.length (flatSl f0)) := Lib.hid (own_below X_0_5.out hb6)
  have X_1_6 : Hid (u6.ownsRow 0 3 1 (.slice (some ⟨u4.heap.size, 0, none⟩) l1.length l1.length) l1.length (intsZ l1)) := Lib.hid (own_below X_1_5.out hb6)
  clear A_5 OS_5 X_0_5 X_1_5
  clear hb6
  have OG_6 : Hid (GI u6 u5.heap.size AG N cG f0.length hsG R) := Lib.hid hoG
  clear hoG
  go_wp2_with fail
  refine (eqIntSS_any N R _ _ _ _ _ _ _ (OG_6.out).gs OS_6.out (by omega) HRL.out).mono ?_
  rintro e u7 ⟨rfl, hb7⟩
  have A_7 : Hid (Below w.heap.size w u7) := Lib.hid ((A_6.out).trans (Below.mono hb7 (A_6.out).size))
  have OS_7 : Hid (Gs u7 u3.heap.size AS N R) := Lib.hid ((OS_6.out).keep hb7 (OS_6.out).1)
  have X_0_7 : Hid (u7.ownsRow 0 57 2 (.slice (some ⟨u3.heap.size, 0, none⟩) f0.length f0.length) f0.length (flatSl f0)) := Lib.hid (own_below X_0_6.out hb7)
  have X_1_7 : Hid (u7.ownsRow 0 3 1 (.slice (some ⟨u4.heap.size, 0, none⟩) l1.length l1.length) l1.length (intsZ l1)) := Lib.hid (own_below X_1_6.out hb7)
  have OG_7 : Hid (GI u7 u5.heap.size AG N cG f0.length hsG R) := Lib.hid ((OG_6.out).below hb7)
  clear A_6 OS_6 X_0_6 X_1_6 OG_6
  clear hb7
  go_wp2_with fail
  refine (toSlOwn_any f0 A0 c0 _ (HS0.out.below A_7.out (by first | exact Nat.le_refl _)) hn0).mono ?_
  rintro e u8 ⟨rfl, hb8, hr8⟩
  have hB8 : u7.heap.size < u8.heap.size := row_lt hr8
  have A_8 : Hid (Below w.heap.size w u8) := Lib.hid ((A_7.out).trans (Below.mono hb8 (A_7.out).size))
  have OS_8 : Hid (Gs u8 u3.heap.size AS N R) := Lib.hid ((OS_7.out).keep hb8 (OS_7.out).1)
  have X_0_8 : Hid (u8.ownsRow 0 57 2 (.slice (some ⟨u3.heap.size, 0, none⟩) f0.length f0.length) f0.length (flatSl f0)) := Lib.hid (own_below X_0_7.out hb8)
  have X_1_8 : Hid (u8.ownsRow 0 3 1 (.slice (some ⟨u4.heap.size, 0, none⟩) l1.length l1.length) l1.length (intsZ l1)) := Lib.hid (own_below X_1_7.out hb8)
  have OG_8 : Hid (GI u8 u5.heap.size AG N cG f0.length hsG R) := Lib.hid ((OG_7.out).below hb8)
  clear A_7 OS_7 X_0_7 X_1_7 OG_7
  clear hb8
  have W0_8 : Hid (u8.ownsRow 0 57 2 (.slice (some ⟨u7.heap.size, 0, none⟩) f0.length f0.length) f0.length (flatSl f0)) := Lib.hid hr8
  clear hr8
  go_wp2_with fail
  refine (eqSlipS_any f0 f0 _ _ _ _ _ (own_in_sl X_0_8.out) (own_in_sl W0_8.out) (by unfold maxLen; omega) (by unfold maxLen; omega)).mono ?_
  rintro e u9 ⟨rfl, hb9⟩
  rw [show decide (f0 = f0) = true from decide_eq_true rfl]
  clear W0_8
  have A_9 : Hid (Below w.heap.size w u9) := Lib.hid ((A_8.out).trans (Below.mono hb9 (A_8.out).size))
  have OS_9 : Hid (Gs u9 u3.heap.size AS N R) := Lib.hid ((OS_8.out).keep hb9 (OS_8.out).1)
  have X_0_9 : Hid (u9.ownsRow 0 57 2 (.slice (some ⟨u3.heap.size, 0, none⟩) f0.length f0.length) f0.length (flatSl f0)) := Lib.hid (own_below X_0_8.out hb9)
  have X_1_9 : Hid (u9.ownsRow 0 3 1 (.slice (some ⟨u4.heap.size, 0, none⟩) l1.length l1.length) l1.length (intsZ l1)) := Lib.hid (own_below X_1_8.out hb9)
  have OG_9 : Hid (GI u9 u5.heap.size AG N cG f0.length hsG R) := Lib.hid ((OG_8.out).below hb9)
  clear A_8 OS_8 X_0_8 X_1_8 OG_8
  clear hb9
  go_wp2_with fail
  refine (toIntOwn_any l1 A1 c1 _ (HS1.out.below A_9.out (by first | exact Nat.le_refl _)) hn1).mono ?_
  rintro e u10 ⟨rfl, hb10, hr10⟩
  have hB10 : u9.heap.size < u10.heap.size := row_lt hr10
  have A_10 : Hid (Below w.heap.size w u10) := Lib.hid ((A_9.out).trans (Below.mono hb10 (A_9.out).size))
  have OS_10 : Hid (Gs u10 u3.heap.size AS N R) := Lib.hid ((OS_9.out).keep hb10 (OS_9.out).1)
  have X_0_10 : Hid (u10.ownsRow 0 57 2 (.slice (some ⟨u3.heap.size, 0, none⟩) f0.length f0.length) f0.length (flatSl f0)) := Lib.hid (own_below X_0_9.out hb10)
  have X_1_10 : Hid (u10.ownsRow 0 3 1 (.slice (some ⟨u4.heap.size, 0, none⟩) l1.length l1.length) l1.length (intsZ l1)) := Lib.hid (own_below X_1_9.out hb10)
  have OG_10 : Hid (GI u10 u5.heap.size AG N cG f0.length hsG R) := Lib.hid ((OG_9.out).below hb10)
  clear A_9 OS_9 X_0_9 X_1_9 OG_9
  clear hb10
  have W1_10 : Hid (u10.ownsRow 0 3 1 (.slice (some ⟨u9.heap.size, 0, none⟩) l1.length l1.length) l1.length (intsZ l1)) := Lib.hid hr10
  clear hr10
  go_wp2_with fail
  refine (eqIntS_any l1 l1 _ _ _ _ _ (own_in X_1_10.out) (own_in W1_10.out) (by unfold maxLen; omega) (by unfold maxLen; omega)).mono ?_
  rintro e u11 ⟨rfl, hb11⟩
  rw [show decide (l1 = l1) = true from decide_eq_true rfl]
  clear W1_10
  have A_11 : Hid (Below w.heap.size w u11) := Lib.hid ((A_10.out).trans (Below.mono hb11 (A_10.out).size))
  have OS_11 : Hid (Gs u11 u3.heap.size AS N R) := Lib.hid ((OS_10.out).keep hb11 (OS_10.out).1)
  have X_0_11 : Hid (u11.ownsRow 0 57 2 (.slice (some ⟨u3.heap.size, 0, none⟩) f0.length f0.length) f0.length (flatSl f0)) := Lib.hid (own_below X_0_10.out hb11)
  have X_1_11 : Hid (u11.ownsRow 0 3 1 (.slice (some ⟨u4.heap.size, 0, none⟩) l1.length l1.length) l1.length (intsZ l1)) := Lib.hid (own_below X_1_10.out hb11)
  have OG_11 : Hid (GI u11 u5.heap.size AG N cG f0.length hsG R) := Lib.hid ((OG_10.out).below hb11)
  clear A_10 OS_10 X_0_10 X_1_10 OG_10
  clear hb11
  have hwle : w.heap.size ≤ u3.heap.size := hwle0.out
  go_wp2_with fail
  refine (markSlOwn_any 1 f0.length 0 _ _ _ X_0_11.out (by omega)).mono ?_
  rintro e u12 ⟨rfl, hg12⟩
  clear X_0_11
  have A_12 : Hid (Below w.heap.size w u12) := Lib.hid ((A_11.out).grown hg12 (A_11.out).size (fun k hk => by have e1 : u3.heap.size = k := Option.some.inj hk; omega))
  have OS_12 : Hid (Gs u12 u3.heap.size AS N R) := Lib.hid ((OS_11.out).keep ((Below.refl _ _).grown hg12 (OS_11.out).1 (fun k hk => by have e1 : u3.heap.size = k := Option.some.inj hk; omega)) (Nat.le_refl _))
  have X_1_12 : Hid (u12.ownsRow 0 3 1 (.slice (some ⟨u4.heap.size, 0, none⟩) l1.length l1.length) l1.length (intsZ l1)) := Lib.hid (own_grown X_1_11.out hg12 (fun k hk e => by have e1 : u3.heap.size = k := Option.some.inj e; have e2 : u4.heap.size = k := Option.some.inj hk; omega))
  have OG_12 : Hid (GI u12 u5.heap.size AG N cG f0.length hsG R) := Lib.hid ((OG_11.out).grown hg12 (fun k hk => by have e1 : u3.heap.size = k := Option.some.inj hk; omega))
  clear A_11 OS_11 X_1_11 OG_11
  clear hg12
  obtain ⟨k0, hk0⟩ : ∃ k : Nat, k = (1 + 2 * f0.length) := ⟨_, rfl⟩
  rw [← hk0]
  have hkb0 : 1 ≤ k0 ∧ k0 ≤ 1 + 2 * 1048576 := by omega
  clear hk0
  obtain ⟨hka0, hkc0⟩ := hkb0
  go_wp2_with fail
  refine (markIntS_any ((k0 : Nat) : Int) l1.length 0 _ _ _ X_1_12.out (by omega) (by omega)).mono ?_
  rintro e u13 ⟨rfl, hg13, _⟩
  rw [show (((k0 : Nat) : Int) + (l1.length : Int)) = (((k0 + l1.length) : Nat) : Int) from by omega]
  clear X_1_12
  have A_13 : Hid (Below w.heap.size w u13) := Lib.hid ((A_12.out).grown hg13 (A_12.out).size (fun k hk => by have e1 : u4.heap.size = k := Option.some.inj hk; omega))
  have OS_13 : Hid (Gs u13 u3.heap.size AS N R) := Lib.hid ((OS_12.out).keep ((Below.refl _ _).grown hg13 (OS_12.out).1 (fun k hk => by have e1 : u4.heap.size = k := Option.some.inj hk; omega)) (Nat.le_refl _))
  have OG_13 : Hid (GI u13 u5.heap.size AG N cG f0.length hsG R) := Lib.hid ((OG_12.out).grown hg13 (fun k hk => by have e1 : u4.heap.size = k := Option.some.inj hk; omega))
  clear A_12 OS_12 OG_12
  clear hg13
  obtain ⟨k1, hk1⟩ : ∃ k : Nat, k = (k0 + l1.length) := ⟨_, rfl⟩
  rw [← hk1]
  have hkb1 : 1 ≤ k1 ∧ k1 ≤ 1 + 3 * 1048576 := by omega
  clear hk1
  obtain ⟨hka1, hkc1⟩ := hkb1
  have hk0 : ¬ ((k1 : Nat) : Int) < 0 := by omega
  go_wp2_with fail
  refine (eqIntSS_any N R _ _ _ _ _ _ _ (OG_13.out).gs OS_13.out (by omega) HRL.out).mono ?_
  rintro e u14 ⟨rfl, hb14⟩
  have A_14 : Hid (Below w.heap.size w u14) := Lib.hid ((A_13.out).trans (Below.mono hb14 (A_13.out).size))
  have OS_14 : Hid (Gs u14 u3.heap.size AS N R) := Lib.hid ((OS_13.out).keep hb14 (OS_13.out).1)
  have OG_14 : Hid (GI u14 u5.heap.size AG N cG f0.length hsG R) := Lib.hid ((OG_13.out).below hb14)
  clear A_13 OS_13 OG_13
  clear hb14
  go_wp2_with fail
  refine (markIntSS_any 1 N f0.length _ _ _ _ _ _ OG_14.out (by omega) (by omega)).mono ?_
  rintro e u15 ⟨rfl, hbel, om⟩
  clear OG_14
  have A_15 : Hid (Below w.heap.size w u15) := Lib.hid ((A_14.out).trans (hbel _ (by omega) (A_14.out).size))
  have OS_15 : Hid (Gs u15 u3.heap.size AS N R) := Lib.hid ((OS_14.out).keep (hbel _ (by omega) (OS_14.out).1) (Nat.le_refl _))
  clear A_14 OS_14
  have OM_15 : Hid (GI u15 u5.heap.size AG N cG f0.length hsG (fun i => marks ((1 + i * f0.length : Nat) : Int) f0.length)) := Lib.hid om
  obtain ⟨km, hkm⟩ : ∃ km : Nat, km = 1 + N * f0.length := ⟨_, rfl⟩
  rw [← hkm]
  have hkm2 : km ≤ 16777216 := by omega
  have HKM := Lib.hid hkm; clear hkm
  have hqm : ((km : Int) != (km : Int)) = false := by simp
  have hqz : ¬ (km : Int) < 0 := by omega
  clear hbel om
  go_wp2_with fail
  refine (heldIntSS_any 1 N f0.length (fun i => marks ((1 + i * f0.length : Nat) : Int) f0.length) _ _ _ _ (OM_15.out).gs (fun i _ => rfl) (by omega) (by omega)).mono ?_
  rintro e u16 ⟨rfl, hwu16⟩
  rw [← HKM.out]
  subst hwu16
  -- another call
  go_wp2_with fail
  refine (toSlOwn_any f0 A0 c0 _ (HS0.out.below A_15.out (by first | exact Nat.le_refl _)) hn0).mono ?_
  rintro e u17 ⟨rfl, hb17, hr17⟩
  have hB17 : u15.heap.size < u17.heap.size := row_lt hr17
  have A_16 : Hid (Below w.heap.size w u17) := Lib.hid ((A_15.out).trans (Below.mono hb17 (A_15.out).size))
  have OS_16 : Hid (Gs u17 u3.heap.size AS N R) := Lib.hid ((OS_15.out).keep hb17 (OS_15.out).1)
  have OM_16 : Hid (GI u17 u5.heap.size AG N cG f0.length hsG (fun i => marks ((1 + i * f0.length : Nat) : Int) f0.length)) := Lib.hid ((OM_15.out).below hb17)
  clear A_15 OS_15 OM_15
  clear hb17
  have Y0_16 : Hid (u17.ownsRow 0 57 2 (.slice (some ⟨u15.heap.size, 0, none⟩) f0.length f0.length) f0.length (flatSl f0)) := Lib.hid hr17
  clear hr17
  go_wp2_with fail
  refine (toIntOwn_any l1 A1 c1 _ (HS1.out.below A_16.out (by first | exact Nat.le_refl _)) hn1).mono ?_
  rintro e u18 ⟨rfl, hb18, hr18⟩
  have hB18 : u17.heap.size < u18.heap.size := row_lt hr18
  have A_17 : Hid (Below w.heap.size w u18) := Lib.hid ((A_16.out).trans (Below.mono hb18 (A_16.out).size))
  have OS_17 : Hid (Gs u18 u3.heap.size AS N R) := Lib.hid ((OS_16.out).keep hb18 (OS_16.out).1)
  have OM_17 : Hid (GI u18 u5.heap.size AG N cG f0.length hsG (fun i => marks ((1 + i * f0.length : Nat) : Int) f0.length)) := Lib.hid ((OM_16.out).below hb18)
  have Y0_17 : Hid (u18.ownsRow 0 57 2 (.slice (some ⟨u15.heap.size, 0, none⟩) f0.length f0.length) f0.length (flatSl f0)) := Lib.hid (own_below Y0_16.out hb18)
  clear A_16 OS_16 OM_16 Y0_16
  clear hb18
  have Y1_17 : Hid (u18.ownsRow 0 3 1 (.slice (some ⟨u17.heap.size, 0, none⟩) l1.length l1.length) l1.length (intsZ l1)) := Lib.hid hr18
  clear hr18
  go_wp2_with fail
  refine (HIM.out _ _ _ hn0 hn1 (own_in_sl Y0_17.out) (own_in Y1_17.out)).mono ?_
  intro e u19 hto
  obtain ⟨AH, cH, hsH, rfl, hb19, hoH⟩ := hto
  have hszH : u18.heap.size ≤ u19.heap.size := hb19.size
  have A_18 : Hid (Below w.heap.size w u19) := Lib.hid ((A_17.out).trans (Below.mono hb19 (A_17.out).size))
  have OS_18 : Hid (Gs u19 u3.heap.size AS N R) := Lib.hid ((OS_17.out).keep hb19 (OS_17.out).1)
  have OM_18 : Hid (GI u19 u5.heap.size AG N cG f0.length hsG (fun i => marks ((1 + i * f0.length : Nat) : Int) f0.length)) := Lib.hid ((OM_17.out).below hb19)
  have Y0_18 : Hid (u19.ownsRow 0 57 2 (.slice (some ⟨u15.heap.size, 0, none⟩) f0.length f0.length) f0.length (flatSl f0)) := Lib.hid (own_below Y0_17.out hb19)
  have Y1_18 : Hid (u19.ownsRow 0 3 1 (.slice (some ⟨u17.heap.size, 0, none⟩) l1.length l1.length) l1.length (intsZ l1)) := Lib.hid (own_below Y1_17.out hb19)
  clear A_17 OS_17 OM_17 Y0_17 Y1_17
  clear hb19
  have OH_18 : Hid (GI u19 u18.heap.size AH N cH f0.length hsH R) := Lib.hid hoH
  clear hoH
  clear Y0_18
  clear Y1_18
  go_wp2_with fail
  refine (eqIntSS_any N R _ _ _ _ _ _ _ (OH_18.out).gs OS_18.out (by omega) HRL.out).mono ?_
  rintro e u20 ⟨rfl, hb20⟩
  have A_19 : Hid (Below w.heap.size w u20) := Lib.hid ((A_18.out).trans (Below.mono hb20 (A_18.out).size))
  have OS_19 : Hid (Gs u20 u3.heap.size AS N R) := Lib.hid ((OS_18.out).keep hb20 (OS_18.out).1)
  have OM_19 : Hid (GI u20 u5.heap.size AG N cG f0.length hsG (fun i => marks ((1 + i * f0.length : Nat) : Int) f0.length)) := Lib.hid ((OM_18.out).below hb20)
  have OH_19 : Hid (GI u20 u18.heap.size AH N cH f0.length hsH R) := Lib.hid ((OH_18.out).below hb20)
  clear A_18 OS_18 OM_18 OH_18
  clear hb20
  go_wp2_with fail
  refine (heldIntSS_any 1 N f0.length (fun i => marks ((1 + i * f0.length : Nat) : Int) f0.length) _ _ _ _ (OM_19.out).gs (fun i _ => rfl) (by omega) (by omega)).mono ?_
  rintro e u21 ⟨rfl, hwu21⟩
  rw [← HKM.out]
  subst hwu21
  go_wp2
  go_ret
  exact ⟨rfl, A_19.out⟩

set_option maxRecDepth 100000 in
theorem lifted (os : Os) (started : os.Started) (H : Type) (enc : TypeId × Value → H) :
    ReturnsInHanded {} Try.checked os 10 .any (Rows.fnExactRulesOfSpec.pre6 enc Try.prog Try.f10 Rows.fnExactRulesOfRow.domain false) (Rows.fnExactRulesOfSpec.post enc Try.prog Try.f10 false true false false) := by
  refine returnsInHanded_of_change (C := Try.checked) own started (by kernel_rfl) Try.func10
    (ChangeSpec.witness6 (enc := enc) (C := Try.checked) false ⟨#[], #[.slice none 0 0, .slice none 0 0], []⟩ 8 (by kernel_rfl) (by kernel_rfl) (by kernel_rfl) (by kernel_rfl)) ?_
  intro W base args ds gs before hval0 hW hcnd _
  have hval : ∀ (j : Nat) t v, Try.f10.params[j]? = some t → args[j]? = some v → Value.okWide Try.prog W .any base t v := hval0
  have hW' := hW
  obtain ⟨p, q, hA0, hV, rfl, hfz, hnd⟩ := hW
  have hA : DataW.TrodAll enc Try.prog W 0 (fun _ => true) true Try.f10.params.toList args.toList ds p := hA0
  rw [Try.params10] at hA hval
  obtain ⟨v0, vs0, d0, ds0, p0, q0, hargs, rfl, rfl, h0, r0⟩ := trodAll_cons hA
  obtain ⟨v1, vs1, d1, ds1, p1, q1, rfl, rfl, rfl, h1, r1⟩ := trodAll_cons r0
  obtain ⟨rfl, rfl, rfl⟩ := trodAll_nil r1
  obtain rfl : args = #[v0, v1] := by cases args; simp_all
  obtain ⟨rfl, rfl⟩ := trodVars_none hV
  have k0 := h0
  have lt0 : ∀ x ∈ p0, x.block < W.heap.size := by obtain ⟨m, hm⟩ := k0; exact DataW.trod_lt m _ _ _ hm
  have k1 := h1
  have lt1 : ∀ x ∈ p1, x.block < W.heap.size := by obtain ⟨m, hm⟩ := k1; exact DataW.trod_lt m _ _ _ hm
  obtain ⟨A0, f0, c0, rfl, hs0, hl0⟩ := open_sls (hval 0 22 v0 rfl rfl) h0
  obtain ⟨A1, f1, c1, rfl, hs1, hl1⟩ := open_intz (hval 1 31 v1 rfl rfl) h1
  clear hA0 hval0
  refine (walk A0 f0 c0 A1 f1 c1 W hs0 hl0 hs1 hl1).mono fun e W' ⟨he, bel⟩ => ?_
  subst he
  exact ⟨_, rfl, _, _, _, [], _, [], hW', trodAll_mk1 (shut_bool Try.underlying4 _), (trodAll_cons_mk (Below.trod laidOut (by kernel_rfl) (of_decide_eq_true (by kernel_rfl)) k0 bel lt0) (trodAll_cons_mk (Below.trod laidOut (by kernel_rfl) (of_decide_eq_true (by kernel_rfl)) k1 bel lt1) trodAll_mk0)), rfl, bel.frame _, fun h => by cases h⟩

theorem over : Rows.fnExactRulesOfRow.holds Try.pinned (OpenSpec.ofChange Rows.fnExactRulesOfSpec) :=
  OpenClaim.holds_of_wide 10 Try.f10 rfl rfl rfl rfl rfl rfl rfl ⟨rfl, rfl, rfl, rfl, rfl⟩ rfl rfl rfl rfl rfl (by kernel_rfl) Try.func10 (by kernel_rfl)
    (of_decide_eq_true (by kernel_rfl)) (by unfold Func.isWrapper; first | (rw [if_pos (by decide +kernel)]; kernel_rfl) | (rw [if_neg (by decide +kernel)]; exact ⟨rfl, rfl⟩))
    (fun os started H enc _ => lifted os started H enc)

theorem proved : Rows.FnExactRulesOfSaid := over
end Go.Proofs.Ytljakcfdjcjdbaa.fnExactRulesOf

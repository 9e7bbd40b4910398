/-
  FnExactStockText: for every input (a slice of slips) the law returns true, and what it was given reads as before. Conditions: none beyond the given statement's own.
-/
import Derived.Test.YtljakcfdjcjdbaaDoorRows
import Derived.Test.YtljakcfdjcjdbaaDoorTb
import Derived.Test.YtljakcfdjcjdbaaDoorVr
import Derived.Test.YtljakcfdjcjdbaaDoorPr
import Derived.Test.YtljakcfdjcjdbaaDoorOpenIz
import Derived.Test.YtljakcfdjcjdbaaDoorOpenPa
import Derived.Deep.RegionLaw
import Derived.Deep.DeepCutAuto
import Derived.Test.YtljakcfdjcjdbaaDoorTail
import Derived.Test.YtljakcfdjcjdbaaDoorCards
import Derived.Test.YtljakcfdjcjdbaaDoorTie
import Derived.ProofKit
import Derived.OpenShut
import Derived.ShutString
import Derived.ChangeOld
import Derived.Lib.SmallJoins
import Derived.Lib.LaidTab
import Derived.LaidMore
import Derived.LaidHandle
import Derived.MakeChecks
import Derived.Stop.Joined
import Derived.Stop.LaidErr
import Derived.SevenTiedAt
namespace Go.Proofs.YtljakcfdjcjdbaaDoor.fnExactStockText
open Go Go.ChangeShapes Go.WideShapes Go.ChangeAt Go.RowKit Go.Joins
open Go.ChangeMaps (open_string shut_string)
set_option linter.unusedVariables false

theorem own : ownKnob Tryd.prog.godebug = none := by kernel_rfl
theorem laidOut : laidOutB Tryd.prog = true := by kernel_rfl

set_option maxRecDepth 100000 in
set_option maxHeartbeats 2000000 in
theorem walk (A0 : Option Addr) (f0 : List Sl) (c0 : Nat) (w : World) (hs0 : SlsIn w A0 f0) (hl0 : f0.length ≤ maxLen) (ht : Tab w) :
    Calls Tryd.prog 3 #[.slice A0 f0.length c0] w fun e w' => e = .returned (.bool true) ∧ Below w.heap.size w w' := by
  have HT := Lib.hid ht; clear ht
  have HS0 := Lib.hid hs0; clear hs0
  unfold maxLen at hl0
  have A_0 : Hid (Below w.heap.size w w) := Lib.hid (show Below _ _ _ by exact (Below.refl _ _))
  obtain ⟨V0, hV0⟩ : ∃ V, V = txB f0 := ⟨_, rfl⟩
  have HV0 := Lib.hid hV0; clear hV0
  have hne0 : (!(V0.toList == V0.toList)) = false := by simp
  obtain ⟨V1, hV1⟩ : ∃ V, V = stkB f0 := ⟨_, rfl⟩
  have HV1 := Lib.hid hV1; clear hV1
  have hne1 : (V1 != V1) = false := by simp
  have HSP : Hid (∀ (W : World) (B0 : Option Addr), f0.length ≤ 1048576 → SlsIn W B0 f0 → Calls Tryd.prog 6 #[.slice B0 f0.length f0.length] W fun e W' => e = .returned (.tuple #[.string V0, .bool V1]) ∧ Below W.heap.size W W') := Lib.hid (by
    rw [HV0.out, HV1.out]; exact fun W B0 h0 i0 => specStockText_any f0 B0 f0.length W i0 h0)
  have HIM : Hid (∀ (W : World) (B0 : Option Addr), f0.length ≤ 1048576 → SlsIn W B0 f0 → Tab W → Calls Tryd.prog 8 #[.slice B0 f0.length f0.length] W fun e W' => e = .returned (.tuple #[.string V0, .bool V1]) ∧ Below W.heap.size W W') := Lib.hid (by
    rw [HV0.out, HV1.out]; exact fun W B0 h0 i0 tW => implStockText_any f0 B0 f0.length W i0 h0 tW)
  go_enter Tryd.func3, Tryd.ntmps3
  go_wp2_with fail
  refine (szSlipS_any f0 A0 c0 (1048576) _ (by unfold maxLen; omega) (by omega) (by omega)).mono ?_
  rintro e w' ⟨rfl, hww⟩
  subst hww
  by_cases hz0 : (1048576 : Int) < (f0.length : Int)
  · rw [if_pos hz0]
    go_wp2
    go_ret
    exact ⟨rfl, A_0.out⟩
  rw [if_neg hz0]
  have hn0 : f0.length ≤ 1048576 := by omega
  have hnn0 : ¬ (1048576 : Int) - (f0.length : Int) < 0 := by omega
  clear hz0
  go_wp2_with fail
  refine (toSlOwn_any f0 A0 c0 _ (HS0.out.below A_0.out (by first | exact Nat.le_refl _)) hn0).mono ?_
  rintro e u1 ⟨rfl, hb1, hr1⟩
  have hB1 : w.heap.size < u1.heap.size := row_lt hr1
  have A_1 : Hid (Below w.heap.size w u1) := Lib.hid ((A_0.out).trans (Below.mono hb1 (A_0.out).size))
  clear A_0
  clear hb1
  have Z0_1 : Hid (u1.ownsRow 0 37 2 (.slice (some ⟨w.heap.size, 0, none⟩) f0.length f0.length) f0.length (flatSl f0)) := Lib.hid hr1
  clear hr1
  go_wp2_with fail
  refine (HSP.out _ _ hn0 (own_in_sl Z0_1.out)).mono ?_
  rintro e u2 ⟨rfl, hb2⟩
  have A_2 : Hid (Below w.heap.size w u2) := Lib.hid ((A_1.out).trans (Below.mono hb2 (A_1.out).size))
  have Z0_2 : Hid (u2.ownsRow 0 37 2 (.slice (some ⟨w.heap.size, 0, none⟩) f0.length f0.length) f0.length (flatSl f0)) := Lib.hid (own_below Z0_1.out hb2)
  clear A_1 Z0_1
  clear hb2
  clear Z0_2
  go_wp2_with fail
  refine (toSlOwn_any f0 A0 c0 _ (HS0.out.below A_2.out (by first | exact Nat.le_refl _)) hn0).mono ?_
  rintro e u3 ⟨rfl, hb3, hr3⟩
  have hB3 : u2.heap.size < u3.heap.size := row_lt hr3
  have A_3 : Hid (Below w.heap.size w u3) := Lib.hid ((A_2.out).trans (Below.mono hb3 (A_2.out).size))
  clear A_2
  clear hb3
  have X_0_3 : Hid (u3.ownsRow 0 37 2 (.slice (some ⟨u2.heap.size, 0, none⟩) f0.length f0.length) f0.length (flatSl f0)) := Lib.hid hr3
  clear hr3
  go_wp2_with fail
  refine (HIM.out _ _ hn0 (own_in_sl X_0_3.out) (HT.out.below A_3.out)).mono ?_
  rintro e u4 ⟨rfl, hb4⟩
  have A_4 : Hid (Below w.heap.size w u4) := Lib.hid ((A_3.out).trans (Below.mono hb4 (A_3.out).size))
  have X_0_4 : Hid (u4.ownsRow 0 37 2 (.slice (some ⟨u2.heap.size, 0, none⟩) f0.length f0.length) f0.length (flatSl f0)) := Lib.hid (own_below X_0_3.out hb4)
  clear A_3 X_0_3
  clear hb4
  go_wp2_with fail
  refine (toSlOwn_any f0 A0 c0 _ (HS0.out.below A_4.out (by first | exact Nat.le_refl _)) hn0).mono ?_
  rintro e u5 ⟨rfl, hb5, hr5⟩
  have hB5 : u4.heap.size < u5.heap.size := row_lt hr5
  have A_5 : Hid (Below w.heap.size w u5) := Lib.hid ((A_4.out).trans (Below.mono hb5 (A_4.out).size))
  have X_0_5 : Hid (u5.ownsRow 0 37 2 (.slice (some ⟨u2.heap.size, 0, none⟩) f0.length f0.length) f0.length (flatSl f0)) := Lib.hid (own_below X_0_4.out hb5)
  clear A_4 X_0_4
  clear hb5
  have W0_5 : Hid (u5.ownsRow 0 37 2 (.slice (some ⟨u4.heap.size, 0, none⟩) f0.length f0.length) f0.length (flatSl f0)) := Lib.hid hr5
  clear hr5
  go_wp2_with fail
  refine (eqSlipS_any f0 f0 _ _ _ _ _ (own_in_sl X_0_5.out) (own_in_sl W0_5.out) (by unfold maxLen; omega) (by unfold maxLen; omega)).mono ?_
  rintro e u6 ⟨rfl, hb6⟩
  rw [show decide (f0 = f0) = true from decide_eq_true rfl]
  clear W0_5
  have A_6 : Hid (Below w.heap.size w u6) := Lib.hid ((A_5.out).trans (Below.mono hb6 (A_5.out).size))
  have X_0_6 : Hid (u6.ownsRow 0 37 2 (.slice (some ⟨u2.heap.size, 0, none⟩) f0.length f0.length) f0.length (flatSl f0)) := Lib.hid (own_below X_0_5.out hb6)
  clear A_5 X_0_5
  clear hb6
  go_wp2
  go_ret
  exact ⟨rfl, A_6.out⟩

def laid3 : List (String × DataW Unit) := [("math/bits.deBruijn32tab", Rows.laid_math_bits_deBruijn32tab), ("math/bits.deBruijn64tab", Rows.laid_math_bits_deBruijn64tab), ("internal/strconv.uint64pow10", Rows.laid_internal_strconv_uint64pow10)]
noncomputable def gNo : Nat := (Tryd.prog.globalNamed "internal/strconv.uint64pow10").getD 0
set_option maxRecDepth 100000 in
theorem tab_of {W : World} (h : laidMetH Tryd.prog laid3 W) : Tab W := by
  rw [MakeChecks.laidMetH_plain _ _ _ (by kernel_rfl)] at h
  have h3 := h.tail.tail
  exact Lib.tabIs_of_head (g := gNo) (t := (Tryd.prog.globals[gNo]?.map (·.type)).getD 0) (e := 70) (n := 20) (by kernel_rfl) (by kernel_rfl) (by kernel_rfl) (by kernel_rfl) (by kernel_rfl) (by kernel_rfl) h3

set_option maxRecDepth 100000 in
theorem door_met (os : Os) (args : Array Value) : laidMetH Tryd.prog laid3 ((World.doorLaid Tryd.prog 400 os).forCall (fun _ _ => 0) ⟨#[], args, []⟩).memory :=
  laidMetH_of_parts3 (fuel := 8) (laidMet_of_run' 8 (by kernel_rfl) (by kernel_rfl)) (by kernel_rfl) (by kernel_rfl)

set_option maxRecDepth 100000 in
theorem lifted (os : Os) (started : os.Started) (H : Type) (enc : TypeId × Value → H) :
    ReturnsInHanded {} Tryd.checked os 3 .any (fun w args => (Rows.fnExactStockTextSpec.pre enc Tryd.prog Tryd.f3 [] false w args ∧ laidMetH Tryd.prog laid3 w) ∧ sizedMet enc Tryd.prog Tryd.f3 (OpenSpec.ofChange Rows.fnExactStockTextSpec) false w args)
      (Rows.fnExactStockTextSpec.post enc Tryd.prog Tryd.f3 false true false false) := by
  refine returnsInHanded_of_change_and (C := Tryd.checked) (X := fun w _ => laidMetH Tryd.prog laid3 w) (fun _ _ _ hh h => h.of_heap hh) own started (by kernel_rfl) Tryd.func3
    (ChangeSpec.witness_shaped (enc := enc) (C := Tryd.checked) (os := os) (X := fun w _ => laidMetH Tryd.prog laid3 w) false (World.doorLaid Tryd.prog 400 os) #[.slice none 0 0] 8 rfl (World.shaped_of_RefB (by kernel_rfl) (by kernel_rfl)) (by kernel_rfl) (by kernel_rfl) (by kernel_rfl) (door_met os _)) ?_
  intro W base args ds gs before hval0 hW _ _ hL _
  have hval : ∀ (j : Nat) t v, Tryd.f3.params[j]? = some t → args[j]? = some v → Value.okWide Tryd.prog W .any base t v := hval0
  have hW' := hW
  obtain ⟨p, q, hA0, hV, rfl, hfz, hnd⟩ := hW
  have hA : DataW.TrodAll enc Tryd.prog W 0 (fun _ => true) true Tryd.f3.params.toList args.toList ds p := hA0
  rw [Tryd.params3] at hA hval
  obtain ⟨v0, vs0, d0, ds0, p0, q0, hargs, rfl, rfl, h0, r0⟩ := trodAll_cons hA
  obtain ⟨rfl, rfl, rfl⟩ := trodAll_nil r0
  obtain rfl : args = #[v0] := by cases args; simp_all
  obtain ⟨rfl, rfl⟩ := trodVars_none hV
  have k0 := h0
  have lt0 : ∀ x ∈ p0, x.block < W.heap.size := by obtain ⟨m, hm⟩ := k0; exact DataW.trod_lt m _ _ _ hm
  obtain ⟨A0, f0, c0, rfl, hs0, hl0⟩ := open_sls (hval 0 22 v0 rfl rfl) h0
  clear hA0 hval0
  refine (walk A0 f0 c0 W hs0 hl0 (tab_of hL)).mono fun e W' ⟨he, bel⟩ => ?_
  subst he
  exact ⟨_, rfl, _, _, _, [], _, [], hW', trodAll_mk1 (shut_bool Tryd.underlying4 _), (trodAll_cons_mk (Below.trod laidOut (by kernel_rfl) (of_decide_eq_true (by kernel_rfl)) k0 bel lt0) trodAll_mk0), rfl, bel.frame _, fun h => by cases h⟩

theorem over : Rows.FnExactStockTextSaid :=
  OpenClaim.holds_of_wide 3 Tryd.f3 rfl rfl rfl rfl rfl rfl rfl ⟨rfl, rfl, rfl, rfl, rfl⟩ rfl rfl rfl rfl rfl (by kernel_rfl) Tryd.func3 (by kernel_rfl)
    (of_decide_eq_true (by kernel_rfl)) (by unfold Func.isWrapper; first | (rw [if_pos (by decide +kernel)]; kernel_rfl) | (rw [if_neg (by decide +kernel)]; exact ⟨rfl, rfl⟩))
    (fun os started H enc _ => lifted os started H enc)

theorem proved : Rows.FnExactStockTextCardSaid :=
  Claim7.holds_tied_plain_at .later [] [.data, .data, .data] true (true, "003e3fa82d995cb6fa2df13f64548c6a204f113c73670ddec2851165d3b6260b") true
    over (fun _ h => by cases h) (by kernel_rfl) (fun _ h => by cases h) fnExactStockText_row_tie rfl ⟨rfl, rfl⟩ (by kernel_rfl) rfl
    (fun f fn hf hfn => by
      obtain rfl : f = 3 := Option.some.inj ((show Tryd.prog.funcNamed "loop.example/g01054/laws.FnExactStockText" = some 3 by kernel_rfl).symm.trans hf) |>.symm
      obtain rfl : fn = Tryd.f3 := (Option.some.inj (Tryd.func3.symm.trans hfn)).symm
      exact ⟨by kernel_rfl, fun j t ht => by
        rw [Tryd.params3] at ht
        have hm : t ∈ [22] := by simpa using Array.mem_of_getElem? ht
        have hall : ([22].all fun u => !Tryd.prog.wantsStandIn u) = true := by kernel_rfl
        exact (show Tryd.prog.wantsStandIn t = false by simpa using List.all_eq_true.1 hall t hm)⟩)
    (by kernel_rfl)
end Go.Proofs.YtljakcfdjcjdbaaDoor.fnExactStockText

/-
  FnExactFontText: for every input (a slice of sorts) the law returns true, and what it was given reads as before, where the library's tables start as the program's text lays them; the card ties that to the text. Conditions: none beyond the given statement's own.
-/
import Derived.Test.YtbbaphhkdhdelaaDoorRows
import Derived.Test.YtbbaphhkdhdelaaDoorCards
import Derived.Test.YtbbaphhkdhdelaaDoorTie
import Derived.Test.YtbbaphhkdhdelaaDoorFti
import Derived.Test.YtbbaphhkdhdelaaDoorOpen
import Derived.Lib.LaidTab
import Derived.LaidMore
import Derived.LaidHandle
import Derived.MakeChecks
import Derived.ProofKit
import Derived.OpenShut
import Derived.ShutString
import Derived.ChangeOld
import Derived.Lib.SmallJoins
import Derived.Stop.Joined
import Derived.Stop.LaidErr
import Derived.SevenTiedAt
namespace Go.Proofs.YtbbaphhkdhdelaaDoor.T1.fnExactFontText
open Go Go.ChangeShapes Go.WideShapes Go.ChangeAt Go.RowKit Go.Joins
open Go.ChangeMaps (open_string shut_string)
set_option linter.unusedVariables false

theorem own : ownKnob Tryd.prog.godebug = none := by kernel_rfl
theorem laidOut : laidOutB Tryd.prog = true := by kernel_rfl

set_option maxRecDepth 100000 in
set_option maxHeartbeats 1000000 in
theorem walk (A : Option Addr) (f : List (ByteArray × Int)) (cap : Nat) (w : World) (hs : SortsIn w 0 A f) (ho : CodesOk f) (hl : f.length ≤ maxLen) (ht : Tab w) :
    Calls Tryd.prog 3 #[.slice A f.length cap] w fun e w' => e = .returned (.bool true) ∧ Below w.heap.size w w' := by
  have HS := Lib.hid hs; clear hs
  have HT := Lib.hid ht; clear ht
  have HO := Lib.hid ho; clear ho
  have hfin := sz_len f
  go_enter Tryd.func3, Tryd.ntmps3
  go_wp2_with fail
  refine (szSortS_any f A cap 1048576 0 _ HS.out HO.out hl (by omega) (by omega)).mono ?_
  rintro e w1 ⟨rfl, hb1⟩
  generalize szSortSF f 1048576 = z at *
  by_cases h : z < 0
  · go_wp2
    go_ret
    exact ⟨rfl, hb1⟩
  · have hn := hfin (by omega)
    clear hfin
    have H1 := Lib.hid (HS.out.below hb1 (Nat.le_refl _))
    go_wp2_with fail
    refine (toSortS_any f A cap 0 _ H1.out hn).mono ?_
    rintro e w2 ⟨rfl, hb2, hf2⟩
    have hb2' := hb1.trans (hb2.mono hb1.size)
    have HF2 := Lib.hid (hf2.sorts (Nat.zero_le _)); clear hf2
    go_wp2_with fail
    refine (specFText_any f _ _ 0 _ HF2.out hn HO.out).mono ?_
    rintro e w3 ⟨rfl, hb3⟩
    have hb3' := hb2'.trans (hb3.mono hb2'.size)
    clear hb1 hb2 hb2' hb3 H1 HF2
    have H1 := Lib.hid (HS.out.below hb3' (Nat.le_refl _))
    go_wp2_with fail
    refine (toSortS_any f A cap 0 _ H1.out hn).mono ?_
    rintro e w4 ⟨rfl, hb4, hf4⟩
    have hb4' := hb3'.trans (hb4.mono hb3'.size)
    have HF4 := Lib.hid (hf4.sorts (Nat.zero_le _)); clear hf4
    go_wp2_with fail
    refine (implFText_any f _ _ 0 _ HF4.out hn HO.out (HT.out.below hb4')).mono ?_
    rintro e w5 ⟨rfl, hb5⟩
    have hb5' := hb4'.trans (hb5.mono hb4'.size)
    have HF5 := Lib.hid (HF4.out.below hb5 (Nat.le_refl _))
    have hne : (fontB f != fontB f) = false := by simp
    generalize ftextB f = g0 at *
    have hne0 : (!(g0.toList == g0.toList)) = false := by simp
    clear hb3' hb4 hb4' hb5 HF4 H1
    have H1 := Lib.hid (HS.out.below hb5' (Nat.le_refl _))
    generalize fontB f = b at *
    go_wp2_with fail
    refine (toSortS_any f A cap 0 _ H1.out hn).mono ?_
    rintro e w6 ⟨rfl, hb6, hf6⟩
    have hb6' := hb5'.trans (hb6.mono hb5'.size)
    have HF6 := Lib.hid (hf6.sorts (Nat.zero_le _)); clear hf6
    have HF7 := Lib.hid (HF5.out.below hb6 (Nat.le_refl _))
    clear hb6 hb5' H1 HF5
    go_wp2_with fail
    refine (eqSortS_any f f _ _ _ _ 0 0 _ HF7.out HF6.out hl hl).mono ?_
    rintro e w7 ⟨rfl, hb7⟩
    have hb7' := hb6'.trans (hb7.mono hb6'.size)
    rw [show decide (f = f) = true from decide_eq_true rfl]
    clear hb7 hb6' HF6 HF7
    go_wp2
    go_ret
    exact ⟨rfl, hb7'⟩

def laid3 : List (String × DataW Unit) := [("math/bits.deBruijn32tab", Rows.laid_math_bits_deBruijn32tab), ("math/bits.deBruijn64tab", Rows.laid_math_bits_deBruijn64tab), ("internal/strconv.uint64pow10", Rows.laid_internal_strconv_uint64pow10)]
noncomputable def gNo : Nat := (Tryd.prog.globalNamed "internal/strconv.uint64pow10").getD 0
set_option maxRecDepth 100000 in
theorem tab_of {W : World} (h : laidMetH Tryd.prog laid3 W) : Tab W := by
  rw [MakeChecks.laidMetH_plain _ _ _ (by kernel_rfl)] at h
  have h3 := h.tail.tail
  exact Lib.tabIs_of_head (g := gNo) (t := (Tryd.prog.globals[gNo]?.map (·.type)).getD 0) (e := 102) (n := 20) (by kernel_rfl) (by kernel_rfl) (by kernel_rfl) (by kernel_rfl) (by kernel_rfl) (by kernel_rfl) h3

set_option maxRecDepth 100000 in
theorem door_met (os : Os) (args : Array Value) : laidMetH Tryd.prog laid3 ((World.doorLaid Tryd.prog 400 os).forCall (fun _ _ => 0) ⟨#[], args, []⟩).memory :=
  laidMetH_of_parts3 (fuel := 8) (laidMet_of_run' 8 (by kernel_rfl) (by kernel_rfl)) (by kernel_rfl) (by kernel_rfl)

set_option maxRecDepth 100000 in
theorem lifted (os : Os) (started : os.Started) (H : Type) (enc : TypeId × Value → H) :
    ReturnsInHanded {} Tryd.checked os 3 .any (fun w args => (Rows.fnExactFontTextSpec.pre enc Tryd.prog Tryd.f3 [] false w args ∧ laidMetH Tryd.prog laid3 w) ∧ sizedMet enc Tryd.prog Tryd.f3 (OpenSpec.ofChange Rows.fnExactFontTextSpec) false w args)
      (Rows.fnExactFontTextSpec.post enc Tryd.prog Tryd.f3 false true false false) := by
  refine returnsInHanded_of_change_and (C := Tryd.checked) (X := fun w _ => laidMetH Tryd.prog laid3 w) (fun _ _ _ hh h => h.of_heap hh) own started (by kernel_rfl) Tryd.func3
    (ChangeSpec.witness_shaped (enc := enc) (C := Tryd.checked) (os := os) (X := fun w _ => laidMetH Tryd.prog laid3 w) false (World.doorLaid Tryd.prog 400 os) #[.slice none 0 0] 8 rfl (World.shaped_of_RefB (by kernel_rfl) (by kernel_rfl)) (by kernel_rfl) (by kernel_rfl) (by kernel_rfl) (door_met os _)) ?_
  intro W base args ds gs before hval0 hW _ _ hL _
  have hval : ∀ (j : Nat) t v, Tryd.f3.params[j]? = some t → args[j]? = some v → Value.okWide Tryd.prog W .any base t v := hval0
  have hW' := hW
  obtain ⟨p, q, hA0, hV, rfl, hfz, hnd⟩ := hW
  have hA : DataW.TrodAll enc Tryd.prog W 0 (fun _ => true) true Tryd.f3.params.toList args.toList ds p := hA0
  rw [Tryd.params3] at hA hval
  obtain ⟨v0, vs0, d0, ds0, p0, q0, hargs, rfl, rfl, h0, r0⟩ := trodAll_cons hA
  obtain ⟨rfl, rfl, rfl⟩ := trodAll_nil r0
  obtain rfl : args = #[v0] := by cases args; simp_all
  obtain ⟨rfl, rfl⟩ := trodVars_none hV
  have k0 := h0
  have lt0 : ∀ x ∈ p0, x.block < W.heap.size := by obtain ⟨m, hm⟩ := k0; exact DataW.trod_lt m _ _ _ hm
  obtain ⟨A0, f0, cap0, rfl, hs0, ho0, hl0⟩ := open_sorts (hval 0 22 v0 rfl rfl) h0
  clear hA0 hval0
  refine (walk A0 f0 cap0 W hs0 ho0 hl0 (tab_of hL)).mono fun e W' ⟨he, bel⟩ => ?_
  subst he
  exact ⟨_, rfl, _, _, _, [], _, [], hW', trodAll_mk1 (shut_bool Tryd.underlying4 _), (trodAll_cons_mk (Below.trod laidOut (by kernel_rfl) (of_decide_eq_true (by kernel_rfl)) k0 bel lt0) trodAll_mk0), rfl, bel.frame _, fun h => by cases h⟩

theorem over : Rows.FnExactFontTextSaid :=
  OpenClaim.holds_of_wide 3 Tryd.f3 rfl rfl rfl rfl rfl rfl rfl ⟨rfl, rfl, rfl, rfl, rfl⟩ rfl rfl rfl rfl rfl (by kernel_rfl) Tryd.func3 (by kernel_rfl)
    (of_decide_eq_true (by kernel_rfl)) (by unfold Func.isWrapper; first | (rw [if_pos (by decide +kernel)]; kernel_rfl) | (rw [if_neg (by decide +kernel)]; exact ⟨rfl, rfl⟩))
    (fun os started H enc _ => lifted os started H enc)

theorem proved : Rows.FnExactFontTextCardSaid :=
  Claim7.holds_tied_plain_at .later [] [.data, .data, .data] true (true, "9f15c68569e1041cd77a92139a4acf12b052dc6998b191d30b86136021ab0c17") true
    over (fun _ h => by cases h) (by kernel_rfl) (fun _ h => by cases h) fnExactFontText_row_tie rfl ⟨rfl, rfl⟩ (by kernel_rfl) rfl
    (fun f fn hf hfn => by
      obtain rfl : f = 3 := Option.some.inj ((show Tryd.prog.funcNamed "loop.example/g01054/laws.FnExactFontText" = some 3 by kernel_rfl).symm.trans hf) |>.symm
      obtain rfl : fn = Tryd.f3 := (Option.some.inj (Tryd.func3.symm.trans hfn)).symm
      exact ⟨by kernel_rfl, fun j t ht => by
        rw [Tryd.params3] at ht
        have hm : t ∈ [22] := by simpa using Array.mem_of_getElem? ht
        have hall : ([22].all fun u => !Tryd.prog.wantsStandIn u) = true := by kernel_rfl
        exact (show Tryd.prog.wantsStandIn t = false by simpa using List.all_eq_true.1 hall t hm)⟩)
    (by kernel_rfl)
end Go.Proofs.YtbbaphhkdhdelaaDoor.T1.fnExactFontText

/-
  FnExactIsFont: for every input (a slice of sorts) the law returns true, and what it was given reads as before. Conditions: none beyond the given statement's own.
-/
import Derived.Test.YtacphcpjppkniaaRows
import Derived.Test.YtacphcpjppkniaaIsFont
import Derived.Test.YtacphcpjppkniaaOpen
import Derived.ProofKit
import Derived.OpenShut
import Derived.ShutString
import Derived.ChangeOld
import Derived.Lib.SmallJoins
namespace Go.Proofs.Ytacphcpjppkniaa.fnExactIsFont
open Go.ChangeShapes Go.WideShapes Go.ChangeAt Go.RowKit Go.Joins
open Go.ChangeMaps (open_string shut_string)
set_option linter.unusedVariables false

theorem own : ownKnob Try.prog.godebug = none := by kernel_rfl
theorem laidOut : laidOutB Try.prog = true := by kernel_rfl

set_option maxHeartbeats 1000000 in
theorem walk (A : Option Addr) (f : List (ByteArray × Int)) (cap : Nat) (w : World) (hs : SortsIn w 0 A f) (ho : CodesOk f) (hl : f.length ≤ maxLen) :
    Calls Try.prog 5 #[.slice A f.length cap] w fun e w' => e = .returned (.bool true) ∧ Below w.heap.size w w' := by
  have HS := Lib.hid hs; clear hs
  have HO := Lib.hid ho; clear ho
  have hfin := sz_len f
  go_enter Try.func5, Try.ntmps5
  go_wp2_with fail
  refine (szSortS_any f A cap 1048576 0 _ HS.out HO.out hl (by omega) (by omega)).mono ?_
  rintro e w1 ⟨rfl, hb1⟩
  generalize szSortSF f 1048576 = z at *
  by_cases h : z < 0
  · go_wp2
    go_ret
    exact ⟨rfl, hb1⟩
  · have hn := hfin (by omega)
    clear hfin
    have H1 := Lib.hid (HS.out.below hb1 (Nat.le_refl _))
    go_wp2_with fail
    refine (toSortS_any f A cap 0 _ H1.out hn).mono ?_
    rintro e w2 ⟨rfl, hb2, hf2⟩
    have hb2' := hb1.trans (hb2.mono hb1.size)
    have HF2 := Lib.hid (hf2.sorts (Nat.zero_le _)); clear hf2
    go_wp2_with fail
    refine (specIsFont_any f _ _ 0 _ HF2.out hn HO.out).mono ?_
    rintro e w3 ⟨rfl, hb3⟩
    have hb3' := hb2'.trans (hb3.mono hb2'.size)
    clear hb1 hb2 hb2' hb3 H1 HF2
    have H1 := Lib.hid (HS.out.below hb3' (Nat.le_refl _))
    go_wp2_with fail
    refine (toSortS_any f A cap 0 _ H1.out hn).mono ?_
    rintro e w4 ⟨rfl, hb4, hf4⟩
    have hb4' := hb3'.trans (hb4.mono hb3'.size)
    have HF4 := Lib.hid (hf4.sorts (Nat.zero_le _)); clear hf4
    go_wp2_with fail
    refine (implIsFont_any f _ _ 0 _ HF4.out hn HO.out).mono ?_
    rintro e w5 ⟨rfl, hb5⟩
    have hb5' := hb4'.trans (hb5.mono hb4'.size)
    have HF5 := Lib.hid (HF4.out.below hb5 (Nat.le_refl _))
    have hne : (fontB f != fontB f) = false := by simp
    clear hb3' hb4 hb4' hb5 HF4 H1
    have H1 := Lib.hid (HS.out.below hb5' (Nat.le_refl _))
    generalize fontB f = b at *
    go_wp2_with fail
    refine (toSortS_any f A cap 0 _ H1.out hn).mono ?_
    rintro e w6 ⟨rfl, hb6, hf6⟩
    have hb6' := hb5'.trans (hb6.mono hb5'.size)
    have HF6 := Lib.hid (hf6.sorts (Nat.zero_le _)); clear hf6
    have HF7 := Lib.hid (HF5.out.below hb6 (Nat.le_refl _))
    clear hb6 hb5' H1 HF5
    go_wp2_with fail
    refine (eqSortS_any f f _ _ _ _ 0 0 _ HF7.out HF6.out hl hl).mono ?_
    rintro e w7 ⟨rfl, hb7⟩
    have hb7' := hb6'.trans (hb7.mono hb6'.size)
    rw [show decide (f = f) = true from decide_eq_true rfl]
    clear hb7 hb6' HF6 HF7
    go_wp2
    go_ret
    exact ⟨rfl, hb7'⟩

set_option maxRecDepth 100000 in
theorem lifted (os : Os) (started : os.Started) (H : Type) (enc : TypeId × Value → H) :
    ReturnsInHanded {} Try.checked os 5 .any (Rows.fnExactIsFontSpec.pre6 enc Try.prog Try.f5 Rows.fnExactIsFontRow.domain false) (Rows.fnExactIsFontSpec.post enc Try.prog Try.f5 false true false false) := by
  refine returnsInHanded_of_change (C := Try.checked) own started (by kernel_rfl) Try.func5
    (ChangeSpec.witness6 (enc := enc) (C := Try.checked) false ⟨#[], #[.slice none 0 0], []⟩ 8 (by kernel_rfl) (by kernel_rfl) (by kernel_rfl) (by kernel_rfl)) ?_
  intro W base args ds gs before hval0 hW hcnd _
  have hval : ∀ (j : Nat) t v, Try.f5.params[j]? = some t → args[j]? = some v → Value.okWide Try.prog W .any base t v := hval0
  have hW' := hW
  obtain ⟨p, q, hA0, hV, rfl, hfz, hnd⟩ := hW
  have hA : DataW.TrodAll enc Try.prog W 0 (fun _ => true) true Try.f5.params.toList args.toList ds p := hA0
  rw [Try.params5] at hA hval
  obtain ⟨v0, vs0, d0, ds0, p0, q0, hargs, rfl, rfl, h0, r0⟩ := trodAll_cons hA
  obtain ⟨rfl, rfl, rfl⟩ := trodAll_nil r0
  obtain rfl : args = #[v0] := by cases args; simp_all
  obtain ⟨rfl, rfl⟩ := trodVars_none hV
  have k0 := h0
  have lt0 : ∀ x ∈ p0, x.block < W.heap.size := by obtain ⟨m, hm⟩ := k0; exact DataW.trod_lt m _ _ _ hm
  obtain ⟨A0, f0, cap0, rfl, hs0, ho0, hl0⟩ := open_sorts (hval 0 46 v0 rfl rfl) h0
  clear hA0 hval0
  refine (walk A0 f0 cap0 W hs0 ho0 hl0).mono fun e W' ⟨he, bel⟩ => ?_
  subst he
  exact ⟨_, rfl, _, _, _, [], _, [], hW', trodAll_mk1 (shut_bool Try.underlying4 _), (trodAll_cons_mk (Below.trod laidOut (by kernel_rfl) (of_decide_eq_true (by kernel_rfl)) k0 bel lt0) trodAll_mk0), rfl, bel.frame _, fun h => by cases h⟩

theorem over : Rows.fnExactIsFontRow.holds Try.pinned (OpenSpec.ofChange Rows.fnExactIsFontSpec) :=
  OpenClaim.holds_of_wide 5 Try.f5 rfl rfl rfl rfl rfl rfl rfl ⟨rfl, rfl, rfl, rfl, rfl⟩ rfl rfl rfl rfl rfl (by kernel_rfl) Try.func5 (by kernel_rfl)
    (of_decide_eq_true (by kernel_rfl)) (by unfold Func.isWrapper; first | (rw [if_pos (by decide +kernel)]; kernel_rfl) | (rw [if_neg (by decide +kernel)]; exact ⟨rfl, rfl⟩))
    (fun os started H enc _ => lifted os started H enc)

theorem proved : Rows.FnExactIsFontSaid := over
end Go.Proofs.Ytacphcpjppkniaa.fnExactIsFont

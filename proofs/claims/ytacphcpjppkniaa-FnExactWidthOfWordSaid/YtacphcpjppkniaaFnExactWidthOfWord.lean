/-
  FnExactWidthOfWord: for every input (a slice of sorts and a string) the law returns true, and what it was given reads as before. Conditions: none beyond the given statement's own.
-/
import Derived.Test.YtacphcpjppkniaaRows
import Derived.Test.YtacphcpjppkniaaWide
import Derived.Test.YtacphcpjppkniaaOpen
import Derived.ProofKit
import Derived.OpenShut
import Derived.ShutString
import Derived.ChangeOld
import Derived.Lib.SmallJoins
namespace Go.Proofs.Ytacphcpjppkniaa.fnExactWidthOfWord
open Go.ChangeShapes Go.WideShapes Go.ChangeAt Go.RowKit Go.Joins
open Go.ChangeMaps (open_string shut_string)
set_option linter.unusedVariables false

theorem own : ownKnob Try.prog.godebug = none := by kernel_rfl
theorem laidOut : laidOutB Try.prog = true := by kernel_rfl

set_option maxRecDepth 100000 in
set_option maxHeartbeats 4000000 in
theorem walk (A : Option Addr) (f : List (ByteArray × Int)) (cap : Nat) (s : ByteArray) (w : World) (hs : SortsIn w 0 A f) (ho : CodesOk f) (hl : f.length ≤ maxLen) (hsz : s.size ≤ maxLen) :
    Calls Try.prog 8 #[.slice A f.length cap, .string s] w fun e w' => e = .returned (.bool true) ∧ Below w.heap.size w w' := by
  have HS := Lib.hid hs; clear hs
  have HO := Lib.hid ho; clear ho
  have hfin := sz_len f
  by_cases hlong : (1048576 : Int) < s.size
  · go_enter Try.func8, Try.ntmps8
    go_wp2
    go_ret
    exact ⟨rfl, Below.refl _ _⟩
  · go_enter Try.func8, Try.ntmps8
    go_wp2_with fail
    refine (szSortS_any f A cap 1048576 0 _ HS.out HO.out hl (by omega) (by omega)).mono ?_
    rintro e w1 ⟨rfl, hb1⟩
    generalize szSortSF f 1048576 = z at *
    by_cases h : z < 0
    · go_wp2
      go_ret
      exact ⟨rfl, hb1⟩
    · have hn := hfin (by omega)
      clear hfin
      have H1 := Lib.hid (HS.out.below hb1 (Nat.le_refl _))
      go_wp2_with fail
      refine (toSortS_any f A cap 0 _ H1.out hn).mono ?_
      rintro e w2 ⟨rfl, hb2, hf2⟩
      have hb2' := hb1.trans (hb2.mono hb1.size)
      have HF2 := Lib.hid (hf2.sorts (Nat.zero_le _)); clear hf2
      go_wp2_with fail
      refine (specWidth_any f _ _ s 0 _ HF2.out hn HO.out hsz).mono ?_
      rintro e w3 ⟨rfl, hb3⟩
      have hb3' := hb2'.trans (hb3.mono hb2'.size)
      clear hb1 hb2 hb2' hb3 H1 HF2
      have H1 := Lib.hid (HS.out.below hb3' (Nat.le_refl _))
      go_wp2_with fail
      refine (toSortS_any f A cap 0 _ H1.out hn).mono ?_
      rintro e w4 ⟨rfl, hb4, hf4⟩
      have hb4' := hb3'.trans (hb4.mono hb3'.size)
      have HF4 := Lib.hid (hf4.sorts (Nat.zero_le _))
      clear hf4 hb3' H1
      go_wp2_with fail
      refine (implWidth_any f _ _ s 0 _ HF4.out hn HO.out hsz).mono ?_
      rintro e w5 ⟨rfl, hb5⟩
      have hb5' := hb4'.trans (hb5.mono hb4'.size)
      have HF5 := Lib.hid (HF4.out.below hb5 (Nat.le_refl _))
      have H1 := Lib.hid (HS.out.below hb5' (Nat.le_refl _))
      clear hb4 hb4' hb5 HF4
      generalize (sowF f s).isSome = b at *
      generalize wideF f ((sowF f s).getD []) = q at *
      have hbb : (b != b) = false := by simp
      have hqq : (q != q) = false := by simp
      go_wp2_with fail
      refine (toSortS_any f A cap 0 _ H1.out hn).mono ?_
      rintro e w7 ⟨rfl, hb7, hf7⟩
      have hb7' := hb5'.trans (hb7.mono hb5'.size)
      have HF7 := Lib.hid (HF5.out.below hb7 (Nat.le_refl _))
      have HF7' := Lib.hid (hf7.sorts (Nat.zero_le _))
      clear hb5' hb7 HF5 H1 hf7
      go_wp2_with fail
      refine (eqSortS_any f f _ _ _ _ 0 0 _ HF7.out HF7'.out hl hl).mono ?_
      rintro e w8 ⟨rfl, hb8⟩
      rw [show decide (f = f) = true from decide_eq_true rfl]
      have hb8' := hb7'.trans (hb8.mono hb7'.size)
      clear hb7' hb8 HF7 HF7'
      go_wp2
      go_ret
      exact ⟨rfl, hb8'⟩

set_option maxRecDepth 100000 in
theorem lifted (os : Os) (started : os.Started) (H : Type) (enc : TypeId × Value → H) :
    ReturnsInHanded {} Try.checked os 8 .any (Rows.fnExactWidthOfWordSpec.pre6 enc Try.prog Try.f8 Rows.fnExactWidthOfWordRow.domain false) (Rows.fnExactWidthOfWordSpec.post enc Try.prog Try.f8 false true false false) := by
  refine returnsInHanded_of_change (C := Try.checked) own started (by kernel_rfl) Try.func8
    (ChangeSpec.witness6 (enc := enc) (C := Try.checked) false ⟨#[], #[.slice none 0 0, .string .empty], []⟩ 8 (by kernel_rfl) (by kernel_rfl) (by kernel_rfl) (by kernel_rfl)) ?_
  intro W base args ds gs before hval0 hW hcnd _
  have hval : ∀ (j : Nat) t v, Try.f8.params[j]? = some t → args[j]? = some v → Value.okWide Try.prog W .any base t v := hval0
  have hW' := hW
  obtain ⟨p, q, hA0, hV, rfl, hfz, hnd⟩ := hW
  have hA : DataW.TrodAll enc Try.prog W 0 (fun _ => true) true Try.f8.params.toList args.toList ds p := hA0
  rw [Try.params8] at hA hval
  obtain ⟨v0, vs0, d0, ds0, p0, q0, hargs, rfl, rfl, h0, r0⟩ := trodAll_cons hA
  obtain ⟨v1, vs1, d1, ds1, p1, q1, rfl, rfl, rfl, h1, r1⟩ := trodAll_cons r0
  obtain ⟨rfl, rfl, rfl⟩ := trodAll_nil r1
  obtain rfl : args = #[v0, v1] := by cases args; simp_all
  obtain ⟨rfl, rfl⟩ := trodVars_none hV
  have k0 := h0
  have lt0 : ∀ x ∈ p0, x.block < W.heap.size := by obtain ⟨m, hm⟩ := k0; exact DataW.trod_lt m _ _ _ hm
  have k1 := h1
  have lt1 : ∀ x ∈ p1, x.block < W.heap.size := by obtain ⟨m, hm⟩ := k1; exact DataW.trod_lt m _ _ _ hm
  obtain ⟨A0, f0, cap0, rfl, hs0, ho0, hl0⟩ := open_sorts (hval 0 46 v0 rfl rfl) h0
  obtain ⟨s1, rfl, rfl, rfl, ws1⟩ := open_string Try.underlying9 (hval 1 9 v1 rfl rfl) h1
  clear hA0 hval0
  refine (walk A0 f0 cap0 s1 W hs0 ho0 hl0 ws1).mono fun e W' ⟨he, bel⟩ => ?_
  subst he
  exact ⟨_, rfl, _, _, _, [], _, [], hW', trodAll_mk1 (shut_bool Try.underlying4 _), (trodAll_cons_mk (Below.trod laidOut (by kernel_rfl) (of_decide_eq_true (by kernel_rfl)) k0 bel lt0) (trodAll_cons_mk (Below.trod laidOut (by kernel_rfl) (of_decide_eq_true (by kernel_rfl)) k1 bel lt1) trodAll_mk0)), rfl, bel.frame _, fun h => by cases h⟩

theorem over : Rows.fnExactWidthOfWordRow.holds Try.pinned (OpenSpec.ofChange Rows.fnExactWidthOfWordSpec) :=
  OpenClaim.holds_of_wide 8 Try.f8 rfl rfl rfl rfl rfl rfl rfl ⟨rfl, rfl, rfl, rfl, rfl⟩ rfl rfl rfl rfl rfl (by kernel_rfl) Try.func8 (by kernel_rfl)
    (of_decide_eq_true (by kernel_rfl)) (by unfold Func.isWrapper; first | (rw [if_pos (by decide +kernel)]; kernel_rfl) | (rw [if_neg (by decide +kernel)]; exact ⟨rfl, rfl⟩))
    (fun os started H enc _ => lifted os started H enc)

theorem proved : Rows.FnExactWidthOfWordSaid := over
end Go.Proofs.Ytacphcpjppkniaa.fnExactWidthOfWord

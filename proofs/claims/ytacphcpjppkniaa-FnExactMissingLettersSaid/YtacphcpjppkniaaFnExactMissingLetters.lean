/-
  FnExactMissingLetters: for every input (a slice of sorts and a slice of strings) the law returns true, and what it was given reads as before. Conditions: none beyond the given statement's own.
-/
import Derived.Test.YtacphcpjppkniaaRows
import Derived.Test.YtacphcpjppkniaaMil
import Derived.Test.YtacphcpjppkniaaOpenS
import Derived.ProofKit
import Derived.OpenShut
import Derived.ShutString
import Derived.ChangeOld
import Derived.Lib.SmallJoins
namespace Go.Proofs.Ytacphcpjppkniaa.fnExactMissingLetters
open Go.ChangeShapes Go.WideShapes Go.ChangeAt Go.RowKit Go.Joins
open Go.ChangeMaps (open_string shut_string)
set_option linter.unusedVariables false

theorem own : ownKnob Try.prog.godebug = none := by kernel_rfl
theorem laidOut : laidOutB Try.prog = true := by kernel_rfl

theorem szF_le : ∀ (f : List (ByteArray × Int)) (l : Int), 0 ≤ l → szF f l ≤ l
  | [], l, _ => Int.le_refl l
  | x :: r, l, h => by
    unfold szF
    split
    · omega
    · have := szF_le r (l - x.1.size) (by omega)
      omega
theorem szSortSF_le (f : List (ByteArray × Int)) : szSortSF f 1048576 ≤ 1048576 := by
  unfold szSortSF
  split
  · omega
  · have := szF_le f (1048576 - f.length) (by omega)
    omega

set_option maxRecDepth 100000 in
set_option maxHeartbeats 4000000 in
theorem walk (A : Option Addr) (f : List (ByteArray × Int)) (cap : Nat) (B : Option Addr) (ws : List ByteArray) (cap' : Nat) (w : World) (hs : SortsIn w 0 A f) (ho : CodesOk f) (hl : f.length ≤ maxLen) (hg : StrsIn w B ws) (ho' : StrsOk ws) (hl' : ws.length ≤ maxLen) :
    Calls Try.prog 11 #[.slice A f.length cap, .slice B ws.length cap'] w fun e w' => e = .returned (.bool true) ∧ Below w.heap.size w w' := by
  have HS := Lib.hid hs; clear hs
  have HG := Lib.hid hg; clear hg
  have HO := Lib.hid ho; clear ho
  have HO' := Lib.hid ho'; clear ho'
  have hfin := sz_len f
  have hle := szSortSF_le f
  go_enter Try.func11, Try.ntmps11
  go_wp2_with fail
  refine (szSortS_any f A cap 1048576 0 _ HS.out HO.out hl (by omega) (by omega)).mono ?_
  rintro e w1 ⟨rfl, hb1⟩
  generalize szSortSF f 1048576 = z at *
  by_cases h : z < 0
  · go_wp2
    go_ret
    exact ⟨rfl, hb1⟩
  have hn := hfin (by omega)
  clear hfin
  have hfin := szStrs_len ws z hle
  have H1 := Lib.hid (HG.out.below hb1 (Nat.le_refl _))
  go_wp2_with fail
  refine (szStringS_any ws B cap' z _ H1.out HO'.out hl' (by omega) hle).mono ?_
  rintro e w2 ⟨rfl, hb2⟩
  generalize szStringSF ws z = z2 at *
  have hb2' := hb1.trans (hb2.mono hb1.size)
  clear hb1 hb2 H1 hle h
  by_cases h : z2 < 0
  · go_wp2
    go_ret
    exact ⟨rfl, hb2'⟩
  have hn' := hfin (by omega)
  clear hfin
  -- the model's answer
  have H1 := Lib.hid (HS.out.below hb2' (Nat.le_refl _))
  go_wp2_with fail
  refine (toSortS_any f A cap 0 _ H1.out hn).mono ?_
  rintro e w3 ⟨rfl, hb3, hf3⟩
  have hb3' := hb2'.trans (hb3.mono hb2'.size)
  have HF3 := Lib.hid (hf3.sorts (Nat.zero_le _))
  have H1 := Lib.hid (HG.out.below hb3' (Nat.le_refl _))
  clear hb3 hf3 hb2'
  go_wp2_with fail
  refine (toStringS_any ws B cap' _ H1.out hn').mono ?_
  rintro e w4 ⟨rfl, hb4, hg4⟩
  have hb4' := hb3'.trans (hb4.mono hb3'.size)
  have HF4 := Lib.hid (HF3.out.below hb4 (Nat.le_refl _))
  have HG4 := Lib.hid hg4
  clear hb4 hg4 hb3' HF3 H1
  go_wp2_with fail
  refine (specMiss_any f _ _ ws _ _ _ HF4.out hn HO.out HG4.out HO'.out hn').mono ?_
  rintro e w5 ⟨hto, hb5⟩
  have hb5' := hb4'.trans (hb5.mono hb4'.size)
  clear hb5 hb4' HF4 HG4
  have HMT : Hid (∀ (W : World) (A : Option Addr) (c : Nat) (B : Option Addr) (c' : Nat), SortsIn W 0 A f → StrsIn W B ws → Calls Try.prog 46 #[.slice A f.length c, .slice B ws.length c'] W fun e w' => MissTo e (missV f ws) ∧ Below W.heap.size W w') := by
    show ∀ _, _
    exact fun W A c B c' h1 h2 => implMiss_any f A c ws B c' W h1 hn HO.out h2 HO'.out hn'
  generalize missV f ws = pp at *
  obtain ⟨s0, b0⟩ := pp
  unfold MissTo at hto
  subst hto
  have hbb : (b0 != b0) = false := by simp
  have hss : (!s0.toList == s0.toList) = false := by simp
  -- what is handed over
  have H1 := Lib.hid (HS.out.below hb5' (Nat.le_refl _))
  go_wp2_with fail
  refine (toSortS_any f A cap 0 _ H1.out hn).mono ?_
  rintro e w6 ⟨rfl, hb6, hf6⟩
  have hb6' := hb5'.trans (hb6.mono hb5'.size)
  have HF6 := Lib.hid (hf6.sorts (Nat.zero_le _))
  have H2 := Lib.hid (HG.out.below hb6' (Nat.le_refl _))
  clear hb6 hf6 hb5' H1
  go_wp2_with fail
  refine (toStringS_any ws B cap' _ H2.out hn').mono ?_
  rintro e w7 ⟨rfl, hb7, hg7⟩
  have hb7' := hb6'.trans (hb7.mono hb6'.size)
  have HF7 := Lib.hid (HF6.out.below hb7 (Nat.le_refl _))
  have HG7 := Lib.hid hg7
  clear hb7 hg7 hb6' HF6 H2
  -- the code's answer
  go_wp2_with fail
  refine (HMT.out _ _ _ _ _ HF7.out HG7.out).mono ?_
  rintro e w8 ⟨hto, hb8⟩
  unfold MissTo at hto
  subst hto
  have hb8' := hb7'.trans (hb8.mono hb7'.size)
  have HF8 := Lib.hid (HF7.out.below hb8 (Nat.le_refl _))
  have HG8 := Lib.hid (HG7.out.below hb8 (Nat.le_refl _))
  have H1 := Lib.hid (HS.out.below hb8' (Nat.le_refl _))
  clear hb8 hb7' HF7 HG7
  -- the arguments are as they were
  go_wp2_with fail
  refine (toSortS_any f A cap 0 _ H1.out hn).mono ?_
  rintro e w9 ⟨rfl, hb9, hf9⟩
  have hb9' := hb8'.trans (hb9.mono hb8'.size)
  have HF9 := Lib.hid (HF8.out.below hb9 (Nat.le_refl _))
  have HG9 := Lib.hid (HG8.out.below hb9 (Nat.le_refl _))
  have HF9' := Lib.hid (hf9.sorts (Nat.zero_le _))
  clear hb9 hf9 hb8' HF8 HG8 H1
  go_wp2_with fail
  refine (eqSortS_any f f _ _ _ _ 0 0 _ HF9.out HF9'.out hl hl).mono ?_
  rintro e w10 ⟨rfl, hb10⟩
  rw [show decide (f = f) = true from decide_eq_true rfl]
  have hb10' := hb9'.trans (hb10.mono hb9'.size)
  have HG10 := Lib.hid (HG9.out.below hb10 (Nat.le_refl _))
  have H1 := Lib.hid (HG.out.below hb10' (Nat.le_refl _))
  clear hb10 hb9' HF9 HF9' HG9
  go_wp2_with fail
  refine (toStringS_any ws B cap' _ H1.out hn').mono ?_
  rintro e w11 ⟨rfl, hb11, hg11⟩
  have hb11' := hb10'.trans (hb11.mono hb10'.size)
  have HG11 := Lib.hid (HG10.out.below hb11 (Nat.le_refl _))
  have HG11' := Lib.hid hg11
  clear hb11 hg11 hb10' HG10 H1
  go_wp2_with fail
  refine (eqStringS_any ws ws _ _ _ _ _ HG11.out HG11'.out hl' hl').mono ?_
  rintro e w12 ⟨rfl, hb12⟩
  rw [show decide (ws = ws) = true from decide_eq_true rfl]
  have hb12' := hb11'.trans (hb12.mono hb11'.size)
  go_wp2
  go_ret
  exact ⟨rfl, hb12'⟩

set_option maxRecDepth 100000 in
theorem lifted (os : Os) (started : os.Started) (H : Type) (enc : TypeId × Value → H) :
    ReturnsInHanded {} Try.checked os 11 .any (Rows.fnExactMissingLettersSpec.pre6 enc Try.prog Try.f11 Rows.fnExactMissingLettersRow.domain false) (Rows.fnExactMissingLettersSpec.post enc Try.prog Try.f11 false true false false) := by
  refine returnsInHanded_of_change (C := Try.checked) own started (by kernel_rfl) Try.func11
    (ChangeSpec.witness6 (enc := enc) (C := Try.checked) false ⟨#[], #[.slice none 0 0, .slice none 0 0], []⟩ 8 (by kernel_rfl) (by kernel_rfl) (by kernel_rfl) (by kernel_rfl)) ?_
  intro W base args ds gs before hval0 hW hcnd _
  have hval : ∀ (j : Nat) t v, Try.f11.params[j]? = some t → args[j]? = some v → Value.okWide Try.prog W .any base t v := hval0
  have hW' := hW
  obtain ⟨p, q, hA0, hV, rfl, hfz, hnd⟩ := hW
  have hA : DataW.TrodAll enc Try.prog W 0 (fun _ => true) true Try.f11.params.toList args.toList ds p := hA0
  rw [Try.params11] at hA hval
  obtain ⟨v0, vs0, d0, ds0, p0, q0, hargs, rfl, rfl, h0, r0⟩ := trodAll_cons hA
  obtain ⟨v1, vs1, d1, ds1, p1, q1, rfl, rfl, rfl, h1, r1⟩ := trodAll_cons r0
  obtain ⟨rfl, rfl, rfl⟩ := trodAll_nil r1
  obtain rfl : args = #[v0, v1] := by cases args; simp_all
  obtain ⟨rfl, rfl⟩ := trodVars_none hV
  have k0 := h0
  have lt0 : ∀ x ∈ p0, x.block < W.heap.size := by obtain ⟨m, hm⟩ := k0; exact DataW.trod_lt m _ _ _ hm
  have k1 := h1
  have lt1 : ∀ x ∈ p1, x.block < W.heap.size := by obtain ⟨m, hm⟩ := k1; exact DataW.trod_lt m _ _ _ hm
  obtain ⟨A0, f0, cap0, rfl, hs0, ho0, hl0⟩ := open_sorts (hval 0 46 v0 rfl rfl) h0
  obtain ⟨A1, f1, cap1, rfl, hs1, ho1, hl1⟩ := open_strs (hval 1 31 v1 rfl rfl) h1
  clear hA0 hval0
  refine (walk A0 f0 cap0 A1 f1 cap1 W hs0 ho0 hl0 hs1 ho1 hl1).mono fun e W' ⟨he, bel⟩ => ?_
  subst he
  exact ⟨_, rfl, _, _, _, [], _, [], hW', trodAll_mk1 (shut_bool Try.underlying4 _), (trodAll_cons_mk (Below.trod laidOut (by kernel_rfl) (of_decide_eq_true (by kernel_rfl)) k0 bel lt0) (trodAll_cons_mk (Below.trod laidOut (by kernel_rfl) (of_decide_eq_true (by kernel_rfl)) k1 bel lt1) trodAll_mk0)), rfl, bel.frame _, fun h => by cases h⟩

theorem over : Rows.fnExactMissingLettersRow.holds Try.pinned (OpenSpec.ofChange Rows.fnExactMissingLettersSpec) :=
  OpenClaim.holds_of_wide 11 Try.f11 rfl rfl rfl rfl rfl rfl rfl ⟨rfl, rfl, rfl, rfl, rfl⟩ rfl rfl rfl rfl rfl (by kernel_rfl) Try.func11 (by kernel_rfl)
    (of_decide_eq_true (by kernel_rfl)) (by unfold Func.isWrapper; first | (rw [if_pos (by decide +kernel)]; kernel_rfl) | (rw [if_neg (by decide +kernel)]; exact ⟨rfl, rfl⟩))
    (fun os started H enc _ => lifted os started H enc)

theorem proved : Rows.FnExactMissingLettersSaid := over
end Go.Proofs.Ytacphcpjppkniaa.fnExactMissingLetters

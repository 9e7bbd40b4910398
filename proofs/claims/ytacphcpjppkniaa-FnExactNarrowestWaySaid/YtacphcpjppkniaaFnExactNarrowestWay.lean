/-
  FnExactNarrowestWay: for every input (a slice of sorts and a string) the law returns true, and what it was given reads as before. Conditions: none beyond the given statement's own.
-/
import Derived.Test.YtacphcpjppkniaaRows
import Derived.Test.YtacphcpjppkniaaNsp
import Derived.Test.YtacphcpjppkniaaOpen
import Derived.ProofKit
import Derived.OpenShut
import Derived.ShutString
import Derived.ChangeOld
import Derived.Lib.SmallJoins
namespace Go.Proofs.Ytacphcpjppkniaa.fnExactNarrowestWay
open Go.ChangeShapes Go.WideShapes Go.ChangeAt Go.RowKit Go.Joins
open Go.ChangeMaps (open_string shut_string)
set_option linter.unusedVariables false

theorem own : ownKnob Try.prog.godebug = none := by kernel_rfl
theorem laidOut : laidOutB Try.prog = true := by kernel_rfl

theorem nar_len (f : List (ByteArray × Int)) (s : ByteArray) : (intL ((narW f s).getD [])).length ≤ 16 := by
  rw [intL_len]
  cases h : narW f s with
  | none => simp
  | some l =>
    cases hv : (fontB f && isWordF s)
    · unfold narW at h; rw [hv] at h; cases h
    · have hv' := hv
      simp at hv'
      have hF := fontB_iff.1 hv'.1
      have hw := word_size hv'.2
      unfold narW at h
      rw [hv, if_pos rfl] at h
      have := (tabW_chain (s := s) hF s.size (Nat.le_refl _)).mem hF l 0 h
      simp; omega

set_option maxRecDepth 100000 in
set_option maxHeartbeats 4000000 in
theorem walk (A : Option Addr) (f : List (ByteArray × Int)) (cap : Nat) (s : ByteArray) (w : World) (hs : SortsIn w 0 A f) (ho : CodesOk f) (hl : f.length ≤ maxLen) (hsz : s.size ≤ maxLen) :
    Calls Try.prog 9 #[.slice A f.length cap, .string s] w fun e w' => e = .returned (.bool true) ∧ Below w.heap.size w w' := by
  have HS := Lib.hid hs; clear hs
  have HO := Lib.hid ho; clear ho
  have hfin := sz_len f
  by_cases hlong : (1048576 : Int) < s.size
  · go_enter Try.func9, Try.ntmps9
    go_wp2
    go_ret
    exact ⟨rfl, Below.refl _ _⟩
  · go_enter Try.func9, Try.ntmps9
    go_wp2_with fail
    refine (szSortS_any f A cap 1048576 0 _ HS.out HO.out hl (by omega) (by omega)).mono ?_
    rintro e w1 ⟨rfl, hb1⟩
    generalize szSortSF f 1048576 = z at *
    by_cases h : z < 0
    · go_wp2
      go_ret
      exact ⟨rfl, hb1⟩
    · have hn := hfin (by omega)
      clear hfin
      -- the model's answer
      have H1 := Lib.hid (HS.out.below hb1 (Nat.le_refl _))
      go_wp2_with fail
      refine (toSortS_any f A cap 0 _ H1.out hn).mono ?_
      rintro e w2 ⟨rfl, hb2, hf2⟩
      have hb2' := hb1.trans (hb2.mono hb1.size)
      have HF2 := Lib.hid (hf2.sorts (Nat.zero_le _)); clear hf2
      go_wp2_with fail
      refine (specNar_any f _ _ s _ HF2.out hn HO.out hsz).mono ?_
      intro e w3 hto
      obtain ⟨A0, c0, rfl, hb3, ho3⟩ := hto
      have hb3' := hb2'.trans (hb3.mono hb2'.size)
      clear hb1 hb2 hb2' hb3 H1 HF2
      -- the slice that is handed over
      have H1 := Lib.hid (HS.out.below hb3' (Nat.le_refl _))
      go_wp2_with fail
      refine (toSortS_any f A cap 0 _ H1.out hn).mono ?_
      rintro e w4 ⟨rfl, hb4, hf4⟩
      have hb4' := hb3'.trans (hb4.mono hb3'.size)
      have hX : w.heap.size ≤ w3.heap.size := hb3'.size
      have O3 := Lib.hid (ho3.below hb4)
      have HF4 := Lib.hid (hf4.sorts (Nat.zero_le _))
      have OX := Lib.hid (hf4.own hl)
      clear ho3 hf4 hb3' H1
      -- the code's answer
      go_wp2_with fail
      refine (implNar_any f _ _ s _ HF4.out hn HO.out hsz).mono ?_
      intro e w5 hto
      obtain ⟨vg, rfl, hb5, ho5⟩ := hto
      obtain ⟨Ag, cg, rfl⟩ := own_form ho5
      have hb5' := hb4'.trans (hb5.mono hb4'.size)
      have O3' := Lib.hid (O3.out.below hb5)
      have OX' := Lib.hid (own_below OX.out hb5)
      have BG := Lib.hid (own_from ho5 (own_block_lt OX.out rfl))
      have OG := Lib.hid (own_up ho5)
      have HF5 := Lib.hid (HF4.out.below hb5 (Nat.le_refl _))
      clear hb4 hb4' hb5 ho5 O3 OX HF4
      have hlen := nar_len f s
      have hmx : (intL ((narW f s).getD [])).length ≤ maxLen := by unfold maxLen; omega
      have HSO : Hid (∀ (F : List (ByteArray × Int)) (A : Option Addr) (c : Nat) (W : World), F = f → SortsIn W 0 A F → Calls Try.prog 21 #[.slice A F.length c, .string s] W fun e w' => NarTo f W w' e (narW f s)) := by
        show ∀ _, _
        rintro F A c W rfl hF
        exact implNar_any F A c s W hF hn HO.out hsz
      have HGET : Hid (∀ (W W' : World) (e : Ending), NarTo f W W' e (narW f s) → ∃ v, e = .returned (.tuple #[v, .int .i64 (widthW f (narW f s)), .bool (narW f s).isSome]) ∧ Below W.heap.size W W' ∧ W'.ownsRow W.heap.size 3 1 v (intL ((narW f s).getD [])).length (intsZ (intL ((narW f s).getD [])))) := by
        show ∀ _, _
        exact fun W W' e h => h
      generalize (narW f s).isSome = b at *
      generalize widthW f (narW f s) = wl at *
      generalize intL ((narW f s).getD []) = L at *
      have hbb : (b != b) = false := by simp
      have hww : (wl != wl) = false := by simp
      -- equal answers
      go_wp2_with fail
      refine (eqIntS_any L L _ _ _ _ _ (own_in OG.out) (O3'.out.ints) hmx hmx).mono ?_
      rintro e w6 ⟨rfl, hb6⟩
      rw [show decide (L = L) = true from decide_eq_true rfl]
      have hb6' := hb5'.trans (hb6.mono hb5'.size)
      have O36 := Lib.hid (O3'.out.below hb6)
      have OX6 := Lib.hid (own_below OX'.out hb6)
      have OG6 := Lib.hid (own_below OG.out hb6)
      have HF6 := Lib.hid (HF5.out.below hb6 (Nat.le_refl _))
      have H1 := Lib.hid (HS.out.below hb6' (Nat.le_refl _))
      clear hb5' hb6 O3' OX' OG HF5
      -- the argument is as it was
      go_wp2_with fail
      refine (toSortS_any f A cap 0 _ H1.out hn).mono ?_
      rintro e w7 ⟨rfl, hb7, hf7⟩
      have hb7' := hb6'.trans (hb7.mono hb6'.size)
      have O37 := Lib.hid (O36.out.below hb7)
      have OX7 := Lib.hid (own_below OX6.out hb7)
      have OG7 := Lib.hid (own_below OG6.out hb7)
      have HF7 := Lib.hid (HF6.out.below hb7 (Nat.le_refl _))
      have HF7' := Lib.hid (hf7.sorts (Nat.zero_le _))
      clear hb6' hb7 O36 OX6 OG6 HF6 H1 hf7
      go_wp2_with fail
      refine (eqSortS_any f f _ _ _ _ 0 0 _ HF7.out HF7'.out hl hl).mono ?_
      rintro e w8 ⟨rfl, hb8⟩
      rw [show decide (f = f) = true from decide_eq_true rfl]
      have hb8' := hb7'.trans (hb8.mono hb7'.size)
      have O38 := Lib.hid (O37.out.below hb8)
      have OX8 := Lib.hid (own_below OX7.out hb8)
      have OG8 := Lib.hid (own_below OG7.out hb8)
      clear hb7' hb8 O37 OX7 OG7 HF7 HF7'
      -- marks in the argument leave the answer
      go_wp2_with fail
      refine (markSortS_any 1 f.length _ _ _ _ OX8.out (by omega) (by omega)).mono ?_
      rintro e w9 ⟨rfl, hg9, _⟩
      have hb9' := hb8'.grown hg9 hb8'.size (by rintro k hk; injection hk with hk; subst hk; exact hX)
      have O39 := Lib.hid (O38.out.grown hg9 (fun k e => by have h1 : w3.heap.size = k := Option.some.inj e; omega))
      have OG9 := Lib.hid (own_grown OG8.out hg9 (fun k hk e => by have h1 : w3.heap.size = k := Option.some.inj e; have h2 : w3.heap.size < k := BG.out k hk; omega))
      clear hb8' hg9 O38 OX8 OG8
      go_wp2_with fail
      refine (eqIntS_any L L _ _ _ _ _ (own_in OG9.out) (O39.out.ints) hmx hmx).mono ?_
      rintro e w10 ⟨rfl, hb10⟩
      rw [show decide (L = L) = true from decide_eq_true rfl]
      have hb10' := hb9'.trans (hb10.mono hb9'.size)
      have O310 := Lib.hid (O39.out.below hb10)
      have OG10 := Lib.hid (own_below OG9.out hb10)
      clear hb9' hb10 O39 OG9
      -- marks in the answer
      go_wp2_with fail
      refine (markIntS_any 1 L.length 0 _ _ _ OG10.out (by omega) (by omega)).mono ?_
      rintro e w11 ⟨rfl, hg11, om11⟩
      have hb11' := hb10'.grown hg11 hb10'.size (fun k hk => by have h2 : w3.heap.size < k := BG.out k hk; omega)
      have O311 := Lib.hid (O310.out.grown hg11 (fun k e => by have h2 : w3.heap.size < k := BG.out k e; omega))
      have OM11 := Lib.hid om11
      have hqm : (1 + (L.length : Int) != 1 + (L.length : Int)) = false := by simp
      clear hb10' hg11 O310 OG10 om11
      go_wp2_with fail
      refine (heldIntS_any 1 L.length _ _ _ (own_in OM11.out) (by omega) (by omega)).mono ?_
      rintro e w12 ⟨rfl, rfl⟩
      have H1 := Lib.hid (HS.out.below hb11' (Nat.le_refl _))
      -- another call
      go_wp2_with fail
      refine (toSortS_any f A cap 0 _ H1.out hn).mono ?_
      rintro e w13 ⟨rfl, hb13, hf13⟩
      have hb13' := hb11'.trans (hb13.mono hb11'.size)
      have HF13 := Lib.hid (hf13.sorts (Nat.zero_le _))
      have O313 := Lib.hid (O311.out.below hb13)
      have OM13 := Lib.hid (own_below OM11.out hb13)
      clear hb11' hb13 hf13 H1 O311 OM11
      go_wp2_with fail
      refine (HSO.out f _ _ _ rfl HF13.out).mono ?_
      intro e w14 hto
      obtain ⟨vh, rfl, hb14, ho14⟩ := HGET.out _ _ _ hto
      obtain ⟨Ah, ch, rfl⟩ := own_form ho14
      have hb14' := hb13'.trans (hb14.mono hb13'.size)
      have O314 := Lib.hid (O313.out.below hb14)
      have OM14 := Lib.hid (own_below OM13.out hb14)
      have OH14 := Lib.hid ho14
      clear hb13' hb14 ho14 hto HF13 O313 OM13
      go_wp2_with fail
      refine (eqIntS_any L L _ _ _ _ _ (own_in OH14.out) (O314.out.ints) hmx hmx).mono ?_
      rintro e w15 ⟨rfl, hb15⟩
      rw [show decide (L = L) = true from decide_eq_true rfl]
      have hb15' := hb14'.trans (hb15.mono hb14'.size)
      have OM15 := Lib.hid (own_below OM14.out hb15)
      clear hb14' hb15 O314 OM14 OH14
      go_wp2_with fail
      refine (heldIntS_any 1 L.length _ _ _ (own_in OM15.out) (by omega) (by omega)).mono ?_
      rintro e w16 ⟨rfl, rfl⟩
      go_wp2
      go_ret
      exact ⟨rfl, hb15'⟩

set_option maxRecDepth 100000 in
theorem lifted (os : Os) (started : os.Started) (H : Type) (enc : TypeId × Value → H) :
    ReturnsInHanded {} Try.checked os 9 .any (Rows.fnExactNarrowestWaySpec.pre6 enc Try.prog Try.f9 Rows.fnExactNarrowestWayRow.domain false) (Rows.fnExactNarrowestWaySpec.post enc Try.prog Try.f9 false true false false) := by
  refine returnsInHanded_of_change (C := Try.checked) own started (by kernel_rfl) Try.func9
    (ChangeSpec.witness6 (enc := enc) (C := Try.checked) false ⟨#[], #[.slice none 0 0, .string .empty], []⟩ 8 (by kernel_rfl) (by kernel_rfl) (by kernel_rfl) (by kernel_rfl)) ?_
  intro W base args ds gs before hval0 hW hcnd _
  have hval : ∀ (j : Nat) t v, Try.f9.params[j]? = some t → args[j]? = some v → Value.okWide Try.prog W .any base t v := hval0
  have hW' := hW
  obtain ⟨p, q, hA0, hV, rfl, hfz, hnd⟩ := hW
  have hA : DataW.TrodAll enc Try.prog W 0 (fun _ => true) true Try.f9.params.toList args.toList ds p := hA0
  rw [Try.params9] at hA hval
  obtain ⟨v0, vs0, d0, ds0, p0, q0, hargs, rfl, rfl, h0, r0⟩ := trodAll_cons hA
  obtain ⟨v1, vs1, d1, ds1, p1, q1, rfl, rfl, rfl, h1, r1⟩ := trodAll_cons r0
  obtain ⟨rfl, rfl, rfl⟩ := trodAll_nil r1
  obtain rfl : args = #[v0, v1] := by cases args; simp_all
  obtain ⟨rfl, rfl⟩ := trodVars_none hV
  have k0 := h0
  have lt0 : ∀ x ∈ p0, x.block < W.heap.size := by obtain ⟨m, hm⟩ := k0; exact DataW.trod_lt m _ _ _ hm
  have k1 := h1
  have lt1 : ∀ x ∈ p1, x.block < W.heap.size := by obtain ⟨m, hm⟩ := k1; exact DataW.trod_lt m _ _ _ hm
  obtain ⟨A0, f0, cap0, rfl, hs0, ho0, hl0⟩ := open_sorts (hval 0 46 v0 rfl rfl) h0
  obtain ⟨s1, rfl, rfl, rfl, ws1⟩ := open_string Try.underlying9 (hval 1 9 v1 rfl rfl) h1
  clear hA0 hval0
  refine (walk A0 f0 cap0 s1 W hs0 ho0 hl0 ws1).mono fun e W' ⟨he, bel⟩ => ?_
  subst he
  exact ⟨_, rfl, _, _, _, [], _, [], hW', trodAll_mk1 (shut_bool Try.underlying4 _), (trodAll_cons_mk (Below.trod laidOut (by kernel_rfl) (of_decide_eq_true (by kernel_rfl)) k0 bel lt0) (trodAll_cons_mk (Below.trod laidOut (by kernel_rfl) (of_decide_eq_true (by kernel_rfl)) k1 bel lt1) trodAll_mk0)), rfl, bel.frame _, fun h => by cases h⟩

theorem over : Rows.fnExactNarrowestWayRow.holds Try.pinned (OpenSpec.ofChange Rows.fnExactNarrowestWaySpec) :=
  OpenClaim.holds_of_wide 9 Try.f9 rfl rfl rfl rfl rfl rfl rfl ⟨rfl, rfl, rfl, rfl, rfl⟩ rfl rfl rfl rfl rfl (by kernel_rfl) Try.func9 (by kernel_rfl)
    (of_decide_eq_true (by kernel_rfl)) (by unfold Func.isWrapper; first | (rw [if_pos (by decide +kernel)]; kernel_rfl) | (rw [if_neg (by decide +kernel)]; exact ⟨rfl, rfl⟩))
    (fun os started H enc _ => lifted os started H enc)

theorem proved : Rows.FnExactNarrowestWaySaid := over
end Go.Proofs.Ytacphcpjppkniaa.fnExactNarrowestWay

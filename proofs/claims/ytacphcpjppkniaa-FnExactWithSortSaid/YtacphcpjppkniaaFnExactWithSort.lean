/-
  FnExactWithSort: for every input (a slice of sorts and a sort) the law returns true, and what it was given reads as before. Conditions: none beyond the given statement's own.
-/
import Derived.Test.YtacphcpjppkniaaRows
import Derived.Test.YtacphcpjppkniaaWs
import Derived.Test.YtacphcpjppkniaaHeld
import Derived.Test.YtacphcpjppkniaaOpen
import Derived.ProofKit
import Derived.OpenShut
import Derived.ShutString
import Derived.ChangeOld
import Derived.Lib.SmallJoins
namespace Go.Proofs.Ytacphcpjppkniaa.fnExactWithSort
open Go.ChangeShapes Go.WideShapes Go.ChangeAt Go.RowKit Go.Joins
open Go.ChangeMaps (open_string shut_string)
set_option linter.unusedVariables false

theorem own : ownKnob Try.prog.godebug = none := by kernel_rfl
theorem laidOut : laidOutB Try.prog = true := by kernel_rfl

set_option maxRecDepth 100000 in
set_option maxHeartbeats 8000000 in
theorem walk (A : Option Addr) (f : List (ByteArray × Int)) (cap : Nat) (s : ByteArray) (z : Int) (w : World) (hs : SortsIn w 0 A f) (ho : CodesOk f) (hl : f.length ≤ maxLen) (hsz : s.size ≤ maxLen) :
    Calls Try.prog 12 #[.slice A f.length cap, .agg #[.string s, .int .i64 z]] w fun e w' => e = .returned (.bool true) ∧ Below w.heap.size w w' := by
  obtain ⟨w0, hw0⟩ : ∃ w0 : World, w0 = w.alloc (.cells #[.string s, .int .i64 z] 41) := ⟨_, rfl⟩
  have hA : Below w.heap.size w w0 := by rw [hw0]; exact (Below.refl _ _).alloc (Nat.le_refl _) _
  have hbx : w.heap.size < w0.heap.size := by rw [hw0]; simp
  have hx0 : w0.cell? ⟨w.heap.size, 0, none⟩ = some (.string s) := by rw [hw0]; simp
  have hx1 : w0.cell? ⟨w.heap.size, 1, none⟩ = some (.int .i64 z) := by rw [hw0]; simp
  have HS := Lib.hid (hs.below hA (Nat.le_refl _)); clear hs
  have HA := Lib.hid hA; clear hA
  have HO := Lib.hid ho; clear ho
  have hfin := sz_len f
  have hfin2 := sz_range f 1048576 (by omega)
  have HX0 := Lib.hid hx0; have HX1 := Lib.hid hx1
  clear hx0 hx1
  have HBOX : Hid (∀ W : World, Below w0.heap.size w0 W → w.heap.size < W.heap.size ∧ W.cell? ⟨w.heap.size, 0, none⟩ = some (.string s) ∧ W.cell? ⟨w.heap.size, 1, none⟩ = some (.int .i64 z)) := by
    show ∀ W, _
    intro W h
    exact ⟨Nat.lt_of_lt_of_le hbx h.size, (h.cell (p := ⟨w.heap.size, 0, none⟩) hbx).trans HX0.out, (h.cell (p := ⟨w.heap.size, 1, none⟩) hbx).trans HX1.out⟩
  have HW0 := Lib.hid hw0; clear hw0
  go_enter Try.func12, Try.ntmps12
  go_wp2_with fail
  rw [← HW0.out]
  refine (szSortS_any f A cap 1048576 0 _ HS.out HO.out hl (by omega) (by omega)).mono ?_
  rintro e w1 ⟨rfl, hb1⟩
  generalize szSortSF f 1048576 = q at *
  by_cases h : q < 0
  · go_wp2
    go_ret
    exact ⟨rfl, HA.out.trans (hb1.mono HA.out.size)⟩
  · have hn := hfin (by omega)
    obtain ⟨hbx1, hx0, hx1⟩ := HBOX.out _ hb1
    clear hfin
    go_wp2_with fail
    refine (szSort_any _ _ _ _ hsz (by omega) hfin2).mono ?_
    rintro e w1' ⟨rfl, hb1'⟩
    have hbW := hb1.trans (hb1'.mono hb1.size)
    clear hb1 hb1' hx0 hx1 hbx1 hfin2 h
    generalize (if q < (s.size : Int) then (-1 : Int) else q - s.size) = q2 at *
    by_cases h : q2 < 0
    · go_wp2
      go_ret
      exact ⟨rfl, HA.out.trans (hbW.mono HA.out.size)⟩
    · obtain ⟨hbx1, hx0, hx1⟩ := HBOX.out _ hbW
      have HX : Hid (SortsIn w1'.drew 0 A f) := HS.out.below hbW.drew (Nat.le_refl _)
      have tok1 : True := trivial
      go_wp2_with fail
      go_region_law (first
        | (go_simp; go_at_call 32; have _t := tok1; refine (toSortS_any f A cap 0 _ HX.out hn).mono ?_; rintro e u1 ⟨rfl, hc1, hf1⟩; clear tok1; have hbT : Below w0.heap.size w0 u1 := hbW.drew.trans (hc1.mono hbW.drew.size); have HFTA := Lib.hid (hf1.sorts (Nat.zero_le _)); obtain ⟨_, hy0, hy1⟩ := HBOX.out _ hbT; clear hf1)
        | (go_simp; go_at_call 28; have HFT2 := HFTA; refine (toSort_any _ _ _).mono ?_; rintro e u2 ⟨rfl, hc2⟩; have hbU : Below w0.heap.size w0 u2 := hbT.trans (hc2.mono hbT.size); have HFU := Lib.hid (HFT2.out.below hc2 (Nat.le_refl _)); clear HFT2)
        | (go_simp; go_at_call 28; refine (toSort_any _ _ _).mono ?_; rintro e u1 ⟨rfl, hc1⟩; clear tok1; have hbT : Below w0.heap.size w0 u1 := hbW.drew.trans (hc1.mono hbW.drew.size); have HYA := Lib.hid (HS.out.below hbT (Nat.le_refl _)))
        | (go_simp; go_at_call 32; have HY2 := HYA; refine (toSortS_any f A cap 0 _ HY2.out hn).mono ?_; rintro e u2 ⟨rfl, hc2, hf2⟩; have hbU : Below w0.heap.size w0 u2 := hbT.trans (hc2.mono hbT.size); have HFU := Lib.hid (hf2.sorts (Nat.zero_le _)); clear hf2 HY2)
        | (go_simp; go_at_call 47; refine (specWs_any f _ _ s z 0 _ HFU.out hn HO.out (Nat.le_refl _) hsz).mono ?_; intro e w3 hto; obtain ⟨v0, rfl, hb3, ho3⟩ := hto; have hb3' : Below w0.heap.size w0 w3 := hbU.trans (hb3.mono hbU.size)))
      all_goals
        obtain ⟨A0, c0, rfl⟩ := own_form_f ho3
        have H1 := Lib.hid (HS.out.below hb3' (Nat.le_refl _))
        go_wp2_with fail
        refine (toSortS_any f A cap 0 _ H1.out hn).mono ?_
        rintro e w4 ⟨rfl, hb4, hf4⟩
        have hb4' := hb3'.trans (hb4.mono hb3'.size)
        have hX : w0.heap.size ≤ w3.heap.size := hb3'.size
        have O3 := Lib.hid (own_up (own_below ho3 hb4))
        have B3 := Lib.hid (own_bound ho3)
        have HF4 := Lib.hid (hf4.sorts (Nat.zero_le _))
        have OX := Lib.hid (hf4.own hl)
        obtain ⟨_, hv0, hv1⟩ := HBOX.out _ hb4'
        clear ho3 hf4 hb3' H1 hb3 hbU hbT hc1 hc2
        go_wp2_with fail
        refine (toSort_any _ _ _).mono ?_
        rintro e u5 ⟨rfl, hd5⟩
        have hd5' := hb4'.trans (hd5.mono hb4'.size)
        have O4 := Lib.hid (own_below O3.out hd5)
        have OX4 := Lib.hid (own_below OX.out hd5)
        have HF5a := Lib.hid (HF4.out.below hd5 (Nat.le_refl _))
        clear hb4 hb4' hd5 hv0 hv1 O3 OX HF4
        go_wp2_with fail
        refine (implWs_any f _ _ s z 0 _ HF5a.out hn HO.out (Nat.le_refl _) hsz).mono ?_
        intro e w5 hto
        obtain ⟨vg, rfl, hb5, ho5⟩ := hto
        obtain ⟨Ag, cg, rfl⟩ := own_form_f ho5
        have hb5' := hd5'.trans (hb5.mono hd5'.size)
        have O3' := Lib.hid (own_below O4.out hb5)
        have OX' := Lib.hid (own_below OX4.out hb5)
        have BG := Lib.hid (own_from ho5 (own_block_lt OX4.out rfl))
        have OG := Lib.hid (own_up ho5)
        have HF5 := Lib.hid (HF5a.out.below hb5 (Nat.le_refl _))
        clear hd5' hb5 ho5 O4 OX4 HF5a
        have hlen := ws_len f s z
        have hmx : ((wsF f s z).getD []).length ≤ maxLen := by unfold maxLen; omega
        have HSO : Hid (∀ (F : List (ByteArray × Int)) (A : Option Addr) (c : Nat) (W : World), F = f → F.length ≤ c → SortsIn W 0 A F → Calls Try.prog 48 #[.slice A F.length c, .agg #[.string s, .int .i64 z]] W fun e w' => SortsTo W w' e (wsF f s z)) := by
          show ∀ _, _
          rintro F A c W rfl hcF hF
          exact implWs_any F A c s z 0 W hF hn HO.out hcF hsz
        have HGET : Hid (∀ (W W' : World) (e : Ending), SortsTo W W' e (wsF f s z) → ∃ v, e = .returned (.tuple #[v, .bool (wsF f s z).isSome]) ∧ Below W.heap.size W W' ∧ W'.ownsRow W.heap.size 39 2 v ((wsF f s z).getD []).length (flat ((wsF f s z).getD []))) := by
          show ∀ _, _
          exact fun W W' e h => h
        generalize (wsF f s z).isSome = b at *
        generalize (wsF f s z).getD [] = L at *
        have hbb : (b != b) = false := by simp
        -- equal answers
        go_wp2_with fail
        refine (eqSortS_any L L _ _ _ _ 0 0 _ (own_in_f OG.out) (own_in_f O3'.out) hmx hmx).mono ?_
        rintro e w6 ⟨rfl, hb6⟩
        rw [show decide (L = L) = true from decide_eq_true rfl]
        have hb6' := hb5'.trans (hb6.mono hb5'.size)
        have O36 := Lib.hid (own_below O3'.out hb6)
        have OX6 := Lib.hid (own_below OX'.out hb6)
        have OG6 := Lib.hid (own_below OG.out hb6)
        have HF6 := Lib.hid (HF5.out.below hb6 (Nat.le_refl _))
        have H1 := Lib.hid (HS.out.below hb6' (Nat.le_refl _))
        clear hb5' hb6 O3' OX' OG HF5
        -- the argument is as it was
        go_wp2_with fail
        refine (toSortS_any f A cap 0 _ H1.out hn).mono ?_
        rintro e w7 ⟨rfl, hb7, hf7⟩
        have hb7' := hb6'.trans (hb7.mono hb6'.size)
        have O37 := Lib.hid (own_below O36.out hb7)
        have OX7 := Lib.hid (own_below OX6.out hb7)
        have OG7 := Lib.hid (own_below OG6.out hb7)
        have HF7 := Lib.hid (HF6.out.below hb7 (Nat.le_refl _))
        have HF7' := Lib.hid (hf7.sorts (Nat.zero_le _))
        clear hb6' hb7 O36 OX6 OG6 HF6 H1 hf7
        go_wp2_with fail
        refine (eqSortS_any f f _ _ _ _ 0 0 _ HF7.out HF7'.out hl hl).mono ?_
        rintro e w8 ⟨rfl, hb8⟩
        rw [show decide (f = f) = true from decide_eq_true rfl]
        have hb8' := hb7'.trans (hb8.mono hb7'.size)
        have O38 := Lib.hid (own_below O37.out hb8)
        have OX8 := Lib.hid (own_below OX7.out hb8)
        have OG8 := Lib.hid (own_below OG7.out hb8)
        clear hb7' hb8 O37 OX7 OG7 HF7 HF7'
        -- marks in the argument leave the answer
        go_wp2_with fail
        refine (markSortS_any 1 f.length _ _ _ _ OX8.out (by omega) (by omega)).mono ?_
        rintro e w9 ⟨rfl, hg9, _⟩
        have hb9' := hb8'.grown hg9 hb8'.size (by rintro k hk; injection hk with hk; subst hk; exact hX)
        have O39 := Lib.hid (own_grown O38.out hg9 (fun k hk e => by have h1 : w3.heap.size = k := Option.some.inj e; have h2 := B3.out k hk; omega))
        have OG9 := Lib.hid (own_grown OG8.out hg9 (fun k hk e => by have h1 : w3.heap.size = k := Option.some.inj e; have h2 : w3.heap.size < k := BG.out k hk; omega))
        clear hb8' hg9 O38 OX8 OG8
        go_wp2_with fail
        refine (eqSortS_any L L _ _ _ _ 0 0 _ (own_in_f OG9.out) (own_in_f O39.out) hmx hmx).mono ?_
        rintro e w10 ⟨rfl, hb10⟩
        rw [show decide (L = L) = true from decide_eq_true rfl]
        have hb10' := hb9'.trans (hb10.mono hb9'.size)
        have O310 := Lib.hid (own_below O39.out hb10)
        have OG10 := Lib.hid (own_below OG9.out hb10)
        clear hb9' hb10 O39 OG9
        -- marks in the answer
        go_wp2_with fail
        refine (markSortS_any 1 L.length 0 _ _ _ OG10.out (by omega) (by omega)).mono ?_
        rintro e w11 ⟨rfl, hg11, om11⟩
        have hb11' := hb10'.grown hg11 hb10'.size (fun k hk => by have h2 : w3.heap.size < k := BG.out k hk; omega)
        have hne : ∀ k, (Value.slice A0 L.length c0).ownBlock = some k → (Value.slice Ag L.length cg).ownBlock ≠ some k := fun k hk e => by
          have h1 := B3.out k hk
          have h2 : w3.heap.size < k := BG.out k e
          omega
        have O311 := Lib.hid (own_grown O310.out hg11 hne)
        have OM11 := Lib.hid om11
        have hqm : (1 + (L.length : Int) != 1 + (L.length : Int)) = false := by simp
        clear hb10' hg11 O310 OG10 om11 hne
        go_wp2_with fail
        refine (heldSortS_any 1 L.length _ _ _ (own_in_f OM11.out) (by omega) (by omega)).mono ?_
        rintro e w12 ⟨rfl, hb12⟩
        have hb12' := hb11'.trans (hb12.mono hb11'.size)
        have O312 := Lib.hid (own_below O311.out hb12)
        have OM12 := Lib.hid (own_below OM11.out hb12)
        clear hb11' hb12 O311 OM11
        have H1 := Lib.hid (HS.out.below hb12' (Nat.le_refl _))
        have HX2 : Hid (SortsIn w12.drew 0 A f) := HS.out.below hb12'.drew (Nat.le_refl _)
        obtain ⟨_, hv0, hv1⟩ := HBOX.out _ hb12'
        have tok2 : True := trivial
        clear H1
        go_wp2_with fail
        go_region_law (first
          | (go_simp; go_at_call 32; have _t := tok2; refine (toSortS_any f A cap 0 _ HX2.out hn).mono ?_; rintro e u1 ⟨rfl, hc1, hf1⟩; clear tok2; have hbT : Below w12.heap.size w12 u1 := (Below.refl _ _).drew.trans hc1; have HFTT := Lib.hid (hf1.sorts (Nat.zero_le _)); obtain ⟨_, hy0, hy1⟩ := HBOX.out _ (hb12'.trans (hbT.mono hb12'.size)); clear hf1)
          | (go_simp; go_at_call 28; have HFT2 := HFTT; refine (toSort_any _ _ _).mono ?_; rintro e u2 ⟨rfl, hc2⟩; have hbU : Below w12.heap.size w12 u2 := hbT.trans (hc2.mono hbT.size); have HFU := Lib.hid (HFT2.out.below hc2 (Nat.le_refl _)); clear HFT2)
          | (go_simp; go_at_call 28; refine (toSort_any _ _ _).mono ?_; rintro e u1 ⟨rfl, hc1⟩; clear tok2; have hbT : Below w12.heap.size w12 u1 := (Below.refl _ _).drew.trans hc1; have HYY := Lib.hid (HS.out.below (hb12'.trans (hbT.mono hb12'.size)) (Nat.le_refl _)))
          | (go_simp; go_at_call 32; have HY2 := HYY; refine (toSortS_any f A cap 0 _ HY2.out hn).mono ?_; rintro e u2 ⟨rfl, hc2, hf2⟩; have hbU : Below w12.heap.size w12 u2 := hbT.trans (hc2.mono hbT.size); have HFU := Lib.hid (hf2.sorts (Nat.zero_le _)); clear hf2 HY2)
          | (go_simp; go_at_call 48; refine (HSO.out f _ _ _ rfl (Nat.le_refl _) HFU.out).mono ?_; intro e w14 hto; obtain ⟨vh, rfl, hb14, ho14⟩ := HGET.out _ _ _ hto; have hb14a : Below w12.heap.size w12 w14 := hbU.trans (hb14.mono hbU.size)))
        all_goals
          obtain ⟨Ah, ch, rfl⟩ := own_form_f ho14
          have hb14' := hb12'.trans (hb14a.mono hb12'.size)
          have O314 := Lib.hid (own_below O312.out hb14a)
          have OM14 := Lib.hid (own_below OM12.out hb14a)
          have OH14 := Lib.hid ho14
          clear hb14 hb14a ho14 hbU hbT hc1 hc2 hv0 hv1 hb12'
          go_wp2_with fail
          refine (eqSortS_any L L _ _ _ _ 0 0 _ (own_in_f OH14.out) (own_in_f O314.out) hmx hmx).mono ?_
          rintro e w15 ⟨rfl, hb15⟩
          rw [show decide (L = L) = true from decide_eq_true rfl]
          have hb15' := hb14'.trans (hb15.mono hb14'.size)
          have OM15 := Lib.hid (own_below OM14.out hb15)
          clear hb14' hb15 O314 OM14 OH14
          go_wp2_with fail
          refine (heldSortS_any 1 L.length _ _ _ (own_in_f OM15.out) (by omega) (by omega)).mono ?_
          rintro e w16 ⟨rfl, hb16⟩
          have hb16' := hb15'.trans (hb16.mono hb15'.size)
          clear hb15' hb16
          go_wp2
          go_ret
          exact ⟨rfl, HA.out.trans (hb16'.mono HA.out.size)⟩

set_option maxRecDepth 100000 in
theorem lifted (os : Os) (started : os.Started) (H : Type) (enc : TypeId × Value → H) :
    ReturnsInHanded {} Try.checked os 12 .any (Rows.fnExactWithSortSpec.pre6 enc Try.prog Try.f12 Rows.fnExactWithSortRow.domain false) (Rows.fnExactWithSortSpec.post enc Try.prog Try.f12 false true false false) := by
  refine returnsInHanded_of_change (C := Try.checked) own started (by kernel_rfl) Try.func12
    (ChangeSpec.witness6 (enc := enc) (C := Try.checked) false ⟨#[], #[.slice none 0 0, .agg #[.string .empty, .int .i64 0]], []⟩ 8 (by kernel_rfl) (by kernel_rfl) (by kernel_rfl) (by kernel_rfl)) ?_
  intro W base args ds gs before hval0 hW hcnd _
  have hval : ∀ (j : Nat) t v, Try.f12.params[j]? = some t → args[j]? = some v → Value.okWide Try.prog W .any base t v := hval0
  have hW' := hW
  obtain ⟨p, q, hA0, hV, rfl, hfz, hnd⟩ := hW
  have hA : DataW.TrodAll enc Try.prog W 0 (fun _ => true) true Try.f12.params.toList args.toList ds p := hA0
  rw [Try.params12] at hA hval
  obtain ⟨v0, vs0, d0, ds0, p0, q0, hargs, rfl, rfl, h0, r0⟩ := trodAll_cons hA
  obtain ⟨v1, vs1, d1, ds1, p1, q1, rfl, rfl, rfl, h1, r1⟩ := trodAll_cons r0
  obtain ⟨rfl, rfl, rfl⟩ := trodAll_nil r1
  obtain rfl : args = #[v0, v1] := by cases args; simp_all
  obtain ⟨rfl, rfl⟩ := trodVars_none hV
  have k0 := h0
  have lt0 : ∀ x ∈ p0, x.block < W.heap.size := by obtain ⟨m, hm⟩ := k0; exact DataW.trod_lt m _ _ _ hm
  have k1 := h1
  have lt1 : ∀ x ∈ p1, x.block < W.heap.size := by obtain ⟨m, hm⟩ := k1; exact DataW.trod_lt m _ _ _ hm
  obtain ⟨A0, f0, cap0, rfl, hs0, ho0, hl0⟩ := open_sorts (hval 0 46 v0 rfl rfl) h0
  obtain ⟨c1, e1, y1, z1, m1, rfl, rfl, rfl, hy1, hz1⟩ := open_agg2 Try.underlying41 (by kernel_rfl) (by kernel_rfl) (hval 1 41 v1 rfl rfl) h1
  obtain ⟨s1, es1, rfl, ws1⟩ := DataW.trod_string Try.underlying9 hy1
  obtain ⟨n1, en1, rfl, wn1⟩ := DataW.trod_int Try.underlying3 hz1
  simp at es1 en1
  subst es1 en1
  clear hA0 hval0
  refine (walk A0 f0 cap0 s1 n1 W hs0 ho0 hl0 ws1).mono fun e W' ⟨he, bel⟩ => ?_
  subst he
  exact ⟨_, rfl, _, _, _, [], _, [], hW', trodAll_mk1 (shut_bool Try.underlying4 _), (trodAll_cons_mk (Below.trod laidOut (by kernel_rfl) (of_decide_eq_true (by kernel_rfl)) k0 bel lt0) (trodAll_cons_mk (Below.trod laidOut (by kernel_rfl) (of_decide_eq_true (by kernel_rfl)) k1 bel lt1) trodAll_mk0)), rfl, bel.frame _, fun h => by cases h⟩

theorem over : Rows.fnExactWithSortRow.holds Try.pinned (OpenSpec.ofChange Rows.fnExactWithSortSpec) :=
  OpenClaim.holds_of_wide 12 Try.f12 rfl rfl rfl rfl rfl rfl rfl ⟨rfl, rfl, rfl, rfl, rfl⟩ rfl rfl rfl rfl rfl (by kernel_rfl) Try.func12 (by kernel_rfl)
    (of_decide_eq_true (by kernel_rfl)) (by unfold Func.isWrapper; first | (rw [if_pos (by decide +kernel)]; kernel_rfl) | (rw [if_neg (by decide +kernel)]; exact ⟨rfl, rfl⟩))
    (fun os started H enc _ => lifted os started H enc)

theorem proved : Rows.FnExactWithSortSaid := over
end Go.Proofs.Ytacphcpjppkniaa.fnExactWithSort

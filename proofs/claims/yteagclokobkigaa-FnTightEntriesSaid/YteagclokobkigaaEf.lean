/-
  The contracts of spec.LeastStarts, TableWidth, ColumnWidths.
-/
import Derived.Test.YteagclokobkigaaEe
import Derived.Test.YteagclokobkigaaOw
namespace Go.Proofs.Yteagclokobkigaa
open Go.RowKit
set_option linter.unusedVariables false

noncomputable def lsL (n : Int) (l : List En) (g : Int) : List Int := if askT n l g then stL l g n.toNat else []
noncomputable def cwL (n : Int) (l : List En) (g : Int) : List Int := if askT n l g then wdL l g n.toNat else []
noncomputable def twV (n : Int) (l : List En) (g : Int) : Int := if askT n l g then wdV l g n else 0
theorem ask_no {n : Int} {l : List En} {g : Int} (h : askT n l g = false) : lsL n l g = [] ∧ cwL n l g = [] ∧ twV n l g = 0 := by unfold lsL cwL twV; rw [h]; exact ⟨rfl, rfl, rfl⟩
theorem ask_yes {N : Nat} {l : List En} {g : Int} (h : askT (N : Int) l g = true) : lsL (N : Int) l g = stL l g N ∧ cwL (N : Int) l g = wdL l g N ∧ twV (N : Int) l g = wdV l g (N : Int) := by unfold lsL cwL twV; rw [h]; exact ⟨rfl, rfl, rfl⟩
theorem ask_nat {n : Int} {l : List En} {g : Int} (h : askT n l g = true) : ∃ N : Nat, n = (N : Int) ∧ 1 ≤ N ∧ N ≤ 10 := by
  have hG := (askT_iff.1 h).1
  have := hG.n0; have := hG.n1
  exact ⟨n.toNat, by omega, by omega, by omega⟩
theorem lsL_short (n : Int) (l : List En) (g : Int) : (lsL n l g).length ≤ 1048576 := by
  cases h : askT n l g
  · rw [(ask_no h).1]; simp
  · obtain ⟨N, rfl, h1, h2⟩ := ask_nat h
    rw [(ask_yes h).1, stL_len']; omega
theorem cwL_short (n : Int) (l : List En) (g : Int) : (cwL n l g).length ≤ 1048576 := by
  cases h : askT n l g
  · rw [(ask_no h).2.1]; simp
  · obtain ⟨N, rfl, h1, h2⟩ := ask_nat h
    rw [(ask_yes h).2.1, wdL_len']; omega
/-- A slice of ints of the call's own and whether it is one. -/
def IntsB (w w' : World) (e : Ending) (L : List Int) (b : Bool) : Prop := ∃ v T, e = .returned (.tuple #[v, .bool b]) ∧ Below w.heap.size w w' ∧ w'.ownsRow w.heap.size T 1 v L.length (intsZ L)
theorem own_up2 {w : World} {base base' size n : Nat} {e : TypeId} {v : Value} {xs : List Value} (h : w.ownsRow base e size v n xs) (hb : base' ≤ base) : w.ownsRow base' e size v n xs := Joins.ownsRow_le h hb
theorem specLeastStarts_any (n : Int) (f : List En) (A : Option Addr) (c : Nat) (g : Int) (w : World) (hf : EnsIn w A f) (hn : f.length ≤ 1048576) :
    Calls Try.prog 8 #[.int .i64 n, .slice A f.length c, .int .i64 g] w fun e w' => IntsB w w' e (lsL n f g) (askT n f g) := by
  have HF := Lib.hid hf; clear hf
  go_enter Try.func8, Try.ntmps8
  go_wp2_with fail
  refine (tbAsked_any n f A c g _ HF.out hn).mono ?_
  rintro e w1 ⟨rfl, hb1⟩
  have HB1 := Lib.hid hb1; clear hb1
  cases ha : askT n f g
  · have HN := Lib.hid (ask_no ha); have HA := Lib.hid ha; clear ha
    go_wp2
    go_ret2
    exact ⟨_, 3, ret_vb HA.out.symm, HB1.out, by rw [HN.out.1]; exact own_nil _ _ _ _⟩
  · skip
    have HA := Lib.hid ha
    obtain ⟨hG, h0, h36⟩ := askT_iff.1 ha
    obtain ⟨N, rfl, hN1, hN10⟩ := ask_nat ha
    have HY := Lib.hid (ask_yes ha); have HG := Lib.hid hG
    clear ha hG
    go_wp2_with fail
    refine (tbStarts_any N f A c g _ HG.out h0 h36 (HF.out.below HB1.out (Nat.le_refl _))).mono ?_
    rintro e w2 ⟨v, rfl, hb2, ho2⟩
    have HB2 := Lib.hid (HB1.out.trans (hb2.mono HB1.out.size))
    have hll := stL_len' f g (N + 1)
    obtain ⟨A2, c2, rfl⟩ := own_form ho2
    rcases ho2.2 with ⟨h1, _⟩ | ⟨q, cap, cur, hv, hq, hh, h1, h2, h3, h4⟩
    · rw [hll] at h1; cases h1
    injection hv with e1 e2 e3
    subst e1 e3
    have hi := own_in ho2
    have HCL : Hid (∀ k (h : k < (stL f g N).length), w2.cell? ⟨q, 0 + k, none⟩ = some (.int .i64 (stL f g N)[k])) := Lib.hid (fun k hk => by
      obtain ⟨b', off', hA', hbl', hc'⟩ := hi (by omega)
      have e5 := Option.some.inj hA'
      rw [Addr.mk.injEq] at e5
      obtain ⟨rfl, rfl, _⟩ := e5
      have hk' : k < N := by rw [stL_len'] at hk; exact hk
      have := hc' k (by omega)
      rw [stL_get] at this ⊢
      exact this)
    have hsl := slice_headI q 0 (N + 1) c2 N (by omega) (by omega)
    rw [hll]
    clear ho2 hi hb2 hh h3 h4
    go_wp2_with fail
    have hlen := stL_len' f g N
    have HOWN := Lib.hid (l1OwnS_any (stL f g N) q 0 c2 w2 HCL.out (by omega))
    rw [hlen] at HOWN
    refine HOWN.out.mono ?_
    rintro e w3 ⟨v3, rfl, hb3, ho3⟩
    have HB3 := Lib.hid (HB2.out.trans (hb3.mono HB2.out.size)); have HO3 := Lib.hid (own_up2 ho3 HB2.out.size)
    clear hb3 ho3
    go_wp2
    go_ret2
    exact ⟨_, _, ret_vb HA.out.symm, HB3.out, by rw [HY.out.1]; exact HO3.out⟩
theorem specTableWidth_any (n : Int) (f : List En) (A : Option Addr) (c : Nat) (g : Int) (w : World) (hf : EnsIn w A f) (hn : f.length ≤ 1048576) :
    Calls Try.prog 12 #[.int .i64 n, .slice A f.length c, .int .i64 g] w fun e w' => e = .returned (.tuple #[.int .i64 (twV n f g), .bool (askT n f g)]) ∧ Below w.heap.size w w' := by
  have HF := Lib.hid hf; clear hf
  go_enter Try.func12, Try.ntmps12
  go_wp2_with fail
  refine (tbAsked_any n f A c g _ HF.out hn).mono ?_
  rintro e w1 ⟨rfl, hb1⟩
  have HB1 := Lib.hid hb1; clear hb1
  cases ha : askT n f g
  · have HN := Lib.hid (ask_no ha); have HA := Lib.hid ha; clear ha
    go_wp2
    go_ret2
    exact ⟨ret_ib HN.out.2.2.symm HA.out.symm, HB1.out⟩
  · skip
    have HA := Lib.hid ha
    obtain ⟨hG, h0, h36⟩ := askT_iff.1 ha
    obtain ⟨N, rfl, hN1, hN10⟩ := ask_nat ha
    have HY := Lib.hid (ask_yes ha); have HG := Lib.hid hG
    clear ha hG
    go_wp2_with fail
    refine (tbWidth_any N f A c g _ HG.out h0 h36 (HF.out.below HB1.out (Nat.le_refl _))).mono ?_
    rintro e w2 ⟨rfl, hb2⟩
    have HB2 := Lib.hid (HB1.out.trans (hb2.mono HB1.out.size))
    clear hb2
    go_wp2
    go_ret2
    exact ⟨ret_ib HY.out.2.2.symm HA.out.symm, HB2.out⟩
theorem specColumnWidths_any (n : Int) (f : List En) (A : Option Addr) (c : Nat) (g : Int) (w : World) (hf : EnsIn w A f) (hn : f.length ≤ 1048576) :
    Calls Try.prog 10 #[.int .i64 n, .slice A f.length c, .int .i64 g] w fun e w' => IntsB w w' e (cwL n f g) (askT n f g) := by
  have HF := Lib.hid hf; clear hf
  go_enter Try.func10, Try.ntmps10
  go_wp2_with fail
  refine (tbAsked_any n f A c g _ HF.out hn).mono ?_
  rintro e w1 ⟨rfl, hb1⟩
  have HB1 := Lib.hid hb1; clear hb1
  cases ha : askT n f g
  · have HN := Lib.hid (ask_no ha); have HA := Lib.hid ha; clear ha
    go_wp2
    go_ret2
    exact ⟨_, 3, ret_vb HA.out.symm, HB1.out, by rw [HN.out.2.1]; exact own_nil _ _ _ _⟩
  · skip
    have HA := Lib.hid ha
    obtain ⟨hG, h0, h36⟩ := askT_iff.1 ha
    obtain ⟨N, rfl, hN1, hN10⟩ := ask_nat ha
    have HY := Lib.hid (ask_yes ha); have HG := Lib.hid hG
    clear ha hG
    go_wp2_with fail
    refine (tbStarts_any N f A c g _ HG.out h0 h36 (HF.out.below HB1.out (Nat.le_refl _))).mono ?_
    rintro e w2 ⟨v, rfl, hb2, ho2⟩
    have HB2 := Lib.hid (HB1.out.trans (hb2.mono HB1.out.size))
    obtain ⟨A2, c2, rfl⟩ := own_form ho2
    have HI2 := Lib.hid (own_in ho2)
    clear ho2 hb2
    go_wp2_with fail
    refine (tbWidths_any N f A2 c2 g w2 HG.out h0 h36 HI2.out).mono ?_
    rintro e w3 ⟨v3, rfl, hb3, ho3⟩
    have HB3 := Lib.hid (HB2.out.trans (hb3.mono HB2.out.size)); have HO3 := Lib.hid (own_up2 ho3 HB2.out.size)
    clear hb3 ho3
    go_wp2
    go_ret2
    exact ⟨_, _, ret_vb HA.out.symm, HB3.out, by rw [HY.out.2.1]; exact HO3.out⟩
end Go.Proofs.Yteagclokobkigaa

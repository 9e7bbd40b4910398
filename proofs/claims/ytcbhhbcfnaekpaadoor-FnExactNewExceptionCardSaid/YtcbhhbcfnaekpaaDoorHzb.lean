/-
  The contract of spec.NewException.
-/
import Derived.Test.YtcbhhbcfnaekpaaDoorHza
namespace Go.Proofs.YtcbhhbcfnaekpaaDoor
open Go.RowKit
set_option linter.unusedVariables false

theorem le_more {es : List ByteArray} {e : ByteArray} (h : StrsLe es) (hs : e.size ≤ 1048576) : StrsLe (es ++ [e]) := by
  intro k hk
  rw [List.getElem_append]
  split
  · exact h k _
  · simpa using hs
theorem hyB_more {es : List ByteArray} {e : ByteArray} {b : Bool} (h : exsB (es ++ [e]) = b) : hyB [] (es ++ [e]) = b := by rw [hyB_exs]; exact h
set_option maxRecDepth 100000 in
set_option maxHeartbeats 2000000 in
theorem specNewException_any (es : List ByteArray) (A : Option Addr) (c : Nat) (e : ByteArray) (w : World) (hf : StrsIn w A es) (ho : StrsLe es) (hn : es.length ≤ 1048576) (hs : e.size ≤ 1048576) :
    Calls Tryd.prog 34 #[.slice A es.length c, .string e] w fun x w' => ∃ v, x = .returned (.tuple #[v, .bool (nxB es e)]) ∧ Below w.heap.size w w' ∧ w'.ownsRow w.heap.size 9 1 v (nxL es e).length (strs (nxL es e)) := by
  obtain ⟨i0, hi, hz0, hz1, hz2⟩ := info_parts info9
  have HI0 := Lib.hid hi; have HZ0 := Lib.hid hz0; have HZ1 := Lib.hid hz1; have HZ2 := Lib.hid hz2
  clear hi hz0 hz1 hz2
  have HF := Lib.hid hf; have HO := Lib.hid ho; clear hf ho
  cases hx : exsB es
  · have HV := Lib.hid (nx_bad1 (e := e) hx)
    have HG : Hid (hyB [] es = false) := Lib.hid (by rw [hyB_exs]; exact hx)
    clear hx
    go_enter Tryd.func34, Tryd.ntmps34
    go_wp2_with fail
    refine (hyBare_is e _ w hs (Lib.hid rfl)).mono ?_
    rintro x w1 ⟨A1, c1, rfl, hb1, -⟩
    have HB1 := Lib.hid hb1
    clear hb1
    generalize (exP e).length = pl at *
    go_wp2_with fail
    refine (hyGood_is [] none 0 es A c false w1 (noStrs _) noLe (by simp) (HF.out.below HB1.out (Nat.le_refl _)) HO.out hn HG).mono ?_
    rintro x w2 ⟨rfl, hb2⟩
    have HB2 := Lib.hid (HB1.out.trans (hb2.mono HB1.out.size))
    clear hb2
    go_wp2
    go_ret2
    exact ⟨_, ret_vb HV.out.1.symm, HB2.out, by rw [HV.out.2]; exact own_nil _ _ _ _⟩
  have HG : Hid (hyB [] es = true) := Lib.hid (by rw [hyB_exs]; exact hx)
  cases he : exB e
  · have HV := Lib.hid (nx_bad2 (es := es) he)
    have HE := Lib.hid he
    clear hx he
    go_enter Tryd.func34, Tryd.ntmps34
    go_wp2_with fail
    refine (hyBare_is e _ w hs HE).mono ?_
    rintro x w1 ⟨A1, c1, rfl, hb1, -⟩
    have HB1 := Lib.hid hb1
    clear hb1
    generalize (exP e).length = pl at *
    go_wp2_with fail
    refine (hyGood_is [] none 0 es A c true w1 (noStrs _) noLe (by simp) (HF.out.below HB1.out (Nat.le_refl _)) HO.out hn HG).mono ?_
    rintro x w2 ⟨rfl, hb2⟩
    have HB2 := Lib.hid (HB1.out.trans (hb2.mono HB1.out.size))
    clear hb2
    go_wp2
    go_ret2
    exact ⟨_, ret_vb HV.out.1.symm, HB2.out, by rw [HV.out.2]; exact own_nil _ _ _ _⟩
  have HX := Lib.hid hx; have HE := Lib.hid he
  have HXA := Lib.hid (exsB_all hx).1
  have h20 := (exsB_all hx).2
  clear hx he
  go_enter Tryd.func34, Tryd.ntmps34
  go_wp2_with fail
  refine (hyBare_is e _ w hs HE).mono ?_
  rintro x w1 ⟨A1, c1, rfl, hb1, -⟩
  have HB1 := Lib.hid hb1
  clear hb1
  generalize (exP e).length = pl at *
  go_wp2_with fail
  refine (hyGood_is [] none 0 es A c true w1 (noStrs _) noLe (by simp) (HF.out.below HB1.out (Nat.le_refl _)) HO.out hn HG).mono ?_
  rintro x w2 ⟨rfl, hb2⟩
  have HB2 := Lib.hid (HB1.out.trans (hb2.mono HB1.out.size))
  clear hb2 HB1
  go_wp2_with fail
  refine (l1OwnS_any es A c w2 (HF.out.below HB2.out (Nat.le_refl _)) hn).mono ?_
  rintro x w3 ⟨v3, rfl, hb3, ho3⟩
  obtain ⟨A3, c3, rfl⟩ := own_shape ho3
  have HB3 := Lib.hid (HB2.out.trans (hb3.mono HB2.out.size))
  have HO3 := Lib.hid (Joins.ownsRow_le ho3 HB2.out.size)
  clear hb3 ho3 HB2
  go_wp2
  go_loopw [32] (fun i wr => ∃ k : Nat, k ≤ es.length ∧ i = .int .i64 k ∧ Hid (∀ j (hj : j < k) (hl : j < es.length), exW es[j] ≠ exW e) ∧ Hid (Below w3.heap.size w3 wr)) (fun i _ => es.length - (intOf i).toNat)
  case atStart => exact ⟨0, Nat.zero_le _, rfl, Lib.hid (fun j hj => by omega), Lib.hid (Below.refl _ _)⟩
  case round =>
    obtain ⟨k, hk, rfl, HN, HBx⟩ := hrel
    have HB := Lib.hid (HB3.out.trans (HBx.out.mono HB3.out.size))
    have HOr := Lib.hid (own_below HO3.out HBx.out)
    by_cases hlt : k < es.length
    · have hok := HO.out k hlt
      have HEK : Hid (exB es[k] = true) := Lib.hid (exsA_mem HXA.out hlt)
      obtain ⟨g3, c3', hv3, hg3, hgl3⟩ := own_some HOr.out (by omega)
      injection hv3 with hA3 _ hc3
      subst hA3; subst hc3
      have hcell := HOr.out.cellAt k (by omega)
      have hce : (strs es)[k]? = some (.string es[k]) := by simp [strs, hlt]
      rw [hce] at hcell
      by_cases heq : exW es[k] = exW e
      · have HV := Lib.hid (nx_hit HX.out HE.out (nxAt_is hlt heq (fun j hj => HN.out j hj (by omega))) hlt)
        have ht := str_eq heq
        clear heq
        go_wp2_with fail
        refine (hyBare_is _ _ _ hok HEK).mono ?_
        rintro x w4 ⟨A4, c4, rfl, hb4, -⟩
        have HB4 := Lib.hid (HB.out.trans (hb4.mono HB.out.size))
        have HO4 := Lib.hid (own_below HOr.out hb4)
        have HOF := Lib.hid (HO4.out.stored k (.string e)).1
        have HBF : Hid (Below w.heap.size w (w4.setCell ⟨g3, k, none⟩ (.string e))) := Lib.hid (HB4.out.setCell (p := ⟨g3, k, none⟩) hg3 _)
        have hc4 := HO4.out.cellAt k (by omega)
        rw [hce] at hc4
        have hf4 := HO4.out.frozenAt k
        clear hb4 hcell hce
        generalize exW es[k] = we at *
        generalize (exP es[k]).length = pl2 at *
        go_wp2
        go_ret2
        refine ⟨_, ret_vb HV.out.1.symm, HBF.out, ?_⟩
        rw [HV.out.2, List.length_set, ← strs_set]
        exact HOF.out
      · have HN2 : Hid (∀ j (hj : j < k + 1) (hl : j < es.length), exW es[j] ≠ exW e) := Lib.hid (fun j hj hl => by
          rcases (by omega : j < k ∨ j = k) with h | h
          · exact HN.out j h hl
          · subst h; exact heq)
        have ht := str_neb heq
        clear heq
        go_wp2_with fail
        refine (hyBare_is _ _ _ hok HEK).mono ?_
        rintro x w4 ⟨A4, c4, rfl, hb4, -⟩
        have HB4 := Lib.hid (HBx.out.trans (hb4.mono HBx.out.size))
        clear hb4 hcell hce
        generalize exW es[k] = we at *
        generalize (exP es[k]).length = pl2 at *
        go_wp2
        go_roundw
        case rel => exact ⟨k + 1, by omega, by go_num, HN2, HB4⟩
        case measure => simp [intOf]; omega
    · obtain rfl : k = es.length := by omega
      have hnn : ∀ j (hj : j < es.length), exW es[j] ≠ exW e := fun j hj => HN.out j hj hj
      have HAT := Lib.hid (nxAt_no hnn)
      have HMO := Lib.hid (exsB_more HX.out HE.out hnn)
      have hmx : es.length + 1 ≤ maxLen := by unfold maxLen; omega
      clear hnn
      go_wp2_with (at_builtin; refine wpList_append_own _ rfl _ _ 23 rfl w.heap.size 9 i0 (.string .empty) 1 16 Tryd.underlying23 HI0.out HZ0.out HZ1.out HZ2.out rfl (by decide) _ _ _ rfl (HOr.out.alloc _) ⟨wr.heap.size, 0, none⟩ 1 1 [.string e] rfl rfl (cell_one_new _ _ _) (by simp [Value.oneCell']) hmx (by omega) (by simp; have := HB.out.size; omega) ?_)
      intro v' w4 hown' hgrow _
      have hb4 : Below w.heap.size w w4 := below_append HB.out hgrow HB.out.size (own_lt HOr.out)
      rw [← strs_snoc] at hown'
      obtain ⟨A5, c5, hv5⟩ := own_shape hown'
      subst hv5
      have HO5 := Lib.hid hown'
      have HB5 := Lib.hid hb4
      have HI5 : Hid (StrsIn w4 A5 (es ++ [e])) := Lib.hid (own_in_s hown')
      have HL5 : Hid ((es ++ [e]).length = es.length + 1) := Lib.hid (by simp)
      clear hown' hgrow hb4
      by_cases hlt : es.length < 20
      · have HV := Lib.hid (nx_room HX.out HE.out HAT.out hlt)
        have HH : Hid (hyB [] (es ++ [e]) = true) := Lib.hid (hyB_more (by rw [HMO.out]; exact decide_eq_true hlt))
        have HC := Lib.hid (hyGood_is [] none 0 (es ++ [e]) A5 c5 true w4 (noStrs _) noLe (by simp) HI5.out (le_more HO.out hs) (by rw [HL5.out]; omega) HH)
        rw [HL5.out] at HC
        go_wp2_with fail
        refine HC.out.mono ?_
        rintro x w5 ⟨rfl, hb5⟩
        have HOF := Lib.hid (own_below HO5.out hb5)
        have HBF := Lib.hid (HB5.out.trans (hb5.mono HB5.out.size))
        clear hb5
        go_wp2
        go_ret2
        refine ⟨_, ret_vb HV.out.1.symm, HBF.out, ?_⟩
        rw [HV.out.2, HL5.out]
        exact HOF.out
      · have HV := Lib.hid (nx_full HAT.out hlt)
        have HH : Hid (hyB [] (es ++ [e]) = false) := Lib.hid (hyB_more (by rw [HMO.out]; exact decide_eq_false hlt))
        have HC := Lib.hid (hyGood_is [] none 0 (es ++ [e]) A5 c5 false w4 (noStrs _) noLe (by simp) HI5.out (le_more HO.out hs) (by rw [HL5.out]; omega) HH)
        rw [HL5.out] at HC
        go_wp2_with fail
        refine HC.out.mono ?_
        rintro x w5 ⟨rfl, hb5⟩
        have HBF := Lib.hid (HB5.out.trans (hb5.mono HB5.out.size))
        clear hb5
        go_wp2
        go_ret2
        exact ⟨_, ret_vb HV.out.1.symm, HBF.out, by rw [HV.out.2]; exact own_nil _ _ _ _⟩
end Go.Proofs.YtcbhhbcfnaekpaaDoor

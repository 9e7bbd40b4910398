/-
  The contracts of impl.evenShares, gappedTable.hasRoom and SpreadTable.
-/
import Derived.Test.YteagclokobkigaaEw
import Derived.Test.YteagclokobkigaaEl
namespace Go.Proofs.Yteagclokobkigaa
open Go.RowKit
set_option linter.unusedVariables false

def evL (t : Int) (n : Nat) : List Int := (List.range n).map (evI t n)
theorem evL_len (t : Int) (n : Nat) : (evL t n).length = n := by simp [evL]
theorem evL_at (t : Int) (n : Nat) {k : Nat} (h : k < (evL t n).length) : (evL t n)[k] = evI t n k := by simp [evL]
theorem evL_take (t : Int) (n : Nat) {k : Nat} (h : k < n) : (evL t n).take (k + 1) = (evL t n).take k ++ [evI t n k] := by
  have h' : k < (evL t n).length := by rw [evL_len]; exact h
  rw [List.take_succ_eq_append_getElem h', evL_at]
theorem evL_takeLen (t : Int) (n : Nat) {k : Nat} (h : k ≤ n) : ((evL t n).take k).length = k := by rw [List.length_take, evL_len]; omega
theorem Marked.owns {w : World} {g n base : Nat} {e : TypeId} {l : List Value} (h : Marked w g e n l) (hl : l.length = n) (hb : base ≤ g) (hn : n ≤ maxLen) : w.ownsRow base e 1 (.slice (some ⟨g, 0, none⟩) n n) n l := by
  obtain ⟨cur, h1, h2, h3⟩ := h
  exact ⟨by omega, .inr ⟨g, n, cur, rfl, hb, h1, Nat.le_refl _, hn, by omega, by rw [Nat.mul_one, ← hl]; exact h3⟩⟩
theorem Marked.less {w : World} {g cap : Nat} {e : TypeId} {l : List Value} {x : Value} (h : Marked w g e cap (l ++ [x])) : Marked w g e cap l := by
  obtain ⟨cur, h1, h2, h3⟩ := h
  refine ⟨cur, h1, h2, ?_⟩
  have := congrArg (List.take l.length) h3
  rw [List.take_take, List.take_append_of_le_length (Nat.le_refl _), List.take_length] at this
  rw [show min l.length (l ++ [x]).length = l.length from by simp] at this
  exact this

set_option maxRecDepth 100000 in
set_option maxHeartbeats 1000000 in
theorem evenShares_any (t : Int) (n : Nat) (w : World) (hn : n ≤ 20) (h0 : 0 ≤ t) (h1 : t ≤ 12000) :
    Calls Try.prog 65 #[.int .i64 t, .int .i64 (n : Int)] w fun e w' => IntsOf w w' e (evL t n) := by
  have hmk := run_makeI n (by omega)
  have hst : Marked (w.alloc (.cells (madeCells #[.int .i64 0] (n * 1)) 3)) w.heap.size 3 n (intsZ ((evL t n).take 0)) := ⟨_, heap_new _ _, by rw [size_madeCells]; omega, by simp [intsZ]⟩
  generalize hz : madeCells #[.int .i64 0] (n * 1) = cs0 at *
  have HST := Lib.hid hst; clear hst hz
  have htame := tdiv_tame (g := (n : Int)) h0 h1
  go_enter Try.func65, Try.ntmps65
  go_wp2
  go_loopw [11] (fun i wr => ∃ k : Nat, k ≤ n ∧ i = .int .i64 k ∧ Marked wr w.heap.size 3 n (intsZ ((evL t n).take k)) ∧ Below w.heap.size w wr) (fun i _ => n - (intOf i).toNat)
  case atStart => exact ⟨0, Nat.zero_le _, rfl, HST.out, (Below.refl _ _).alloc (Nat.le_refl _) _⟩
  case round =>
    obtain ⟨k, hkk, rfl, hmd, hb⟩ := hrel
    have HMD := Lib.hid hmd; have HB := Lib.hid hb
    clear hmd hb hmk
    by_cases hlt : k < n
    · have HTK := Lib.hid (evL_take t n hlt)
      have HYE := Lib.hid (evI_yes (t := t) (g := (n : Int)) (i := k)); have HNO := Lib.hid (evI_no (t := t) (g := (n : Int)) (i := k))
      obtain ⟨d, hd⟩ : ∃ d, d = t.tdiv (n : Int) := ⟨_, rfl⟩
      obtain ⟨r, hr⟩ : ∃ r, r = t.tmod (n : Int) := ⟨_, rfl⟩
      rw [← hd, ← hr] at HYE htame
      rw [← hd, ← hr] at HNO
      have hd2 := hd.symm; have hr2 := hr.symm
      clear hd hr
      obtain ⟨⟨u0, hu0⟩, hfu⟩ := HMD.out.at_ hlt
      have hkl1 : (k : Int) < (n : Int) := by omega
      have hkl0 : (0 : Int) ≤ (k : Int) := by omega
      have hnz : ¬ (n : Int) = 0 := by omega
      have hnb : ((n : Int) == 0) = false := by simp; omega
      have hnm : ¬ (n : Int) = -1 := by omega
      have hl : (intsZ ((evL t n).take k)).length = k := by rw [intsZ_len, evL_takeLen _ _ hkk]
      have HD1 := Lib.hid (HMD.out.stepAt k hl hlt (.int .i64 d))
      have HD2 := Lib.hid (HD1.out.less.stepAt k hl hlt (.int .i64 (d + 1)))
      have HB1 := Lib.hid (HB.out.setCell (p := ⟨w.heap.size, k, none⟩) (Nat.le_refl _) (.int .i64 d))
      have HB2 := Lib.hid (HB1.out.setCell (p := ⟨w.heap.size, k, none⟩) (Nat.le_refl _) (.int .i64 (d + 1)))
      have hgl := HMD.out.lt
      clear hl
      by_cases hlr : (k : Int) < r
      · have HE := Lib.hid (HYE.out hlr)
        go_wp2
        go_roundw
        case rel => exact ⟨k + 1, by omega, by go_num, by rw [HTK.out, HE.out, intsZ_snoc]; exact HD2.out, HB2.out⟩
        case measure => simp [intOf]; omega
      · have HE := Lib.hid (HNO.out hlr)
        go_wp2
        go_roundw
        case rel => exact ⟨k + 1, by omega, by go_num, by rw [HTK.out, HE.out, intsZ_snoc]; exact HD1.out, HB1.out⟩
        case measure => simp [intOf]; omega
    · obtain rfl : k = n := by omega
      have hd := HMD.out
      rw [show (evL t k).take k = evL t k from List.take_of_length_le (by rw [evL_len]; exact Nat.le_refl _)] at hd
      have HO2 := Lib.hid (hd.owns (base := w.heap.size) (by rw [intsZ_len, evL_len]) (Nat.le_refl _) (by unfold maxLen; omega))
      go_wp2
      go_ret
      exact ⟨_, rfl, HB.out, by rw [evL_len]; exact HO2.out⟩
theorem evI_tame {t : Int} {n i : Nat} (h0 : 0 ≤ t) (h1 : t ≤ 12000) : -12000 ≤ evI t (n : Int) i ∧ evI t (n : Int) i ≤ 12001 := by
  have := tdiv_tame (g := (n : Int)) h0 h1
  unfold evI; split <;> omega
theorem hasRoom_any (N : Nat) (l : List En) (A : Option Addr) (c : Nat) (g t : Int) (w : World) (hG : GoodT (N : Int) l) (h0 : 0 ≤ g) (h36 : g ≤ 36) (hf : EnsIn w A l) :
    Calls Try.prog 60 #[.agg #[.int .i64 (N : Int), .slice A l.length c, .int .i64 g], .int .i64 t] w fun e w' => e = .returned (.bool (decide (wdV l g (N : Int) ≤ t) && decide (t ≤ 5000))) ∧ Below w.heap.size w w' := by
  obtain ⟨w1, hw1⟩ : ∃ u : World, u = w.alloc (.cells #[.int .i64 (N : Int), .slice A l.length c, .int .i64 g] 55) := ⟨_, rfl⟩
  have hb1 : Below w.heap.size w w1 := by rw [hw1]; exact (Below.refl _ _).alloc (Nat.le_refl _) _
  have HW1 := Lib.hid hw1; have HB1 := Lib.hid hb1; have HF := Lib.hid hf
  clear hw1 hb1 hf
  go_enter Try.func60, Try.ntmps60
  go_wp2_with fail
  rw [← HW1.out]
  refine (leastWidth_any N l A c g _ hG h0 h36 (HF.out.below HB1.out (Nat.le_refl _))).mono ?_
  rintro e w2 ⟨rfl, hb2⟩
  have HB2 := Lib.hid (HB1.out.trans (hb2.mono HB1.out.size))
  clear hb2
  by_cases h1 : wdV l g (N : Int) ≤ t <;> by_cases h2 : t ≤ 5000
  all_goals
    go_wp2
    go_ret
    exact ⟨ret_bool (by simp [h1, h2]), HB2.out⟩
set_option maxRecDepth 100000 in
set_option maxHeartbeats 4000000 in
theorem implSpreadTable_any (n : Int) (f : List En) (A : Option Addr) (c : Nat) (g t : Int) (w : World) (hf : EnsIn w A f) (hn : f.length ≤ 1048576) (hr : EnR f) :
    Calls Try.prog 33 #[.int .i64 n, .slice A f.length c, .int .i64 g, .int .i64 t] w fun e w' => IntsB w w' e (spL n f g t) (lcB n f g t) := by
  have HF := Lib.hid hf; clear hf
  have HE : Hid (lcB n f g t = (askT n f g && (inB 0 5000 t && decide (wdV f g n ≤ t)))) := Lib.hid rfl
  have HNV := Lib.hid (tabV_no (n := n) (f := f) (g := g) A c); have HYV := Lib.hid (tabV_yes (n := n) (f := f) (g := g) A c)
  go_enter Try.func33, Try.ntmps33
  go_wp2_with fail
  refine (newGapped_any n f A c g _ HF.out hn hr).mono ?_
  rintro e w1 ⟨rfl, hb1⟩
  have HB1 := Lib.hid hb1; clear hb1
  cases ha : askT n f g
  · have HA : Hid (lcB n f g t = false) := Lib.hid (by rw [HE.out, ha]; rfl)
    have HV := Lib.hid (sp_no HA.out)
    rw [HNV.out ha]
    clear ha
    go_wp2
    go_ret2
    exact ⟨_, 3, ret_vb HA.out.symm, HB1.out.alloc HB1.out.size _, by rw [HV.out]; exact own_nil _ _ _ _⟩
  rw [HYV.out ha]
  obtain ⟨hG, h0, h36⟩ := askT_iff.1 ha
  obtain ⟨N, rfl, hN1, hN10⟩ := ask_nat ha
  have HG := Lib.hid hG
  obtain ⟨w2, hw2⟩ : ∃ u : World, u = w1.alloc (.cells #[.int .i64 (N : Int), .slice A f.length c, .int .i64 g] 55) := ⟨_, rfl⟩
  have hb2 : Below w.heap.size w w2 := by rw [hw2]; exact HB1.out.alloc HB1.out.size _
  have hx2 : w2.heap[w1.heap.size]? = some (.cells #[.int .i64 (N : Int), .slice A f.length c, .int .i64 g] 55) := by rw [hw2]; exact heap_new _ _
  have HW2 := Lib.hid hw2; have HB2 := Lib.hid hb2; have HX2 := Lib.hid hx2
  have hl2 := lt_of_heap hx2
  have hwd := lastWd hG h0 h36 hN1
  have HAA := Lib.hid ha
  clear hw2 hb2 hx2 ha hG
  go_wp2_with fail
  rw [← HW2.out]
  refine (hasRoom_any N f A c g t _ HG.out h0 h36 (HF.out.below HB2.out (Nat.le_refl _))).mono ?_
  rintro e w3 ⟨rfl, hb3⟩
  have HB3 := Lib.hid (HB2.out.trans (hb3.mono HB2.out.size))
  have hx3 := (hb3.block _ hl2).trans HX2.out
  have HX3 : Hid (w3.heap[w1.heap.size]? = some _) := Lib.hid hx3
  have p0 : w3.cell? ⟨w1.heap.size, 0, none⟩ = some (.int .i64 (N : Int)) := by rw [cell_of_heap hx3]; rfl
  have p1 : w3.cell? ⟨w1.heap.size, 1, none⟩ = some (.slice A f.length c) := by rw [cell_of_heap hx3]; rfl
  have p2 : w3.cell? ⟨w1.heap.size, 2, none⟩ = some (.int .i64 g) := by rw [cell_of_heap hx3]; rfl
  have HB1' := HB3
  clear HB1 hb3 hx3
  have HB1 := HB1'
  clear HB1'
  by_cases h1 : wdV f g (N : Int) ≤ t
  case neg =>
    have HA : Hid (lcB (N : Int) f g t = false) := Lib.hid (by rw [HE.out, decide_eq_false h1, Bool.and_false, Bool.and_false])
    rw [show (decide (wdV f g (N : Int) ≤ t) && decide (t ≤ 5000)) = false by rw [decide_eq_false h1]; rfl]
    have HV := Lib.hid (sp_no HA.out)
    go_wp2
    go_ret2
    exact ⟨_, 3, ret_vb HA.out.symm, HB1.out, by rw [HV.out]; exact own_nil _ _ _ _⟩
  by_cases h2 : t ≤ 5000
  case neg =>
    have HA : Hid (lcB (N : Int) f g t = false) := Lib.hid (by rw [HE.out, inBs_no (a := 0) (b := 5000) (c := t) (by omega), Bool.false_and, Bool.and_false])
    rw [show (decide (wdV f g (N : Int) ≤ t) && decide (t ≤ 5000)) = false by rw [decide_eq_false h2, Bool.and_false]]
    have HV := Lib.hid (sp_no HA.out)
    go_wp2
    go_ret2
    exact ⟨_, 3, ret_vb HA.out.symm, HB1.out, by rw [HV.out]; exact own_nil _ _ _ _⟩
  have HA : Hid (lcB (N : Int) f g t = true) := Lib.hid (by rw [HE.out, HAA.out, inBs_iff.2 ⟨by omega, h2⟩, decide_eq_true h1]; rfl)
  have HV := Lib.hid (sp_yes HA.out)
  rw [show (decide (wdV f g (N : Int) ≤ t) && decide (t ≤ 5000)) = true by rw [decide_eq_true h1, decide_eq_true h2]; rfl]
  go_wp2_with fail
  refine (leastWidths_any N f A c g _ HG.out h0 h36 (HF.out.below HB3.out (Nat.le_refl _))).mono ?_
  rintro e w4 ⟨v, rfl, hb4, ho4⟩
  have HB4 := Lib.hid (HB3.out.trans (hb4.mono HB3.out.size))
  obtain ⟨q, cap, rfl, hq, hql, hcap, hcells⟩ := own_some ho4 (by omega)
  have hqw : w.heap.size ≤ q := Nat.le_trans HB3.out.size hq
  have HO4 := Lib.hid (own_up2 ho4 HB3.out.size)
  have hx4 := (hb4.block _ (lt_of_heap HX3.out)).trans HX3.out
  have p0 : w4.cell? ⟨w1.heap.size, 0, none⟩ = some (.int .i64 (N : Int)) := by rw [cell_of_heap hx4]; rfl
  have p1 : w4.cell? ⟨w1.heap.size, 1, none⟩ = some (.slice A f.length c) := by rw [cell_of_heap hx4]; rfl
  have p2 : w4.cell? ⟨w1.heap.size, 2, none⟩ = some (.int .i64 g) := by rw [cell_of_heap hx4]; rfl
  clear hb4 ho4 hcells hx4
  go_wp2_with fail
  refine (leastWidth_any N f A c g _ HG.out h0 h36 (HF.out.below HB4.out (Nat.le_refl _))).mono ?_
  rintro e w5 ⟨rfl, hb5⟩
  have HB5 := Lib.hid (HB4.out.trans (hb5.mono HB4.out.size)); have HO5 := Lib.hid (own_below HO4.out hb5)
  clear hb5 p0 p1 p2
  obtain ⟨m, hm⟩ : ∃ m, m = t - wdV f g (N : Int) := ⟨_, rfl⟩
  rw [← hm] at HV
  have hm0 : 0 ≤ m := by omega
  have hm1 : m ≤ 12000 := by omega
  have hmw : t - wdV f g (N : Int) = m := hm.symm
  clear hm
  generalize wdV f g (N : Int) = wd at *
  go_wp2_with fail
  try rw [hmw]
  refine (evenShares_any m N _ (by omega) hm0 hm1).mono ?_
  rintro e w6 ⟨v6, rfl, hb6, ho6⟩
  have HB6 := Lib.hid (HB5.out.trans (hb6.mono HB5.out.size)); have HO6 := Lib.hid (own_below HO5.out hb6)
  have hel := evL_len m N
  obtain ⟨A6, c6, rfl⟩ := own_form ho6
  obtain ⟨b6, o6, hA6, hbl6, hc6⟩ := (own_in ho6) (by omega)
  have HQ6 : Hid (∀ k (h : k < (evL m N).length), w6.cell? ⟨b6, o6 + k, none⟩ = some (.int .i64 (evL m N)[k])) := Lib.hid hc6
  have hqb : q < w5.heap.size := (own_at1 HO5.out (by omega)).1
  have hbq : ¬ b6 = q := by
    rcases ho6.2 with ⟨h, _⟩ | ⟨g', cap', cur, hv', hg', _⟩
    · subst hA6; cases h
    · subst hA6; injection hv' with e1; have e3 := Option.some.inj e1; rw [Addr.mk.injEq] at e3; omega
  subst hA6
  rw [hel]
  have HSTART : Hid (w6.ownsRow w.heap.size 3 1 (.slice (some ⟨q, 0, none⟩) N cap) N (intsZ (spK f g m N 0))) := Lib.hid (by rw [spK_zero]; exact HO6.out)
  clear hb6 ho6 hc6
  go_wp2
  go_loopw [39] (fun i wr => ∃ k : Nat, k ≤ N ∧ i = .int .i64 (k : Int) ∧ wr.ownsRow w.heap.size 3 1 (.slice (some ⟨q, 0, none⟩) N cap) N (intsZ (spK f g m N k)) ∧ Below w.heap.size w wr ∧ wr.heap[b6]? = w6.heap[b6]?) (fun i _ => N - (intOf i).toNat)
  case atStart => exact ⟨0, Nat.zero_le _, rfl, HSTART.out, HB6.out, rfl⟩
  case round =>
    obtain ⟨ws, hws⟩ : ∃ u : World, u = wr := ⟨_, rfl⟩
    subst hws
    obtain ⟨k, hk, rfl, hv, hb, hbk⟩ := hrel
    by_cases hlt : k < N
    · have hsl := spK_len f g m N k
      have hc := hv.cellAt k (by omega)
      have e0 : ws.cell? ⟨q, k, none⟩ = some (.int .i64 (enV f g k - stV f g k)) := by
        rw [hc]
        simp only [intsZ, List.getElem?_map, List.getElem?_eq_getElem (show k < (spK f g m N k).length by omega), spK_at]
        rfl
      have e6 : ws.cell? ⟨b6, o6 + k, none⟩ = some (.int .i64 (evI m (N : Int) k)) := by
        rw [World.cell?_of_block (a := ⟨b6, o6 + k, none⟩) hbk, HQ6.out k (by omega), evL_at]
      obtain ⟨hqs, hcells⟩ := own_at1 hv (by omega)
      have f0 := (hcells k (by omega)).2
      have hwb := enV_bd HG.out.all h0 h36 (k := k) (by omega)
      have hsb := stV_all HG.out.all h0 h36 (k := k) (by omega)
      have hev := evI_tame (n := N) (i := k) hm0 hm1
      have HK := Lib.hid (spK_set f g m N hlt)
      have HSP : Hid (spF f g m N k = (enV f g k - stV f g k) + evI m (N : Int) k) := Lib.hid rfl
      obtain ⟨x, hx⟩ : ∃ x, x = enV f g k - stV f g k := ⟨_, rfl⟩
      rw [← hx] at e0 HSP
      have hxb : 0 ≤ x ∧ x ≤ 6960 := by omega
      generalize evI m (N : Int) k = y at *
      have H1 : Hid ((ws.setCell ⟨q, k, none⟩ (.int .i64 (x + y))).ownsRow w.heap.size 3 1 (.slice (some ⟨q, 0, none⟩) N cap) N (intsZ (spK f g m N (k + 1)))) := Lib.hid (by
        have h := own_set1 (i := k) hv (.int .i64 (x + y))
        rw [← intsZ_set, ← HSP.out, HK.out] at h
        rw [← HSP.out]; exact h)
      have HB7 := Lib.hid (hb.setCell (p := ⟨q, k, none⟩) hqw (.int .i64 (x + y)))
      have HBK : Hid ((ws.setCell ⟨q, k, none⟩ (.int .i64 (x + y))).heap[b6]? = w6.heap[b6]?) := Lib.hid ((Below.heap_setCell ws ⟨q, k, none⟩ _ b6 hbq).trans hbk)
      have hkN : (k : Int) < (N : Int) := by omega
      clear hv hb hc hcells hx hwb hsb hsl hbk
      go_wp2
      go_roundw
      case rel => exact ⟨k + 1, by omega, by go_num, H1.out, HB7.out, HBK.out⟩
      case measure => simp [intOf]; omega
    · obtain rfl : k = N := by omega
      have HFIN : Hid (spL (k : Int) f g t = spK f g m k k) := Lib.hid (by rw [HV.out, spK_all])
      have HLN := Lib.hid (spK_len f g m k k)
      go_wp2
      go_ret2
      exact ⟨_, _, ret_vb HA.out.symm, hb, by rw [HFIN.out, HLN.out]; exact hv⟩
end Go.Proofs.Yteagclokobkigaa

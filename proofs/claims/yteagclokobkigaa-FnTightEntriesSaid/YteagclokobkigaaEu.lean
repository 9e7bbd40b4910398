/-
  The contracts of spec.LatestColumns, tbRoom, RoomOfEntry.
-/
import Derived.Test.YteagclokobkigaaEt
import Derived.Test.YteagclokobkigaaEf
import Derived.BigRegion
namespace Go.Proofs.Yteagclokobkigaa
open Go.RowKit
set_option linter.unusedVariables false

noncomputable def lcB (n : Int) (l : List En) (g t : Int) : Bool := askT n l g && (inB 0 5000 t && decide (wdV l g n ≤ t))
def lcF (n : Int) (l : List En) (g t : Int) (k : Nat) : Int := if k = 0 then 0 else ltV n l g t k
noncomputable def lcL (n : Int) (l : List En) (g t : Int) : List Int := if lcB n l g t then (List.range n.toNat).map (lcF n l g t) else []
theorem lc_no {n : Int} {l : List En} {g t : Int} (h : lcB n l g t = false) : lcL n l g t = [] := by unfold lcL; rw [h]; rfl
theorem lc_yes {N : Nat} {l : List En} {g t : Int} (h : lcB (N : Int) l g t = true) : lcL (N : Int) l g t = (List.range N).map (lcF (N : Int) l g t) := by unfold lcL; rw [h, Int.toNat_natCast]; rfl
theorem lc_ask {n : Int} {l : List En} {g t : Int} (h : lcB n l g t = true) : askT n l g = true ∧ (0 ≤ t ∧ t ≤ 5000) ∧ wdV l g n ≤ t := by
  unfold lcB at h; rw [Bool.and_eq_true, Bool.and_eq_true, inBs_iff, decide_eq_true_eq] at h; exact h
theorem lcL_short (n : Int) (l : List En) (g t : Int) : (lcL n l g t).length ≤ 1048576 := by
  cases h : lcB n l g t
  · rw [lc_no h]; simp
  · obtain ⟨N, rfl, h1, h2⟩ := ask_nat (lc_ask h).1
    rw [lc_yes h, rng_len]; omega
theorem rng_set (f : Nat → Int) (N : Nat) (hN : 0 < N) (x : Int) : ((List.range N).map f).set 0 x = (List.range N).map fun k => if k = 0 then x else f k := by
  apply List.ext_getElem
  · simp
  · intro i h1 h2
    rw [List.getElem_set]
    simp only [List.getElem_map, List.getElem_range]
    by_cases h : i = 0
    · subst h; simp
    · rw [if_neg (by omega), if_neg h]
/-- A cell of a row of its own, stored. -/
theorem own_set1 {w : World} {base n g cap i : Nat} {e : TypeId} {xs : List Value} (h : w.ownsRow base e 1 (.slice (some ⟨g, 0, none⟩) n cap) n xs) (u : Value) : (w.setCell ⟨g, i, none⟩ u).ownsRow base e 1 (.slice (some ⟨g, 0, none⟩) n cap) n (xs.set i u) := by
  rcases h.2 with ⟨h1, _⟩ | ⟨g', cap', cur, hv, hg, hh, h1, h2, h3, h4⟩
  · cases h1
  · injection hv with e1 e2 e3
    have e4 := Option.some.inj e1
    rw [Addr.mk.injEq] at e4
    obtain ⟨rfl, _, _⟩ := e4
    subst e3
    refine ⟨by rw [List.length_set]; exact h.1, .inr ⟨g, cap, _, rfl, hg, heap_set hh u, h1, h2, by simpa using h3, ?_⟩⟩
    rw [Array.toList_setIfInBounds, List.take_set, h4]
theorem intsZ_set (l : List Int) (i : Nat) (x : Int) : intsZ (l.set i x) = (intsZ l).set i (.int .i64 x) := by simp [intsZ, List.map_set]
/-- A row of its own that holds something. -/
theorem own_some {w : World} {base n : Nat} {e : TypeId} {v : Value} {xs : List Value} (h : w.ownsRow base e 1 v n xs) (hn : 0 < n) : ∃ g cap, v = .slice (some ⟨g, 0, none⟩) n cap ∧ base ≤ g ∧ g < w.heap.size ∧ n ≤ cap ∧ (∀ j, j < cap → (∃ u, w.cell? ⟨g, j, none⟩ = some u) ∧ w.frozen? ⟨g, j, none⟩ = false) := by
  rcases h.2 with ⟨_, h1⟩ | ⟨g, cap, cur, hv, hg, hh, h1, h2, h3, h4⟩
  · omega
  · exact ⟨g, cap, hv, hg, lt_of_heap hh, h1, fun j hj => ⟨⟨_, (cell_of_heap hh j).trans (Array.getElem?_eq_getElem (by omega))⟩, free_of_heap hh j⟩⟩
set_option maxRecDepth 100000 in
set_option maxHeartbeats 4000000 in
theorem specLatestColumns_any (n : Int) (f : List En) (A : Option Addr) (c : Nat) (g t : Int) (w : World) (hf : EnsIn w A f) (hn : f.length ≤ 1048576) :
    Calls Try.prog 32 #[.int .i64 n, .slice A f.length c, .int .i64 g, .int .i64 t] w fun e w' => IntsB w w' e (lcL n f g t) (lcB n f g t) := by
  have HF := Lib.hid hf; clear hf
  have HE : Hid (lcB n f g t = (askT n f g && (inB 0 5000 t && decide (wdV f g n ≤ t)))) := Lib.hid rfl
  go_enter Try.func32, Try.ntmps32
  go_wp2_with fail
  refine (tbAsked_any n f A c g _ HF.out hn).mono ?_
  rintro e w1 ⟨rfl, hb1⟩
  have HB1 := Lib.hid hb1; clear hb1
  cases ha : askT n f g
  · have HA : Hid (lcB n f g t = false) := Lib.hid (by rw [HE.out, ha]; rfl)
    clear ha
    have HV := Lib.hid (lc_no HA.out)
    go_wp2
    go_ret2
    exact ⟨_, 3, ret_vb HA.out.symm, HB1.out, by rw [HV.out]; exact own_nil _ _ _ _⟩
  go_wp2_with fail
  refine (l1In_any _ _ _ _).mono ?_
  rintro e w' ⟨rfl, rfl⟩
  cases hi : inB 0 5000 t
  · have HA : Hid (lcB n f g t = false) := Lib.hid (by rw [HE.out, hi, Bool.false_and, Bool.and_false])
    clear ha hi
    have HV := Lib.hid (lc_no HA.out)
    go_wp2
    go_ret2
    exact ⟨_, 3, ret_vb HA.out.symm, HB1.out, by rw [HV.out]; exact own_nil _ _ _ _⟩
  have ht := inBs_iff.1 hi
  obtain ⟨hG, h0, h36⟩ := askT_iff.1 ha
  obtain ⟨N, rfl, hN1, hN10⟩ := ask_nat ha
  have HG := Lib.hid hG
  clear hG
  go_wp2_with fail
  refine (tbWidth_any N f A c g _ HG.out h0 h36 (HF.out.below HB1.out (Nat.le_refl _))).mono ?_
  rintro e w2 ⟨rfl, hb2⟩
  have HB2 := Lib.hid (HB1.out.trans (hb2.mono HB1.out.size)); clear hb2 HB1
  have HB1 := HB2; clear HB2
  by_cases hw : t < wdV f g (N : Int)
  · have HA : Hid (lcB (N : Int) f g t = false) := Lib.hid (by rw [HE.out, decide_eq_false (by omega), Bool.and_false, Bool.and_false])
    clear ha hi
    have HV := Lib.hid (lc_no HA.out)
    go_wp2
    go_ret2
    exact ⟨_, 3, ret_vb HA.out.symm, HB1.out, by rw [HV.out]; exact own_nil _ _ _ _⟩
  have HA : Hid (lcB (N : Int) f g t = true) := Lib.hid (by rw [HE.out, ha, hi, decide_eq_true (by omega)]; rfl)
  have HV := Lib.hid (lc_yes HA.out)
  clear ha hi
  generalize wdV f g (N : Int) = wd at *
  go_wp2_with fail
  refine (tbLatest_any N f A c g t _ HG.out h0 h36 ht.1 (by omega) (HF.out.below HB1.out (Nat.le_refl _))).mono ?_
  rintro e w3 ⟨b, rfl, hb3, hbl, htb⟩
  have HB3 := Lib.hid (HB1.out.trans (hb3.mono HB1.out.size))
  have hsl := slice_headI b 0 (N + 1) (N + 1) N (by omega) (by omega)
  obtain ⟨L, hL⟩ : ∃ L : List Int, L = (List.range N).map (ltV (N : Int) f g t) := ⟨_, rfl⟩
  have hlen : L.length = N := by rw [hL, rng_len]
  have HOWN := Lib.hid (l1OwnS_any L b 0 (N + 1) w3 (fun k hk => by
    have h := htb.cell (j := k) (by omega)
    rw [ltF_at _ _ (Nat.zero_le _)] at h
    rw [Nat.zero_add, h]
    subst hL
    rw [rng_at]) (by omega))
  rw [hlen] at HOWN
  have HL := Lib.hid hL
  clear hb3 htb hL
  go_wp2_with fail
  refine HOWN.out.mono ?_
  rintro e w4 ⟨v, rfl, hb4, ho4⟩
  rw [hlen] at ho4
  obtain ⟨q, cap, rfl, hq, hql, hcap, hcells⟩ := own_some ho4 (by omega)
  obtain ⟨⟨u0, e0⟩, f0⟩ := hcells 0 (by omega)
  have HB4 := Lib.hid (HB3.out.trans (hb4.mono HB3.out.size))
  have HO5 := Lib.hid (own_up2 (own_set1 (i := 0) ho4 (.int .i64 0)) HB3.out.size)
  have hqw : w.heap.size ≤ q := Nat.le_trans HB3.out.size hq
  have HB5 := Lib.hid (HB4.out.setCell (p := ⟨q, 0, none⟩) hqw (.int .i64 0))
  have HFIN : Hid ((intsZ L).set 0 (.int .i64 0) = intsZ (lcL (N : Int) f g t)) := Lib.hid (by
    rw [← intsZ_set, HL.out, rng_set _ _ (by omega), HV.out]; rfl)
  have HLN : Hid ((lcL (N : Int) f g t).length = N) := Lib.hid (by rw [HV.out, rng_len])
  have hN0 : (0 : Int) < (N : Int) := by omega
  clear hb4 ho4 hcells
  go_wp2
  go_ret2
  exact ⟨_, _, ret_vb HA.out.symm, HB5.out, by rw [HLN.out, ← HFIN.out]; exact HO5.out⟩
set_option maxRecDepth 100000 in
set_option maxHeartbeats 4000000 in
theorem tbRoom_any (N : Nat) (l : List En) (A : Option Addr) (c : Nat) (g : Int) (i : Nat) (w : World) (hG : GoodT (N : Int) l) (h0 : 0 ≤ g) (h36 : g ≤ 36) (hf : EnsIn w A l) (hi : i < l.length) :
    Calls Try.prog 58 #[.int .i64 (N : Int), .slice A l.length c, .int .i64 g, .int .i64 (i : Int)] w fun e w' => e = .returned (.int .i64 (rmV (N : Int) l g l[i])) ∧ Below w.heap.size w w' := by
  have HG := Lib.hid hG
  have hN1 : 1 ≤ N := by have := hG.n0; omega
  have hN10 : N ≤ 10 := by have := hG.n1; omega
  have HOK := Lib.hid (hG.en hi)
  obtain ⟨b, off, rfl, hbl, hc⟩ := hf (by omega)
  obtain ⟨c0, c1, c2⟩ := hc i hi
  have hil : (i : Int) < (l.length : Int) := by omega
  have HRM : Hid (rmV (N : Int) l g l[i] = ltV (N : Int) l g (wdV l g (N : Int)) (l[i].col + l[i].spa).toNat - stV l g l[i].col.toNat - g - l[i].wid) := Lib.hid (by
    unfold rmV ltV
    have ho := HOK.out
    have e : (miE (N : Int) l[i]).col.toNat = (N : Int).toNat - (l[i].col + l[i].spa).toNat := by
      show ((N : Int) - l[i].col - l[i].spa).toNat = _
      have := ho.c0; have := ho.s0; have := ho.s1; omega
    rw [e]; omega)
  have HF := Lib.hid hf
  clear hG hf hc
  generalize l[i] = x at *
  rcases x with ⟨p, q, r⟩
  obtain ⟨o1, o2, o3, o4, o5, o6⟩ := HOK.out
  simp only at o1 o2 o3 o4 o5 o6 c0 c1 c2 HRM
  obtain ⟨p', rfl⟩ : ∃ p' : Nat, p = (p' : Int) := ⟨p.toNat, by omega⟩
  obtain ⟨q', rfl⟩ : ∃ q' : Nat, q = (q' : Int) := ⟨q.toNat, by omega⟩
  have hpq : ((p' : Int) + (q' : Int)).toNat = p' + q' := by omega
  rw [hpq, Int.toNat_natCast] at HRM
  obtain ⟨w1, hw1⟩ : ∃ u : World, u = w.alloc (.cells #[.int .i64 (p' : Int), .int .i64 (q' : Int), .int .i64 r] 36) := ⟨_, rfl⟩
  have hb1 : Below w.heap.size w w1 := by rw [hw1]; exact (Below.refl _ _).alloc (Nat.le_refl _) _
  have hx1 : w1.heap[w.heap.size]? = some (.cells #[.int .i64 (p' : Int), .int .i64 (q' : Int), .int .i64 r] 36) := by rw [hw1]; exact heap_new _ _
  have HW1 := Lib.hid hw1; have HB1 := Lib.hid hb1; have HX1 := Lib.hid hx1
  clear hw1 hb1 hx1
  go_enter Try.func58, Try.ntmps58
  go_wp2_with fail
  rw [← HW1.out]
  refine (tbStarts_any N l _ c g _ HG.out h0 h36 (HF.out.below HB1.out (Nat.le_refl _))).mono ?_
  rintro e w2 ⟨v, rfl, hb2, ho2⟩
  obtain ⟨A2, c2', rfl⟩ := own_form ho2
  have hll := stL_len' l g (N + 1)
  rw [hll]
  have HI2 := Lib.hid (own_in ho2)
  have HB2 := Lib.hid (HB1.out.trans (hb2.mono HB1.out.size))
  have HX2 : Hid (w2.heap[w.heap.size]? = some _) := Lib.hid ((hb2.block _ (lt_of_heap HX1.out)).trans HX1.out)
  clear hb2 ho2
  go_wp2_with fail
  refine (tbWidth_any N l _ c g _ HG.out h0 h36 (HF.out.below HB2.out (Nat.le_refl _))).mono ?_
  rintro e w3 ⟨rfl, hb3⟩
  have HB3 := Lib.hid (HB2.out.trans (hb3.mono HB2.out.size))
  have HI3 := Lib.hid (HI2.out.below hb3 (Nat.le_refl _))
  have HX3 : Hid (w3.heap[w.heap.size]? = some _) := Lib.hid ((hb3.block _ (lt_of_heap HX2.out)).trans HX2.out)
  have hwd : 0 ≤ wdV l g (N : Int) ∧ wdV l g (N : Int) ≤ 6360 := by
    have h1 := lastWd HG.out h0 h36 hN1
    have := stV_all HG.out.all h0 h36 (k := N) (by omega)
    unfold wdV at h1 ⊢; rw [Int.toNat_natCast] at h1 ⊢; omega
  have HWD := Lib.hid hwd
  clear hb3
  go_wp2_with fail
  refine (tbLatest_any N l _ c g (wdV l g (N : Int)) _ HG.out h0 h36 HWD.out.1 (by have := HWD.out; omega) (HF.out.below HB3.out (Nat.le_refl _))).mono ?_
  rintro e w4 ⟨bt, rfl, hb4, hbt, htb⟩
  have HB4 := Lib.hid (HB3.out.trans (hb4.mono HB3.out.size))
  have hx4 : w4.heap[w.heap.size]? = some _ := (hb4.block _ (lt_of_heap HX3.out)).trans HX3.out
  have hi4 := HI3.out.below hb4 (Nat.le_refl _)
  obtain ⟨b5, o5', hA5, hbl5, hc5⟩ := hi4 (by omega)
  have e5 := hc5 p' (by omega)
  rw [stL_get] at e5
  subst hA5
  have hpqN : p' + q' < N + 1 := by omega
  have t5 := htb.cell hpqN
  rw [ltF_at _ _ (Nat.zero_le _)] at t5
  have hbx := lt_of_heap hx4
  have x0 := KeptW.cell (show w4.cell? ⟨w.heap.size, 0, none⟩ = some (.int .i64 (p' : Int)) by rw [cell_of_heap hx4]; rfl) hbx
  have x1 := KeptW.cell (show w4.cell? ⟨w.heap.size, 1, none⟩ = some (.int .i64 (q' : Int)) by rw [cell_of_heap hx4]; rfl) hbx
  have x2 := KeptW.cell (show w4.cell? ⟨w.heap.size, 2, none⟩ = some (.int .i64 r) by rw [cell_of_heap hx4]; rfl) hbx
  have xe := KeptW.cell e5 hbl5
  have xt := KeptW.cell t5 htb.lt
  have k1 : (p' : Int) < ((N + 1 : Nat) : Int) := by omega
  have k2 : (p' : Int) + (q' : Int) < ((N + 1 : Nat) : Int) := by omega
  have k3 : (0 : Int) ≤ (p' : Int) + (q' : Int) := by omega
  have hb5 := stV_all HG.out.all h0 h36 (k := p') (by omega)
  have hb6 := ltV_bd HG.out (t := wdV l g (N : Int)) h0 h36 (p' + q')
  generalize stV l g p' = s0 at *
  generalize ltV (N : Int) l g (wdV l g (N : Int)) (p' + q') = t0 at *
  generalize wdV l g (N : Int) = wd at *
  clear hb4 htb hx4 hi4 hc5 e5 t5
  go_wp2_with fail
  refine region_kept w4.heap.size (by kernel_rfl) (by kernel_rfl) ?_
  repeat (go_big_quiet_step (fail))
  refine wpQuiet_nil ?_
  intro w5 hb7
  have HB5 := Lib.hid (HB4.out.trans (hb7.mono HB4.out.size))
  clear hb7 x0 x1 x2 xe xt
  go_wp2
  go_ret
  exact ⟨ret_int (by rw [HRM.out]), HB5.out⟩
end Go.Proofs.Yteagclokobkigaa

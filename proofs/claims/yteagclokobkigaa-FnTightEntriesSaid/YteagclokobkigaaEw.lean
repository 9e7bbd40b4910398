/-
  The contract of spec.SpreadTable; numbers that divide a total evenly.
-/
import Derived.Test.YteagclokobkigaaEv
import Derived.Deep.RegionLaw
namespace Go.Proofs.Yteagclokobkigaa
open Go.RowKit
set_option linter.unusedVariables false

/-- The i-th of g numbers that divide t evenly, the first ones greater by 1. -/
def evI (t g : Int) (i : Nat) : Int := if (i : Int) < t.tmod g then t.tdiv g + 1 else t.tdiv g
theorem evI_yes {t g : Int} {i : Nat} (h : (i : Int) < t.tmod g) : evI t g i = t.tdiv g + 1 := if_pos h
theorem evI_no {t g : Int} {i : Nat} (h : ¬ (i : Int) < t.tmod g) : evI t g i = t.tdiv g := if_neg h
theorem tdiv_tame {t g : Int} (h0 : 0 ≤ t) (h1 : t ≤ 12000) : 0 ≤ t.tdiv g + 12000 ∧ t.tdiv g ≤ 12000 ∧ -12000 ≤ t.tmod g ∧ t.tmod g ≤ 12000 := by
  have a := Int.natAbs_tdiv_le_natAbs t g
  have b : (t.tmod g).natAbs ≤ t.natAbs := by rw [Int.natAbs_tmod]; exact Nat.mod_le _ _
  omega
def spF (l : List En) (g m : Int) (N : Nat) (j : Nat) : Int := (enV l g j - stV l g j) + evI m (N : Int) j
noncomputable def spL (n : Int) (l : List En) (g t : Int) : List Int := if lcB n l g t then (List.range n.toNat).map (spF l g (t - wdV l g n) n.toNat) else []
theorem sp_no {n : Int} {l : List En} {g t : Int} (h : lcB n l g t = false) : spL n l g t = [] := by unfold spL; rw [h]; rfl
theorem sp_yes {N : Nat} {l : List En} {g t : Int} (h : lcB (N : Int) l g t = true) : spL (N : Int) l g t = (List.range N).map (spF l g (t - wdV l g (N : Int)) N) := by unfold spL; rw [h, Int.toNat_natCast]; rfl
theorem spL_short (n : Int) (l : List En) (g t : Int) : (spL n l g t).length ≤ 1048576 := by
  cases h : lcB n l g t
  · rw [sp_no h]; simp
  · obtain ⟨N, rfl, h1, h2⟩ := ask_nat (lc_ask h).1
    rw [sp_yes h, rng_len]; omega
/-- The first k are spread, the others are not. -/
def spK (l : List En) (g m : Int) (N k : Nat) : List Int := (List.range N).map fun j => if j < k then spF l g m N j else enV l g j - stV l g j
theorem spK_len (l : List En) (g m : Int) (N k : Nat) : (spK l g m N k).length = N := rng_len _ _
theorem spK_zero (l : List En) (g m : Int) (N : Nat) : spK l g m N 0 = wdL l g N := by
  unfold spK wdL; congr 1
theorem spK_all (l : List En) (g m : Int) (N : Nat) : spK l g m N N = (List.range N).map (spF l g m N) := by
  unfold spK
  refine List.map_congr_left fun j hj => ?_
  rw [if_pos (by simpa using hj)]
theorem spK_get (l : List En) (g m : Int) (N k : Nat) {j : Nat} (h : j < (spK l g m N k).length) : (spK l g m N k)[j] = if j < k then spF l g m N j else enV l g j - stV l g j := rng_at _ _
theorem spK_set (l : List En) (g m : Int) (N : Nat) {k : Nat} (hk : k < N) : (spK l g m N k).set k (spF l g m N k) = spK l g m N (k + 1) := by
  apply List.ext_getElem
  · rw [List.length_set, spK_len, spK_len]
  · intro i h1 h2
    rw [List.getElem_set, spK_get l g m N (k + 1) h2]
    by_cases h : k = i
    · subst h; rw [if_pos rfl, if_pos (by omega)]
    · rw [if_neg h, spK_get]
      by_cases h3 : i < k
      · rw [if_pos h3, if_pos (by omega)]
      · rw [if_neg h3, if_neg (by omega)]
theorem spK_at (l : List En) (g m : Int) (N : Nat) {k : Nat} (h : k < (spK l g m N k).length) : (spK l g m N k)[k] = enV l g k - stV l g k := by
  rw [spK_get, if_neg (by omega)]
theorem set_set (l : List Value) (i : Nat) (x y : Value) : (l.set i x).set i y = l.set i y := by simp
theorem own_at1 {w : World} {base n q cap : Nat} {e : TypeId} {xs : List Value} (h : w.ownsRow base e 1 (.slice (some ⟨q, 0, none⟩) n cap) n xs) (hn : 0 < n) : q < w.heap.size ∧ ∀ j, j < cap → (∃ u, w.cell? ⟨q, j, none⟩ = some u) ∧ w.frozen? ⟨q, j, none⟩ = false := by
  obtain ⟨q2, cap2, hvv, _, hqs, _, hcells⟩ := own_some h hn
  have e1 : q = q2 ∧ cap = cap2 := by
    injection hvv with e1 _ e2
    have e3 := Option.some.inj e1
    rw [Addr.mk.injEq] at e3
    exact ⟨e3.1, e2⟩
  obtain ⟨rfl, rfl⟩ := e1
  exact ⟨hqs, hcells⟩
set_option maxRecDepth 100000 in
set_option maxHeartbeats 4000000 in
theorem specSpreadTable_any (n : Int) (f : List En) (A : Option Addr) (c : Nat) (g t : Int) (w : World) (hf : EnsIn w A f) (hn : f.length ≤ 1048576) :
    Calls Try.prog 34 #[.int .i64 n, .slice A f.length c, .int .i64 g, .int .i64 t] w fun e w' => IntsB w w' e (spL n f g t) (lcB n f g t) := by
  have HF := Lib.hid hf; clear hf
  have HE : Hid (lcB n f g t = (askT n f g && (inB 0 5000 t && decide (wdV f g n ≤ t)))) := Lib.hid rfl
  go_enter Try.func34, Try.ntmps34
  go_wp2_with fail
  refine (tbAsked_any n f A c g _ HF.out hn).mono ?_
  rintro e w1 ⟨rfl, hb1⟩
  have HB1 := Lib.hid hb1; clear hb1
  cases ha : askT n f g
  · have HA : Hid (lcB n f g t = false) := Lib.hid (by rw [HE.out, ha]; rfl)
    clear ha
    have HV := Lib.hid (sp_no HA.out)
    go_wp2
    go_ret2
    exact ⟨_, 3, ret_vb HA.out.symm, HB1.out, by rw [HV.out]; exact own_nil _ _ _ _⟩
  go_wp2_with fail
  refine (l1In_any _ _ _ _).mono ?_
  rintro e w' ⟨rfl, rfl⟩
  cases hi : inB 0 5000 t
  · have HA : Hid (lcB n f g t = false) := Lib.hid (by rw [HE.out, hi, Bool.false_and, Bool.and_false])
    clear ha hi
    have HV := Lib.hid (sp_no HA.out)
    go_wp2
    go_ret2
    exact ⟨_, 3, ret_vb HA.out.symm, HB1.out, by rw [HV.out]; exact own_nil _ _ _ _⟩
  have ht := inBs_iff.1 hi
  obtain ⟨hG, h0, h36⟩ := askT_iff.1 ha
  obtain ⟨N, rfl, hN1, hN10⟩ := ask_nat ha
  have HG := Lib.hid hG
  clear hG
  go_wp2_with fail
  refine (tbWidth_any N f A c g _ HG.out h0 h36 (HF.out.below HB1.out (Nat.le_refl _))).mono ?_
  rintro e w2 ⟨rfl, hb2⟩
  have HB2 := Lib.hid (HB1.out.trans (hb2.mono HB1.out.size)); clear hb2 HB1
  have HB1 := HB2; clear HB2
  by_cases hw : t < wdV f g (N : Int)
  · have HA : Hid (lcB (N : Int) f g t = false) := Lib.hid (by rw [HE.out, decide_eq_false (by omega), Bool.and_false, Bool.and_false])
    clear ha hi
    have HV := Lib.hid (sp_no HA.out)
    go_wp2
    go_ret2
    exact ⟨_, 3, ret_vb HA.out.symm, HB1.out, by rw [HV.out]; exact own_nil _ _ _ _⟩
  have HA : Hid (lcB (N : Int) f g t = true) := Lib.hid (by rw [HE.out, ha, hi, decide_eq_true (by omega)]; rfl)
  have HV := Lib.hid (sp_yes HA.out)
  have hwd := lastWd HG.out h0 h36 hN1
  clear ha hi
  go_wp2_with fail
  refine (tbStarts_any N f A c g _ HG.out h0 h36 (HF.out.below HB1.out (Nat.le_refl _))).mono ?_
  rintro e w3 ⟨v, rfl, hb3, ho3⟩
  have HB3 := Lib.hid (HB1.out.trans (hb3.mono HB1.out.size))
  obtain ⟨A3, c3, rfl⟩ := own_form ho3
  have HI3 := Lib.hid (own_in ho3)
  clear ho3 hb3
  go_wp2_with fail
  refine (tbWidths_any N f A3 c3 g w3 HG.out h0 h36 HI3.out).mono ?_
  rintro e w4 ⟨v4, rfl, hb4, ho4⟩
  have HB4 := Lib.hid (HB3.out.trans (hb4.mono HB3.out.size))
  have hlen := wdL_len' f g N
  rw [hlen] at ho4
  obtain ⟨q, cap, rfl, hq, hql, hcap, hcells⟩ := own_some ho4 (by omega)
  have hqw : w.heap.size ≤ q := Nat.le_trans HB3.out.size hq
  have HO4 := Lib.hid (own_up2 ho4 HB3.out.size)
  clear hb4 ho4 hcells
  go_wp2_with fail
  refine (tbWidth_any N f A c g _ HG.out h0 h36 (HF.out.below HB4.out (Nat.le_refl _))).mono ?_
  rintro e w5 ⟨rfl, hb5⟩
  have HB5 := Lib.hid (HB4.out.trans (hb5.mono HB4.out.size)); have HO5 := Lib.hid (own_below HO4.out hb5)
  clear hb5
  obtain ⟨m, hm⟩ : ∃ m, m = t - wdV f g (N : Int) := ⟨_, rfl⟩
  rw [← hm] at HV
  have hm0 : 0 ≤ m := by omega
  have hm1 : m ≤ 12000 := by omega
  have htame := tdiv_tame (g := (N : Int)) hm0 hm1
  have HDR : Hid (m.tdiv (N : Int) = m.tdiv (N : Int)) := Lib.hid rfl
  obtain ⟨dd, hd⟩ : ∃ x, x = m.tdiv (N : Int) := ⟨_, rfl⟩
  obtain ⟨rr, hr⟩ : ∃ x, x = m.tmod (N : Int) := ⟨_, rfl⟩
  have HEY : Hid (∀ i : Nat, (i : Int) < rr → evI m (N : Int) i = dd + 1) := Lib.hid (fun i h => by rw [hd]; exact evI_yes (by rw [← hr]; exact h))
  have HEN : Hid (∀ i : Nat, ¬ (i : Int) < rr → evI m (N : Int) i = dd) := Lib.hid (fun i h => by rw [hd]; exact evI_no (by rw [← hr]; exact h))
  rw [← hd, ← hr] at htame
  have hd2 := hd.symm; have hr2 := hr.symm
  have hnz : ¬ (N : Int) = 0 := by omega
  have hnb : ((N : Int) == 0) = false := by simp; omega
  have hnm : ¬ (N : Int) = -1 := by omega
  have HSTART : Hid (w5.ownsRow w.heap.size 3 1 (.slice (some ⟨q, 0, none⟩) N cap) N (intsZ (spK f g m N 0))) := Lib.hid (by rw [spK_zero]; exact HO5.out)
  have hmw : t - wdV f g (N : Int) = m := hm.symm
  clear hd hr HDR hm
  generalize wdV f g (N : Int) = wd at *
  go_wp2
  go_loopw [45] (fun i wr => ∃ k : Nat, k ≤ N ∧ i = .int .i64 (k : Int) ∧ wr.ownsRow w.heap.size 3 1 (.slice (some ⟨q, 0, none⟩) N cap) N (intsZ (spK f g m N k)) ∧ Below w.heap.size w wr) (fun i _ => N - (intOf i).toNat)
  case atStart => exact ⟨0, Nat.zero_le _, rfl, HSTART.out, HB5.out⟩
  case round =>
    obtain ⟨ws, hws⟩ : ∃ u : World, u = wr := ⟨_, rfl⟩
    subst hws
    obtain ⟨k, hk, rfl, hv, hb⟩ := hrel
    by_cases hlt : k < N
    · have hsl := spK_len f g m N k
      have hc := hv.cellAt k (by omega)
      have e0 : ws.cell? ⟨q, k, none⟩ = some (.int .i64 (enV f g k - stV f g k)) := by
        rw [hc]
        simp only [intsZ, List.getElem?_map, List.getElem?_eq_getElem (show k < (spK f g m N k).length by omega), spK_at]
        rfl
      obtain ⟨hqs, hcells⟩ := own_at1 hv (by omega)
      have f0 := (hcells k (by omega)).2
      have hwb := enV_bd HG.out.all h0 h36 (k := k) (by omega)
      have hsb := stV_all HG.out.all h0 h36 (k := k) (by omega)
      have HK := Lib.hid (spK_set f g m N hlt)
      have HEY2 := Lib.hid (HEY.out k); have HEN2 := Lib.hid (HEN.out k)
      have HSP : Hid (spF f g m N k = (enV f g k - stV f g k) + evI m (N : Int) k) := Lib.hid rfl
      obtain ⟨x, hx⟩ : ∃ x, x = enV f g k - stV f g k := ⟨_, rfl⟩
      rw [← hx] at e0 HSP
      have hxb : 0 ≤ x ∧ x ≤ 6960 := by omega
      have HVV := Lib.hid hv; have HBS := Lib.hid hb
      have hkN : (k : Int) < (N : Int) := by omega
      have y0 := KeptW.cell e0 hqs
      have HEX : Hid (k < (intsZ (spK f g m N k)).length) := Lib.hid (by rw [intsZ_len, hsl]; exact hlt)
      have HKL := Lib.hid hsl
      clear hv hb hc hcells hx hwb hsb hsl f0
      go_wp2_with fail
      refine region_mid ws.heap.size 9 (by kernel_rfl) (by kernel_rfl) rfl ?_
      simp only [List.take_succ_cons, List.take_zero]
      repeat (go_big_quiet_step (fail))
      refine wpQuiet_nil ?_
      intro w7 hb7 K hK
      have hv7 := own_below HVV.out hb7
      obtain ⟨hq7, hc7⟩ := own_at1 hv7 (by omega)
      obtain ⟨⟨u7, e7⟩, f7⟩ := hc7 k (by omega)
      have H1 := Lib.hid (own_set1 (i := k) hv7 (.int .i64 (x + dd)))
      have HB7 := Lib.hid ((HBS.out.trans (hb7.mono HBS.out.size)).setCell (p := ⟨q, k, none⟩) hqw (.int .i64 (x + dd)))
      have eS : (w7.setCell ⟨q, k, none⟩ (.int .i64 (x + dd))).cell? ⟨q, k, none⟩ = some (.int .i64 (x + dd)) := by
        have h := H1.out.cellAt k (by rw [Nat.mul_one]; exact hlt)
        rw [h, List.getElem?_set_self HEX.out]
      clear hb7 hv7 hc7 y0
      go_simp
      refine hK _ _ ?_
      clear hK
      simp only [List.drop_succ_cons, List.drop_zero]
      repeat (go_big_quiet_step (fail))
      refine wpQuiet_nil ?_
      obtain ⟨w8, hw8⟩ : ∃ u : World, u = w7.setCell ⟨q, k, none⟩ (.int .i64 (x + dd)) := ⟨_, rfl⟩
      rw [← hw8] at H1 HB7 eS ⊢
      obtain ⟨hq8, hc8⟩ := own_at1 H1.out (by omega)
      have f8 := (hc8 k (by omega)).2
      have H2 := Lib.hid (own_set1 (i := k) H1.out (.int .i64 (x + dd + 1)))
      have HB8 := Lib.hid (HB7.out.setCell (p := ⟨q, k, none⟩) hqw (.int .i64 (x + dd + 1)))
      clear hw8 hc8 e7 f7
      by_cases hlr : (k : Int) < rr
      · have HR : Hid (((intsZ (spK f g m N k)).set k (.int .i64 (x + dd))).set k (.int .i64 (x + dd + 1)) = intsZ (spK f g m N (k + 1))) := Lib.hid (by
          rw [set_set, ← HK.out, intsZ_set, HSP.out, HEY2.out hlr]; congr 2; omega)
        rw [HR.out] at H2
        go_wp2
        go_roundw
        case rel => exact ⟨k + 1, by omega, by go_num, H2.out, HB8.out⟩
        case measure => simp [intOf]; omega
      · have HR : Hid ((intsZ (spK f g m N k)).set k (.int .i64 (x + dd)) = intsZ (spK f g m N (k + 1))) := Lib.hid (by
          rw [← HK.out, intsZ_set, HSP.out, HEN2.out (by omega)])
        rw [HR.out] at H1
        go_wp2
        go_roundw
        case rel => exact ⟨k + 1, by omega, by go_num, H1.out, HB7.out⟩
        case measure => simp [intOf]; omega
    · obtain rfl : k = N := by omega
      have HFIN : Hid (spL (k : Int) f g t = spK f g m k k) := Lib.hid (by rw [HV.out, spK_all])
      have HLN := Lib.hid (spK_len f g m k k)
      go_wp2
      go_ret2
      exact ⟨_, _, ret_vb HA.out.symm, hb, by rw [HFIN.out, HLN.out]; exact hv⟩
end Go.Proofs.Yteagclokobkigaa

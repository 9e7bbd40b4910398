/-
  The contract of impl.LatestColumns.
-/
import Derived.Test.YteagclokobkigaaFa
import Derived.Test.YteagclokobkigaaFb
namespace Go.Proofs.Yteagclokobkigaa
open Go.RowKit Go.Shelf
set_option linter.unusedVariables false
attribute [local go_sem] Oper.semAt_some

/-- What comes first: the ends of the mirrored table, from the total width. -/
def frF (N : Nat) (l : List En) (g t : Int) (j : Nat) : Int := t - enV (miL (N : Int) l) g j
def frL (N : Nat) (l : List En) (g t : Int) (k : Nat) : List Int := (List.range k).map (frF N l g t)
theorem frL_succ (N : Nat) (l : List En) (g t : Int) (k : Nat) : frL N l g t (k + 1) = frL N l g t k ++ [t - enV (miL (N : Int) l) g k] := rng_succ _ _
theorem frL_len (N : Nat) (l : List En) (g t : Int) (k : Nat) : (frL N l g t k).length = k := rng_len _ _
theorem fr_lt {N : Nat} {l : List En} {g t : Int} (h : AllOk (N : Int) l) {p : Nat} (hp : p < N) : frF N l g t (N - 1 - p) = ltV (N : Int) l g t p := by
  have e := stV_succ (miL_ok h) g (N - 1 - p)
  rw [show N - 1 - p + 1 = N - p from by omega] at e
  unfold frF ltV
  rw [Int.toNat_natCast, e]; omega
theorem fr_set {N : Nat} {l : List En} {g t : Int} (h : AllOk (N : Int) l) (hN : 0 < N) : ((List.range N).map fun p => frF N l g t (N - 1 - p)).set 0 0 = (List.range N).map (lcF (N : Int) l g t) := by
  rw [rng_set _ _ hN]
  refine List.map_congr_left fun p hp => ?_
  have hp : p < N := by simpa using hp
  unfold lcF
  by_cases h0 : p = 0
  · rw [if_pos h0, if_pos h0]
  · rw [if_neg h0, if_neg h0]; exact fr_lt h hp
theorem implLatestNo_any (n : Int) (f : List En) (A : Option Addr) (c : Nat) (g t : Int) (w : World) (hf : EnsIn w A f) (hn : f.length ≤ 1048576) (hr : EnR f) (hA : lcB n f g t = false) :
    Calls Try.prog 31 #[.int .i64 n, .slice A f.length c, .int .i64 g, .int .i64 t] w fun e w' => IntsB w w' e [] false := by
  have HF := Lib.hid hf; clear hf
  have HE : Hid (lcB n f g t = (askT n f g && (inB 0 5000 t && decide (wdV f g n ≤ t)))) := Lib.hid rfl
  have HNV := Lib.hid (tabV_no (n := n) (f := f) (g := g) A c); have HYV := Lib.hid (tabV_yes (n := n) (f := f) (g := g) A c)
  have HA := Lib.hid hA; clear hA
  obtain ⟨w0, hw0⟩ : ∃ u : World, u = w.alloc (.cells #[.int .i64 t] 3) := ⟨_, rfl⟩
  have HB0 : Hid (Below w.heap.size w w0) := Lib.hid (by rw [hw0]; exact (Below.refl _ _).alloc (Nat.le_refl _) _)
  have hx0 : Boxed w0 w.heap.size 3 (.int .i64 t) := by rw [hw0]; exact Boxed.new _ _ _
  have HX0 := Lib.hid hx0; have HW0 := Lib.hid hw0
  clear hx0 hw0
  go_enter Try.func31, Try.ntmps31
  go_wp2_with fail
  rw [← HW0.out]
  refine (newGapped_any n f A c g _ (HF.out.below HB0.out (Nat.le_refl _)) hn hr).mono ?_
  rintro e w1 ⟨rfl, hb1⟩
  have HB1 := Lib.hid (HB0.out.trans (hb1.mono HB0.out.size)); have HX1 := Lib.hid (show Boxed w1 _ _ _ from (hb1.block _ HX0.out.lt).trans HX0.out); clear hb1
  cases ha : askT n f g
  · rw [HNV.out ha]
    clear ha
    go_wp2
    go_ret2
    exact ⟨_, 3, rfl, HB1.out.alloc HB1.out.size _, own_nil _ _ _ _⟩
  rw [HYV.out ha]
  obtain ⟨hG, h0, h36⟩ := askT_iff.1 ha
  obtain ⟨N, rfl, hN1, hN10⟩ := ask_nat ha
  have HG := Lib.hid hG
  obtain ⟨w2, hw2⟩ : ∃ u : World, u = w1.alloc (.cells #[.int .i64 (N : Int), .slice A f.length c, .int .i64 g] 55) := ⟨_, rfl⟩
  have hb2 : Below w.heap.size w w2 := by rw [hw2]; exact HB1.out.alloc HB1.out.size _
  have hx2 : Boxed w2 w.heap.size 3 (.int .i64 t) := by rw [hw2]; exact HX1.out.alloc _
  have HW2 := Lib.hid hw2; have HB2 := Lib.hid hb2
  have c0 := HX1.out.cell
  have hl0 := HX1.out.lt
  have hwd := lastWd hG h0 h36 hN1
  have HAA := Lib.hid ha
  clear hw2 hb2 ha hG
  go_wp2_with fail
  rw [← HW2.out]
  refine (hasRoom_any N f A c g t _ HG.out h0 h36 (HF.out.below HB2.out (Nat.le_refl _))).mono ?_
  rintro e w3 ⟨rfl, hb3⟩
  have HB3 := Lib.hid (HB2.out.trans (hb3.mono HB2.out.size))
  clear hb3 c0
  have hno : (decide (wdV f g (N : Int) ≤ t) && decide (t ≤ 5000)) = false := by
    cases h1 : (decide (wdV f g (N : Int) ≤ t) && decide (t ≤ 5000)) with
    | false => rfl
    | true =>
      rw [Bool.and_eq_true, decide_eq_true_eq, decide_eq_true_eq] at h1
      have h2 := HA.out
      rw [HE.out, HAA.out, inBs_iff.2 ⟨by omega, h1.2⟩, decide_eq_true h1.1] at h2; cases h2
  rw [hno]
  go_wp2
  go_ret2
  exact ⟨_, 3, rfl, HB3.out, own_nil _ _ _ _⟩
set_option maxRecDepth 100000 in
set_option maxHeartbeats 8000000 in
theorem implLatestColumns_any (n : Int) (f : List En) (A : Option Addr) (c : Nat) (g t : Int) (w : World) (hf : EnsIn w A f) (hn : f.length ≤ 1048576) (hr : EnR f) :
    Calls Try.prog 31 #[.int .i64 n, .slice A f.length c, .int .i64 g, .int .i64 t] w fun e w' => IntsB w w' e (lcL n f g t) (lcB n f g t) := by
  cases hA : lcB n f g t
  · rw [lc_no hA]; exact implLatestNo_any n f A c g t w hf hn hr hA
  obtain ⟨ha, ht, htw⟩ := lc_ask hA
  obtain ⟨hG, h0, h36⟩ := askT_iff.1 ha
  obtain ⟨N, rfl, hN1, hN10⟩ := ask_nat ha
  have HV := Lib.hid (lc_yes hA)
  have HYV : Hid (tabV (N : Int) f A c g = .agg #[.int .i64 (N : Int), .slice A f.length c, .int .i64 g]) := Lib.hid (tabV_yes A c ha)
  have HAS := Lib.hid ha
  have HRM : Hid ((decide (wdV f g (N : Int) ≤ t) && decide (t ≤ 5000)) = true) := Lib.hid (by rw [decide_eq_true htw, decide_eq_true ht.2]; rfl)
  have HG := Lib.hid hG; have HF := Lib.hid hf
  obtain ⟨i0, hi, hz0, hz1, hz2⟩ := info_parts info_int
  have HI := Lib.hid hi; have HZ0 := Lib.hid hz0; have HZ1 := Lib.hid hz1; have HZ2 := Lib.hid hz2
  obtain ⟨w0, hw0⟩ : ∃ u : World, u = w.alloc (.cells #[.int .i64 t] 3) := ⟨_, rfl⟩
  have HB0 : Hid (Below w.heap.size w w0) := Lib.hid (by rw [hw0]; exact (Below.refl _ _).alloc (Nat.le_refl _) _)
  have hx0 : Boxed w0 w.heap.size 3 (.int .i64 t) := by rw [hw0]; exact Boxed.new _ _ _
  have HX0 := Lib.hid hx0; have HW0 := Lib.hid hw0
  have n6 : 1 ≤ 6 := by omega
  clear hx0 hw0 hA ha htw hG hf hi hz0 hz1 hz2
  refine (callsIn_wide (n := 6)).1 ?_
  refine callsIn_of_wp_marks Try.func31 rfl trivial ?_ rfl
  simp only [Try.ntmps31, List.size_toArray, List.length_cons, List.length_nil, Nat.reduceAdd, Nat.reduceSub, Array.replicate_succ, Array.replicate_zero, List.push_toArray, List.append_toArray, List.nil_append, List.cons_append]
  refine wpIn_wide.2 ?_
  go_wp2_with fail
  rw [← HW0.out]
  refine (newGapped_any (N : Int) f A c g _ (HF.out.below HB0.out (Nat.le_refl _)) hn hr).mono ?_
  rintro e w1 ⟨rfl, hb1⟩
  have HB1 := Lib.hid (HB0.out.trans (hb1.mono HB0.out.size)); have HX1 := Lib.hid (show Boxed w1 _ _ _ from (hb1.block _ HX0.out.lt).trans HX0.out); clear hb1
  rw [HYV.out, HAS.out]
  obtain ⟨w2, hw2⟩ : ∃ u : World, u = w1.alloc (.cells #[.int .i64 (N : Int), .slice A f.length c, .int .i64 g] 55) := ⟨_, rfl⟩
  have hb2 : Below w.heap.size w w2 := by rw [hw2]; exact HB1.out.alloc HB1.out.size _
  have hx2 : Boxed w2 w.heap.size 3 (.int .i64 t) := by rw [hw2]; exact HX1.out.alloc _
  have hy2 : w2.heap[w1.heap.size]? = some (.cells #[.int .i64 (N : Int), .slice A f.length c, .int .i64 g] 55) := by rw [hw2]; exact heap_new _ _
  have HW2 := Lib.hid hw2; have HB2 := Lib.hid hb2; have HX2 := Lib.hid hx2; have HY2 := Lib.hid hy2
  have c0 := HX1.out.cell
  have hl0 := HX1.out.lt
  clear hw2 hb2 hx2 hy2
  go_wp2_with fail
  rw [← HW2.out]
  refine (hasRoom_any N f A c g t _ HG.out h0 h36 (HF.out.below HB2.out (Nat.le_refl _))).mono ?_
  rintro e w3 ⟨rfl, hb3⟩
  rw [HRM.out]
  have HB3 := Lib.hid (HB2.out.trans (hb3.mono HB2.out.size))
  have hx3 : Boxed w3 w.heap.size 3 (.int .i64 t) := (hb3.block _ HX2.out.lt).trans HX2.out
  have hy3 : w3.heap[w1.heap.size]? = some (.cells #[.int .i64 (N : Int), .slice A f.length c, .int .i64 g] 55) := (hb3.block _ (lt_of_heap HY2.out)).trans HY2.out
  obtain ⟨w4, hw4⟩ : ∃ u : World, u = w3.alloc (.cells #[.slice none 0 0] 27) := ⟨_, rfl⟩
  have z4 : w4.heap.size = w3.heap.size + 1 := by rw [hw4, World.size_alloc]
  have hd4 : Boxed w4 w3.heap.size 27 (.slice none 0 0) := by rw [hw4]; exact Boxed.new _ _ _
  have hx4 : Boxed w4 w.heap.size 3 (.int .i64 t) := by rw [hw4]; exact hx3.alloc _
  have hb4 : Below w3.heap.size w3 w4 := by rw [hw4]; exact (Below.refl _ _).alloc (Nat.le_refl _) _
  have q0 : w3.cell? ⟨w1.heap.size, 0, none⟩ = some (.int .i64 (N : Int)) := by rw [cell_of_heap hy3]; rfl
  have q1 : w3.cell? ⟨w1.heap.size, 1, none⟩ = some (.slice A f.length c) := by rw [cell_of_heap hy3]; rfl
  have q2 : w3.cell? ⟨w1.heap.size, 2, none⟩ = some (.int .i64 g) := by rw [cell_of_heap hy3]; rfl
  have hyl := lt_of_heap hy3
  have hxl := hx3.lt
  have HB4 := Lib.hid (HB3.out.trans (hb4.mono HB3.out.size)); have HW4 := Lib.hid hw4; have HD4 := Lib.hid hd4; have HX4 := Lib.hid hx4; have HZ4 := Lib.hid z4
  clear hb3 hx3 hy3 hw4 hd4 hx4 hb4 c0 hl0 z4
  go_wp2_with fail
  rw [← HW4.out]
  refine (mirrored_any N f A c g _ HG.out (HF.out.below HB4.out (Nat.le_refl _))).mono ?_
  rintro e w5 ⟨A', c', rfl, hb5, he5, hn5⟩
  have HB5 := Lib.hid (HB4.out.trans (hb5.mono HB4.out.size))
  have hd5 : Boxed w5 w3.heap.size 27 (.slice none 0 0) := (hb5.block _ HD4.out.lt).trans HD4.out
  have hx5 : Boxed w5 w.heap.size 3 (.int .i64 t) := (hb5.block _ HX4.out.lt).trans HX4.out
  have hDl := hd5.lt
  have hml := miL_len (N : Int) f
  have hseq := places_hand 5 (by omega) N (miL (N : Int) f) A' c' g w3.heap.size w5 (miL_good HG.out) h0 h36 he5 hDl (fun b hb => by have := (pts_box hd5).1 hb; cases this) (fun hb => by have h1 := hn5 _ hb.1; have := HZ4.out; omega)
  rw [hml] at hseq
  have HSEQ := Lib.hid hseq; have HD5 := Lib.hid hd5; have HX5 := Lib.hid hx5
  have hws := HB3.out.size
  have HXL := Lib.hid hxl
  clear hseq hd5 hx5 hb5 he5 hn5 q0 q1 q2 hyl hxl hml
  go_wp2
  refine (wpIn_wide (n := 6)).1 ?_
  refine range_bound (n := 6) n6 rfl (enters_of Try.func62 (by kernel_rfl) rfl) HSEQ.out (Below.refl _ _) hDl (fun _ => rfl)
    (RowI w3.heap.size w3.heap.size w5 27 3 (frL N f g t)) (rowI_ab hDl (by omega) (by omega)) ⟨⟨_, HD5.out, own_nil _ _ _ _⟩, Below.refl _ _⟩ ?act ?assign ?body ?done
  case assign =>
    intro lp k W K hK
    gi_wp2
    exact hK
  case body =>
    rintro lp k W ⟨⟨v, hv, hrow⟩, hB⟩ hlt
    have hc := hv.cell
    have hmx : k + 1 ≤ maxLen := by unfold maxLen; omega
    have hmx2 : k ≤ 1000 := by omega
    have HSU := Lib.hid (frL_succ N f g t k)
    have hbe := enV_bd (miL_ok HG.out.all) h0 h36 (k := k) (by omega)
    have hbd := stV_all (miL_ok HG.out.all) h0 h36 (k := k) (by omega)
    have hxw : Boxed W w.heap.size 3 (.int .i64 t) := (hB.block _ HXL.out).trans HX5.out
    have cx := hxw.cell
    have HROW := Lib.hid hrow; have HV' := Lib.hid hv; have HB := Lib.hid hB
    have hwW := hB.size
    clear hrow hv hB hxw
    generalize frL N f g t k = L at *
    generalize stV (miL (N : Int) f) g k = sv at *
    generalize enV (miL (N : Int) f) g k = ev at *
    gi_wp2_with (gi_at_builtin; refine wpListIn_append_own_at _ rfl _ _ 27 rfl w3.heap.size 3 i0 (.int .i64 0) 1 8 Try.underlying27 HI.out HZ0.out HZ1.out HZ2.out rfl (by decide) _ _ _ rfl (HROW.out.alloc _) ⟨W.heap.size, 0, none⟩ 1 1 [.int .i64 (t - ev)] rfl rfl (cell_one_new _ _ _) (by simp [Value.oneCell']) hmx (by omega) (by first | (simp; done) | (simp; omega) | omega) ?_)
    intro v' w7 hown' hgrow _ hat
    obtain ⟨hv1, hv2, hr2, hk2, hb2⟩ := HV'.out.appended (by decide) HROW.out (by omega) (by omega) hown' hgrow
    have HKP := Lib.hid (kpd_app HV'.out hv1 hgrow hat)
    have hc1 := hv1.cell; have hf1 := hv1.frozen
    have HV2 := Lib.hid hv2; have HR2 := Lib.hid hr2; have HK2 := Lib.hid hk2; have HB7 := Lib.hid hb2
    obtain ⟨A5, c5, hve⟩ := own_form (l := L ++ [t - ev]) (by rw [intsZ_snoc]; exact hown')
    simp only [List.length_append, List.length_cons, List.length_nil, Nat.zero_add] at hve
    clear hv2 hr2 hk2 hb2 hgrow hv1 hown' hat
    subst hve
    gi_wp2
    refine ⟨HK2.out, HKP.out, ⟨⟨_, HV2.out, ?_⟩, HB.out.trans HB7.out⟩⟩
    rw [HSU.out, intsZ_snoc]
    exact HR2.out
  case done =>
    rintro E W hE ⟨⟨v, hv, hrow⟩, hB⟩ hK
    obtain ⟨q, cap, rfl, hq, hql, hcap, hcells⟩ := own_some hrow (by omega)
    have hqD : w3.heap.size ≠ q := fun e => hv.not_row (by decide) hrow (by rw [e]; rfl)
    have hqE : E ≠ q := by
      intro e
      obtain ⟨u, hu⟩ := (hcells 0 (by omega)).1
      obtain ⟨o, ho, hc⟩ := iscells_of hu
      rw [← e, hK] at ho
      cases ho; cases hc
    have hc := hv.cell
    have hEl := lt_of_heap hK
    have HV' := Lib.hid hv; have HROW := Lib.hid hrow; have HK := Lib.hid hK
    have HBW := Lib.hid (HB5.out.trans (hB.mono hws))
    have HFIN := Lib.hid (fr_set (t := t) (g := g) HG.out.all (show 0 < N by omega))
    clear hv hrow hB hcells hK
    go_wp2_with fail
    refine (reverse_any (frF N f g t) N w3.heap.size q cap W HROW.out hN1 (by omega) hcap).mono ?_
    rintro e W2 ⟨⟨v2, rfl⟩, hg2, ho2⟩
    have HV2 : Hid (Boxed W2 w3.heap.size 27 (.slice (some ⟨q, 0, none⟩) N cap)) := Lib.hid (HV'.out.kept hg2 (fun e => hqD (Option.some.inj e)))
    have HK2 : Hid (W2.heap[E]? = some (.deferred (some []))) := Lib.hid ((hg2.block E hEl (fun e => hqE (Option.some.inj e))).trans HK.out)
    have HB2' := Lib.hid (HBW.out.grown hg2 HBW.out.size (fun k e => by have := Option.some.inj e; omega))
    obtain ⟨hq2, hcells2⟩ := own_at1 ho2 (by omega)
    obtain ⟨⟨u0, e0⟩, f0⟩ := hcells2 0 (by omega)
    have HO3 := Lib.hid (own_set1 (i := 0) ho2 (.int .i64 0))
    have HB6 := Lib.hid (HB2'.out.setCell (p := ⟨q, 0, none⟩) (by show w.heap.size ≤ q; omega) (.int .i64 0))
    have HV3 : Hid (Boxed (W2.setCell ⟨q, 0, none⟩ (.int .i64 0)) w3.heap.size 27 (.slice (some ⟨q, 0, none⟩) N cap)) := Lib.hid ((Below.heap_setCell W2 ⟨q, 0, none⟩ _ w3.heap.size hqD).trans HV2.out)
    have HK3 : Hid ((W2.setCell ⟨q, 0, none⟩ (.int .i64 0)).heap[E]? = some (.deferred (some []))) := Lib.hid ((Below.heap_setCell W2 ⟨q, 0, none⟩ _ E hqE).trans HK2.out)
    have cD := HV2.out.cell
    have hN0 : (0 : Int) < (N : Int) := by omega
    have hEw : w.heap.size ≤ E := by omega
    obtain ⟨W3, hW3⟩ : ∃ u : World, u = W2.setCell ⟨q, 0, none⟩ (.int .i64 0) := ⟨_, rfl⟩
    rw [← hW3] at HO3 HB6 HV3 HK3
    have HW3 := Lib.hid hW3
    clear hg2 ho2 hcells2 hW3 hc
    go_wp2_with fail
    rw [← HW3.out]
    refine ⟨by simp, .inl ⟨_, _, rfl, run_takeDeferred HK3.out, ?_⟩⟩
    have HLEN : Hid ((lcL (N : Int) f g t).length = N) := Lib.hid (by rw [HV.out, rng_len])
    have HROWF : Hid (W3.ownsRow w.heap.size 3 1 (.slice (some ⟨q, 0, none⟩) N cap) N (intsZ (lcL (N : Int) f g t))) := Lib.hid (by
      have h := own_up2 HO3.out hws
      rw [← intsZ_set, HFIN.out, ← HV.out] at h; exact h)
    exact ⟨.tuple #[.slice (some ⟨q, 0, none⟩) N cap, .bool true], by simp [results, Try.f31, go_sem], _, _, rfl, below_put _ HB6.out hEw HK3.out, by rw [HLEN.out]; exact ownsRow_putObj HROWF.out _ HK3.out rfl⟩
end Go.Proofs.Yteagclokobkigaa

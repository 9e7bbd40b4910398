/-
  The contracts of impl.gappedTable.leastStarts, leastWidths, leastWidth.
-/
import Derived.Test.YteagclokobkigaaEj
import Derived.Maps.OwnIn
import Derived.Maps.AppendAt
namespace Go.Proofs.Yteagclokobkigaa
open Go.RowKit Go.Shelf
set_option linter.unusedVariables false
attribute [local go_sem] Oper.semAt_some

theorem below_put {w W : World} {B E : Nat} {o : Obj} (o' : Obj) (h : Below B w W) (hE : B ≤ E) (hk : W.heap[E]? = some o) : Below B w (W.putObj E o') :=
  h.grown (grownBy_putObj' W E o') (by have := lt_of_heap hk; omega) (fun k e => by cases e; exact hE)
theorem pts_box {W : World} {D q : Nat} {t : TypeId} {v : Value} (h : Boxed W D t v) : Pts W D q ↔ v.ownBlock = some q := by
  unfold Pts
  rw [h.cell]
  exact ⟨fun ⟨u, h1, h2⟩ => by cases h1; exact h2, fun h => ⟨v, rfl, h⟩⟩
/-- A round that appends to the row of box D. -/
theorem kpd_app {W w1 : World} {D : Nat} {t : TypeId} {v v' : Value} {tmp : Obj} (hv : Boxed W D t v) (hv1 : Boxed w1 D t v) (hgrow : (W.alloc tmp).grownBy w1 v.ownBlock) (hat : v'.ownBlock = v.ownBlock ∨ v'.ownBlock = some (W.heap.size + 1)) :
    KpD D W (w1.setCell ⟨D, 0, none⟩ v') := by
  have hs := hgrow.size
  rw [World.size_alloc] at hs
  refine ⟨?_, fun b o h1 h2 h3 h4 => ?_, fun b hb => ?_⟩
  · have := (grownBy_setCell' w1 D v').size; omega
  · have e1 : (W.alloc tmp).heap[b]? = some o := (Below.heap_alloc W tmp b (lt_of_heap h3)).trans h3
    have e2 : w1.heap[b]? = some o := (hgrow.block b (lt_of_heap e1) (fun e => h2 ((pts_box hv).2 e.symm))).trans e1
    exact (Below.heap_setCell w1 ⟨D, 0, none⟩ v' b h1).trans e2
  · have hb2 := (pts_box (hv1.set v')).1 hb
    rcases hat with h | h
    · exact .inl ((pts_box hv).2 (by rw [← h]; exact hb2))
    · rw [h] at hb2
      have : W.heap.size + 1 = b := Option.some.inj hb2
      exact .inr (by omega)
/-- The caller's invariant: a box that holds a row of its own. -/
def RowI (D n₀ : Nat) (w : World) (t e : TypeId) (L : Nat → List Int) (k : Nat) (W : World) : Prop :=
  (∃ v, Boxed W D t v ∧ W.ownsRow n₀ e 1 v k (intsZ (L k))) ∧ Below n₀ w W
theorem rowI_ab {D n₀ B : Nat} {w : World} {t e : TypeId} {L : Nat → List Int} (hD : D < B) (hn : n₀ ≤ w.heap.size) (hB : n₀ ≤ B) : AbD D B (RowI D n₀ w t e L) := by
  rintro k W W' row ⟨⟨v, hv, ho⟩, hb⟩ hg hr
  refine ⟨⟨v, hv.kept hg (fun e => by have := (hr D e.symm).1; omega), own_grown ho hg (fun q e1 e2 => ?_)⟩, hb.grown hg (Nat.le_trans hn hb.size) (fun q e => Nat.le_trans hB (hr q e).1)⟩
  rcases (hr q e2).2 with h | ⟨o, h1, h2⟩
  · exact h ((pts_box hv).2 e1)
  · rcases ho.2 with ⟨rfl, _⟩ | ⟨g, cap, cur, rfl, _, hh, _⟩
    · cases e1
    · have e3 : g = q := Option.some.inj e1
      subst e3
      rw [h1] at hh; cases hh; cases h2
/-- A new row of ints of the call's own. -/
def IntsTo (w w' : World) (e : Ending) (n : Nat) (L : List Int) : Prop := ∃ v, e = .returned v ∧ Below w.heap.size w w' ∧ w'.ownsRow w.heap.size 3 1 v n (intsZ L)
theorem stL_succ (l : List En) (g : Int) (k : Nat) : stL l g (k + 1) = stL l g k ++ [stV l g k] := rng_succ _ _
theorem wdL_succ (l : List En) (g : Int) (k : Nat) : wdL l g (k + 1) = wdL l g k ++ [enV l g k - stV l g k] := rng_succ _ _
theorem stL_len (l : List En) (g : Int) (k : Nat) : (stL l g k).length = k := rng_len _ _
theorem wdL_len (l : List En) (g : Int) (k : Nat) : (wdL l g k).length = k := rng_len _ _
set_option maxRecDepth 100000 in
set_option maxHeartbeats 4000000 in
theorem leastStarts_any (N : Nat) (l : List En) (A : Option Addr) (c : Nat) (g : Int) (w : World) (hG : GoodT (N : Int) l) (h0 : 0 ≤ g) (h36 : g ≤ 36) (hf : EnsIn w A l) :
    Calls Try.prog 40 #[.agg #[.int .i64 (N : Int), .slice A l.length c, .int .i64 g]] w fun e w' => IntsTo w w' e N (stL l g N) := by
  obtain ⟨i0, hi, hz0, hz1, hz2⟩ := info_parts info_int
  have HI := Lib.hid hi; have HZ0 := Lib.hid hz0; have HZ1 := Lib.hid hz1; have HZ2 := Lib.hid hz2
  clear hi hz0 hz1 hz2
  have HG := Lib.hid hG; clear hG
  have hN1 : 1 ≤ N := by have := HG.out.n0; omega
  have hN10 : N ≤ 10 := by have := HG.out.n1; omega
  obtain ⟨w1, hw1⟩ : ∃ x : World, x = w.alloc (.cells #[.int .i64 (N : Int), .slice A l.length c, .int .i64 g] 55) := ⟨_, rfl⟩
  have z1 : w1.heap.size = w.heap.size + 1 := by rw [hw1, World.size_alloc]
  have hb1 : Below w.heap.size w w1 := by rw [hw1]; exact (Below.refl _ _).alloc (Nat.le_refl _) _
  have hx1 : w1.heap[w.heap.size]? = some (.cells #[.int .i64 (N : Int), .slice A l.length c, .int .i64 g] 55) := by rw [hw1]; exact heap_new _ _
  obtain ⟨w2, hw2⟩ : ∃ x : World, x = w1.alloc (.cells #[.slice none 0 0] 27) := ⟨_, rfl⟩
  have z2 : w2.heap.size = w.heap.size + 1 + 1 := by rw [hw2, World.size_alloc, z1]
  have hb2 : Below w.heap.size w w2 := by rw [hw2]; exact hb1.alloc (by omega) _
  have hx2 : w2.heap[w.heap.size]? = some (.cells #[.int .i64 (N : Int), .slice A l.length c, .int .i64 g] 55) := by rw [hw2]; exact (Below.heap_alloc _ _ _ (by omega)).trans hx1
  have hD : Boxed w2 (w.heap.size + 1) 27 (.slice none 0 0) := by rw [hw2, ← z1]; exact Boxed.new _ _ _
  have HW2 : Hid (w2 = (w.alloc (.cells #[.int .i64 (N : Int), .slice A l.length c, .int .i64 g] 55)).alloc (.cells #[.slice none 0 0] 27)) := Lib.hid (by rw [hw2, hw1])
  have hDl := hD.lt
  have hseq := places_hand 5 (by omega) N l A c g (w.heap.size + 1) w2 HG.out h0 h36 (hf.below hb2 (Nat.le_refl _)) hDl (fun b hb => by have := (pts_box hD).1 hb; cases this) (fun hb => by have := hb.lt hf; omega)
  have HSEQ := Lib.hid hseq; have HD := Lib.hid hD; have HB2 := Lib.hid hb2
  have r0 : w2.cell? ⟨w.heap.size, 0, none⟩ = some (.int .i64 (N : Int)) := by rw [cell_of_heap hx2]; rfl
  have r1 : w2.cell? ⟨w.heap.size, 1, none⟩ = some (.slice A l.length c) := by rw [cell_of_heap hx2]; rfl
  have r2 : w2.cell? ⟨w.heap.size, 2, none⟩ = some (.int .i64 g) := by rw [cell_of_heap hx2]; rfl
  rw [HW2.out] at r0 r1 r2
  have n6 : 1 ≤ 6 := by omega
  clear hseq hD hb2 hw1 hw2 hx1 hx2 hb1
  refine (callsIn_wide (n := 6)).1 ?_
  refine callsIn_of_wp_marks Try.func40 rfl trivial ?_ rfl
  simp only [Try.ntmps40, List.size_toArray, List.length_cons, List.length_nil, Nat.reduceAdd, Nat.reduceSub, Array.replicate_succ, Array.replicate_zero, List.push_toArray, List.append_toArray, List.nil_append, List.cons_append]
  gi_wp2
  rw [← HW2.out]
  clear r0 r1 r2
  refine range_bound (n := 6) n6 rfl (enters_of Try.func62 (by kernel_rfl) rfl) HSEQ.out (Below.refl _ _) hDl (fun _ => rfl)
    (RowI (w.heap.size + 1) w.heap.size w 27 3 (stL l g)) (rowI_ab hDl (Nat.le_refl _) (by omega)) ⟨⟨_, HD.out, own_nil _ _ _ _⟩, HB2.out⟩ ?act ?assign ?body ?done
  case assign =>
    intro lp k W K hK
    gi_wp2
    exact hK
  case body =>
    rintro lp k W ⟨⟨v, hv, hrow⟩, hB⟩ hlt
    have hc := hv.cell
    have hmx : k + 1 ≤ maxLen := by unfold maxLen; omega
    have hmx2 : k ≤ 1000 := by omega
    have HSU := Lib.hid (stL_succ l g k)
    have HBD := Lib.hid (stV_all HG.out.all h0 h36 (k := k) (by omega))
    have HBE := Lib.hid (enV_bd HG.out.all h0 h36 (k := k) (by omega))
    have HROW := Lib.hid hrow; have HV := Lib.hid hv; have HB := Lib.hid hB
    have hws := hB.size
    clear hrow hv hB
    generalize stL l g k = L at *
    have hbd := HBD.out; have hbe := HBE.out
    generalize stV l g k = sv at *
    generalize enV l g k = ev at *
    gi_wp2_with (gi_at_builtin; refine wpListIn_append_own_at _ rfl _ _ 27 rfl w.heap.size 3 i0 (.int .i64 0) 1 8 Try.underlying27 HI.out HZ0.out HZ1.out HZ2.out rfl (by decide) _ _ _ rfl (HROW.out.alloc _) ⟨W.heap.size, 0, none⟩ 1 1 [.int .i64 (sv)] rfl rfl (cell_one_new _ _ _) (by simp [Value.oneCell']) hmx (by omega) (by first | (simp; done) | (simp; omega) | omega) ?_)
    intro v' w5 hown' hgrow _ hat
    obtain ⟨hv1, hv2, hr2, hk2, hb2⟩ := HV.out.appended (by decide) HROW.out hws (by omega) hown' hgrow
    have HKP := Lib.hid (kpd_app HV.out hv1 hgrow hat)
    have hc1 := hv1.cell; have hf1 := hv1.frozen
    have HV2 := Lib.hid hv2; have HR2 := Lib.hid hr2; have HK2 := Lib.hid hk2; have HB3 := Lib.hid hb2
    obtain ⟨A5, c5, hve⟩ := own_form (l := L ++ [sv]) (by rw [intsZ_snoc]; exact hown')
    simp only [List.length_append, List.length_cons, List.length_nil, Nat.zero_add] at hve
    clear hv2 hr2 hk2 hb2 hgrow hv1 hown' hat
    subst hve
    gi_wp2
    refine ⟨HK2.out, HKP.out, ⟨⟨_, HV2.out, ?_⟩, HB.out.trans HB3.out⟩⟩
    rw [HSU.out, intsZ_snoc]
    exact HR2.out
  case done =>
    rintro E W hE ⟨⟨v, hv, hrow⟩, hB⟩ hK
    have hc := hv.cell
    obtain ⟨A5, c5, hve⟩ := own_form hrow
    subst hve
    have HV := Lib.hid hv; have HROW := Lib.hid hrow; have HB := Lib.hid hB; have HKD := Lib.hid hK
    clear hv hrow hB
    gi_wp2
    refine ⟨by simp, .inl ⟨_, _, rfl, run_takeDeferred hK, ?_⟩⟩
    exact ⟨_, results_tmp rfl _ _ _, _, rfl, below_put _ HB.out (by omega) hK, ownsRow_putObj HROW.out _ hK rfl⟩
set_option maxRecDepth 100000 in
set_option maxHeartbeats 4000000 in
theorem leastWidths_any (N : Nat) (l : List En) (A : Option Addr) (c : Nat) (g : Int) (w : World) (hG : GoodT (N : Int) l) (h0 : 0 ≤ g) (h36 : g ≤ 36) (hf : EnsIn w A l) :
    Calls Try.prog 44 #[.agg #[.int .i64 (N : Int), .slice A l.length c, .int .i64 g]] w fun e w' => IntsTo w w' e N (wdL l g N) := by
  obtain ⟨i0, hi, hz0, hz1, hz2⟩ := info_parts info_int
  have HI := Lib.hid hi; have HZ0 := Lib.hid hz0; have HZ1 := Lib.hid hz1; have HZ2 := Lib.hid hz2
  clear hi hz0 hz1 hz2
  have HG := Lib.hid hG; clear hG
  have hN1 : 1 ≤ N := by have := HG.out.n0; omega
  have hN10 : N ≤ 10 := by have := HG.out.n1; omega
  obtain ⟨w1, hw1⟩ : ∃ x : World, x = w.alloc (.cells #[.int .i64 (N : Int), .slice A l.length c, .int .i64 g] 55) := ⟨_, rfl⟩
  have z1 : w1.heap.size = w.heap.size + 1 := by rw [hw1, World.size_alloc]
  have hb1 : Below w.heap.size w w1 := by rw [hw1]; exact (Below.refl _ _).alloc (Nat.le_refl _) _
  have hx1 : w1.heap[w.heap.size]? = some (.cells #[.int .i64 (N : Int), .slice A l.length c, .int .i64 g] 55) := by rw [hw1]; exact heap_new _ _
  obtain ⟨w2, hw2⟩ : ∃ x : World, x = w1.alloc (.cells #[.slice none 0 0] 27) := ⟨_, rfl⟩
  have z2 : w2.heap.size = w.heap.size + 1 + 1 := by rw [hw2, World.size_alloc, z1]
  have hb2 : Below w.heap.size w w2 := by rw [hw2]; exact hb1.alloc (by omega) _
  have hx2 : w2.heap[w.heap.size]? = some (.cells #[.int .i64 (N : Int), .slice A l.length c, .int .i64 g] 55) := by rw [hw2]; exact (Below.heap_alloc _ _ _ (by omega)).trans hx1
  have hD : Boxed w2 (w.heap.size + 1) 27 (.slice none 0 0) := by rw [hw2, ← z1]; exact Boxed.new _ _ _
  have HW2 : Hid (w2 = (w.alloc (.cells #[.int .i64 (N : Int), .slice A l.length c, .int .i64 g] 55)).alloc (.cells #[.slice none 0 0] 27)) := Lib.hid (by rw [hw2, hw1])
  have hDl := hD.lt
  have hseq := places_hand 5 (by omega) N l A c g (w.heap.size + 1) w2 HG.out h0 h36 (hf.below hb2 (Nat.le_refl _)) hDl (fun b hb => by have := (pts_box hD).1 hb; cases this) (fun hb => by have := hb.lt hf; omega)
  have HSEQ := Lib.hid hseq; have HD := Lib.hid hD; have HB2 := Lib.hid hb2
  have r0 : w2.cell? ⟨w.heap.size, 0, none⟩ = some (.int .i64 (N : Int)) := by rw [cell_of_heap hx2]; rfl
  have r1 : w2.cell? ⟨w.heap.size, 1, none⟩ = some (.slice A l.length c) := by rw [cell_of_heap hx2]; rfl
  have r2 : w2.cell? ⟨w.heap.size, 2, none⟩ = some (.int .i64 g) := by rw [cell_of_heap hx2]; rfl
  rw [HW2.out] at r0 r1 r2
  have n6 : 1 ≤ 6 := by omega
  clear hseq hD hb2 hw1 hw2 hx1 hx2 hb1
  refine (callsIn_wide (n := 6)).1 ?_
  refine callsIn_of_wp_marks Try.func44 rfl trivial ?_ rfl
  simp only [Try.ntmps44, List.size_toArray, List.length_cons, List.length_nil, Nat.reduceAdd, Nat.reduceSub, Array.replicate_succ, Array.replicate_zero, List.push_toArray, List.append_toArray, List.nil_append, List.cons_append]
  gi_wp2
  rw [← HW2.out]
  clear r0 r1 r2
  refine range_bound (n := 6) n6 rfl (enters_of Try.func62 (by kernel_rfl) rfl) HSEQ.out (Below.refl _ _) hDl (fun _ => rfl)
    (RowI (w.heap.size + 1) w.heap.size w 27 3 (wdL l g)) (rowI_ab hDl (Nat.le_refl _) (by omega)) ⟨⟨_, HD.out, own_nil _ _ _ _⟩, HB2.out⟩ ?act ?assign ?body ?done
  case assign =>
    intro lp k W K hK
    gi_wp2
    exact hK
  case body =>
    rintro lp k W ⟨⟨v, hv, hrow⟩, hB⟩ hlt
    have hc := hv.cell
    have hmx : k + 1 ≤ maxLen := by unfold maxLen; omega
    have hmx2 : k ≤ 1000 := by omega
    have HSU := Lib.hid (wdL_succ l g k)
    have HBD := Lib.hid (stV_all HG.out.all h0 h36 (k := k) (by omega))
    have HBE := Lib.hid (enV_bd HG.out.all h0 h36 (k := k) (by omega))
    have HROW := Lib.hid hrow; have HV := Lib.hid hv; have HB := Lib.hid hB
    have hws := hB.size
    clear hrow hv hB
    generalize wdL l g k = L at *
    have hbd := HBD.out; have hbe := HBE.out
    generalize stV l g k = sv at *
    generalize enV l g k = ev at *
    gi_wp2_with (gi_at_builtin; refine wpListIn_append_own_at _ rfl _ _ 27 rfl w.heap.size 3 i0 (.int .i64 0) 1 8 Try.underlying27 HI.out HZ0.out HZ1.out HZ2.out rfl (by decide) _ _ _ rfl (HROW.out.alloc _) ⟨W.heap.size, 0, none⟩ 1 1 [.int .i64 (ev - sv)] rfl rfl (cell_one_new _ _ _) (by simp [Value.oneCell']) hmx (by omega) (by first | (simp; done) | (simp; omega) | omega) ?_)
    intro v' w5 hown' hgrow _ hat
    obtain ⟨hv1, hv2, hr2, hk2, hb2⟩ := HV.out.appended (by decide) HROW.out hws (by omega) hown' hgrow
    have HKP := Lib.hid (kpd_app HV.out hv1 hgrow hat)
    have hc1 := hv1.cell; have hf1 := hv1.frozen
    have HV2 := Lib.hid hv2; have HR2 := Lib.hid hr2; have HK2 := Lib.hid hk2; have HB3 := Lib.hid hb2
    obtain ⟨A5, c5, hve⟩ := own_form (l := L ++ [ev - sv]) (by rw [intsZ_snoc]; exact hown')
    simp only [List.length_append, List.length_cons, List.length_nil, Nat.zero_add] at hve
    clear hv2 hr2 hk2 hb2 hgrow hv1 hown' hat
    subst hve
    gi_wp2
    refine ⟨HK2.out, HKP.out, ⟨⟨_, HV2.out, ?_⟩, HB.out.trans HB3.out⟩⟩
    rw [HSU.out, intsZ_snoc]
    exact HR2.out
  case done =>
    rintro E W hE ⟨⟨v, hv, hrow⟩, hB⟩ hK
    have hc := hv.cell
    obtain ⟨A5, c5, hve⟩ := own_form hrow
    subst hve
    have HV := Lib.hid hv; have HROW := Lib.hid hrow; have HB := Lib.hid hB; have HKD := Lib.hid hK
    clear hv hrow hB
    gi_wp2
    refine ⟨by simp, .inl ⟨_, _, rfl, run_takeDeferred hK, ?_⟩⟩
    exact ⟨_, results_tmp rfl _ _ _, _, rfl, below_put _ HB.out (by omega) hK, ownsRow_putObj HROW.out _ hK rfl⟩
/-- The end that came last. -/
def lastE (l : List En) (g : Int) : Nat → Int | 0 => 0 | k + 1 => enV l g k
theorem lastE_wd {n : Int} {l : List En} (h : AllOk n l) (g : Int) {N : Nat} (hN : 1 ≤ N) : lastE l g N = wdV l g (N : Int) := by
  obtain ⟨k, rfl⟩ : ∃ k, N = k + 1 := ⟨N - 1, by omega⟩
  unfold wdV
  rw [Int.toNat_natCast, stV_succ h]
  show enV l g k = _
  omega
def BoxI (D n₀ : Nat) (w : World) (t : TypeId) (L : Nat → Value) (k : Nat) (W : World) : Prop := Boxed W D t (L k) ∧ Below n₀ w W
theorem boxI_ab {D n₀ B : Nat} {w : World} {t : TypeId} {L : Nat → Value} (hD : D < B) (hn : n₀ ≤ w.heap.size) (hB : n₀ ≤ B) : AbD D B (BoxI D n₀ w t L) := by
  rintro k W W' row ⟨hv, hb⟩ hg hr
  exact ⟨hv.kept hg (fun e => by have := (hr D e.symm).1; omega), hb.grown hg (Nat.le_trans hn hb.size) (fun q e => Nat.le_trans hB (hr q e).1)⟩
theorem kpd_set {W : World} {D : Nat} {t : TypeId} {v : Value} (hv : Boxed W D t v) (x : Int) : KpD D W (W.setCell ⟨D, 0, none⟩ (.int .i64 x)) :=
  ⟨(grownBy_setCell' W D _).size, fun b o h1 h2 h3 h4 => (Below.heap_setCell W ⟨D, 0, none⟩ _ b h1).trans h3, fun b hb => by
    have := (pts_box (hv.set (.int .i64 x))).1 hb
    cases this⟩
set_option maxRecDepth 100000 in
set_option maxHeartbeats 4000000 in
theorem leastWidth_any (N : Nat) (l : List En) (A : Option Addr) (c : Nat) (g : Int) (w : World) (hG : GoodT (N : Int) l) (h0 : 0 ≤ g) (h36 : g ≤ 36) (hf : EnsIn w A l) :
    Calls Try.prog 46 #[.agg #[.int .i64 (N : Int), .slice A l.length c, .int .i64 g]] w fun e w' => e = .returned (.int .i64 (wdV l g (N : Int))) ∧ Below w.heap.size w w' := by
  obtain ⟨i0, hi, hz0, hz1, hz2⟩ := info_parts info_int
  have HI := Lib.hid hi; have HZ0 := Lib.hid hz0; have HZ1 := Lib.hid hz1; have HZ2 := Lib.hid hz2
  clear hi hz0 hz1 hz2
  have HG := Lib.hid hG; clear hG
  have hN1 : 1 ≤ N := by have := HG.out.n0; omega
  have hN10 : N ≤ 10 := by have := HG.out.n1; omega
  obtain ⟨w1, hw1⟩ : ∃ x : World, x = w.alloc (.cells #[.int .i64 (N : Int), .slice A l.length c, .int .i64 g] 55) := ⟨_, rfl⟩
  have z1 : w1.heap.size = w.heap.size + 1 := by rw [hw1, World.size_alloc]
  have hb1 : Below w.heap.size w w1 := by rw [hw1]; exact (Below.refl _ _).alloc (Nat.le_refl _) _
  have hx1 : w1.heap[w.heap.size]? = some (.cells #[.int .i64 (N : Int), .slice A l.length c, .int .i64 g] 55) := by rw [hw1]; exact heap_new _ _
  obtain ⟨w2, hw2⟩ : ∃ x : World, x = w1.alloc (.cells #[.int .i64 0] 3) := ⟨_, rfl⟩
  have z2 : w2.heap.size = w.heap.size + 1 + 1 := by rw [hw2, World.size_alloc, z1]
  have hb2 : Below w.heap.size w w2 := by rw [hw2]; exact hb1.alloc (by omega) _
  have hx2 : w2.heap[w.heap.size]? = some (.cells #[.int .i64 (N : Int), .slice A l.length c, .int .i64 g] 55) := by rw [hw2]; exact (Below.heap_alloc _ _ _ (by omega)).trans hx1
  have hD : Boxed w2 (w.heap.size + 1) 3 (.int .i64 0) := by rw [hw2, ← z1]; exact Boxed.new _ _ _
  have HW2 : Hid (w2 = (w.alloc (.cells #[.int .i64 (N : Int), .slice A l.length c, .int .i64 g] 55)).alloc (.cells #[.int .i64 0] 3)) := Lib.hid (by rw [hw2, hw1])
  have hDl := hD.lt
  have hseq := places_hand 5 (by omega) N l A c g (w.heap.size + 1) w2 HG.out h0 h36 (hf.below hb2 (Nat.le_refl _)) hDl (fun b hb => by have := (pts_box hD).1 hb; cases this) (fun hb => by have := hb.lt hf; omega)
  have HSEQ := Lib.hid hseq; have HD := Lib.hid hD; have HB2 := Lib.hid hb2
  have r0 : w2.cell? ⟨w.heap.size, 0, none⟩ = some (.int .i64 (N : Int)) := by rw [cell_of_heap hx2]; rfl
  have r1 : w2.cell? ⟨w.heap.size, 1, none⟩ = some (.slice A l.length c) := by rw [cell_of_heap hx2]; rfl
  have r2 : w2.cell? ⟨w.heap.size, 2, none⟩ = some (.int .i64 g) := by rw [cell_of_heap hx2]; rfl
  rw [HW2.out] at r0 r1 r2
  have n6 : 1 ≤ 6 := by omega
  clear hseq hD hb2 hw1 hw2 hx1 hx2 hb1
  refine (callsIn_wide (n := 6)).1 ?_
  refine callsIn_of_wp_marks Try.func46 rfl trivial ?_ rfl
  simp only [Try.ntmps46, List.size_toArray, List.length_cons, List.length_nil, Nat.reduceAdd, Nat.reduceSub, Array.replicate_succ, Array.replicate_zero, List.push_toArray, List.append_toArray, List.nil_append, List.cons_append]
  gi_wp2
  rw [← HW2.out]
  clear r0 r1 r2
  have HLW := Lib.hid (lastE_wd HG.out.all g hN1)
  refine range_bound (n := 6) n6 rfl (enters_of Try.func62 (by kernel_rfl) rfl) HSEQ.out (Below.refl _ _) hDl (fun _ => rfl)
    (BoxI (w.heap.size + 1) w.heap.size w 3 (fun k => .int .i64 (lastE l g k))) (boxI_ab hDl (Nat.le_refl _) (by omega)) ⟨HD.out, HB2.out⟩ ?act ?assign ?body ?done
  case assign =>
    intro lp k W K hK
    gi_wp2
    exact hK
  case body =>
    rintro lp k W ⟨hv, hB⟩ hlt
    have hc := hv.cell; have hfz := hv.frozen
    have HV := Lib.hid hv; have HB := Lib.hid hB
    have hws := hB.size
    clear hv hB
    gi_wp2
    exact ⟨KeepsOthers.setCell _ _ _, kpd_set HV.out _, HV.out.set _, HB.out.setCell (p := ⟨w.heap.size + 1, 0, none⟩) (by show w.heap.size ≤ w.heap.size + 1; omega) _⟩
  case done =>
    rintro E W hE ⟨hv, hB⟩ hK
    have hc := hv.cell
    simp only [HLW.out] at hc
    have HV := Lib.hid hv; have HB := Lib.hid hB; have HKD := Lib.hid hK
    clear hv hB
    gi_wp2
    refine ⟨by simp, .inl ⟨_, _, rfl, run_takeDeferred hK, ?_⟩⟩
    exact ⟨_, results_tmp rfl _ _ _, rfl, below_put _ HB.out (by omega) hK⟩
end Go.Proofs.Yteagclokobkigaa

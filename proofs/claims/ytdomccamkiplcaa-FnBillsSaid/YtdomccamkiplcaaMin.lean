/-
  The contract of slices.MinFunc at supplies: it answers the first least row, and changes nothing that was there.
-/
import Derived.Test.YtdomccamkiplcaaSup
import Derived.Outline
namespace Go.Proofs.Ytdomccamkiplcaa
open Go.RowKit
set_option linter.unusedVariables false

def r0 : Rw := ⟨0, 0, 0⟩
def pickR (x m : Rw) : Rw := if x.s * m.n < m.s * x.n then x else m
def minK (rows : List Rw) : Nat → Rw
  | 0 => rows.getD 0 r0
  | k + 1 => pickR (rows.getD (k + 1) r0) (minK rows k)
theorem rows_getD {l : List Rw} {k : Nat} (h : k < l.length) : l.getD k r0 = l[k] := by rw [List.getD_eq_getElem?_getD, List.getElem?_eq_getElem h]; rfl
def RwAt (w : World) (g : Nat) (r : Rw) : Prop := Own w g 69 [.int .i64 r.i, .int .i64 r.s, .int .i64 r.n]
theorem RwAt.cells {w : World} {g : Nat} {r : Rw} (h : RwAt w g r) : w.cell? ⟨g, 0, none⟩ = some (.int .i64 r.i) ∧ w.cell? ⟨g, 1, none⟩ = some (.int .i64 r.s) ∧ w.cell? ⟨g, 2, none⟩ = some (.int .i64 r.n) := ⟨Own.cell h 0, Own.cell h 1, Own.cell h 2⟩
theorem RwAt.next {w w' : World} {g : Nat} {r : Rw} (h : RwAt w g r) (hb : Below w.heap.size w w') : RwAt w' g r := Own.next h hb
theorem RwAt.put {w : World} {g : Nat} {r : Rw} (h : RwAt w g r) (x : Rw) : RwAt (((w.setCell ⟨g, 0, none⟩ (.int .i64 x.i)).setCell ⟨g, 1, none⟩ (.int .i64 x.s)).setCell ⟨g, 2, none⟩ (.int .i64 x.n)) g x := by
  have h1 := ((Own.set h 0 (.int .i64 x.i)).set 1 (.int .i64 x.s)).set 2 (.int .i64 x.n)
  exact h1
theorem own_new2 (w : World) (o : Obj) (t : TypeId) (l : List Value) : Own ((w.alloc o).alloc (.cells l.toArray t)) (w.heap.size + 1) t l := by
  unfold Own
  rw [show w.heap.size + 1 = (w.alloc o).heap.size from by simp]
  exact heap_new _ _
/-- The rows lie at block b. -/
def RowsAt (w : World) (b : Nat) (rows : List Rw) : Prop := b < w.heap.size ∧ ∀ k (h : k < rows.length), w.cell? ⟨b, k * 3, none⟩ = some (.int .i64 rows[k].i) ∧ w.cell? ⟨b, k * 3 + 1, none⟩ = some (.int .i64 rows[k].s) ∧ w.cell? ⟨b, k * 3 + 2, none⟩ = some (.int .i64 rows[k].n)
theorem RowsAt.below {w w' : World} {b B : Nat} {rows : List Rw} (h : RowsAt w b rows) (hb : Below B w w') (hB : b < B) : RowsAt w' b rows := by
  refine ⟨Nat.lt_of_lt_of_le h.1 hb.size, fun k hk => ?_⟩
  rw [hb.cell hB, hb.cell hB, hb.cell hB]
  exact h.2 k hk
theorem own_rows {w : World} {base n : Nat} {e : TypeId} {v : Value} {rows : List Rw} (h : w.ownsRow base e 3 v n (flat3 rows)) (h0 : 0 < rows.length) : ∃ b c, v = .slice (some ⟨b, 0, none⟩) rows.length c ∧ base ≤ b ∧ RowsAt w b rows := by
  have hn : n = rows.length := by have := h.1; rw [flat3_len] at this; omega
  subst hn
  rcases h.2 with ⟨rfl, h1⟩ | ⟨g, cap, cur, rfl, hg, hh, h1, h2, h3, h4⟩
  · omega
  · refine ⟨g, cap, rfl, hg, lt_of_heap hh, fun k hk => ?_⟩
    obtain ⟨g1, g2, g3⟩ := flat3_get rows k hk
    rw [h.cellAt (k * 3) (by omega), h.cellAt (k * 3 + 1) (by omega), h.cellAt (k * 3 + 2) (by omega)]
    exact ⟨g1, g2, g3⟩
theorem lit2_is (a b : Rw) (t : Int) (w : World) (ha : 0 ≤ a.s ∧ a.s ≤ 100000) (hb : 0 ≤ b.s ∧ b.s ≤ 100000) (ha' : 0 ≤ a.n ∧ a.n ≤ 640) (hb' : 0 ≤ b.n ∧ b.n ≤ 640) (h : Hid (cmpI (a.s * b.n) (b.s * a.n) = t)) :
    Calls Try.prog 80 #[.agg #[.int .i64 a.i, .int .i64 a.s, .int .i64 a.n], .agg #[.int .i64 b.i, .int .i64 b.s, .int .i64 b.n]] w fun e w' => e = .returned (.int .i64 t) ∧ Below w.heap.size w w' := by
  rw [← h.out]; exact lit2_any a b w ha hb ha' hb'

theorem minK_mem {rows : List Rw} : ∀ k, k < rows.length → minK rows k ∈ rows
  | 0, h => by simp only [minK]; rw [rows_getD h]; exact List.getElem_mem h
  | k + 1, h => by
    simp only [minK]
    unfold pickR
    split
    · rw [rows_getD h]; exact List.getElem_mem h
    · exact minK_mem k (by omega)
theorem minK_bound {rows : List Rw} (hb : ∀ r ∈ rows, (0 ≤ r.s ∧ r.s ≤ 100000) ∧ (0 ≤ r.n ∧ r.n ≤ 640)) (k : Nat) (h : k < rows.length) : (0 ≤ (minK rows k).s ∧ (minK rows k).s ≤ 100000) ∧ (0 ≤ (minK rows k).n ∧ (minK rows k).n ≤ 640) := hb _ (minK_mem k h)
set_option maxRecDepth 100000 in
set_option maxHeartbeats 1000000 in
theorem minFunc_any (rows : List Rw) (b c : Nat) (w : World) (hr : RowsAt w b rows) (h0 : 0 < rows.length) (hl : rows.length ≤ 32) (hb : ∀ r ∈ rows, (0 ≤ r.s ∧ r.s ≤ 100000) ∧ (0 ≤ r.n ∧ r.n ≤ 640)) :
    Calls Try.prog 79 #[.slice (some ⟨b, 0, none⟩) rows.length c, (.func (.func 80) #[] #[])] w fun e w' => e = .returned (.agg #[.int .i64 (minK rows (rows.length - 1)).i, .int .i64 (minK rows (rows.length - 1)).s, .int .i64 (minK rows (rows.length - 1)).n]) ∧ Below w.heap.size w w' := by
  have HR := Lib.hid hr
  have hbl := hr.1
  obtain ⟨c0, c1, c2⟩ := hr.2 0 h0
  simp only [Nat.zero_mul, Nat.zero_add] at c0 c1 c2
  have HB := Lib.hid hb
  have h1 : ¬ (rows.length : Int) < 1 := by omega
  clear hr hb
  go_enter Try.func79, Try.ntmps79
  go_wp2
  have HX : Hid (RwAt ((w.alloc (.cells #[.int .i64 0, .int .i64 0, .int .i64 0] 69)).alloc (.cells #[.int .i64 rows[0].i, .int .i64 rows[0].s, .int .i64 rows[0].n] 69)) w.heap.size r0) := Lib.hid (Own.alloc (heap_new _ _) _)
  have HM : Hid (RwAt ((w.alloc (.cells #[.int .i64 0, .int .i64 0, .int .i64 0] 69)).alloc (.cells #[.int .i64 rows[0].i, .int .i64 rows[0].s, .int .i64 rows[0].n] 69)) (w.heap.size + 1) (minK rows 0)) := Lib.hid (by
    have : minK rows 0 = rows[0] := by simp only [minK]; rw [rows_getD h0]
    rw [this]
    exact own_new2 _ _ _ _)
  have HA : Hid (Below w.heap.size w ((w.alloc (.cells #[.int .i64 0, .int .i64 0, .int .i64 0] 69)).alloc (.cells #[.int .i64 rows[0].i, .int .i64 rows[0].s, .int .i64 rows[0].n] 69))) := Lib.hid (((Below.refl _ _).alloc (Nat.le_refl _) _).alloc (by simp) _)
  clear c0 c1 c2
  obtain ⟨g, hg⟩ : ∃ g, g = w.heap.size := ⟨_, rfl⟩
  rw [← hg] at HX HM hbl ⊢
  have hgw : w.heap.size ≤ g := by omega
  clear hg
  go_loopw [6] (fun i wr => ∃ j k : Nat, j = k + 1 ∧ j ≤ rows.length ∧ i = .int .i64 (j : Int) ∧ RwAt wr g r0 ∧ RwAt wr (g + 1) (minK rows k) ∧ Below w.heap.size w wr) (fun i _ => rows.length - (intOf i).toNat)
  case atStart => exact ⟨1, 0, rfl, by omega, by simp, HX.out, HM.out, HA.out⟩
  case round =>
    obtain ⟨j, k, hjk, hk, rfl, hx, hm, hbw⟩ := hrel
    clear HX HM HA
    have HX := Lib.hid hx; have HM := Lib.hid hm; have HBW := Lib.hid hbw
    have HJK := Lib.hid hjk
    clear hx hm hbw
    obtain ⟨m, hm⟩ : ∃ m, m = minK rows k := ⟨_, rfl⟩
    rw [← hm] at HM
    have HMM := Lib.hid hm
    by_cases hlt : j < rows.length
    · obtain ⟨d0, d1, d2⟩ := HR.out.2 j hlt
      rw [← HBW.out.cell (p := ⟨b, j * 3, none⟩) HR.out.1] at d0
      rw [← HBW.out.cell (p := ⟨b, j * 3 + 1, none⟩) HR.out.1] at d1
      rw [← HBW.out.cell (p := ⟨b, j * 3 + 2, none⟩) HR.out.1] at d2
      obtain ⟨m0, m1, m2⟩ := HM.out.cells
      have hxb := HB.out _ (List.getElem_mem hlt)
      have hmb : (0 ≤ m.s ∧ m.s ≤ 100000) ∧ (0 ≤ m.n ∧ m.n ≤ 640) := by rw [hm]; exact minK_bound HB.out k (by omega)
      have hS : minK rows (k + 1) = pickR (rows.getD (k + 1) r0) (minK rows k) := rfl
      rw [← hjk, rows_getD hlt, ← hm] at hS
      have HST := Lib.hid hS; clear hS
      generalize rows[j] = x at *
      have hbw1 : b < wr.heap.size := Nat.lt_of_lt_of_le HR.out.1 HBW.out.size
      have hgw1 : g + 1 < wr.heap.size := HM.out.lt
      have x0 := KeptW.cell d0 hbw1
      have x1 := KeptW.cell d1 hbw1
      have x2 := KeptW.cell d2 hbw1
      have y0 := KeptW.cell m0 hgw1
      have y1 := KeptW.cell m1 hgw1
      have y2 := KeptW.cell m2 hgw1
      clear d0 d1 d2 m0 m1 m2 hjk hm
      have hj1 : (j : Int) < (rows.length : Int) := by omega
      have hj0 : (0 : Int) ≤ (j : Int) := by omega
      obtain ⟨q, hq⟩ : ∃ q, cmpI (x.s * m.n) (m.s * x.n) = q := ⟨_, rfl⟩
      have HQ := Lib.hid hq
      by_cases hls : x.s * m.n < m.s * x.n
      · have hqn : q < 0 := by rw [← hq]; unfold cmpI; rw [if_pos hls]; omega
        have HE : Hid (minK rows j = x) := Lib.hid (by rw [HST.out]; unfold pickR; rw [if_pos hls])
        clear hq hls HST
        go_wp2_with fail
        refine region_kept wr.heap.size (by kernel_rfl) (by kernel_rfl) ?_
        repeat (go_big_quiet_step (fail))
        go_big_quiet_step ((go_at_call 80; exact kept_call _ (Nat.le_refl _) (lit2_is x m q _ hxb.1 hmb.1 hxb.2 hmb.2 HQ)))
        repeat (go_big_quiet_step (fail))
        refine wpQuiet_nil ?_
        intro w1 hb1
        have HB1 := Lib.hid (HBW.out.trans (hb1.mono HBW.out.size))
        have HX1 := Lib.hid (HX.out.next hb1)
        have HM1 := Lib.hid (HM.out.next hb1)
        have d0' := x0 ⟨w1, hb1⟩
        have d1' := x1 ⟨w1, hb1⟩
        have d2' := x2 ⟨w1, hb1⟩
        simp only at d0' d1' d2'
        obtain ⟨m0, m1, m2⟩ := HM1.out.cells
        have mf0 := Own.free HM1.out 0; have mf1 := Own.free HM1.out 1; have mf2 := Own.free HM1.out 2
        have HM2 : Hid (RwAt (((w1.setCell ⟨g + 1, 0, none⟩ (.int .i64 x.i)).setCell ⟨g + 1, 1, none⟩ (.int .i64 x.s)).setCell ⟨g + 1, 2, none⟩ (.int .i64 x.n)) (g + 1) (minK rows j)) := Lib.hid (by rw [HE.out]; exact HM1.out.put x)
        have HX2 : Hid (RwAt (((w1.setCell ⟨g + 1, 0, none⟩ (.int .i64 x.i)).setCell ⟨g + 1, 1, none⟩ (.int .i64 x.s)).setCell ⟨g + 1, 2, none⟩ (.int .i64 x.n)) g r0) := Lib.hid (((Own.other HX1.out (p := ⟨g + 1, 0, none⟩) (by show g ≠ g + 1; omega) _).other (p := ⟨g + 1, 1, none⟩) (by show g ≠ g + 1; omega) _).other (p := ⟨g + 1, 2, none⟩) (by show g ≠ g + 1; omega) _)
        have HB2 := Lib.hid (((HB1.out.setCell (p := ⟨g + 1, 0, none⟩) (by show w.heap.size ≤ g + 1; omega) (.int .i64 x.i)).setCell (p := ⟨g + 1, 1, none⟩) (by show w.heap.size ≤ g + 1; omega) (.int .i64 x.s)).setCell (p := ⟨g + 1, 2, none⟩) (by show w.heap.size ≤ g + 1; omega) (.int .i64 x.n))
        clear x0 x1 x2 y0 y1 y2 hb1
        go_wp2
        go_roundw
        case rel => exact ⟨j + 1, j, rfl, by omega, by go_num, HX2.out, HM2.out, HB2.out⟩
        case measure => simp [intOf]; omega
      · have hqn : ¬ q < 0 := by rw [← hq]; unfold cmpI; rw [if_neg hls]; split <;> omega
        have HE : Hid (minK rows j = m) := Lib.hid (by rw [HST.out]; unfold pickR; rw [if_neg hls])
        clear hq hls HST
        go_wp2_with fail
        refine region_kept wr.heap.size (by kernel_rfl) (by kernel_rfl) ?_
        repeat (go_big_quiet_step (fail))
        go_big_quiet_step ((go_at_call 80; exact kept_call _ (Nat.le_refl _) (lit2_is x m q _ hxb.1 hmb.1 hxb.2 hmb.2 HQ)))
        repeat (go_big_quiet_step (fail))
        refine wpQuiet_nil ?_
        intro w1 hb1
        have HB1 := Lib.hid (HBW.out.trans (hb1.mono HBW.out.size))
        have HX1 := Lib.hid (HX.out.next hb1)
        have HM1 : Hid (RwAt w1 (g + 1) (minK rows j)) := Lib.hid (by rw [HE.out]; exact HM.out.next hb1)
        clear x0 x1 x2 y0 y1 y2 hb1
        go_wp2
        go_roundw
        case rel => exact ⟨j + 1, j, rfl, by omega, by go_num, HX1.out, HM1.out, HB1.out⟩
        case measure => simp [intOf]; omega
    · obtain rfl : j = rows.length := by omega
      have HE : Hid (m = minK rows (rows.length - 1)) := Lib.hid (by rw [hm]; congr 1; omega)
      obtain ⟨m0, m1, m2⟩ := HM.out.cells
      obtain ⟨e0, e1, e2⟩ := HX.out.cells
      have f0 := Own.free HX.out 0; have f1 := Own.free HX.out 1; have f2 := Own.free HX.out 2
      clear hm hjk
      go_wp2
      refine bodyPost_ret (v := .agg #[.int .i64 m.i, .int .i64 m.s, .int .i64 m.n]) (by simp [results, Try.results79, go_sem, e0, e1, e2]) rfl ⟨by rw [← HE.out], ?_⟩
      repeat (first | (with_reducible exact HBW.out) | (refine Below.setCell ?_ (by first | (simp; done) | (simp; omega)) _))
end Go.Proofs.Ytdomccamkiplcaa

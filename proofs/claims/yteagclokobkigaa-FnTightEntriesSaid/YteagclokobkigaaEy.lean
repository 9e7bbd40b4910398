/-
  Copies of entries (slices.Clone), and the mirrored table: the contract of impl.gappedTable.mirrored.
-/
import Derived.Test.YteagclokobkigaaEo
import Derived.Test.YteagclokobkigaaEk
namespace Go.Proofs.Yteagclokobkigaa
open Go.RowKit
set_option linter.unusedVariables false

theorem Marked.put {w : World} {g cap j : Nat} {e : TypeId} {l : List Value} (h : Marked w g e cap l) (u : Value) : Marked (w.setCell ⟨g, j, none⟩ u) g e cap (l.set j u) := by
  obtain ⟨cur, h1, h2, h3⟩ := h
  refine ⟨_, heap_set h1 u, by simpa using h2, ?_⟩
  rw [Array.toList_setIfInBounds, List.length_set, List.take_set, h3]
theorem Marked.cellAt {w : World} {g cap j : Nat} {e : TypeId} {l : List Value} (h : Marked w g e cap l) (hj : j < l.length) : w.cell? ⟨g, j, none⟩ = some l[j] := by
  obtain ⟨cur, h1, h2, h3⟩ := h
  rw [cell_of_heap h1, ← Array.getElem?_toList]
  have e : (cur.toList.take l.length)[j]? = l[j]? := by rw [h3]
  rw [List.getElem?_take_of_lt hj] at e
  rw [e, List.getElem?_eq_getElem hj]
theorem Marked.freeAt {w : World} {g cap : Nat} {e : TypeId} {l : List Value} (h : Marked w g e cap l) (j : Nat) : w.frozen? ⟨g, j, none⟩ = false := by
  obtain ⟨cur, h1, _⟩ := h; exact free_of_heap h1 j
theorem Marked.far {w : World} {g cap b i : Nat} {e : TypeId} {l : List Value} (h : Marked w g e cap l) (hne : g ≠ b) (x : Value) : Marked (w.setCell ⟨b, i, none⟩ x) g e cap l := by
  obtain ⟨cur, h1, h2⟩ := h
  exact ⟨cur, (Below.heap_setCell w ⟨b, i, none⟩ x g hne).trans h1, h2⟩
theorem Marked.ens {w : World} {g n : Nat} {e : TypeId} {l : List En} (h : Marked w g e n (flatEn l)) : EnsIn w (some ⟨g, 0, none⟩) l := fun h0 => ⟨g, 0, rfl, h.lt, fun k hk => by
  have hg := flatEn_get l k hk
  have hl := flatEn_len l
  rw [Nat.zero_add, h.cellAt (j := k * 3) (by omega), h.cellAt (j := k * 3 + 1) (by omega), h.cellAt (j := k * 3 + 2) (by omega), ← List.getElem?_eq_getElem, ← List.getElem?_eq_getElem, ← List.getElem?_eq_getElem]
  exact hg⟩
/-- A row of its own that is not nil. -/
theorem own_row3 {w : World} {base n : Nat} {e : TypeId} {v : Value} {l : List En} (h : w.ownsRow base e 3 v n (flatEn l)) (hv : v ≠ .slice none 0 0) : ∃ g cap, v = .slice (some ⟨g, 0, none⟩) l.length cap ∧ base ≤ g ∧ Marked w g e (cap * 3) (flatEn l) ∧ l.length ≤ cap ∧ cap ≤ maxLen := by
  have hn : n = l.length := by have := h.1; rw [flatEn_len] at this; omega
  subst hn
  rcases h.2 with ⟨h1, _⟩ | ⟨g, cap, cur, h1, h2, h3, h4, h5, h6, h7⟩
  · exact absurd h1 hv
  · exact ⟨g, cap, h1, h2, ⟨cur, h3, h6, by rw [flatEn_len, Nat.mul_comm]; exact h7⟩, h4, h5⟩
/-- A new slice of entries. -/
def EnTo (w w' : World) (e : Ending) (l : List En) : Prop := ∃ g cap, e = .returned (.slice (some ⟨g, 0, none⟩) l.length cap) ∧ Below w.heap.size w w' ∧ w.heap.size ≤ g ∧ Marked w' g 36 (cap * 3) (flatEn l) ∧ l.length ≤ cap ∧ cap ≤ maxLen
set_option maxRecDepth 100000 in
theorem cloneE_any (f : List En) (A : Addr) (c : Nat) (w : World) (hf : EnsIn w (some A) f) (hn : f.length ≤ 1048576) :
    Calls Try.prog 70 #[.slice (some A) f.length c] w fun e w' => EnTo w w' e f := by
  have qT : ∀ (w : World) (a : Option Addr) (n c n' c' : Nat), (binOp .eql 24 (.slice a n c) (.slice none n' c')).run Try.prog w = .ok (.bool a.isNone) w := fun w a n c n' c' => Lib.run_eql_slice_nil w _ _ a n c n' c' Try.underlying24
  obtain ⟨i0, hi, hz0, hz1, hz2⟩ := info_parts infoEn
  have HI0 := Lib.hid hi; have HZ0 := Lib.hid hz0; have HZ1 := Lib.hid hz1; have HZ2 := Lib.hid hz2
  clear hi hz0 hz1 hz2
  have HNW := Lib.hid (newsEn (hf.below ((Below.refl w.heap.size w).alloc (Nat.le_refl _) (.cells #[] 36)) (Nat.le_refl _)))
  have HOW := Lib.hid (own_noneE (base := w.heap.size) (w.alloc (.cells #[] 36)) (heap_new _ _) (Nat.le_refl _))
  have hmx : 0 + f.length ≤ maxLen := by unfold maxLen; omega
  clear hf
  go_enter Try.func70, Try.ntmps70
  go_wp2_with (at_builtin; refine wpList_append_own _ rfl _ _ 24 rfl w.heap.size 36 i0 (.agg #[.int .i64 0, .int .i64 0, .int .i64 0]) 3 24 Try.underlying24 HI0.out HZ0.out HZ1.out HZ2.out rfl (by decide) _ _ _ rfl HOW.out A f.length c (flatEn f) rfl (by rw [flatEn_len]; omega) HNW.out (flatEn_one f) hmx (by omega) (by simp) ?_)
  intro v' w4 hown' hgrow hnil
  have HB1 : Hid (Below w.heap.size w w4) := Lib.hid (((Below.refl _ _).alloc (Nat.le_refl _) _).grown hgrow (by simp) (own_lt HOW.out))
  have hv : v' ≠ .slice none 0 0 := hnil
  have HO : Hid (w4.ownsRow w.heap.size 36 3 v' f.length (flatEn f)) := Lib.hid (by simpa [flatEn] using hown')
  obtain ⟨g, cap, rfl, hg, hm, h1, h2⟩ := own_row3 HO.out hv
  have HM := Lib.hid hm
  clear hown' hgrow hnil hm HO hv
  go_wp2
  go_ret
  exact ⟨_, _, rfl, HB1.out, hg, HM.out, h1, h2⟩
theorem cloneN_any (c : Nat) (w : World) :
    Calls Try.prog 70 #[.slice none 0 c] w fun e w' => e = .returned (.slice none 0 0) ∧ w = w' := by
  have qT : ∀ (w : World) (a : Option Addr) (n c n' c' : Nat), (binOp .eql 24 (.slice a n c) (.slice none n' c')).run Try.prog w = .ok (.bool a.isNone) w := fun w a n c n' c' => Lib.run_eql_slice_nil w _ _ a n c n' c' Try.underlying24
  go_enter Try.func70, Try.ntmps70
  go_wp2
  go_ret
  exact ⟨rfl, rfl⟩
/-- The first k are mirrored. -/
def miK (n : Int) (l : List En) (k : Nat) : List En := (l.take k).map (miE n) ++ l.drop k
theorem miK_len (n : Int) (l : List En) {k : Nat} (h : k ≤ l.length) : (miK n l k).length = l.length := by unfold miK; rw [List.length_append, List.length_map, List.length_take, List.length_drop]; omega
theorem miK_all (n : Int) (l : List En) : miK n l l.length = miL n l := by unfold miK miL; rw [List.take_length, List.drop_length, List.append_nil]
theorem miK_zero (n : Int) (l : List En) : miK n l 0 = l := by unfold miK; simp
theorem flatEn_set : ∀ (f : List En) (k : Nat) (x : Int) (h : k < f.length), (flatEn f).set (k * 3) (.int .i64 x) = flatEn (f.set k ⟨x, f[k].spa, f[k].wid⟩)
  | y :: r, 0, x, _ => rfl
  | y :: r, k + 1, x, h => by
    have ih := flatEn_set r k x (by simpa using h)
    show (Value.int .i64 y.col :: .int .i64 y.spa :: .int .i64 y.wid :: flatEn r).set ((k + 1) * 3) _ = .int .i64 y.col :: .int .i64 y.spa :: .int .i64 y.wid :: flatEn (r.set k _)
    rw [show (k + 1) * 3 = k * 3 + 1 + 1 + 1 from by omega, List.set_cons_succ, List.set_cons_succ, List.set_cons_succ, ih]
    rfl
theorem miK_set {n : Int} {l : List En} {k : Nat} (h : k < l.length) : (flatEn (miK n l k)).set (k * 3) (.int .i64 (n - l[k].col - l[k].spa)) = flatEn (miK n l (k + 1)) := by
  have hl := miK_len n l (k := k) (by omega)
  have e : (miK n l k)[k]'(by omega) = l[k] := by
    unfold miK
    rw [List.getElem_append_right (by rw [List.length_map, List.length_take]; omega)]
    simp only [List.getElem_drop, List.length_map, List.length_take]
    congr 1; omega
  rw [flatEn_set _ k _ (by omega), e]
  congr 1
  unfold miK
  rw [List.take_succ_eq_append_getElem h, List.map_append, List.append_assoc, List.set_append_right _ _ (by rw [List.length_map, List.length_take]; omega)]
  rw [List.drop_eq_getElem_cons h]
  simp only [List.length_map, List.length_take]
  rw [show k - min k l.length = 0 from by omega, List.set_cons_zero]
  rfl
/-- The mirrored table. -/
def MirTo (N : Nat) (l : List En) (g : Int) (w w' : World) (e : Ending) : Prop := ∃ A' c', e = .returned (.agg #[.int .i64 (N : Int), .slice A' l.length c', .int .i64 g]) ∧ Below w.heap.size w w' ∧ EnsIn w' A' (miL (N : Int) l) ∧ ∀ b, A'.map (·.block) = some b → w.heap.size ≤ b
set_option maxRecDepth 100000 in
set_option maxHeartbeats 4000000 in
theorem mirrored_any (N : Nat) (l : List En) (A : Option Addr) (c : Nat) (g : Int) (w : World) (hG : GoodT (N : Int) l) (hf : EnsIn w A l) :
    Calls Try.prog 61 #[.agg #[.int .i64 (N : Int), .slice A l.length c, .int .i64 g]] w fun e w' => MirTo N l g w w' e := by
  have HG := Lib.hid hG; clear hG
  have hl20 := HG.out.len
  have hN10 : N ≤ 10 := by have := HG.out.n1; omega
  obtain ⟨w1, hw1⟩ : ∃ u : World, u = w.alloc (.cells #[.int .i64 (N : Int), .slice A l.length c, .int .i64 g] 55) := ⟨_, rfl⟩
  have z1 : w1.heap.size = w.heap.size + 1 := by rw [hw1, World.size_alloc]
  obtain ⟨w2, hw2⟩ : ∃ u : World, u = w1.alloc (.cells #[.int .i64 0, .slice none 0 0, .int .i64 0] 55) := ⟨_, rfl⟩
  have z2 : w2.heap.size = w.heap.size + 1 + 1 := by rw [hw2, World.size_alloc, z1]
  have b1 : Below w.heap.size w w1 := by rw [hw1]; exact (Below.refl _ _).alloc (Nat.le_refl _) _
  have b2 : Below w.heap.size w w2 := by rw [hw2]; exact b1.alloc (by omega) _
  have x1 : w1.heap[w.heap.size]? = some (.cells #[.int .i64 (N : Int), .slice A l.length c, .int .i64 g] 55) := by rw [hw1]; exact heap_new _ _
  have x2 : w2.heap[w.heap.size]? = some (.cells #[.int .i64 (N : Int), .slice A l.length c, .int .i64 g] 55) := by rw [hw2]; exact (Below.heap_alloc _ _ _ (by omega)).trans x1
  have y2 : w2.heap[w.heap.size + 1]? = some (.cells #[.int .i64 0, .slice none 0 0, .int .i64 0] 55) := by rw [hw2, ← z1]; exact heap_new _ _
  have HW2 : Hid ((w.alloc (.cells #[.int .i64 (N : Int), .slice A l.length c, .int .i64 g] 55)).alloc (.cells #[.int .i64 0, .slice none 0 0, .int .i64 0] 55) = w2) := Lib.hid (by rw [hw2, hw1])
  have HB2 := Lib.hid b2; have HX2 := Lib.hid x2; have HY2 := Lib.hid y2
  have HF2 := Lib.hid (hf.below b2 (Nat.le_refl _))
  have p0 : w2.cell? ⟨w.heap.size, 0, none⟩ = some (.int .i64 (N : Int)) := by rw [cell_of_heap x2]; rfl
  have p1 : w2.cell? ⟨w.heap.size, 1, none⟩ = some (.slice A l.length c) := by rw [cell_of_heap x2]; rfl
  have p2 : w2.cell? ⟨w.heap.size, 2, none⟩ = some (.int .i64 g) := by rw [cell_of_heap x2]; rfl
  clear hw1 hw2 b1 b2 x1 x2 y2
  cases A with
  | none =>
    have hq0 : l = [] := by
      cases l with
      | nil => rfl
      | cons x r => obtain ⟨b, off, h3, _⟩ := hf (by simp); cases h3
    subst hq0
    simp only [List.length_nil] at HW2 HX2 p1
    have HF3 : Hid (∀ W : World, EnsIn W none (miL (N : Int) [])) := Lib.hid (fun W h => absurd h (by simp [miL]))
    go_enter Try.func61, Try.ntmps61
    go_wp2_with fail
    rw [HW2.out]
    refine (cloneN_any c _).mono ?_
    rintro e w' ⟨rfl, rfl⟩
    go_wp2
    go_loopw [12] (fun i wr => i = .int .i64 0 ∧ wr = w2) (fun i _ => 0)
    case atStart => exact ⟨rfl, rfl⟩
    case round =>
      obtain ⟨rfl, rfl⟩ := hrel
      have c0 : wr.cell? ⟨w.heap.size + 1, 0, none⟩ = some (.int .i64 0) := by rw [cell_of_heap HY2.out]; rfl
      have c1 : wr.cell? ⟨w.heap.size + 1, 1, none⟩ = some (.slice none 0 0) := by rw [cell_of_heap HY2.out]; rfl
      have c2 : wr.cell? ⟨w.heap.size + 1, 2, none⟩ = some (.int .i64 0) := by rw [cell_of_heap HY2.out]; rfl
      have f0 := free_of_heap HY2.out 0; have f1 := free_of_heap HY2.out 1; have f2 := free_of_heap HY2.out 2
      have hwl := lt_of_heap HY2.out
      go_wp2
      refine bodyPost_ret (v := .agg #[.int .i64 (N : Int), .slice none 0 0, .int .i64 g]) (by simp [results, Try.results61, go_sem, c0, c1, c2, f0, f1, f2]) rfl ⟨none, 0, rfl, ?_, HF3.out _, fun b h => by cases h⟩
      repeat (first | (with_reducible exact HB2.out) | (refine Below.setCell ?_ (by first | (simp; done) | (simp; omega)) _))
  | some A =>
    have HFW := Lib.hid hf
    go_enter Try.func61, Try.ntmps61
    go_wp2_with fail
    rw [HW2.out]
    refine (cloneE_any l A c _ HF2.out (by omega)).mono ?_
    rintro e w3 ⟨gg, cap, rfl, hb3, hgg, hm3, hcap, hcm⟩
    have HB3 := Lib.hid (HB2.out.trans (hb3.mono HB2.out.size))
    have HX3 : Hid (w3.heap[w.heap.size]? = some (.cells #[.int .i64 (N : Int), .slice (some A) l.length c, .int .i64 g] 55)) := Lib.hid ((hb3.block _ (lt_of_heap HX2.out)).trans HX2.out)
    have HY3 : Hid (w3.heap[w.heap.size + 1]? = some (.cells #[.int .i64 0, .slice none 0 0, .int .i64 0] 55)) := Lib.hid ((hb3.block _ (lt_of_heap HY2.out)).trans HY2.out)
    have hx3 := HX3.out
    have p0 : w3.cell? ⟨w.heap.size, 0, none⟩ = some (.int .i64 (N : Int)) := by rw [cell_of_heap hx3]; rfl
    have p1 : w3.cell? ⟨w.heap.size, 1, none⟩ = some (.slice (some A) l.length c) := by rw [cell_of_heap hx3]; rfl
    have p2 : w3.cell? ⟨w.heap.size, 2, none⟩ = some (.int .i64 g) := by rw [cell_of_heap hx3]; rfl
    have HM3 : Hid (Marked w3 gg 36 (cap * 3) (flatEn (miK (N : Int) l 0))) := Lib.hid (by rw [miK_zero]; exact hm3)
    clear hb3 hm3 hx3 hf HX2 HY2 HW2
    go_wp2
    clear p0 p1 p2
    go_loopw [12] (fun i wr => ∃ k : Nat, k ≤ l.length ∧ i = .int .i64 (k : Int) ∧ Below w.heap.size w wr ∧ Marked wr gg 36 (cap * 3) (flatEn (miK (N : Int) l k)) ∧ wr.heap[w.heap.size]? = some (.cells #[.int .i64 (N : Int), .slice (some A) l.length c, .int .i64 g] 55) ∧ wr.heap[w.heap.size + 1]? = some (.cells #[.int .i64 0, .slice none 0 0, .int .i64 0] 55)) (fun i _ => l.length - (intOf i).toNat)
    case atStart => exact ⟨0, Nat.zero_le _, rfl, HB3.out, HM3.out, HX3.out, HY3.out⟩
    case round =>
      obtain ⟨k, hk, rfl, hb, hm, hx, hy⟩ := hrel
      clear HM3 HX3 HY3 HB3
      have p0 : wr.cell? ⟨w.heap.size, 0, none⟩ = some (.int .i64 (N : Int)) := by rw [cell_of_heap hx]; rfl
      have p2 : wr.cell? ⟨w.heap.size, 2, none⟩ = some (.int .i64 g) := by rw [cell_of_heap hx]; rfl
      by_cases hlt : k < l.length
      · obtain ⟨b, off, hA', hbl, hc⟩ := HFW.out (by omega)
        have e := Option.some.inj hA'
        subst e
        obtain ⟨hc0, hc1, hc2⟩ := hc k hlt
        clear hc hA'
        rw [← hb.cell (p := ⟨b, off + k * 3, none⟩) hbl] at hc0
        rw [← hb.cell (p := ⟨b, off + k * 3 + 1, none⟩) hbl] at hc1
        rw [← hb.cell (p := ⟨b, off + k * 3 + 2, none⟩) hbl] at hc2
        have HOK := Lib.hid (HG.out.en hlt)
        have HMS := Lib.hid (miK_set (n := (N : Int)) hlt)
        have hkl := miK_len (N : Int) l (k := k) (by omega)
        have hgl := hm.lt
        have hwl := lt_of_heap hx
        have e0 := hm.cellAt (j := k * 3) (by rw [flatEn_len]; omega)
        have f0 := hm.freeAt (k * 3)
        have HM5 : Hid (Marked ((wr.setCell ⟨gg, k * 3, none⟩ (.int .i64 ((N : Int) - l[k].col - l[k].spa))).alloc (.cells #[.int .i64 l[k].col, .int .i64 l[k].spa, .int .i64 l[k].wid] 36)) gg 36 (cap * 3) (flatEn (miK (N : Int) l (k + 1)))) := Lib.hid (by rw [← HMS.out]; exact (hm.put _).below ((Below.refl _ _).alloc (Nat.le_refl _) _))
        have HB5 : Hid (Below w.heap.size w ((wr.setCell ⟨gg, k * 3, none⟩ (.int .i64 ((N : Int) - l[k].col - l[k].spa))).alloc (.cells #[.int .i64 l[k].col, .int .i64 l[k].spa, .int .i64 l[k].wid] 36))) := Lib.hid (Below.alloc (hb.setCell (p := ⟨gg, k * 3, none⟩) (by show w.heap.size ≤ gg; omega) _) (by have := hb.size; have := (grownBy_setCell' wr gg (.int .i64 0)).size; simp; omega) _)
        have hxS := (Below.heap_setCell wr ⟨gg, k * 3, none⟩ (.int .i64 ((N : Int) - l[k].col - l[k].spa)) w.heap.size (by show w.heap.size ≠ gg; omega)).trans hx
        have hyS := (Below.heap_setCell wr ⟨gg, k * 3, none⟩ (.int .i64 ((N : Int) - l[k].col - l[k].spa)) (w.heap.size + 1) (by show w.heap.size + 1 ≠ gg; omega)).trans hy
        have HX5 := Lib.hid ((Below.heap_alloc (wr.setCell ⟨gg, k * 3, none⟩ (.int .i64 ((N : Int) - l[k].col - l[k].spa))) (.cells #[.int .i64 l[k].col, .int .i64 l[k].spa, .int .i64 l[k].wid] 36) w.heap.size (lt_of_heap hxS)).trans hxS)
        have HY5 := Lib.hid ((Below.heap_alloc (wr.setCell ⟨gg, k * 3, none⟩ (.int .i64 ((N : Int) - l[k].col - l[k].spa))) (.cells #[.int .i64 l[k].col, .int .i64 l[k].spa, .int .i64 l[k].wid] 36) (w.heap.size + 1) (lt_of_heap hyS)).trans hyS)
        clear hb hm hx hy hxS hyS HMS
        generalize l[k] = x at *
        rcases x with ⟨p, q, r⟩
        obtain ⟨o1, o2, o3, o4, o5, o6⟩ := HOK.out
        simp only at o1 o2 o3 o4 o5 o6 hc0 hc1 hc2
        have hkc : (k : Int) < (l.length : Int) := by omega
        go_wp2
        go_roundw
        case rel => exact ⟨k + 1, by omega, by go_num, HB5.out, HM5.out, HX5.out, HY5.out⟩
        case measure => simp [intOf]; omega
      · obtain rfl : k = l.length := by omega
        have HMA := Lib.hid (miK_all (N : Int) l)
        rw [HMA.out] at hm
        have HEN := Lib.hid hm.ens
        have HB := Lib.hid hb
        have hgl := hm.lt
        have c0 : wr.cell? ⟨w.heap.size + 1, 0, none⟩ = some (.int .i64 0) := by rw [cell_of_heap hy]; rfl
        have c1 : wr.cell? ⟨w.heap.size + 1, 1, none⟩ = some (.slice none 0 0) := by rw [cell_of_heap hy]; rfl
        have c2 : wr.cell? ⟨w.heap.size + 1, 2, none⟩ = some (.int .i64 0) := by rw [cell_of_heap hy]; rfl
        have f0 := free_of_heap hy 0; have f1 := free_of_heap hy 1; have f2 := free_of_heap hy 2
        have hwl := lt_of_heap hy
        have HSET : Hid (∀ (x y z : Value), EnsIn (((wr.setCell ⟨w.heap.size + 1, 0, none⟩ x).setCell ⟨w.heap.size + 1, 1, none⟩ y).setCell ⟨w.heap.size + 1, 2, none⟩ z) (some ⟨gg, 0, none⟩) (miL (N : Int) l)) := Lib.hid (fun x y z => (((hm.far (b := w.heap.size + 1) (i := 0) (by omega) x).far (b := w.heap.size + 1) (i := 1) (by omega) y).far (b := w.heap.size + 1) (i := 2) (by omega) z).ens)
        clear hb hm hx hy
        go_wp2
        refine bodyPost_ret (v := .agg #[.int .i64 (N : Int), .slice (some ⟨gg, 0, none⟩) l.length cap, .int .i64 g]) (by simp [results, Try.results61, go_sem, c0, c1, c2, f0, f1, f2]) rfl ⟨_, _, rfl, ?_, HSET.out _ _ _, fun b h => by have e : gg = b := Option.some.inj h; omega⟩
        repeat (first | (with_reducible exact HB.out) | (refine Below.setCell ?_ (by first | (simp; done) | (simp; omega)) _))
end Go.Proofs.Yteagclokobkigaa

/-
  The contract of spec.AddEntry.
-/
import Derived.Test.YteagclokobkigaaEq
namespace Go.Proofs.Yteagclokobkigaa
open Go.RowKit
set_option linter.unusedVariables false

theorem cells3_new (w : World) (x y z : Value) (t : TypeId) : ∀ j u, [x, y, z][j]? = some u → (w.alloc (.cells #[x, y, z] t)).cell? ((⟨w.heap.size, 0, none⟩ : Addr).add j) = some u := by
  intro j u hu
  rw [add_flat, cell_of_heap (heap_new _ _), Nat.zero_add]
  simpa using hu
theorem three_of_heap {w : World} {b : Nat} {x y z : Value} {t : TypeId} (h : w.heap[b]? = some (.cells #[x, y, z] t (0, 0))) : ∀ j u, [x, y, z][j]? = some u → w.cell? ((⟨b, 0, none⟩ : Addr).add j) = some u := by
  intro j u hu
  rw [add_flat, cell_of_heap h, Nat.zero_add]
  simpa using hu
theorem grown_three {W w5 : World} {b S : Nat} {x y z : Value} {t : TypeId} (hg : W.grownBy w5 (some b)) (hS : W.heap[S]? = some (.cells #[x, y, z] t (0, 0))) (hne : S ≠ b) : ∀ j u, [x, y, z][j]? = some u → w5.cell? ((⟨S, 0, none⟩ : Addr).add j) = some u :=
  three_of_heap ((hg.block S (lt_of_heap hS) (fun e => hne (Option.some.inj e))).trans hS)
theorem heap_first (w : World) (a b : Obj) : ((w.alloc a).alloc b).heap[w.heap.size]? = some a := (Below.heap_alloc (w.alloc a) b w.heap.size (by simp)).trans (heap_new w a)
theorem heap_second (w : World) (a b : Obj) : ((w.alloc a).alloc b).heap[w.heap.size + 1]? = some b := by
  have h := heap_new (w.alloc a) b
  rw [World.size_alloc] at h; exact h
theorem size_alloc_le (w : World) (o : Obj) : w.heap.size ≤ (w.alloc o).heap.size := by simp
/-- When one entry more is a table. -/
theorem ae_is {n : Int} {l : List En} {x : En} : aeB n l x = (tbB n l && enB n x && !decide ((l.length : Int) = 20)) := by
  cases ht : tbB n l
  · rw [Bool.false_and, Bool.false_and]
    refine tbB_no fun g => ?_
    have : tbB n l = true := tbB_iff.2 (goodT_of g.n0 g.n1 (by have := g.len; rw [List.length_append] at this; omega) (fun y hy => g.all y (List.mem_append_left _ hy)))
    rw [this] at ht; cases ht
  have hG := tbB_iff.1 ht
  cases hx : enB n x
  · rw [Bool.and_false, Bool.false_and]
    refine tbB_no fun g => ?_
    have : enB n x = true := enB_iff.2 (g.all x (by simp))
    rw [this] at hx; cases hx
  by_cases h20 : (l.length : Int) = 20
  · rw [decide_eq_true h20]
    refine tbB_no fun g => ?_
    have := g.len; rw [List.length_append] at this; have e : ([x] : List En).length = 1 := rfl; omega
  · rw [decide_eq_false h20]
    refine tbB_iff.2 (goodT_of hG.n0 hG.n1 ?_ fun y hy => ?_)
    · have := hG.len; rw [List.length_append]; have e : ([x] : List En).length = 1 := rfl; omega
    · rcases List.mem_append.1 hy with h | h
      · exact hG.all y h
      · have : y = x := by simpa using h
        rw [this]; exact enB_iff.1 hx
set_option maxRecDepth 100000 in
set_option maxHeartbeats 8000000 in
theorem specAddEntry_any (n : Int) (f : List En) (A : Addr) (d : Nat) (x : En) (w : World) (hf : EnsIn w (some A) f) (hn : f.length ≤ 1048576) :
    Calls Try.prog 18 #[.int .i64 n, .slice (some A) f.length d, .agg #[.int .i64 x.col, .int .i64 x.spa, .int .i64 x.wid]] w fun e w' => EnsB w w' e (aeL n f x) (aeB n f x) := by
  have HF := Lib.hid hf; clear hf
  have HE := Lib.hid (ae_is (n := n) (l := f) (x := x))
  obtain ⟨w0, hw0⟩ : ∃ u : World, u = w.alloc (.cells #[.int .i64 x.col, .int .i64 x.spa, .int .i64 x.wid] 36) := ⟨_, rfl⟩
  have b0 : Below w.heap.size w w0 := by rw [hw0]; exact (Below.refl _ _).alloc (Nat.le_refl _) _
  have x0 : EnAt w0 w.heap.size 36 x := by rw [hw0]; exact EnAt.new _ _ _
  have HW0 := Lib.hid hw0; have HB0 := Lib.hid b0; have HX0 := Lib.hid x0
  clear hw0 b0 x0
  go_enter Try.func18, Try.ntmps18
  go_wp2_with fail
  rw [← HW0.out]
  refine (tbGood_any n f (some A) d _ (HF.out.below HB0.out (Nat.le_refl _)) hn).mono ?_
  rintro e w1 ⟨rfl, hb1⟩
  have HB1 := Lib.hid (HB0.out.trans (hb1.mono HB0.out.size)); have HX1 := Lib.hid (HX0.out.next hb1); clear hb1 HW0 HB0 HX0
  cases ht : tbB n f
  · have HA : Hid (aeB n f x = false) := Lib.hid (by rw [HE.out, ht]; rfl)
    clear ht
    have HV := Lib.hid (ae_no HA.out)
    go_wp2
    go_ret2
    exact ⟨_, 36, ret_vb HA.out.symm, HB1.out, by rw [HV.out]; exact own_nil _ _ _ _⟩
  have HG := Lib.hid (tbB_iff.1 ht)
  have hn1 := HG.out.n0; have hn10 := HG.out.n1
  obtain ⟨c0, c1, c2⟩ := HX1.out.cells
  have hxl := HX1.out.lt
  go_wp2_with fail
  refine (tbEntry_any n x _).mono ?_
  rintro e w2 ⟨⟨v, rfl, hv⟩, hb2⟩
  have hv2 := hv hn1 hn10
  subst hv2
  have HB2 := Lib.hid (HB1.out.trans (hb2.mono HB1.out.size)); have HX2 := Lib.hid (HX1.out.next hb2)
  clear hb2 c0 c1 c2 hxl HX1 HB1 hv
  have HB1 := HB2; clear HB2
  cases hx : enB n x
  · have HA : Hid (aeB n f x = false) := Lib.hid (by rw [HE.out, ht, hx]; rfl)
    clear ht hx
    have HV := Lib.hid (ae_no HA.out)
    go_wp2
    go_ret2
    exact ⟨_, 36, ret_vb HA.out.symm, HB1.out, by rw [HV.out]; exact own_nil _ _ _ _⟩
  by_cases h20 : (f.length : Int) = 20
  · have HA : Hid (aeB n f x = false) := Lib.hid (by rw [HE.out, ht, hx, decide_eq_true h20]; rfl)
    clear ht hx
    have HV := Lib.hid (ae_no HA.out)
    go_wp2
    go_ret2
    exact ⟨_, 36, ret_vb HA.out.symm, HB1.out, by rw [HV.out]; exact own_nil _ _ _ _⟩
  have HA : Hid (aeB n f x = true) := Lib.hid (by rw [HE.out, ht, hx, decide_eq_false h20]; rfl)
  have HV := Lib.hid (ae_yes HA.out)
  have hl20 := HG.out.len
  clear ht hx
  obtain ⟨w1, hw1⟩ : ∃ u : World, u = w2 := ⟨_, rfl⟩
  subst hw1
  obtain ⟨i0, hi0, hz0, hz1, hz2⟩ := info_parts infoEn
  have HI0 := Lib.hid hi0; have HZ0 := Lib.hid hz0; have HZ1 := Lib.hid hz1; have HZ2 := Lib.hid hz2
  have HFW := Lib.hid (HF.out.below HB1.out (Nat.le_refl _))
  have HN1 : Hid (∀ W, Below w1.heap.size w1 W → ∀ j u, (flatEn f)[j]? = some u → W.cell? (A.add j) = some u) := Lib.hid (fun W hW => newsEn (HFW.out.below hW (Nat.le_refl _)))
  have HL1 : Hid ((flatEn f).length = f.length * 3) := Lib.hid (by rw [flatEn_len, Nat.mul_comm])
  rcases x with ⟨p, q, r⟩
  obtain ⟨c0, c1, c2⟩ := HX2.out.cells
  have hxl := HX2.out.lt
  simp only at c0 c1 c2
  have HK : Hid (∀ W, Below w1.heap.size w1 W → W.cell? ⟨w.heap.size, 0, none⟩ = some (.int .i64 p) ∧ W.cell? ⟨w.heap.size, 1, none⟩ = some (.int .i64 q) ∧ W.cell? ⟨w.heap.size, 2, none⟩ = some (.int .i64 r)) := Lib.hid (fun W hW => (HX2.out.below hW hxl).cells)
  have HQ1 : Hid (Below w1.heap.size w1 ((w1.alloc (.cells #[] 36)).drew)) := Lib.hid ((Below.refl _ _).alloc (Nat.le_refl _) _).drew
  have HQ2 : Hid (Below w1.heap.size w1 (((w1.alloc (.cells #[] 36)).alloc (.cells #[.int .i64 p, .int .i64 q, .int .i64 r] 36)).drew)) := Lib.hid (((Below.refl _ _).alloc (Nat.le_refl _) _).alloc (by simp) _).drew
  have HQ3 : Hid (Below w1.heap.size w1 (((w1.alloc (.cells #[.int .i64 p, .int .i64 q, .int .i64 r] 36)).alloc (.cells #[] 36)).drew)) := Lib.hid (((Below.refl _ _).alloc (Nat.le_refl _) _).alloc (by simp) _).drew
  have hmxA : 0 + f.length ≤ maxLen := by unfold maxLen; omega
  have hmxB : f.length + 1 ≤ maxLen := by unfold maxLen; omega
  have three_one : ∀ u ∈ ([.int .i64 p, .int .i64 q, .int .i64 r] : List Value), u.oneCell' = true := by simp [Value.oneCell']
  obtain ⟨L, hL⟩ : ∃ L : List En, L = f ++ [⟨p, q, r⟩] := ⟨_, rfl⟩
  have HFL : Hid (flatEn f ++ [.int .i64 p, .int .i64 q, .int .i64 r] = flatEn L) := Lib.hid (by rw [hL, flatEn_snoc])
  have HLL : Hid (L.length = f.length + 1) := Lib.hid (by rw [hL, List.length_append]; rfl)
  rw [← hL] at HV
  clear hL hi0 hz0 hz1 hz2
  go_wp2_with fail
  go_region_law (first
    | (refine step_own ((w1.alloc (.cells #[] 36)).drew) (by rfl) (.tmp 23) (.tmp 24) 24 (by rfl) w1.heap.size 36 i0 (.agg #[.int .i64 0, .int .i64 0, .int .i64 0]) 3 24 Try.underlying24 HI0.out HZ0.out HZ1.out HZ2.out rfl (by decide) (.slice (some ⟨w1.heap.size, 0, none⟩) 0 0) 0 (flatEn []) (by rfl) (own_noneE (base := w1.heap.size) ((w1.alloc (.cells #[] 36)).drew) (heap_new w1 (.cells #[] 36)) (Nat.le_refl _)) A f.length d (flatEn f) (by rfl) HL1.out (HN1.out ((w1.alloc (.cells #[] 36)).drew) HQ1.out) (flatEn_one _) hmxA (by omega) (Below.size HQ1.out) ?_; intro v1 w5 hown' hgrow; have HO1 : Hid (w5.ownsRow w1.heap.size 36 3 v1 f.length (flatEn f)) := Lib.hid (by simpa [flatEn] using hown'); have HB5 : Hid (Below w1.heap.size w1 w5) := Lib.hid (Below.grown HQ1.out hgrow (Below.size HQ1.out) (own_lt (own_noneE (base := w1.heap.size) ((w1.alloc (.cells #[] 36)).drew) (heap_new w1 (.cells #[] 36)) (Nat.le_refl _)))); obtain ⟨k0, k1, k2⟩ := HK.out w5 HB5.out; clear hown' hgrow)
    | (refine step_own (((w1.alloc (.cells #[] 36)).alloc (.cells #[.int .i64 p, .int .i64 q, .int .i64 r] 36)).drew) (by rfl) (.tmp 23) (.tmp 24) 24 (by rfl) w1.heap.size 36 i0 (.agg #[.int .i64 0, .int .i64 0, .int .i64 0]) 3 24 Try.underlying24 HI0.out HZ0.out HZ1.out HZ2.out rfl (by decide) (.slice (some ⟨w1.heap.size, 0, none⟩) 0 0) 0 (flatEn []) (by rfl) (own_noneE (base := w1.heap.size) (((w1.alloc (.cells #[] 36)).alloc (.cells #[.int .i64 p, .int .i64 q, .int .i64 r] 36)).drew) (heap_first w1 (.cells #[] 36) (.cells #[.int .i64 p, .int .i64 q, .int .i64 r] 36)) (Nat.le_refl _)) A f.length d (flatEn f) (by rfl) HL1.out (HN1.out (((w1.alloc (.cells #[] 36)).alloc (.cells #[.int .i64 p, .int .i64 q, .int .i64 r] 36)).drew) HQ2.out) (flatEn_one _) hmxA (by omega) (Below.size HQ2.out) ?_; intro v1 w5 hown' hgrow; have HO1 : Hid (w5.ownsRow w1.heap.size 36 3 v1 f.length (flatEn f)) := Lib.hid (by simpa [flatEn] using hown'); have HB5 : Hid (Below w1.heap.size w1 w5) := Lib.hid (Below.grown HQ2.out hgrow (Below.size HQ2.out) (own_lt (own_noneE (base := w1.heap.size) (((w1.alloc (.cells #[] 36)).alloc (.cells #[.int .i64 p, .int .i64 q, .int .i64 r] 36)).drew) (heap_first w1 (.cells #[] 36) (.cells #[.int .i64 p, .int .i64 q, .int .i64 r] 36)) (Nat.le_refl _)))); have HC1 : Hid (∀ j u, ([.int .i64 p, .int .i64 q, .int .i64 r] : List Value)[j]? = some u → w5.cell? ((⟨w1.heap.size + 1, 0, none⟩ : Addr).add j) = some u) := Lib.hid (grown_three (b := w1.heap.size) (S := w1.heap.size + 1) hgrow (by exact heap_second w1 (.cells #[] 36) (.cells #[.int .i64 p, .int .i64 q, .int .i64 r] 36)) (by omega)); obtain ⟨k0, k1, k2⟩ := HK.out w5 HB5.out; clear hown' hgrow)
    | (refine step_own (((w1.alloc (.cells #[.int .i64 p, .int .i64 q, .int .i64 r] 36)).alloc (.cells #[] 36)).drew) (by rfl) (.tmp 23) (.tmp 24) 24 (by rfl) w1.heap.size 36 i0 (.agg #[.int .i64 0, .int .i64 0, .int .i64 0]) 3 24 Try.underlying24 HI0.out HZ0.out HZ1.out HZ2.out rfl (by decide) (.slice (some ⟨w1.heap.size + 1, 0, none⟩) 0 0) 0 (flatEn []) (by rfl) (own_noneE (base := w1.heap.size) (((w1.alloc (.cells #[.int .i64 p, .int .i64 q, .int .i64 r] 36)).alloc (.cells #[] 36)).drew) (heap_second w1 (.cells #[.int .i64 p, .int .i64 q, .int .i64 r] 36) (.cells #[] 36)) (Nat.le_succ _)) A f.length d (flatEn f) (by rfl) HL1.out (HN1.out (((w1.alloc (.cells #[.int .i64 p, .int .i64 q, .int .i64 r] 36)).alloc (.cells #[] 36)).drew) HQ3.out) (flatEn_one _) hmxA (by omega) (Below.size HQ3.out) ?_; intro v1 w5 hown' hgrow; have HO1 : Hid (w5.ownsRow w1.heap.size 36 3 v1 f.length (flatEn f)) := Lib.hid (by simpa [flatEn] using hown'); have HB5 : Hid (Below w1.heap.size w1 w5) := Lib.hid (Below.grown HQ3.out hgrow (Below.size HQ3.out) (own_lt (own_noneE (base := w1.heap.size) (((w1.alloc (.cells #[.int .i64 p, .int .i64 q, .int .i64 r] 36)).alloc (.cells #[] 36)).drew) (heap_second w1 (.cells #[.int .i64 p, .int .i64 q, .int .i64 r] 36) (.cells #[] 36)) (Nat.le_succ _)))); have HC1 : Hid (∀ j u, ([.int .i64 p, .int .i64 q, .int .i64 r] : List Value)[j]? = some u → w5.cell? ((⟨w1.heap.size, 0, none⟩ : Addr).add j) = some u) := Lib.hid (grown_three (b := w1.heap.size + 1) (S := w1.heap.size) hgrow (by exact heap_first w1 (.cells #[.int .i64 p, .int .i64 q, .int .i64 r] 36) (.cells #[] 36)) (by omega)); obtain ⟨k0, k1, k2⟩ := HK.out w5 HB5.out; clear hown' hgrow)
    | (refine step_own (w5.alloc (.cells #[.int .i64 p, .int .i64 q, .int .i64 r] 36)) (by rfl) (.tmp 25) (.tmp 27) 24 (by rfl) w1.heap.size 36 i0 (.agg #[.int .i64 0, .int .i64 0, .int .i64 0]) 3 24 Try.underlying24 HI0.out HZ0.out HZ1.out HZ2.out rfl (by decide) v1 f.length (flatEn f) (by rfl) (HO1.out.alloc _) ⟨w5.heap.size, 0, none⟩ 1 1 [.int .i64 p, .int .i64 q, .int .i64 r] (by rfl) rfl (cells3_new _ _ _ _ _) three_one hmxB (by omega) (Nat.le_trans HB5.out.size (size_alloc_le _ _)) ?_; intro v2 w6 hown' hgrow; have HO2 : Hid (w6.ownsRow w1.heap.size 36 3 v2 L.length (flatEn L)) := Lib.hid (by rw [← HFL.out, HLL.out]; exact hown'); have HB6 : Hid (Below w1.heap.size w1 w6) := Lib.hid (Below.grown (HB5.out.alloc HB5.out.size (.cells #[.int .i64 p, .int .i64 q, .int .i64 r] 36)) hgrow (Nat.le_trans HB5.out.size (size_alloc_le _ _)) (own_lt HO1.out)); clear hown' hgrow)
    | (refine step_own (w5) (by rfl) (.tmp 25) (.tmp 27) 24 (by rfl) w1.heap.size 36 i0 (.agg #[.int .i64 0, .int .i64 0, .int .i64 0]) 3 24 Try.underlying24 HI0.out HZ0.out HZ1.out HZ2.out rfl (by decide) v1 f.length (flatEn f) (by rfl) HO1.out ⟨w1.heap.size + 1, 0, none⟩ 1 1 [.int .i64 p, .int .i64 q, .int .i64 r] (by rfl) rfl HC1.out three_one hmxB (by omega) HB5.out.size ?_; intro v2 w6 hown' hgrow; have HO2 : Hid (w6.ownsRow w1.heap.size 36 3 v2 L.length (flatEn L)) := Lib.hid (by rw [← HFL.out, HLL.out]; exact hown'); have HB6 : Hid (Below w1.heap.size w1 w6) := Lib.hid (Below.grown HB5.out hgrow HB5.out.size (own_lt HO1.out)); clear hown' hgrow)
    | (refine step_own (w5) (by rfl) (.tmp 25) (.tmp 27) 24 (by rfl) w1.heap.size 36 i0 (.agg #[.int .i64 0, .int .i64 0, .int .i64 0]) 3 24 Try.underlying24 HI0.out HZ0.out HZ1.out HZ2.out rfl (by decide) v1 f.length (flatEn f) (by rfl) HO1.out ⟨w1.heap.size, 0, none⟩ 1 1 [.int .i64 p, .int .i64 q, .int .i64 r] (by rfl) rfl HC1.out three_one hmxB (by omega) HB5.out.size ?_; intro v2 w6 hown' hgrow; have HO2 : Hid (w6.ownsRow w1.heap.size 36 3 v2 L.length (flatEn L)) := Lib.hid (by rw [← HFL.out, HLL.out]; exact hown'); have HB6 : Hid (Below w1.heap.size w1 w6) := Lib.hid (Below.grown HB5.out hgrow HB5.out.size (own_lt HO1.out)); clear hown' hgrow))
  all_goals
    have HBB := Lib.hid (HB1.out.trans (HB6.out.mono HB1.out.size)); have HOO := Lib.hid (own_up2 HO2.out HB1.out.size)
    go_wp2
    go_ret2
    exact ⟨_, _, ret_vb HA.out.symm, HBB.out, by rw [HV.out]; exact HOO.out⟩
end Go.Proofs.Yteagclokobkigaa

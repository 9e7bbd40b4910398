/-
  The contracts of impl.newGappedTable, LeastStarts, TableWidth, ColumnWidths.
-/
import Derived.Test.YteagclokobkigaaEf
import Derived.Test.YteagclokobkigaaEk
namespace Go.Proofs.Yteagclokobkigaa
open Go.RowKit
set_option linter.unusedVariables false

noncomputable def tabV (n : Int) (f : List En) (A : Option Addr) (c : Nat) (g : Int) : Value := if askT n f g then .agg #[.int .i64 n, .slice A f.length c, .int .i64 g] else .agg #[.int .i64 0, .slice none 0 0, .int .i64 0]
theorem tabV_no {n : Int} {f : List En} {g : Int} (A : Option Addr) (c : Nat) (h : askT n f g = false) : tabV n f A c g = .agg #[.int .i64 0, .slice none 0 0, .int .i64 0] := by unfold tabV; rw [h]; rfl
theorem tabV_yes {n : Int} {f : List En} {g : Int} (A : Option Addr) (c : Nat) (h : askT n f g = true) : tabV n f A c g = .agg #[.int .i64 n, .slice A f.length c, .int .i64 g] := by unfold tabV; rw [h]; rfl
theorem newGapped_any (n : Int) (f : List En) (A : Option Addr) (c : Nat) (g : Int) (w : World) (hf : EnsIn w A f) (hn : f.length ≤ 1048576) (hr : EnR f) :
    Calls Try.prog 39 #[.int .i64 n, .slice A f.length c, .int .i64 g] w fun e w' => e = .returned (.tuple #[tabV n f A c g, .bool (askT n f g)]) ∧ Below w.heap.size w w' := by
  have HF := Lib.hid hf; clear hf
  have HE : Hid (askT n f g = (tbB n f && inB 0 36 g)) := Lib.hid rfl
  have HNO := Lib.hid (tabV_no (n := n) (f := f) (g := g) A c); have HYE := Lib.hid (tabV_yes (n := n) (f := f) (g := g) A c)
  have HB0 : Hid (Below w.heap.size w (w.alloc (.cells #[.int .i64 0, .slice none 0 0, .int .i64 0] 55))) := Lib.hid ((Below.refl _ _).alloc (Nat.le_refl _) _)
  have hX : (w.alloc (.cells #[.int .i64 0, .slice none 0 0, .int .i64 0] 55)).heap[w.heap.size]? = some (.cells #[.int .i64 0, .slice none 0 0, .int .i64 0] 55) := heap_new _ _
  have HX := Lib.hid hX; clear hX
  go_enter Try.func39, Try.ntmps39
  go_wp2_with fail
  refine (implIsTableS_any n f A c _ (HF.out.below HB0.out (Nat.le_refl _)) hn hr).mono ?_
  rintro e w1 ⟨rfl, hb1⟩
  have HX1 : Hid (w1.heap[w.heap.size]? = some (.cells #[.int .i64 0, .slice none 0 0, .int .i64 0] 55)) := Lib.hid ((hb1.block _ (by simp)).trans HX.out)
  have HB1 := Lib.hid (HB0.out.trans (hb1.mono HB0.out.size))
  have c0 : w1.cell? ⟨w.heap.size, 0, none⟩ = some (.int .i64 0) := by rw [cell_of_heap HX1.out]; rfl
  have c1 : w1.cell? ⟨w.heap.size, 1, none⟩ = some (.slice none 0 0) := by rw [cell_of_heap HX1.out]; rfl
  have c2 : w1.cell? ⟨w.heap.size, 2, none⟩ = some (.int .i64 0) := by rw [cell_of_heap HX1.out]; rfl
  have f0 := free_of_heap HX1.out 0; have f1 := free_of_heap HX1.out 1; have f2 := free_of_heap HX1.out 2
  have hwl := lt_of_heap HX1.out
  clear hb1
  cases ht : tbB n f
  · have HA : Hid (askT n f g = false) := Lib.hid (by rw [HE.out, ht]; rfl)
    clear ht
    go_wp2
    refine bodyPost_ret (v := .tuple #[.agg #[.int .i64 0, .slice none 0 0, .int .i64 0], .bool false]) (by simp [results, Try.results39, go_sem, c0, c1, c2, f0, f1, f2]) rfl ⟨by rw [HNO.out HA.out, HA.out], ?_⟩
    repeat (first | (with_reducible exact HB1.out) | (refine Below.setCell ?_ (by first | (simp; done) | (simp; omega)) _))
  · by_cases h1 : g < 0
    · have HA : Hid (askT n f g = false) := Lib.hid (by rw [HE.out, ht, inBs_no (by omega)]; rfl)
      clear ht
      go_wp2
      refine bodyPost_ret (v := .tuple #[.agg #[.int .i64 0, .slice none 0 0, .int .i64 0], .bool false]) (by simp [results, Try.results39, go_sem, c0, c1, c2, f0, f1, f2]) rfl ⟨by rw [HNO.out HA.out, HA.out], ?_⟩
      repeat (first | (with_reducible exact HB1.out) | (refine Below.setCell ?_ (by first | (simp; done) | (simp; omega)) _))
    · by_cases h2 : 36 < g
      · have HA : Hid (askT n f g = false) := Lib.hid (by rw [HE.out, ht, inBs_no (by omega)]; rfl)
        clear ht
        go_wp2
        refine bodyPost_ret (v := .tuple #[.agg #[.int .i64 0, .slice none 0 0, .int .i64 0], .bool false]) (by simp [results, Try.results39, go_sem, c0, c1, c2, f0, f1, f2]) rfl ⟨by rw [HNO.out HA.out, HA.out], ?_⟩
        repeat (first | (with_reducible exact HB1.out) | (refine Below.setCell ?_ (by first | (simp; done) | (simp; omega)) _))
      · have HA : Hid (askT n f g = true) := Lib.hid (by rw [HE.out, ht, inBs_iff.2 ⟨by omega, by omega⟩]; rfl)
        clear ht
        go_wp2
        refine bodyPost_ret (v := .tuple #[.agg #[.int .i64 n, .slice A f.length c, .int .i64 g], .bool true]) (by simp [results, Try.results39, go_sem, c0, c1, c2, f0, f1, f2]) rfl ⟨by rw [HYE.out HA.out, HA.out], ?_⟩
        repeat (first | (with_reducible exact HB1.out) | (refine Below.setCell ?_ (by first | (simp; done) | (simp; omega)) _))
theorem implLeastStarts_any (n : Int) (f : List En) (A : Option Addr) (c : Nat) (g : Int) (w : World) (hf : EnsIn w A f) (hn : f.length ≤ 1048576) (hr : EnR f) :
    Calls Try.prog 7 #[.int .i64 n, .slice A f.length c, .int .i64 g] w fun e w' => IntsB w w' e (lsL n f g) (askT n f g) := by
  have HF := Lib.hid hf; clear hf
  have HNV := Lib.hid (tabV_no (n := n) (f := f) (g := g) A c); have HYV := Lib.hid (tabV_yes (n := n) (f := f) (g := g) A c)
  go_enter Try.func7, Try.ntmps7
  go_wp2_with fail
  refine (newGapped_any n f A c g _ HF.out hn hr).mono ?_
  rintro e w1 ⟨rfl, hb1⟩
  have HB1 := Lib.hid hb1; clear hb1
  cases ha : askT n f g
  · have HN := Lib.hid (ask_no ha); have HA := Lib.hid ha; rw [HNV.out ha]; clear ha
    go_wp2
    go_ret2
    exact ⟨_, 3, ret_vb HA.out.symm, HB1.out.alloc HB1.out.size _, by rw [HN.out.1]; exact own_nil _ _ _ _⟩
  · skip
    have HA := Lib.hid ha
    obtain ⟨hG, h0, h36⟩ := askT_iff.1 ha
    obtain ⟨N, rfl, hN1, hN10⟩ := ask_nat ha
    have HY := Lib.hid (ask_yes ha); have HG := Lib.hid hG
    rw [HYV.out ha]
    have HB2 : Hid (Below w.heap.size w (w1.alloc (.cells #[.int .i64 (N : Int), .slice A f.length c, .int .i64 g] 55))) := Lib.hid (HB1.out.alloc HB1.out.size _)
    clear ha hG
    go_wp2_with fail
    refine (leastStarts_any N f A c g _ HG.out h0 h36 (HF.out.below HB2.out (Nat.le_refl _))).mono ?_
    rintro e w2 ⟨v, rfl, hb2, ho2⟩
    have HB3 := Lib.hid (HB2.out.trans (hb2.mono HB2.out.size)); have HO := Lib.hid (own_up2 ho2 HB2.out.size)
    have hll := stL_len f g N
    clear hb2 ho2
    go_wp2
    go_ret2
    exact ⟨_, _, ret_vb HA.out.symm, HB3.out, by rw [HY.out.1, hll]; exact HO.out⟩
theorem implColumnWidths_any (n : Int) (f : List En) (A : Option Addr) (c : Nat) (g : Int) (w : World) (hf : EnsIn w A f) (hn : f.length ≤ 1048576) (hr : EnR f) :
    Calls Try.prog 9 #[.int .i64 n, .slice A f.length c, .int .i64 g] w fun e w' => IntsB w w' e (cwL n f g) (askT n f g) := by
  have HF := Lib.hid hf; clear hf
  have HNV := Lib.hid (tabV_no (n := n) (f := f) (g := g) A c); have HYV := Lib.hid (tabV_yes (n := n) (f := f) (g := g) A c)
  go_enter Try.func9, Try.ntmps9
  go_wp2_with fail
  refine (newGapped_any n f A c g _ HF.out hn hr).mono ?_
  rintro e w1 ⟨rfl, hb1⟩
  have HB1 := Lib.hid hb1; clear hb1
  cases ha : askT n f g
  · have HN := Lib.hid (ask_no ha); have HA := Lib.hid ha; rw [HNV.out ha]; clear ha
    go_wp2
    go_ret2
    exact ⟨_, 3, ret_vb HA.out.symm, HB1.out.alloc HB1.out.size _, by rw [HN.out.2.1]; exact own_nil _ _ _ _⟩
  · skip
    have HA := Lib.hid ha
    obtain ⟨hG, h0, h36⟩ := askT_iff.1 ha
    obtain ⟨N, rfl, hN1, hN10⟩ := ask_nat ha
    have HY := Lib.hid (ask_yes ha); have HG := Lib.hid hG
    rw [HYV.out ha]
    have HB2 : Hid (Below w.heap.size w (w1.alloc (.cells #[.int .i64 (N : Int), .slice A f.length c, .int .i64 g] 55))) := Lib.hid (HB1.out.alloc HB1.out.size _)
    clear ha hG
    go_wp2_with fail
    refine (leastWidths_any N f A c g _ HG.out h0 h36 (HF.out.below HB2.out (Nat.le_refl _))).mono ?_
    rintro e w2 ⟨v, rfl, hb2, ho2⟩
    have HB3 := Lib.hid (HB2.out.trans (hb2.mono HB2.out.size)); have HO := Lib.hid (own_up2 ho2 HB2.out.size)
    have hll := wdL_len f g N
    clear hb2 ho2
    go_wp2
    go_ret2
    exact ⟨_, _, ret_vb HA.out.symm, HB3.out, by rw [HY.out.2.1, hll]; exact HO.out⟩
theorem implTableWidth_any (n : Int) (f : List En) (A : Option Addr) (c : Nat) (g : Int) (w : World) (hf : EnsIn w A f) (hn : f.length ≤ 1048576) (hr : EnR f) :
    Calls Try.prog 11 #[.int .i64 n, .slice A f.length c, .int .i64 g] w fun e w' => e = .returned (.tuple #[.int .i64 (twV n f g), .bool (askT n f g)]) ∧ Below w.heap.size w w' := by
  have HF := Lib.hid hf; clear hf
  have HNV := Lib.hid (tabV_no (n := n) (f := f) (g := g) A c); have HYV := Lib.hid (tabV_yes (n := n) (f := f) (g := g) A c)
  go_enter Try.func11, Try.ntmps11
  go_wp2_with fail
  refine (newGapped_any n f A c g _ HF.out hn hr).mono ?_
  rintro e w1 ⟨rfl, hb1⟩
  have HB1 := Lib.hid hb1; clear hb1
  cases ha : askT n f g
  · have HN := Lib.hid (ask_no ha); have HA := Lib.hid ha; rw [HNV.out ha]; clear ha
    go_wp2
    go_ret2
    exact ⟨ret_ib HN.out.2.2.symm HA.out.symm, HB1.out.alloc HB1.out.size _⟩
  · skip
    have HA := Lib.hid ha
    obtain ⟨hG, h0, h36⟩ := askT_iff.1 ha
    obtain ⟨N, rfl, hN1, hN10⟩ := ask_nat ha
    have HY := Lib.hid (ask_yes ha); have HG := Lib.hid hG
    rw [HYV.out ha]
    have HB2 : Hid (Below w.heap.size w (w1.alloc (.cells #[.int .i64 (N : Int), .slice A f.length c, .int .i64 g] 55))) := Lib.hid (HB1.out.alloc HB1.out.size _)
    clear ha hG
    go_wp2_with fail
    refine (leastWidth_any N f A c g _ HG.out h0 h36 (HF.out.below HB2.out (Nat.le_refl _))).mono ?_
    rintro e w2 ⟨rfl, hb2⟩
    have HB3 := Lib.hid (HB2.out.trans (hb2.mono HB2.out.size))
    clear hb2
    go_wp2
    go_ret2
    exact ⟨ret_ib HY.out.2.2.symm HA.out.symm, HB3.out⟩
end Go.Proofs.Yteagclokobkigaa

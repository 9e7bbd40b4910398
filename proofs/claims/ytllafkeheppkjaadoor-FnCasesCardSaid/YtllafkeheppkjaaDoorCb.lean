/-
  The contracts of spec.caBox, spec.IsBox, impl.placeBox, impl.place's isInCase and impl.IsBox: each answers what the plain words on boxes say.
-/
import Derived.Test.YtllafkeheppkjaaDoorCs
namespace Go.Proofs.YtllafkeheppkjaaDoor
open Go.RowKit
set_option linter.unusedVariables false

theorem inR_is (a b c : Int) (v : Bool) (w : World) (h : Hid (inR a b c = v)) :
    Calls Tryd.prog 55 #[.int .i64 a, .int .i64 b, .int .i64 c] w fun e w' => e = .returned (.bool v) ∧ w = w' := by
  rw [← h.out]; exact in_any a b c w
theorem tyLetters_is (s : ByteArray) (m : Int) (v : Bool) (w : World) (hs : s.size ≤ maxLen) (h : Hid (tyLettersF s.data.toList m = v)) :
    Calls Tryd.prog 75 #[.string s, .int .i64 m] w fun e w' => e = .returned (.bool v) ∧ w = w' := by
  rw [← h.out]; exact tyLetters_any s m w hs
theorem isCode_is (s : ByteArray) (v : Bool) (w : World) (hs : s.size ≤ maxLen) (h : Hid (tyLettersF s.data.toList 3 = v)) :
    Calls Tryd.prog 44 #[.string s] w fun e w' => e = .returned (.bool v) ∧ Below w.heap.size w w' := by
  rw [← h.out]; exact isCode_any s w hs

set_option maxRecDepth 100000 in
set_option maxHeartbeats 4000000 in
theorem caBox_any (b : Bx) (w : World) (hs : b.cod.size ≤ maxLen) :
    Calls Tryd.prog 61 #[.agg #[.string b.cod, .int .i64 b.row, .int .i64 b.col, .int .i64 b.cnt]] w fun e w' => e = .returned (.bool (boxB b)) ∧ Below w.heap.size w w' := by
  have HX : boxB b = (tyLettersF b.cod.data.toList 3 && (inR b.row 0 9 && (inR b.col 0 9 && inR b.cnt 0 9999))) := rfl
  cases h0 : tyLettersF b.cod.data.toList 3
  · have HE : Hid (boxB b = false) := Lib.hid (by rw [HX, h0]; rfl)
    have H0 := Lib.hid h0; clear h0 HX
    go_enter Tryd.func61, Tryd.ntmps61
    go_wp2_with fail
    refine (tyLetters_is _ _ _ _ hs H0).mono ?_
    rintro e w' ⟨rfl, rfl⟩
    go_wp2
    go_ret
    exact ⟨ret_bool HE.out.symm, (Below.refl _ _).alloc (Nat.le_refl _) _⟩
  · cases h1 : inR b.row 0 9
    · have HE : Hid (boxB b = false) := Lib.hid (by rw [HX, h0, h1]; rfl)
      have H0 := Lib.hid h0; have H1 := Lib.hid h1; clear h0 h1 HX
      go_enter Tryd.func61, Tryd.ntmps61
      go_wp2_with fail
      refine (tyLetters_is _ _ _ _ hs H0).mono ?_
      rintro e w' ⟨rfl, rfl⟩
      go_wp2_with fail
      refine (inR_is b.row 0 9 _ _ H1).mono ?_
      rintro e w' ⟨rfl, rfl⟩
      go_wp2
      go_ret
      exact ⟨ret_bool HE.out.symm, (Below.refl _ _).alloc (Nat.le_refl _) _⟩
    · cases h2 : inR b.col 0 9
      · have HE : Hid (boxB b = false) := Lib.hid (by rw [HX, h0, h1, h2]; rfl)
        have H0 := Lib.hid h0; have H1 := Lib.hid h1; have H2 := Lib.hid h2; clear h0 h1 h2 HX
        go_enter Tryd.func61, Tryd.ntmps61
        go_wp2_with fail
        refine (tyLetters_is _ _ _ _ hs H0).mono ?_
        rintro e w' ⟨rfl, rfl⟩
        go_wp2_with fail
        refine (inR_is b.row 0 9 _ _ H1).mono ?_
        rintro e w' ⟨rfl, rfl⟩
        go_wp2_with fail
        refine (inR_is b.col 0 9 _ _ H2).mono ?_
        rintro e w' ⟨rfl, rfl⟩
        go_wp2
        go_ret
        exact ⟨ret_bool HE.out.symm, (Below.refl _ _).alloc (Nat.le_refl _) _⟩
      · cases h3 : inR b.cnt 0 9999
        · have HE : Hid (boxB b = false) := Lib.hid (by rw [HX, h0, h1, h2, h3]; rfl)
          have H0 := Lib.hid h0; have H1 := Lib.hid h1; have H2 := Lib.hid h2; have H3 := Lib.hid h3; clear h0 h1 h2 h3 HX
          go_enter Tryd.func61, Tryd.ntmps61
          go_wp2_with fail
          refine (tyLetters_is _ _ _ _ hs H0).mono ?_
          rintro e w' ⟨rfl, rfl⟩
          go_wp2_with fail
          refine (inR_is b.row 0 9 _ _ H1).mono ?_
          rintro e w' ⟨rfl, rfl⟩
          go_wp2_with fail
          refine (inR_is b.col 0 9 _ _ H2).mono ?_
          rintro e w' ⟨rfl, rfl⟩
          go_wp2_with fail
          refine (inR_is b.cnt 0 9999 _ _ H3).mono ?_
          rintro e w' ⟨rfl, rfl⟩
          go_wp2
          go_ret
          exact ⟨ret_bool HE.out.symm, (Below.refl _ _).alloc (Nat.le_refl _) _⟩
        · have HE : Hid (boxB b = true) := Lib.hid (by rw [HX, h0, h1, h2, h3]; rfl)
          have H0 := Lib.hid h0; have H1 := Lib.hid h1; have H2 := Lib.hid h2; have H3 := Lib.hid h3; clear h0 h1 h2 h3 HX
          go_enter Tryd.func61, Tryd.ntmps61
          go_wp2_with fail
          refine (tyLetters_is _ _ _ _ hs H0).mono ?_
          rintro e w' ⟨rfl, rfl⟩
          go_wp2_with fail
          refine (inR_is b.row 0 9 _ _ H1).mono ?_
          rintro e w' ⟨rfl, rfl⟩
          go_wp2_with fail
          refine (inR_is b.col 0 9 _ _ H2).mono ?_
          rintro e w' ⟨rfl, rfl⟩
          go_wp2_with fail
          refine (inR_is b.cnt 0 9999 _ _ H3).mono ?_
          rintro e w' ⟨rfl, rfl⟩
          go_wp2
          go_ret
          exact ⟨ret_bool HE.out.symm, (Below.refl _ _).alloc (Nat.le_refl _) _⟩

theorem specIsBox_any (b : Bx) (w : World) (hs : b.cod.size ≤ maxLen) :
    Calls Tryd.prog 28 #[.agg #[.string b.cod, .int .i64 b.row, .int .i64 b.col, .int .i64 b.cnt]] w fun e w' => e = .returned (.bool (boxB b)) ∧ Below w.heap.size w w' := by
  go_enter Tryd.func28, Tryd.ntmps28
  go_wp2_with fail
  refine (caBox_any b _ hs).mono ?_
  rintro e w' ⟨rfl, hb⟩
  go_wp2
  go_ret
  exact ⟨rfl, ((Below.refl _ _).alloc (Nat.le_refl _) _).trans (hb.mono (by simp))⟩

theorem placeBox_any (b : Bx) (w : World) :
    Calls Tryd.prog 45 #[.agg #[.string b.cod, .int .i64 b.row, .int .i64 b.col, .int .i64 b.cnt]] w fun e w' => e = .returned (.agg #[.int .i64 b.row, .int .i64 b.col, .string b.cod, .int .i64 b.cnt]) ∧ Below w.heap.size w w' := by
  go_enter Tryd.func45, Tryd.ntmps45
  go_wp2
  refine bodyPost_ret (v := .agg #[.int .i64 b.row, .int .i64 b.col, .string b.cod, .int .i64 b.cnt]) (by simp [results, Tryd.results45, go_sem]) rfl ⟨rfl, ?_⟩
  exact ((Below.refl _ _).alloc (Nat.le_refl _) _).alloc (by simp) _

def inCase (r c : Int) : Bool := (inR r 0 9) && inR c 0 9
theorem inCase_iff {r c : Int} : inCase r c = true ↔ (0 ≤ r ∧ r ≤ 9) ∧ 0 ≤ c ∧ c ≤ 9 := by simp only [inCase, Bool.and_eq_true, inR_iff]
theorem isInCase_any (r c : Int) (w : World) :
    Calls Tryd.prog 46 #[.agg #[.int .i64 r, .int .i64 c]] w fun e w' => e = .returned (.bool (inCase r c)) ∧ Below w.heap.size w w' := by
  rcases (by omega : r < 0 ∨ 9 < r ∨ ((0 ≤ r ∧ r ≤ 9) ∧ c < 0) ∨ ((0 ≤ r ∧ r ≤ 9) ∧ 9 < c) ∨ ((0 ≤ r ∧ r ≤ 9) ∧ 0 ≤ c ∧ c ≤ 9)) with h | h | ⟨⟨h, h'⟩, h2⟩ | ⟨⟨h, h'⟩, h2⟩ | ⟨⟨h, h'⟩, h2, h3⟩
  · have hx : ¬ 0 ≤ r := by omega
    go_enter Tryd.func46, Tryd.ntmps46
    go_wp2
    go_ret
    exact ⟨ret_bool (by symm; rw [← Bool.not_eq_true, inCase_iff]; omega), (Below.refl _ _).alloc (Nat.le_refl _) _⟩
  · have hx : 0 ≤ r := by omega
    have hy : ¬ r < 10 := by omega
    have hz : ¬ r ≤ 9 := by omega
    go_enter Tryd.func46, Tryd.ntmps46
    go_wp2
    go_ret
    exact ⟨ret_bool (by symm; rw [← Bool.not_eq_true, inCase_iff]; omega), (Below.refl _ _).alloc (Nat.le_refl _) _⟩
  · have hy : r < 10 := by omega
    have hx : ¬ 0 ≤ c := by omega
    go_enter Tryd.func46, Tryd.ntmps46
    go_wp2
    go_ret
    exact ⟨ret_bool (by symm; rw [← Bool.not_eq_true, inCase_iff]; omega), (Below.refl _ _).alloc (Nat.le_refl _) _⟩
  · have hy : r < 10 := by omega
    have hx : 0 ≤ c := by omega
    have hz : ¬ c < 10 := by omega
    have hu : ¬ c ≤ 9 := by omega
    go_enter Tryd.func46, Tryd.ntmps46
    go_wp2
    go_ret
    exact ⟨ret_bool (by symm; rw [← Bool.not_eq_true, inCase_iff]; omega), (Below.refl _ _).alloc (Nat.le_refl _) _⟩
  · have hy : r < 10 := by omega
    have hz : c < 10 := by omega
    go_enter Tryd.func46, Tryd.ntmps46
    go_wp2
    go_ret
    exact ⟨ret_bool (by symm; rw [inCase_iff]; omega), (Below.refl _ _).alloc (Nat.le_refl _) _⟩
theorem isInCase_is (r c : Int) (v : Bool) (w : World) (h : Hid (inCase r c = v)) :
    Calls Tryd.prog 46 #[.agg #[.int .i64 r, .int .i64 c]] w fun e w' => e = .returned (.bool v) ∧ Below w.heap.size w w' := by
  rw [← h.out]; exact isInCase_any r c w

set_option maxRecDepth 100000 in
theorem implIsBox_any (b : Bx) (w : World) (hs : b.cod.size ≤ maxLen) :
    Calls Tryd.prog 19 #[.agg #[.string b.cod, .int .i64 b.row, .int .i64 b.col, .int .i64 b.cnt]] w fun e w' => e = .returned (.bool (boxB b)) ∧ Below w.heap.size w w' := by
  have hfd : ∀ w : World, (Instr.field 75 (.agg #[.int .i64 b.row, .int .i64 b.col, .string b.cod, .int .i64 b.cnt]) 0).run Tryd.prog w = .ok (.agg #[.int .i64 b.row, .int .i64 b.col]) w := fun _ => by kernel_rfl
  cases h0 : tyLettersF b.cod.data.toList 3 <;> cases h1 : inCase b.row b.col
  case true.true =>
    have H0 := Lib.hid h0; have H1 := Lib.hid h1
    have HE : Hid (boxB b = inR b.cnt 0 9999) := Lib.hid (by unfold boxB; rw [h0, Bool.true_and, ← Bool.and_assoc]; have e := h1; unfold inCase at e; rw [e, Bool.true_and])
    clear h0 h1
    rcases (by omega : b.cnt < 0 ∨ 9999 < b.cnt ∨ (0 ≤ b.cnt ∧ b.cnt ≤ 9999)) with h | h | ⟨h, h'⟩
    · have hx : ¬ 0 ≤ b.cnt := by omega
      go_enter Tryd.func19, Tryd.ntmps19
      go_wp2_with fail
      obtain ⟨w0, hw0⟩ : ∃ w0 : World, w0 = w.alloc (.cells #[.string b.cod, .int .i64 b.row, .int .i64 b.col, .int .i64 b.cnt] 40) := ⟨_, rfl⟩
      rw [← hw0]
      have hB0 : Below w.heap.size w w0 := by rw [hw0]; exact (Below.refl _ _).alloc (Nat.le_refl _) _
      have hz : w.heap.size < w0.heap.size := by rw [hw0]; simp
      have hk : Hid (∀ W : World, Below w0.heap.size w0 W → W.cell? ⟨w.heap.size, 0, none⟩ = some (.string b.cod) ∧ W.cell? ⟨w.heap.size, 1, none⟩ = some (.int .i64 b.row) ∧ W.cell? ⟨w.heap.size, 2, none⟩ = some (.int .i64 b.col) ∧ W.cell? ⟨w.heap.size, 3, none⟩ = some (.int .i64 b.cnt)) := Lib.hid (fun W h => ⟨by rw [h.cell hz, hw0]; simp, by rw [h.cell hz, hw0]; simp, by rw [h.cell hz, hw0]; simp, by rw [h.cell hz, hw0]; simp⟩)
      clear hw0 hz
      refine (isCode_is _ _ _ hs H0).mono ?_
      rintro e w1 ⟨rfl, hb1⟩
      have hB1 : Below w0.heap.size w0 w1 := hb1
      obtain ⟨c0, c1, c2, c3⟩ := hk.out _ hB1
      clear hb1
      go_wp2_with fail
      refine (placeBox_any b _).mono ?_
      rintro e w2 ⟨rfl, hb2⟩
      have hB1' := hB1.trans (hb2.mono hB1.size)
      clear c0 c1 c2 c3 hB1 hb2
      go_wp2_with fail
      refine (isInCase_is _ _ _ _ H1).mono ?_
      rintro e w3 ⟨rfl, hb3⟩
      have hB3 := hB1'.trans (hb3.mono hB1'.size)
      have hB2 : Below w.heap.size w w3 := hB0.trans (hB3.mono hB0.size)
      obtain ⟨c0, c1, c2, c3⟩ := hk.out _ hB3
      clear hB1' hb3 hB3
      go_wp2
      go_ret
      exact ⟨ret_bool (by rw [HE.out]; symm; rw [inR_no]; omega), hB2⟩
    · have hx : 0 ≤ b.cnt := by omega
      have hy : ¬ b.cnt ≤ 9999 := by omega
      go_enter Tryd.func19, Tryd.ntmps19
      go_wp2_with fail
      obtain ⟨w0, hw0⟩ : ∃ w0 : World, w0 = w.alloc (.cells #[.string b.cod, .int .i64 b.row, .int .i64 b.col, .int .i64 b.cnt] 40) := ⟨_, rfl⟩
      rw [← hw0]
      have hB0 : Below w.heap.size w w0 := by rw [hw0]; exact (Below.refl _ _).alloc (Nat.le_refl _) _
      have hz : w.heap.size < w0.heap.size := by rw [hw0]; simp
      have hk : Hid (∀ W : World, Below w0.heap.size w0 W → W.cell? ⟨w.heap.size, 0, none⟩ = some (.string b.cod) ∧ W.cell? ⟨w.heap.size, 1, none⟩ = some (.int .i64 b.row) ∧ W.cell? ⟨w.heap.size, 2, none⟩ = some (.int .i64 b.col) ∧ W.cell? ⟨w.heap.size, 3, none⟩ = some (.int .i64 b.cnt)) := Lib.hid (fun W h => ⟨by rw [h.cell hz, hw0]; simp, by rw [h.cell hz, hw0]; simp, by rw [h.cell hz, hw0]; simp, by rw [h.cell hz, hw0]; simp⟩)
      clear hw0 hz
      refine (isCode_is _ _ _ hs H0).mono ?_
      rintro e w1 ⟨rfl, hb1⟩
      have hB1 : Below w0.heap.size w0 w1 := hb1
      obtain ⟨c0, c1, c2, c3⟩ := hk.out _ hB1
      clear hb1
      go_wp2_with fail
      refine (placeBox_any b _).mono ?_
      rintro e w2 ⟨rfl, hb2⟩
      have hB1' := hB1.trans (hb2.mono hB1.size)
      clear c0 c1 c2 c3 hB1 hb2
      go_wp2_with fail
      refine (isInCase_is _ _ _ _ H1).mono ?_
      rintro e w3 ⟨rfl, hb3⟩
      have hB3 := hB1'.trans (hb3.mono hB1'.size)
      have hB2 : Below w.heap.size w w3 := hB0.trans (hB3.mono hB0.size)
      obtain ⟨c0, c1, c2, c3⟩ := hk.out _ hB3
      clear hB1' hb3 hB3
      go_wp2
      go_ret
      exact ⟨ret_bool (by rw [HE.out]; unfold inR; rw [decide_eq_true hx, Bool.true_and]), hB2⟩
    · skip
      go_enter Tryd.func19, Tryd.ntmps19
      go_wp2_with fail
      obtain ⟨w0, hw0⟩ : ∃ w0 : World, w0 = w.alloc (.cells #[.string b.cod, .int .i64 b.row, .int .i64 b.col, .int .i64 b.cnt] 40) := ⟨_, rfl⟩
      rw [← hw0]
      have hB0 : Below w.heap.size w w0 := by rw [hw0]; exact (Below.refl _ _).alloc (Nat.le_refl _) _
      have hz : w.heap.size < w0.heap.size := by rw [hw0]; simp
      have hk : Hid (∀ W : World, Below w0.heap.size w0 W → W.cell? ⟨w.heap.size, 0, none⟩ = some (.string b.cod) ∧ W.cell? ⟨w.heap.size, 1, none⟩ = some (.int .i64 b.row) ∧ W.cell? ⟨w.heap.size, 2, none⟩ = some (.int .i64 b.col) ∧ W.cell? ⟨w.heap.size, 3, none⟩ = some (.int .i64 b.cnt)) := Lib.hid (fun W h => ⟨by rw [h.cell hz, hw0]; simp, by rw [h.cell hz, hw0]; simp, by rw [h.cell hz, hw0]; simp, by rw [h.cell hz, hw0]; simp⟩)
      clear hw0 hz
      refine (isCode_is _ _ _ hs H0).mono ?_
      rintro e w1 ⟨rfl, hb1⟩
      have hB1 : Below w0.heap.size w0 w1 := hb1
      obtain ⟨c0, c1, c2, c3⟩ := hk.out _ hB1
      clear hb1
      go_wp2_with fail
      refine (placeBox_any b _).mono ?_
      rintro e w2 ⟨rfl, hb2⟩
      have hB1' := hB1.trans (hb2.mono hB1.size)
      clear c0 c1 c2 c3 hB1 hb2
      go_wp2_with fail
      refine (isInCase_is _ _ _ _ H1).mono ?_
      rintro e w3 ⟨rfl, hb3⟩
      have hB3 := hB1'.trans (hb3.mono hB1'.size)
      have hB2 : Below w.heap.size w w3 := hB0.trans (hB3.mono hB0.size)
      obtain ⟨c0, c1, c2, c3⟩ := hk.out _ hB3
      clear hB1' hb3 hB3
      go_wp2
      go_ret
      exact ⟨ret_bool (by rw [HE.out]; symm; rw [inR_iff]; omega), hB2⟩
  all_goals
    have H0 := Lib.hid h0; have H1 := Lib.hid h1
    have HE : Hid (boxB b = false) := Lib.hid (by unfold boxB; rw [h0]; have e := h1; unfold inCase at e; first | rfl | (rw [Bool.true_and, ← Bool.and_assoc, e]; rfl) | (rw [Bool.false_and]))
    clear h0 h1
    go_enter Tryd.func19, Tryd.ntmps19
    go_wp2_with fail
    obtain ⟨w0, hw0⟩ : ∃ w0 : World, w0 = w.alloc (.cells #[.string b.cod, .int .i64 b.row, .int .i64 b.col, .int .i64 b.cnt] 40) := ⟨_, rfl⟩
    rw [← hw0]
    have hB0 : Below w.heap.size w w0 := by rw [hw0]; exact (Below.refl _ _).alloc (Nat.le_refl _) _
    refine (isCode_is _ _ _ hs H0).mono ?_
    rintro e w1 ⟨rfl, hb1⟩
    have hB1 : Below w.heap.size w w1 := hB0.trans (hb1.mono hB0.size)
    have c0 : w1.cell? ⟨w.heap.size, 0, none⟩ = some (.string b.cod) := by rw [hb1.cell (by rw [hw0]; simp), hw0]; simp
    have c1 : w1.cell? ⟨w.heap.size, 1, none⟩ = some (.int .i64 b.row) := by rw [hb1.cell (by rw [hw0]; simp), hw0]; simp
    have c2 : w1.cell? ⟨w.heap.size, 2, none⟩ = some (.int .i64 b.col) := by rw [hb1.cell (by rw [hw0]; simp), hw0]; simp
    have c3 : w1.cell? ⟨w.heap.size, 3, none⟩ = some (.int .i64 b.cnt) := by rw [hb1.cell (by rw [hw0]; simp), hw0]; simp
    clear hw0 hB0 hb1
    first
    | (go_wp2; go_ret; exact ⟨ret_bool HE.out.symm, hB1⟩)
    | (go_wp2_with fail
       refine (placeBox_any b _).mono ?_
       rintro e w2 ⟨rfl, hb2⟩
       have hB2 : Below w.heap.size w w2 := hB1.trans (hb2.mono hB1.size)
       clear c0 c1 c2 c3 hB1 hb2
       go_wp2_with fail
       refine (isInCase_is _ _ _ _ H1).mono ?_
       rintro e w3 ⟨rfl, hb3⟩
       have hB3 : Below w.heap.size w w3 := hB2.trans (hb3.mono hB2.size)
       clear hB2 hb3
       go_wp2
       go_ret
       exact ⟨ret_bool HE.out.symm, hB3⟩)
end Go.Proofs.YtllafkeheppkjaaDoor

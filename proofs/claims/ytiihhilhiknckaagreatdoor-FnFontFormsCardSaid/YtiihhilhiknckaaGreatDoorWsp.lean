/-
  Plain facts on a font with one more sort: where it has to be put in, and that the result is a font just if there is room.
-/
import Derived.Test.YtiihhilhiknckaaGreatDoorSoc
namespace Go.Proofs.YtiihhilhiknckaaGreatDoor
open Go.RowKit
set_option linter.unusedVariables false

/-- How many sorts have a Code less than c, from the first on. -/
def posF : List (ByteArray × Int) → ByteArray → Nat
  | [], _ => 0
  | x :: r, c => if Op.bytesLess x.1.toList c.toList then posF r c + 1 else 0
theorem posF_le : ∀ (f : List (ByteArray × Int)) (c : ByteArray), posF f c ≤ f.length
  | [], _ => Nat.le_refl _
  | x :: r, c => by
    have := posF_le r c
    simp only [posF, List.length_cons]
    split <;> omega
theorem less_cmp (a b : ByteArray) : Op.bytesLess a.toList b.toList = true ↔ cmpF a b < 0 := by
  unfold cmpF; rw [cmp_less, ByteArray.toList_eq, ByteArray.toList_eq]
theorem posF_place : ∀ {f : List (ByteArray × Int)} {c : ByteArray} {i : Nat}, IsPlace f c i → posF f c = i
  | [], c, i, h => by have := h.1; simp at this; simp [posF, this]
  | x :: r, c, 0, h => by
    have h0 := h.2.2 0 (Nat.le_refl _) (by simp)
    have e : codeB0 (x :: r) 0 = x.1 := rfl
    rw [e, ← less_cmp] at h0
    simp only [posF]
    rw [if_neg h0]
  | x :: r, c, i + 1, h => by
    have h0 := h.2.1 0 (by omega)
    have e : codeB0 (x :: r) 0 = x.1 := rfl
    rw [e, ← less_cmp] at h0
    have hr : IsPlace r c i := ⟨by have := h.1; simp at this; exact this, fun m hm => h.2.1 (m + 1) (by omega), fun m h1 h2 => h.2.2 (m + 1) (by omega) (by simpa using h2)⟩
    simp only [posF]
    rw [if_pos h0, posF_place hr]
theorem posF_before : ∀ {f : List (ByteArray × Int)} {c : ByteArray} {m : Nat}, m < posF f c → Op.bytesLess (codeAt f m) c.data.toList = true
  | [], _, _, h => absurd h (by simp [posF])
  | x :: r, c, m, h => by
    simp only [posF] at h
    split at h
    · rename_i hx
      cases m with
      | zero => rw [ByteArray.toList_eq, ByteArray.toList_eq] at hx; exact hx
      | succ m => exact posF_before (f := r) (by omega)
    · omega
theorem posF_at : ∀ {f : List (ByteArray × Int)} {c : ByteArray}, posF f c < f.length → Op.bytesLess (codeAt f (posF f c)) c.data.toList = false
  | [], _, h => absurd h (by simp)
  | x :: r, c, h => by
    simp only [posF] at h ⊢
    split
    · rename_i hx
      rw [if_pos hx] at h
      exact posF_at (f := r) (by simpa using h)
    · rename_i hx
      rw [ByteArray.toList_eq, ByteArray.toList_eq, Bool.not_eq_true] at hx
      exact hx
theorem posF_drop (f : List (ByteArray × Int)) (c : ByteArray) (k : Nat) (h : k < f.length) : posF (f.drop k) c = if Op.bytesLess f[k].1.toList c.toList then posF (f.drop (k + 1)) c + 1 else 0 := by
  rw [List.drop_eq_getElem_cons h]; rfl

theorem bl_total : ∀ a b : List UInt8, Op.bytesLess a b = false → a ≠ b → Op.bytesLess b a = true
  | [], [], _, h => absurd rfl h
  | [], _ :: _, h, _ => by simp [Op.bytesLess] at h
  | _ :: _, [], _, _ => by simp [Op.bytesLess]
  | a :: x, b :: y, h, hne => by
    simp only [Op.bytesLess, Bool.or_eq_false_iff, Bool.and_eq_false_iff, decide_eq_false_iff_not, beq_eq_false_iff_ne] at h
    simp only [Op.bytesLess, Bool.or_eq_true, Bool.and_eq_true, decide_eq_true_eq, beq_iff_eq]
    obtain ⟨h1, h2⟩ := h
    by_cases hab : a = b
    · subst hab
      refine .inr ⟨rfl, bl_total x y ?_ fun e => hne (by rw [e])⟩
      rcases h2 with h2 | h2
      · exact absurd rfl h2
      · exact h2
    · refine .inl ?_
      rcases UInt8.lt_or_lt_of_ne hab with h | h
      · exact absurd h h1
      · exact h

/-- The font with one more sort. -/
def putIn (f : List (ByteArray × Int)) (c : ByteArray) (n : Int) : List (ByteArray × Int) := f.take (posF f c) ++ (c, n) :: f.drop (posF f c)
theorem putIn_len (f : List (ByteArray × Int)) (c : ByteArray) (n : Int) : (putIn f c n).length = f.length + 1 := by
  have := posF_le f c
  simp only [putIn, List.length_append, List.length_take, List.length_cons, List.length_drop]; omega
theorem putIn_get (f : List (ByteArray × Int)) (c : ByteArray) (n : Int) (j : Nat) (d : ByteArray × Int) : (putIn f c n).getD j d = if j < posF f c then f.getD j d else if j = posF f c then (c, n) else f.getD (j - 1) d := by
  have hle := posF_le f c
  have hl : (f.take (posF f c)).length = posF f c := by rw [List.length_take]; omega
  simp only [putIn, List.getD_eq_getElem?_getD]
  by_cases h1 : j < posF f c
  · rw [List.getElem?_append_left (by omega), if_pos h1, List.getElem?_take_of_lt h1]
  · rw [List.getElem?_append_right (by omega), hl, if_neg h1]
    by_cases h2 : j = posF f c
    · rw [if_pos h2, h2, Nat.sub_self]; rfl
    · rw [if_neg h2]
      obtain ⟨m, hm⟩ : ∃ m, j - posF f c = m + 1 := ⟨j - posF f c - 1, by omega⟩
      rw [hm, List.getElem?_cons_succ, List.getElem?_drop, show posF f c + m = j - 1 from by omega]

theorem font_iff {f : List (ByteArray × Int)} : Font f ↔ (∀ j, j < f.length → tySortF (f.getD j (.empty, 0)).1 (f.getD j (.empty, 0)).2 = true) ∧ (∀ j, j + 1 < f.length → Op.bytesLess (codeAt f j) (codeAt f (j + 1)) = true) ∧ 1 ≤ f.length ∧ f.length ≤ 32 := by
  have hg : ∀ j (h : j < f.length), f.getD j (.empty, 0) = f[j] := fun j h => by rw [List.getD_eq_getElem?_getD, List.getElem?_eq_getElem h]; rfl
  constructor
  · intro h
    refine ⟨fun j hj => ?_, fun j hj => h.next hj, h.2⟩
    have h1 := h.1 j hj
    unfold okAt at h1
    simp only [Bool.and_eq_true] at h1
    rw [hg j hj]; exact h1.1
  · rintro ⟨h1, h2, h3⟩
    refine ⟨fun j hj => ?_, h3⟩
    unfold okAt
    have h4 := h1 j hj
    rw [hg j hj] at h4
    rw [h4]
    cases j with
    | zero => rfl
    | succ j =>
      have h5 := h2 j hj
      rw [codeAt_of (by omega), codeAt_of hj] at h5
      simp only [Nat.add_one_sub_one, Bool.true_and]
      rw [ByteArray.toList_eq, ByteArray.toList_eq, h5]
      simp
theorem putIn_font {f : List (ByteArray × Int)} {c : ByteArray} {n : Int} (hf : Font f) (hs : tySortF c n = true) (hno : ∀ i, i < f.length → codeAt f i ≠ c.data.toList) (hl : f.length ≠ 32) : Font (putIn f c n) := by
  obtain ⟨f1, f2, f3, f4⟩ := font_iff.1 hf
  have hle := posF_le f c
  have hcode : ∀ j, codeAt (putIn f c n) j = if j < posF f c then codeAt f j else if j = posF f c then c.data.toList else codeAt f (j - 1) := fun j => by
    unfold codeAt
    rw [putIn_get]
    split
    · rfl
    · split <;> rfl
  refine font_iff.2 ⟨fun j hj => ?_, fun j hj => ?_, by rw [putIn_len]; omega, by rw [putIn_len]; omega⟩
  · rw [putIn_len] at hj
    rw [putIn_get]
    split
    · exact f1 j (by omega)
    · split
      · exact hs
      · exact f1 (j - 1) (by omega)
  · rw [putIn_len] at hj
    rw [hcode, hcode]
    by_cases h1 : j + 1 < posF f c
    · rw [if_pos (by omega), if_pos h1]; exact f2 j (by omega)
    · by_cases h2 : j + 1 = posF f c
      · rw [if_pos (by omega), if_neg h1, if_pos h2]; exact posF_before (by omega)
      · by_cases h3 : j = posF f c
        · rw [if_neg (by omega), if_pos h3, if_neg (by omega), if_neg (by omega), Nat.add_sub_cancel]
          have h4 := posF_at (f := f) (c := c) (by omega)
          rw [← h3] at h4
          exact bl_total _ _ h4 (hno j (by omega))
        · rw [if_neg (by omega), if_neg h3, if_neg (by omega), if_neg (by omega), Nat.add_sub_cancel]
          have := f2 (j - 1) (by omega)
          rwa [show j - 1 + 1 = j from by omega] at this

/-- What WithSort answers. -/
noncomputable def wsF (f : List (ByteArray × Int)) (c : ByteArray) (n : Int) : Option (List (ByteArray × Int)) :=
  if fontB f && (tySortF c n && (decide (findI f c 0 < 0) && decide (f.length ≠ 32))) then some (putIn f c n) else none
theorem ws_no {f : List (ByteArray × Int)} {c : ByteArray} {n : Int} (h : fontB f = false ∨ tySortF c n = false ∨ ¬ findI f c 0 < 0 ∨ f.length = 32) : wsF f c n = none := by
  unfold wsF
  rw [if_neg]
  simp only [Bool.and_eq_true, decide_eq_true_eq, not_and]
  intro h1 h2 h3 h4
  rcases h with h | h | h | h
  · rw [h] at h1; cases h1
  · rw [h] at h2; cases h2
  · exact h h3
  · exact h4 h
theorem ws_yes {f : List (ByteArray × Int)} {c : ByteArray} {n : Int} (h1 : fontB f = true) (h2 : tySortF c n = true) (h3 : findI f c 0 < 0) (h4 : f.length ≠ 32) : wsF f c n = some (putIn f c n) := by
  unfold wsF
  rw [h1, h2, if_pos (by simp [h3, h4])]
end Go.Proofs.YtiihhilhiknckaaGreatDoor

/-
  The contracts of strings.Compare, of the closure of impl.placeOfCode, of the instance of slices.BinarySearchFunc and of impl.placeOfCode: the place of a Code in a font.
-/
import Derived.Test.YtpbkeagpipipmaaBest
import Derived.Lib.Bytealg
namespace Go.Proofs.Ytpbkeagpipipmaa.S1
open Go.RowKit
set_option linter.unusedVariables false

theorem cmp_less : ∀ a b : List UInt8, (Lib.compareBytes a b < 0) ↔ Op.bytesLess a b = true
  | [], [] => by simp [Lib.compareBytes, Op.bytesLess]
  | [], _ :: _ => by simp [Lib.compareBytes, Op.bytesLess]
  | _ :: _, [] => by simp [Lib.compareBytes, Op.bytesLess]
  | a :: x, b :: y => by
    simp only [Lib.compareBytes, Op.bytesLess, Bool.or_eq_true, Bool.and_eq_true, decide_eq_true_eq, beq_iff_eq]
    by_cases h1 : a < b
    · simp [h1]
    · by_cases h2 : b < a
      · simp only [h1, h2, if_false, if_true]
        constructor
        · intro h; omega
        · rintro (h | ⟨rfl, _⟩)
          · exact absurd h (by simp)
          · exact absurd h2 h1
      · have e : a = b := UInt8.le_antisymm (UInt8.not_lt.1 h2) (UInt8.not_lt.1 h1)
        subst e
        simp only [h1, if_false]
        rw [cmp_less x y]
        simp
theorem cmp_zero : ∀ a b : List UInt8, (Lib.compareBytes a b = 0) ↔ a = b
  | [], [] => by simp [Lib.compareBytes]
  | [], _ :: _ => by simp [Lib.compareBytes]
  | _ :: _, [] => by simp [Lib.compareBytes]
  | a :: x, b :: y => by
    simp only [Lib.compareBytes]
    by_cases h1 : a < b
    · have : a ≠ b := by rintro rfl; exact absurd h1 (UInt8.lt_irrefl a)
      simp [h1, this]
    · by_cases h2 : b < a
      · have : a ≠ b := by rintro rfl; exact absurd h2 (UInt8.lt_irrefl a)
        simp [h1, h2, this]
      · have e : a = b := UInt8.le_antisymm (UInt8.not_lt.1 h2) (UInt8.not_lt.1 h1)
        subst e
        simp only [h1, if_false]
        rw [cmp_zero x y]
        simp

def cmpF (a b : ByteArray) : Int := Lib.compareBytes a.data.toList b.data.toList

def codeB0 (f : List (ByteArray × Int)) (i : Nat) : ByteArray := (f.getD i (.empty, 0)).1
theorem codeB0_of {f : List (ByteArray × Int)} {i : Nat} (h : i < f.length) : codeB0 f i = f[i].1 := by
  unfold codeB0; rw [List.getD_eq_getElem?_getD, List.getElem?_eq_getElem h]; rfl
theorem codeB0_list (f : List (ByteArray × Int)) (i : Nat) : (codeB0 f i).data.toList = codeAt f i := rfl
theorem cmp_mono {f : List (ByteArray × Int)} (hF : Font f) {s : ByteArray} {m k : Nat} (hm : m ≤ k) (hk : k < f.length) (h : cmpF (codeB0 f k) s < 0) : cmpF (codeB0 f m) s < 0 := by
  unfold cmpF at *
  rw [cmp_less, codeB0_list] at *
  rcases Nat.lt_or_ge m k with h1 | h1
  · exact bl_trans _ _ _ (hF.less h1 hk) h
  · obtain rfl : m = k := by omega
    exact h
theorem cmp_zero' {a b : ByteArray} : cmpF a b = 0 ↔ a = b := by
  unfold cmpF
  rw [cmp_zero]
  exact ⟨fun h => ByteArray.ext (Array.ext' h), fun h => by rw [h]⟩
/-- i is the place of a Code: those before it are less, the others are not. -/
def IsPlace (f : List (ByteArray × Int)) (c : ByteArray) (i : Nat) : Prop := i ≤ f.length ∧ (∀ m, m < i → cmpF (codeB0 f m) c < 0) ∧ ∀ m, i ≤ m → m < f.length → ¬ cmpF (codeB0 f m) c < 0

/-- The answer of a search: the place of a Code, and whether it is there. -/
def FoundAt (f : List (ByteArray × Int)) (s : ByteArray) (w w' : World) (e : Ending) : Prop := ∃ i, IsPlace f s i ∧ e = .returned (.tuple #[.int .i64 (i : Int), .bool (decide (i < f.length ∧ codeB0 f i = s))]) ∧ Below w.heap.size w w'

/-- The place of a Code is where the first sort with it is found. -/
theorem place_find {f : List (ByteArray × Int)} (hF : Font f) {s : ByteArray} {i : Nat} (h : IsPlace f s i) : findI f s 0 = if i < f.length ∧ codeB0 f i = s then (i : Int) else -1 := by
  obtain ⟨h1, h2, h3⟩ := h
  rcases findI_cases f s with ⟨e, hn⟩ | ⟨k, hk, hc, e⟩
  · rw [e, if_neg]
    rintro ⟨hi, he⟩
    exact hn i hi (by rw [← codeB0_list, he])
  · have hz : cmpF (codeB0 f k) s = 0 := by unfold cmpF; rw [cmp_zero, codeB0_list, hc]
    have hki : i = k := by
      rcases Nat.lt_trichotomy i k with h4 | h4 | h4
      · exfalso
        have hl := hF.less h4 hk
        have : cmpF (codeB0 f i) s < 0 := by unfold cmpF; rw [cmp_less, codeB0_list, ← hc]; exact hl
        exact h3 i (Nat.le_refl _) (by omega) this
      · exact h4
      · have := h2 k h4; omega
    subst hki
    rw [e, if_pos ⟨hk, cmp_zero'.1 hz⟩]
end Go.Proofs.Ytpbkeagpipipmaa.S1

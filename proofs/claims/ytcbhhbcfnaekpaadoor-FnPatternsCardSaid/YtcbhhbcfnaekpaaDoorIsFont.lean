/-
  The contracts of spec.tyFont, spec.IsFont and impl.IsFont: each answers whether the list is a font, and changes nothing that was there.
-/
import Derived.Test.YtcbhhbcfnaekpaaDoorTo
import Derived.Test.YtcbhhbcfnaekpaaDoorKept
namespace Go.Proofs.YtcbhhbcfnaekpaaDoor
open Go.RowKit
set_option linter.unusedVariables false

def okAt (f : List (ByteArray × Int)) (k : Nat) (h : k < f.length) : Bool := tySortF f[k].1 f[k].2 && (k == 0 || Op.bytesLess (f[k-1]'(by omega)).1.toList f[k].1.toList)
def okTo (f : List (ByteArray × Int)) (k : Nat) : Prop := ∀ j (h : j < f.length), j < k → okAt f j h = true
/-- A list of sorts is a font. -/
def Font (f : List (ByteArray × Int)) : Prop := (∀ j (h : j < f.length), okAt f j h = true) ∧ 1 ≤ f.length ∧ f.length ≤ 32
noncomputable def fontB (f : List (ByteArray × Int)) : Bool := @decide (Font f) (Classical.propDecidable _)
theorem fontB_iff {f : List (ByteArray × Int)} : fontB f = true ↔ Font f := by unfold fontB; simp
theorem fontB_no {f : List (ByteArray × Int)} {k : Nat} (h : k < f.length) (hk : okAt f k h = false) : fontB f = false := by
  rw [← Bool.not_eq_true, fontB_iff]
  intro hf
  rw [hf.1 k h] at hk; cases hk
theorem okTo_step {f : List (ByteArray × Int)} {k : Nat} (hs : okTo f k) (h : k < f.length) (hk : okAt f k h = true) : okTo f (k + 1) := by
  intro j hj hjk
  rcases Nat.lt_or_ge j k with h1 | h1
  · exact hs j hj h1
  · obtain rfl : j = k := by omega
    exact hk
theorem fontB_end {f : List (ByteArray × Int)} (hs : okTo f f.length) : fontB f = (decide ((1 : Int) ≤ f.length) && decide ((f.length : Int) ≤ 32)) := by
  rw [Bool.eq_iff_iff, fontB_iff]
  simp only [Bool.and_eq_true, decide_eq_true_eq]
  exact ⟨fun h => by have := h.2; omega, fun h => ⟨fun j hj => hs j hj hj, by omega, by omega⟩⟩
theorem fontB_len {f : List (ByteArray × Int)} (h : f.length < 1 ∨ 32 < f.length) : fontB f = false := by
  rw [← Bool.not_eq_true, fontB_iff]
  intro hf; have := hf.2; omega

end Go.Proofs.YtcbhhbcfnaekpaaDoor

/-
  The text of a font: the contract of spec.tyText (stage 3's family of texts).
-/
import Derived.Test.YtllafkeheppkjaaDoorBtx
namespace Go.Proofs.YtllafkeheppkjaaDoor.P
open Go.RowKit
set_option linter.unusedVariables false

def ftK (f : List (ByteArray × Int)) : Nat → List UInt8
  | 0 => []
  | k + 1 => ftK f k ++ ((f.getD k (⟨#[]⟩, 0)).1.data.toList ++ numL (f.getD k (⟨#[]⟩, 0)).2 ++ [59])
noncomputable def ftextB (f : List (ByteArray × Int)) : ByteArray := if fontB f then baOf (ftK f f.length) else baOf []
theorem ft_no {f : List (ByteArray × Int)} (h : fontB f = false) : ftextB f = baOf [] := by unfold ftextB; rw [h]; rfl
theorem ft_yes {f : List (ByteArray × Int)} (h : fontB f = true) : ftextB f = baOf (ftK f f.length) := by unfold ftextB; rw [h]; rfl
theorem sort_bounds {c : ByteArray} {n : Int} (h : tySortF c n = true) : c.size ≤ 3 ∧ 1 ≤ n ∧ n ≤ 54 := by
  unfold tySortF tyLettersF at h
  simp only [Bool.and_eq_true, decide_eq_true_eq] at h
  have e : c.data.toList.length = c.size := Array.length_toList
  omega
theorem font_at {f : List (ByteArray × Int)} (h : fontB f = true) {k : Nat} (hk : k < f.length) : f[k].1.size ≤ 3 ∧ 1 ≤ f[k].2 ∧ f[k].2 ≤ 54 := by
  have := (fontB_iff.1 h).1 k hk
  unfold okAt at this
  simp only [Bool.and_eq_true] at this
  exact sort_bounds this.1
theorem ftK_step {f : List (ByteArray × Int)} {k : Nat} (h : k < f.length) : ftK f (k + 1) = ftK f k ++ (f[k].1.data.toList ++ numL f[k].2 ++ [59]) := by
  show ftK f k ++ _ = _
  simp [List.getD, h]
theorem ftK_len {f : List (ByteArray × Int)} (h : fontB f = true) : ∀ k, k ≤ f.length → (ftK f k).length ≤ k * 100010
  | 0, _ => by simp [ftK]
  | k + 1, hk => by
    have ih := ftK_len h k (by omega)
    obtain ⟨h1, h2, h3⟩ := font_at h (k := k) (by omega)
    have hn := numL_len (z := f[k].2) (by omega)
    have e : f[k].1.data.toList.length = f[k].1.size := Array.length_toList
    rw [ftK_step (by omega), List.length_append, List.length_append, List.length_append, e]
    simp only [List.length_cons, List.length_nil]
    omega
theorem ba_step {f : List (ByteArray × Int)} {k : Nat} (h : k < f.length) : baOf (ftK f (k + 1)) = baOf (ftK f k) ++ (f[k].1 ++ baOf (numL f[k].2) ++ ⟨#[59]⟩) := by
  rw [ftK_step h, ← baOf_app, ← baOf_app, ← baOf_app, ba_data]; rfl
end Go.Proofs.YtllafkeheppkjaaDoor.P

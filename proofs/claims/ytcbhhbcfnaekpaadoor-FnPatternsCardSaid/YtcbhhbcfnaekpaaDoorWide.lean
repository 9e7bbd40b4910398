/-
  The contracts of spec.tyWide, spec.tyWidth, spec.WidthOfWord and impl.WidthOfWord: the sum of the widths of the sorts with which a word is set.
-/
import Derived.Test.YtcbhhbcfnaekpaaDoorLaw
namespace Go.Proofs.YtcbhhbcfnaekpaaDoor
open Go.RowKit
set_option linter.unusedVariables false

def widthAt (f : List (ByteArray × Int)) (i : Nat) : Int := (f.getD i (.empty, 0)).2
theorem widthAt_of {f : List (ByteArray × Int)} {i : Nat} (h : i < f.length) : widthAt f i = f[i].2 := by
  unfold widthAt; rw [List.getD_eq_getElem?_getD, List.getElem?_eq_getElem h]; rfl
def wideF (f : List (ByteArray × Int)) : List Nat → Int
  | [] => 0
  | i :: r => widthAt f i + wideF f r
theorem wideF_append (f : List (ByteArray × Int)) (a b : List Nat) : wideF f (a ++ b) = wideF f a + wideF f b := by
  induction a with
  | nil => simp [wideF]
  | cons x a ih => simp only [List.cons_append, wideF, ih]; omega
theorem wideF_snoc (f : List (ByteArray × Int)) (l : List Nat) (k : Nat) (h : k < l.length) : wideF f (l.take (k + 1)) = wideF f (l.take k) + widthAt f l[k] := by
  rw [List.take_succ_eq_append_getElem h, wideF_append]; simp [wideF]
theorem wideF_bound {f : List (ByteArray × Int)} (hf : Font f) : ∀ (l : List Nat), (∀ i ∈ l, i < f.length) → 0 ≤ wideF f l ∧ wideF f l ≤ 54 * (l.length : Int)
  | [], _ => ⟨Int.le_refl _, by simp [wideF]⟩
  | i :: r, h => by
    have h1 := h i (by simp)
    have h2 := hf.width h1
    have h3 := wideF_bound hf r fun j hj => h j (by simp [hj])
    simp only [wideF, widthAt_of h1, List.length_cons]
    omega
theorem setF_mem {f : List (ByteArray × Int)} {s : ByteArray} : ∀ {n p : Nat} {l : List Nat}, setF f s n p = some l → ∀ i ∈ l, i < f.length
  | 0, p, l, h => by
    simp only [setF] at h
    split at h
    · simp at h; subst h; simp
    · cases h
  | n + 1, p, l, h => by
    simp only [setF] at h
    split at h
    · simp at h; subst h; simp
    · split at h
      · cases h
      · rename_i i hi
        cases hr : setF f s n (p + (codeAt f i).length) with
        | none => rw [hr] at h; cases h
        | some m =>
          rw [hr] at h
          simp at h
          subst h
          intro j hj
          rcases List.mem_cons.1 hj with rfl | hj
          · exact (lastPre_some hi).1
          · exact setF_mem hr j hj
theorem intL_get (l : List Nat) (k : Nat) (h : k < (intL l).length) : (intL l)[k] = ((l[k]'(by rw [intL_len] at h; exact h) : Nat) : Int) := by simp [intL]

theorem setW_mem {f : List (ByteArray × Int)} {s : ByteArray} : ∀ i ∈ (setW f s).getD [], i < f.length := by
  cases h : setW f s with
  | none => simp
  | some l => exact setF_mem h
theorem setW_len {f : List (ByteArray × Int)} {s : ByteArray} (hs : s.size ≤ 16) : ((setW f s).getD []).length ≤ 16 := by
  cases h : setW f s with
  | none => simp
  | some l => have := setF_len h; simp; omega

theorem sow_of_font {f : List (ByteArray × Int)} {s : ByteArray} (h : (fontB f && isWordF s) = true) : sowF f s = setW f s := by unfold sowF; rw [h]; rfl
theorem sow_of_no {f : List (ByteArray × Int)} {s : ByteArray} (h : (fontB f && isWordF s) = false) : sowF f s = none := by unfold sowF; rw [h]; rfl

theorem sowF_mem {f : List (ByteArray × Int)} {s : ByteArray} : ∀ i ∈ (sowF f s).getD [], i < f.length := by
  unfold sowF; split
  · exact setW_mem
  · simp
theorem sowF_font {f : List (ByteArray × Int)} {s : ByteArray} (h : (sowF f s).isSome = true) : Font f := by
  unfold sowF at h
  split at h
  · rename_i hv
    simp only [Bool.and_eq_true] at hv
    exact fontB_iff.1 hv.1
  · cases h

end Go.Proofs.YtcbhhbcfnaekpaaDoor

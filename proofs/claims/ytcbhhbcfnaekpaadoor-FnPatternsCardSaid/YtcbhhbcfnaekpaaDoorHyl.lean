/-
  What the exact laws of this chapter want beside the contracts: the sizes of texts that a law lets by.
-/
import Derived.Test.YtcbhhbcfnaekpaaDoorHye
import Derived.Test.YtcbhhbcfnaekpaaDoorTos
import Derived.Test.YtcbhhbcfnaekpaaDoorOpenI
namespace Go.Proofs.YtcbhhbcfnaekpaaDoor
open Go.RowKit
set_option linter.unusedVariables false

theorem szT_le : ∀ (f : List ByteArray) (l : Int), 0 ≤ szT f l → szT f l ≤ l ∧ ∀ x ∈ f, (x.size : Int) ≤ l
  | [], l, h => ⟨Int.le_refl _, fun x hx => by simp at hx⟩
  | x :: r, l, h => by
    unfold szT at h ⊢
    split at h
    · omega
    · rename_i hx
      obtain ⟨h1, h2⟩ := szT_le r _ h
      rw [if_neg hx]
      refine ⟨by omega, fun y hy => ?_⟩
      rcases List.mem_cons.1 hy with rfl | hy
      · omega
      · have := h2 y hy; omega
theorem szT_range : ∀ (f : List ByteArray) (l : Int), 0 ≤ l → szT f l ≤ l
  | [], l, h => Int.le_refl _
  | x :: r, l, h => by
    unfold szT
    split
    · omega
    · have := szT_range r (l - x.size) (by omega); omega
theorem szStrs_range (f : List ByteArray) (l : Int) (h : 0 ≤ l) : szStringSF f l ≤ l := by
  unfold szStringSF
  split
  · omega
  · have := szT_range f (l - f.length) (by omega); omega
theorem szStrs_le (f : List ByteArray) (l : Int) (h2 : l ≤ 1048576) (h0 : 0 ≤ l) (h : 0 ≤ szStringSF f l) : StrsLe f := by
  unfold szStringSF at h
  split at h
  · omega
  · intro k hk
    have := (szT_le f _ h).2 f[k] (List.getElem_mem hk)
    omega
end Go.Proofs.YtcbhhbcfnaekpaaDoor

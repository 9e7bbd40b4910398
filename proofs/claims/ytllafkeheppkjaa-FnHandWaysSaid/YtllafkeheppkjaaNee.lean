/-
  The contracts of spec.biNeed, spec.biCopy, spec.biAsked, spec.CountSorts: each answers what the plain words here say and changes nothing that was there.
-/
import Derived.Test.YtllafkeheppkjaaChk
namespace Go.Proofs.Ytllafkeheppkjaa
open Go.RowKit
set_option linter.unusedVariables false

/-- The need, where all words can be set. -/
def canR (f : List (ByteArray × Int)) (ws : List ByteArray) : Option (List Int) := if canB f ws then some (needF f ws) else none
theorem canR_no {f : List (ByteArray × Int)} {ws : List ByteArray} (h : canB f ws = false) : canR f ws = none := by unfold canR; rw [h]; rfl
theorem canR_yes {f : List (ByteArray × Int)} {ws : List ByteArray} (h : canB f ws = true) : canR f ws = some (needF f ws) := by unfold canR; rw [h]; rfl
/-- The row g counts a list of sorts, and nothing else has turned. -/
def CntAt (w : World) (g : Nat) (n : Nat) (L : List Nat) (wr : World) : Prop := Own wr g 3 (intsZ (cntL n L)) ∧ Below w.heap.size w wr
theorem CntAt.step {w wr : World} {g n i : Nat} {L : List Nat} (h : CntAt w g n L wr) (hg : w.heap.size ≤ g) (hi : i < n) : CntAt w g n (L ++ [i]) (wr.setCell ⟨g, i, none⟩ (.int .i64 (((L.count i : Nat) : Int) + 1))) :=
  ⟨by rw [← cntL_snoc L hi]; exact h.1.set i _, h.2.setCell hg _⟩
theorem CntAt.next {w wr w' : World} {g n : Nat} {L : List Nat} (h : CntAt w g n L wr) (hb : Below wr.heap.size wr w') : CntAt w g n L w' := ⟨h.1.next hb, h.2.trans (hb.mono h.2.size)⟩

theorem copyB_no {f : List (ByteArray × Int)} {ws : List ByteArray} (h : fontB f = false ∨ wordsB ws = false ∨ canB f ws = false) : copyB f ws = false := by
  unfold copyB
  rcases h with h | h | h <;> simp [h]
theorem copyB_yes {f : List (ByteArray × Int)} {ws : List ByteArray} (h1 : fontB f = true) (h2 : wordsB ws = true) : copyB f ws = canB f ws := by
  unfold copyB; simp [h1, h2]
theorem needR_can {f : List (ByteArray × Int)} {ws : List ByteArray} (h : copyB f ws = true) : needR f ws = canR f ws := by
  rw [need_yes h, canR_yes (copy_parts h).2.2]

end Go.Proofs.Ytllafkeheppkjaa

/-
  strings.Cut at a byte, in the words of the pieces: the first piece and the rest's pieces, or no such byte. (For ParseFont.)
-/
import Derived.Test.YtljakcfdjcjdbaaDoorSpl
import Derived.Test.YtljakcfdjcjdbaaDoorSha
import Derived.Lib.CutLaws
namespace Go.Proofs.YtljakcfdjcjdbaaDoor
open Go.RowKit
set_option linter.unusedVariables false

/-- The variable that the library's searching reads holds a number. -/
def MaxL (w : World) : Prop := ∃ m, w.cell? ⟨1, 0, none⟩ = some (.int .i64 m)
theorem MaxL.below {w w' : World} (h : MaxL w) (hb : Below w.heap.size w w') : MaxL w' := by
  obtain ⟨m, hm⟩ := h
  refine ⟨m, (hb.cell (p := ⟨1, 0, none⟩) ?_).trans hm⟩
  show (1 : Nat) < w.heap.size
  rcases Nat.lt_or_ge 1 w.heap.size with h' | h'
  · exact h'
  · simp only [World.cell?, Array.getElem?_eq_none h'] at hm; cases hm
def CutTo (c : UInt8) (s : ByteArray) (e : Ending) : Prop :=
  (pcs c s = [s] ∧ e = .returned (.tuple #[.string s, .string ⟨#[]⟩, .bool false])) ∨
  ∃ p r, pcs c s = p :: pcs c r ∧ p.size + r.size < s.size ∧ e = .returned (.tuple #[.string p, .string r, .bool true])
theorem below_drewN (w : World) : ∀ n, Below w.heap.size w (w.drewN n)
  | n => ⟨rfl, rfl, rfl, Nat.le_refl _, fun _ _ => rfl⟩
theorem pcs_hit {c : UInt8} {s : ByteArray} {i : Nat} (h : Lib.indexB s (sepB c) = i) (hr : i + 1 ≤ s.size) : pcs c s = s.extract 0 i :: pcs c (s.extract (i + 1) s.size) := by
  obtain ⟨n, hn⟩ : ∃ n, s.size = n + 1 := ⟨s.size - 1, by omega⟩
  have e : pcs c s = Lib.splitB (sepB c) 0 (n + 1) s := by unfold pcs; rw [hn]
  rw [e, Lib.splitB_hit _ _ _ _ i h, sep_size]
  congr 1
  exact cut_many c _ _ _ (by rw [ByteArray.size_extract]; omega) (Nat.le_refl _)
theorem cut_any (c : UInt8) (s : ByteArray) (w : World) (hs : s.size ≤ 1048576) (hm : MaxL w) :
    Calls Tryd.prog 33 #[.string s, .string (sepB c)] w fun e w' => CutTo c s e ∧ Below w.heap.size w w' := by
  obtain ⟨m, hm⟩ := hm
  refine (Tryd.strings_Cut s (sepB c) m w (by omega) hm).mono ?_
  rintro e w' ⟨rfl, n, rfl⟩
  refine ⟨?_, below_drewN _ _⟩
  rcases Lib.indexB_cases s (sepB c) with h | ⟨i, h, hr⟩
  · left
    obtain ⟨h1, h2, h3⟩ := Lib.cutB_miss s (sepB c) h
    refine ⟨Lib.splitB_miss _ _ _ _ h, ?_⟩
    rw [h1, h2, h3]; rfl
  · right
    obtain ⟨h1, h2, h3⟩ := Lib.cutB_hit s (sepB c) i h
    rw [sep_size] at hr h2
    refine ⟨_, _, pcs_hit h hr, ?_, by rw [h1, h2, h3]⟩
    rw [ByteArray.size_extract, ByteArray.size_extract]; omega
end Go.Proofs.YtljakcfdjcjdbaaDoor

/-
  Slices of strings as the arguments of a law: laws.szStringS, laws.toStringS; spec.tyWords and impl.areWords on them.
-/
import Derived.Test.YtllafkeheppkjaaDoorStr
import Derived.Test.YtllafkeheppkjaaDoorFind
namespace Go.Proofs.YtllafkeheppkjaaDoor
open Go.RowKit
set_option linter.unusedVariables false

/-- Every text of the slice is of a size that a string may have. -/
def StrsOk (l : List ByteArray) : Prop := ∀ k (h : k < l.length), l[k].size ≤ maxLen
def szT : List ByteArray → Int → Int
  | [], l => l
  | x :: r, l => if l < x.size then -1 else szT r (l - x.size)
def szStringSF (f : List ByteArray) (l : Int) : Int := if l < f.length then -1 else szT f (l - f.length)
theorem szT_drop (f : List ByteArray) (k : Nat) (h : k < f.length) (l : Int) : szT (f.drop k) l = if l < f[k].size then -1 else szT (f.drop (k + 1)) (l - f[k].size) := by
  rw [List.drop_eq_getElem_cons h]; rfl

theorem szStrs_len (f : List ByteArray) (l : Int) (h2 : l ≤ 1048576) (h : 0 ≤ szStringSF f l) : f.length ≤ 1048576 := by
  unfold szStringSF at h
  split at h <;> omega

theorem infoStr : (Tryd.prog.info? 9).map (fun i => (i.zero, i.size, i.bytes)) = some (some (.string .empty), 1, 16) := by kernel_rfl
theorem run_makeStr (n : Nat) (hn : n ≤ 1048576) (w : World) :
    (Instr.makeSlice 31 (.int .i64 (n : Int)) (.int .i64 (n : Int))).run Tryd.prog w = .ok (.slice (some ⟨w.heap.size, 0, none⟩) n n) (w.alloc (.cells (madeCells #[.string .empty] (n * 1)) 9)) := by
  obtain ⟨i0, hi, hz0, hz1, hz2⟩ := info_parts infoStr
  have h := run_make (P := Tryd.prog) w 31 9 i0 _ Tryd.underlying31 hi hz0 .i64 .i64 (n : Int) (n : Int) (by omega) (Int.le_refl _) (by rw [hz2]; omega) (by omega)
  rw [hz1, Int.toNat_natCast] at h
  exact h
theorem strs_of_marked {w : World} {b : Nat} {e : TypeId} {l : List ByteArray} (h : Marked w b e l.length (strs l)) : StrsIn w (some ⟨b, 0, none⟩) l := by
  intro hn
  obtain ⟨cur, h1, h2, h3⟩ := h
  refine ⟨b, 0, rfl, lt_of_heap h1, fun k hk => ?_⟩
  rw [cell_of_heap h1]
  have e : cur.toList = strs l := by
    rw [List.take_of_length_le (by simp [strs, h2])] at h3
    exact h3
  rw [← Array.getElem?_toList, e]
  simp [strs, hk]

/-- The texts are a list of words. -/
def wordsB (l : List ByteArray) : Bool := decide ((l.length : Int) ≤ 40) && l.all isWordF
theorem words_step {l : List ByteArray} {k : Nat} (h : k < l.length) (hs : (l.take k).all isWordF = true) (hk : isWordF l[k] = true) : (l.take (k + 1)).all isWordF = true := by
  rw [List.take_succ_eq_append_getElem h, List.all_append, hs, Bool.true_and, List.all_cons, hk]; rfl
theorem words_no {l : List ByteArray} {k : Nat} (h : k < l.length) (hk : isWordF l[k] = false) : wordsB l = false := by
  unfold wordsB
  rw [Bool.and_eq_false_iff]
  refine .inr ?_
  rw [List.all_eq_false]
  exact ⟨l[k], List.getElem_mem h, by simp [hk]⟩

end Go.Proofs.YtllafkeheppkjaaDoor

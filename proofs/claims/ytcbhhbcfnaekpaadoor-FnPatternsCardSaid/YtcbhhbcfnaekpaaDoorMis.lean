/-
  What MissingLetters answers, told plainly; the contract of spec.MissingLetters.
-/
import Derived.Test.YtcbhhbcfnaekpaaDoorWds
import Derived.Test.YtcbhhbcfnaekpaaDoorMark
namespace Go.Proofs.YtcbhhbcfnaekpaaDoor
open Go.RowKit
set_option linter.unusedVariables false

/-- The letter k of the alphabet, counted from 0 on. -/
def letB (k : Nat) : UInt8 := UInt8.ofNat (97 + k)
theorem letB_nat {k : Nat} (h : k < 26) : (letB k).toNat = 97 + k := by unfold letB; simp; omega
theorem letB_int {k : Nat} (h : k < 26) : ((letB k).toNat : Int) = 97 + (k : Int) := by rw [letB_nat h]; omega
def oneB (k : Nat) : ByteArray := ⟨[letB k].toArray⟩
def metW (s : ByteArray) (c : UInt8) : Bool := s.data.toList.any (· == c)
def metIn (ws : List ByteArray) (c : UInt8) : Bool := ws.any (metW · c)
def isMiss (f : List (ByteArray × Int)) (ws : List ByteArray) (k : Nat) : Bool := metIn ws (letB k) && decide (findI f (oneB k) 0 < 0)
/-- The letters before letter n that are met in a word and have no sort. -/
def missL (f : List (ByteArray × Int)) (ws : List ByteArray) (n : Nat) : List UInt8 := ((List.range n).filter (isMiss f ws)).map letB
theorem missL_len (f : List (ByteArray × Int)) (ws : List ByteArray) (n : Nat) : (missL f ws n).length ≤ n := by
  unfold missL
  rw [List.length_map]
  exact Nat.le_trans (List.length_filter_le _ _) (by simp)
theorem missL_yes {f : List (ByteArray × Int)} {ws : List ByteArray} {n : Nat} (h : isMiss f ws n = true) : missL f ws (n + 1) = missL f ws n ++ [letB n] := by
  unfold missL; rw [List.range_succ, List.filter_append]; simp [h]
theorem missL_no {f : List (ByteArray × Int)} {ws : List ByteArray} {n : Nat} (h : isMiss f ws n = false) : missL f ws (n + 1) = missL f ws n := by
  unfold missL; rw [List.range_succ, List.filter_append]; simp [h]
/-- What MissingLetters answers. -/
noncomputable def missV (f : List (ByteArray × Int)) (ws : List ByteArray) : ByteArray × Bool := if fontB f && wordsB ws then (⟨(missL f ws 26).toArray⟩, true) else (.empty, false)
def MissTo (e : Ending) (p : ByteArray × Bool) : Prop := e = .returned (.tuple #[.string p.1, .bool p.2])
theorem missV_no {f : List (ByteArray × Int)} {ws : List ByteArray} (h : fontB f = false ∨ wordsB ws = false) : missV f ws = (.empty, false) := by
  unfold missV
  rcases h with h | h <;> simp [h]
theorem missV_yes {f : List (ByteArray × Int)} {ws : List ByteArray} (h1 : fontB f = true) (h2 : wordsB ws = true) : missV f ws = (⟨(missL f ws 26).toArray⟩, true) := by
  unfold missV; simp [h1, h2]
theorem MissTo.no {e : Ending} {p : ByteArray × Bool} (h : p = (.empty, false)) (he : e = .returned (.tuple #[.string .empty, .bool false])) : MissTo e p := by subst h; exact he

theorem cut_one {s : ByteArray} {i : Nat} (h : i < s.size) (c : UInt8) : ((s.extract i (i + 1)).toList == (⟨[c].toArray⟩ : ByteArray).toList) = (s[i] == c) := by
  have e : s.extract i (i + 1) = ⟨[s[i]].toArray⟩ := by
    apply ByteArray.ext
    apply Array.ext'
    simp [ByteArray.data_extract]
    rw [List.drop_eq_getElem_cons (by simpa using h)]
    simp
    rfl
  rw [e]
  by_cases hc : s[i] = c
  · rw [hc]; simp
  · rw [beq_eq_false_iff_ne.2 hc]
    apply str_neb
    intro e
    apply hc
    have := congrArg ByteArray.data e
    simpa using this
theorem any_snoc {s : ByteArray} {i : Nat} (h : i < s.size) (c : UInt8) : (s.data.toList.take (i + 1)).any (· == c) = ((s.data.toList.take i).any (· == c) || (s[i] == c)) := by
  rw [take_snoc s i h, List.any_append]; simp
theorem metIn_snoc {ws : List ByteArray} {j : Nat} (h : j < ws.length) (c : UInt8) : metIn (ws.take (j + 1)) c = (metIn (ws.take j) c || metW ws[j] c) := by
  unfold metIn; rw [List.take_succ_eq_append_getElem h, List.any_append]; simp

theorem one_list (c : UInt8) : (⟨[c].toArray⟩ : ByteArray).toList = [c] := by simp [ByteArray.toList_eq]
theorem bytes_snoc (a : List UInt8) (c : UInt8) : (⟨a.toArray⟩ : ByteArray) ++ ⟨[c].toArray⟩ = ⟨(a ++ [c]).toArray⟩ := by
  apply ByteArray.ext
  apply Array.ext'
  simp
end Go.Proofs.YtcbhhbcfnaekpaaDoor

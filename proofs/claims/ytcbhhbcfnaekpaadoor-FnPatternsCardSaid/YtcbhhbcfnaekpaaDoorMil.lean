/-
  The contract of impl.MissingLetters: it answers what missV says and changes nothing that was there.
-/
import Derived.Test.YtcbhhbcfnaekpaaDoorMis
import Derived.Test.YtcbhhbcfnaekpaaDoorLig
import Derived.Lib.OthersKept
import Derived.Laws.Rows
import Derived.Lib.BufferRead
namespace Go.Proofs.YtcbhhbcfnaekpaaDoor
open Go.RowKit
set_option linter.unusedVariables false

/-- The array of the 26 marks. -/
def row26 (m : Nat → Bool) : Array Value := ((List.range 26).map fun i => Value.bool (m i)).toArray
theorem row26_size (m : Nat → Bool) : (row26 m).size = 26 := by simp [row26]
theorem row26_get {m : Nat → Bool} {i : Nat} (h : i < 26) : (row26 m)[i]? = some (.bool (m i)) := by simp [row26, h]
theorem set_other {w : World} {g k q : Nat} (h : k ≠ g) (v : Value) : (w.setCell ⟨g, q, none⟩ v).heap[k]? = w.heap[k]? := Below.heap_setCell _ _ _ _ h
theorem run_part26 (m : Nat → Bool) (i : Nat) (h : i < 26) (w : World) : (part 4 (row26 m) i).run Tryd.prog w = .ok (.bool (m i)) w := by
  have hg := row26_get (m := m) h
  simp [part, Sem.run_bind, hg]
theorem run_index_str (s : ByteArray) (n : Int) (h : 0 < s.size) (hn : ((s[0]).toNat : Int) = n) (w : World) : (Instr.index 9 (.string s) (.int .i64 0)).run Tryd.prog w = .ok (.int .u8 n) w := by
  rw [run_index_string w 9 s .i64 0 Tryd.underlying9, dif_pos ⟨by omega, by omega⟩, ← hn]
  rfl

theorem lets_at {s : ByteArray} {i : Nat} (hs : lets s.data.toList = true) (h : i < s.size) : ∃ q, q < 26 ∧ s[i] = letB q := by
  have hm : isLet s[i] = true := by
    unfold lets at hs
    rw [List.all_eq_true] at hs
    exact hs _ (List.getElem_mem (l := s.data.toList) (by simpa using h))
  rw [isLet_int] at hm
  simp at hm
  refine ⟨s[i].toNat - 97, by omega, ?_⟩
  apply UInt8.toNat_inj.1
  rw [letB_nat (by omega)]; omega
theorem lets_word {s : ByteArray} (h : isWordF s = true) : lets s.data.toList = true := by
  unfold isWordF tyLettersF at h; simp at h; exact h.1
theorem lets_code {f : List (ByteArray × Int)} {k : Nat} (hF : Font f) (h : k < f.length) : lets f[k].1.data.toList = true := by
  have := hF.1 k h
  unfold okAt tySortF tyLettersF at this; simp at this; exact this.1.1.1
theorem letB_inj {i q : Nat} (hi : i < 26) (hq : q < 26) : (letB q == letB i) = decide (i = q) := by
  by_cases h : i = q
  · subst h; simp
  · rw [decide_eq_false h, beq_eq_false_iff_ne]
    intro e
    have := congrArg UInt8.toNat e
    rw [letB_nat hi, letB_nat hq] at this; omega
theorem oneB_size (i : Nat) : (oneB i).size = 1 := rfl
theorem oneB_of {s : ByteArray} {q : Nat} (h : s.size = 1) (hq : s[0] = letB q) : s = oneB q := by
  apply ByteArray.ext
  apply Array.ext'
  have hl : s.data.toList.length = 1 := by simpa using h
  match hd : s.data.toList, hl with
  | [a], _ =>
    have : s[0] = a := by
      have e : s[0] = s.data.toList[0]'(by rw [hd]; simp) := rfl
      rw [e]; simp [hd]
    rw [this] at hq; rw [hq]; rfl
theorem oneB_inj {i q : Nat} (hi : i < 26) (hq : q < 26) : (oneB q = oneB i) ↔ i = q := by
  constructor
  · intro e
    have h1 : letB q = letB i := by
      have := congrArg ByteArray.data e
      simpa [oneB] using this
    have := letB_inj hi hq
    rw [h1] at this; simpa using this
  · rintro rfl; rfl
/-- There is a sort with this Code among the sorts. -/
def hasC (f : List (ByteArray × Int)) (c : ByteArray) : Bool := f.any fun x => decide (x.1 = c)
theorem hasC_snoc {f : List (ByteArray × Int)} {k : Nat} (h : k < f.length) (c : ByteArray) : hasC (f.take (k + 1)) c = (hasC (f.take k) c || decide (f[k].1 = c)) := by
  unfold hasC; rw [List.take_succ_eq_append_getElem h, List.any_append]; simp
theorem findI_has : ∀ (f : List (ByteArray × Int)) (c : ByteArray) (n : Nat), decide (findI f c n < 0) = !hasC f c
  | [], c, n => rfl
  | x :: r, c, n => by
    unfold findI
    by_cases h : x.1 = c
    · rw [if_pos h]; unfold hasC; simp [h]
    · rw [if_neg h, findI_has r c (n + 1)]; unfold hasC; simp [h]
theorem infoU8 : (Tryd.prog.info? 5).map (fun i => (i.zero, i.size, i.bytes)) = some (some (.int .u8 0), 1, 1) := by kernel_rfl
theorem words_at {ws : List ByteArray} {j : Nat} (h : wordsB ws = true) (hj : j < ws.length) : isWordF ws[j] = true := by
  unfold wordsB at h; simp at h; exact h.2 _ (List.getElem_mem hj)

end Go.Proofs.YtcbhhbcfnaekpaaDoor

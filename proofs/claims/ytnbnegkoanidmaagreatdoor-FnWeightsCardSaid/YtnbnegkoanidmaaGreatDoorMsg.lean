import Derived.Test.YtnbnegkoanidmaaGreatDoorMse
import Derived.Test.YtnbnegkoanidmaaGreatDoorMsd
import Derived.Test.YtnbnegkoanidmaaGreatDoorMsf
import Derived.Lib.OthersKept
import Derived.Laws.Rows
import Derived.Lib.BufferRead
/-
  What MissingLetters answers, told plainly; the contract of spec.MissingLetters.
-/
namespace Go.Proofs.YtnbnegkoanidmaaGreatDoor.S1
open Go.RowKit
set_option linter.unusedVariables false

/-- The letter k of the alphabet, counted from 0 on. -/
def letB (k : Nat) : UInt8 := UInt8.ofNat (97 + k)
theorem letB_nat {k : Nat} (h : k < 26) : (letB k).toNat = 97 + k := by unfold letB; simp; omega
theorem letB_int {k : Nat} (h : k < 26) : ((letB k).toNat : Int) = 97 + (k : Int) := by rw [letB_nat h]; omega
def oneB (k : Nat) : ByteArray := ⟨[letB k].toArray⟩
def metW (s : ByteArray) (c : UInt8) : Bool := s.data.toList.any (· == c)
def metIn (ws : List ByteArray) (c : UInt8) : Bool := ws.any (metW · c)
def isMiss (f : List (ByteArray × Int)) (ws : List ByteArray) (k : Nat) : Bool := metIn ws (letB k) && decide (findI f (oneB k) 0 < 0)
/-- The letters before letter n that are met in a word and have no sort. -/
def missL (f : List (ByteArray × Int)) (ws : List ByteArray) (n : Nat) : List UInt8 := ((List.range n).filter (isMiss f ws)).map letB
theorem missL_len (f : List (ByteArray × Int)) (ws : List ByteArray) (n : Nat) : (missL f ws n).length ≤ n := by
  unfold missL
  rw [List.length_map]
  exact Nat.le_trans (List.length_filter_le _ _) (by simp)
theorem missL_yes {f : List (ByteArray × Int)} {ws : List ByteArray} {n : Nat} (h : isMiss f ws n = true) : missL f ws (n + 1) = missL f ws n ++ [letB n] := by
  unfold missL; rw [List.range_succ, List.filter_append]; simp [h]
theorem missL_no {f : List (ByteArray × Int)} {ws : List ByteArray} {n : Nat} (h : isMiss f ws n = false) : missL f ws (n + 1) = missL f ws n := by
  unfold missL; rw [List.range_succ, List.filter_append]; simp [h]
/-- What MissingLetters answers. -/
noncomputable def missV (f : List (ByteArray × Int)) (ws : List ByteArray) : ByteArray × Bool := if fontB f && wordsB ws then (⟨(missL f ws 26).toArray⟩, true) else (.empty, false)
def MissTo (e : Ending) (p : ByteArray × Bool) : Prop := e = .returned (.tuple #[.string p.1, .bool p.2])
theorem missV_no {f : List (ByteArray × Int)} {ws : List ByteArray} (h : fontB f = false ∨ wordsB ws = false) : missV f ws = (.empty, false) := by
  unfold missV
  rcases h with h | h <;> simp [h]
theorem missV_yes {f : List (ByteArray × Int)} {ws : List ByteArray} (h1 : fontB f = true) (h2 : wordsB ws = true) : missV f ws = (⟨(missL f ws 26).toArray⟩, true) := by
  unfold missV; simp [h1, h2]
theorem MissTo.no {e : Ending} {p : ByteArray × Bool} (h : p = (.empty, false)) (he : e = .returned (.tuple #[.string .empty, .bool false])) : MissTo e p := by subst h; exact he

theorem cut_one {s : ByteArray} {i : Nat} (h : i < s.size) (c : UInt8) : ((s.extract i (i + 1)).toList == (⟨[c].toArray⟩ : ByteArray).toList) = (s[i] == c) := by
  have e : s.extract i (i + 1) = ⟨[s[i]].toArray⟩ := by
    apply ByteArray.ext
    apply Array.ext'
    simp [ByteArray.data_extract]
    rw [List.drop_eq_getElem_cons (by simpa using h)]
    simp
    rfl
  rw [e]
  by_cases hc : s[i] = c
  · rw [hc]; simp
  · rw [beq_eq_false_iff_ne.2 hc]
    apply str_neb
    intro e
    apply hc
    have := congrArg ByteArray.data e
    simpa using this
theorem any_snoc {s : ByteArray} {i : Nat} (h : i < s.size) (c : UInt8) : (s.data.toList.take (i + 1)).any (· == c) = ((s.data.toList.take i).any (· == c) || (s[i] == c)) := by
  rw [take_snoc s i h, List.any_append]; simp
theorem metIn_snoc {ws : List ByteArray} {j : Nat} (h : j < ws.length) (c : UInt8) : metIn (ws.take (j + 1)) c = (metIn (ws.take j) c || metW ws[j] c) := by
  unfold metIn; rw [List.take_succ_eq_append_getElem h, List.any_append]; simp

theorem one_list (c : UInt8) : (⟨[c].toArray⟩ : ByteArray).toList = [c] := by simp [ByteArray.toList_eq]
theorem bytes_snoc (a : List UInt8) (c : UInt8) : (⟨a.toArray⟩ : ByteArray) ++ ⟨[c].toArray⟩ = ⟨(a ++ [c]).toArray⟩ := by
  apply ByteArray.ext
  apply Array.ext'
  simp
theorem tyFont_is (f : List (ByteArray × Int)) (A : Option Addr) (c : Nat) (lo : Nat) (w : World) (b : Bool) (hf : SortsIn w lo A f) (hn : f.length ≤ 1048576) (ho : CodesOk f) (h : Hid (fontB f = b)) :
    Calls Tryz.prog 35 #[.slice A f.length c] w fun e w' => e = .returned (.bool b) ∧ Below w.heap.size w w' := by
  have := tyFont_any f A c lo w hf hn ho; rw [h.out] at this; exact this
theorem tyWords_is (l : List ByteArray) (A : Option Addr) (c : Nat) (w : World) (b : Bool) (hf : StrsIn w A l) (ho : StrsOk l) (hn : l.length ≤ 1048576) (h : Hid (wordsB l = b)) :
    Calls Tryz.prog 70 #[.slice A l.length c] w fun e w' => e = .returned (.bool b) ∧ Below w.heap.size w w' := by
  have := tyWords_any l A c w hf ho hn; rw [h.out] at this; exact this

end Go.Proofs.YtnbnegkoanidmaaGreatDoor.S1

/-
  The contract of impl.MissingLetters: it answers what missV says and changes nothing that was there.
-/
namespace Go.Proofs.YtnbnegkoanidmaaGreatDoor.S1
open Go.RowKit
set_option linter.unusedVariables false

/-- The array of the 26 marks. -/
def row26 (m : Nat → Bool) : Array Value := ((List.range 26).map fun i => Value.bool (m i)).toArray
theorem row26_size (m : Nat → Bool) : (row26 m).size = 26 := by simp [row26]
theorem row26_get {m : Nat → Bool} {i : Nat} (h : i < 26) : (row26 m)[i]? = some (.bool (m i)) := by simp [row26, h]
theorem set_other {w : World} {g k q : Nat} (h : k ≠ g) (v : Value) : (w.setCell ⟨g, q, none⟩ v).heap[k]? = w.heap[k]? := Below.heap_setCell _ _ _ _ h
theorem run_part26 (m : Nat → Bool) (i : Nat) (h : i < 26) (w : World) : (part 4 (row26 m) i).run Tryz.prog w = .ok (.bool (m i)) w := by
  have hg := row26_get (m := m) h
  simp [part, Sem.run_bind, hg]
theorem run_index_str (s : ByteArray) (n : Int) (h : 0 < s.size) (hn : ((s[0]).toNat : Int) = n) (w : World) : (Instr.index 9 (.string s) (.int .i64 0)).run Tryz.prog w = .ok (.int .u8 n) w := by
  rw [run_index_string w 9 s .i64 0 Tryz.underlying9, dif_pos ⟨by omega, by omega⟩, ← hn]
  rfl

theorem lets_at {s : ByteArray} {i : Nat} (hs : lets s.data.toList = true) (h : i < s.size) : ∃ q, q < 26 ∧ s[i] = letB q := by
  have hm : isLet s[i] = true := by
    unfold lets at hs
    rw [List.all_eq_true] at hs
    exact hs _ (List.getElem_mem (l := s.data.toList) (by simpa using h))
  rw [isLet_int] at hm
  simp at hm
  refine ⟨s[i].toNat - 97, by omega, ?_⟩
  apply UInt8.toNat_inj.1
  rw [letB_nat (by omega)]; omega
theorem lets_word {s : ByteArray} (h : isWordF s = true) : lets s.data.toList = true := by
  unfold isWordF tyLettersF at h; simp at h; exact h.1
theorem lets_code {f : List (ByteArray × Int)} {k : Nat} (hF : Font f) (h : k < f.length) : lets f[k].1.data.toList = true := by
  have := hF.1 k h
  unfold okAt tySortF tyLettersF at this; simp at this; exact this.1.1.1
theorem letB_inj {i q : Nat} (hi : i < 26) (hq : q < 26) : (letB q == letB i) = decide (i = q) := by
  by_cases h : i = q
  · subst h; simp
  · rw [decide_eq_false h, beq_eq_false_iff_ne]
    intro e
    have := congrArg UInt8.toNat e
    rw [letB_nat hi, letB_nat hq] at this; omega
theorem oneB_size (i : Nat) : (oneB i).size = 1 := rfl
theorem oneB_of {s : ByteArray} {q : Nat} (h : s.size = 1) (hq : s[0] = letB q) : s = oneB q := by
  apply ByteArray.ext
  apply Array.ext'
  have hl : s.data.toList.length = 1 := by simpa using h
  match hd : s.data.toList, hl with
  | [a], _ =>
    have : s[0] = a := by
      have e : s[0] = s.data.toList[0]'(by rw [hd]; simp) := rfl
      rw [e]; simp [hd]
    rw [this] at hq; rw [hq]; rfl
theorem oneB_inj {i q : Nat} (hi : i < 26) (hq : q < 26) : (oneB q = oneB i) ↔ i = q := by
  constructor
  · intro e
    have h1 : letB q = letB i := by
      have := congrArg ByteArray.data e
      simpa [oneB] using this
    have := letB_inj hi hq
    rw [h1] at this; simpa using this
  · rintro rfl; rfl
/-- There is a sort with this Code among the sorts. -/
def hasC (f : List (ByteArray × Int)) (c : ByteArray) : Bool := f.any fun x => decide (x.1 = c)
theorem hasC_snoc {f : List (ByteArray × Int)} {k : Nat} (h : k < f.length) (c : ByteArray) : hasC (f.take (k + 1)) c = (hasC (f.take k) c || decide (f[k].1 = c)) := by
  unfold hasC; rw [List.take_succ_eq_append_getElem h, List.any_append]; simp
theorem findI_has : ∀ (f : List (ByteArray × Int)) (c : ByteArray) (n : Nat), decide (findI f c n < 0) = !hasC f c
  | [], c, n => rfl
  | x :: r, c, n => by
    unfold findI
    by_cases h : x.1 = c
    · rw [if_pos h]; unfold hasC; simp [h]
    · rw [if_neg h, findI_has r c (n + 1)]; unfold hasC; simp [h]
theorem implIsFont_is (f : List (ByteArray × Int)) (A : Option Addr) (c : Nat) (lo : Nat) (w : World) (b : Bool) (hf : SortsIn w lo A f) (hn : f.length ≤ 1048576) (ho : CodesOk f) (h : Hid (fontB f = b)) :
    Calls Tryz.prog 33 #[.slice A f.length c] w fun e w' => e = .returned (.bool b) ∧ Below w.heap.size w w' := by
  have := implIsFont_any f A c lo w hf hn ho; rw [h.out] at this; exact this
theorem areWords_is (l : List ByteArray) (A : Option Addr) (c : Nat) (w : World) (b : Bool) (hf : StrsIn w A l) (ho : StrsOk l) (hn : l.length ≤ 1048576) (h : Hid (wordsB l = b)) :
    Calls Tryz.prog 56 #[.slice A l.length c] w fun e w' => e = .returned (.bool b) ∧ Below w.heap.size w w' := by
  have := areWords_any l A c w hf ho hn; rw [h.out] at this; exact this
theorem infoU8 : (Tryz.prog.info? 5).map (fun i => (i.zero, i.size, i.bytes)) = some (some (.int .u8 0), 1, 1) := by kernel_rfl
theorem words_at {ws : List ByteArray} {j : Nat} (h : wordsB ws = true) (hj : j < ws.length) : isWordF ws[j] = true := by
  unfold wordsB at h; simp at h; exact h.2 _ (List.getElem_mem hj)

end Go.Proofs.YtnbnegkoanidmaaGreatDoor.S1

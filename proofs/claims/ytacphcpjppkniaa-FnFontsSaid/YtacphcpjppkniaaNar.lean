/-
  The narrowest ways to set the rest of a word from each place on, told plainly; the contract of impl.narrowestSteps.
-/
import Derived.Test.YtacphcpjppkniaaWide
import Derived.Test.YtacphcpjppkniaaCmp
import Derived.Test.YtacphcpjppkniaaKept
namespace Go.Proofs.Ytacphcpjppkniaa
open Go.RowKit
set_option linter.unusedVariables false

/-- The rest of the word from a place on. -/
def restB (s : ByteArray) (p : Nat) : ByteArray := s.extract p s.size
/-- The Code of sort i stands in the word at a place. -/
def stands (f : List (ByteArray × Int)) (s : ByteArray) (p i : Nat) : Bool := preB (restB s p) (codeB0 f i)
def lenC (f : List (ByteArray × Int)) (i : Nat) : Nat := (codeB0 f i).size
/-- What stands behind looking at sort i, where 'cur' stood: the way with sort i first, if it is one and narrower. -/
def candW (f : List (ByteArray × Int)) (s : ByteArray) (p i : Nat) (nx cur : Option (List Nat)) : Option (List Nat) :=
  if stands f s p i then
    match nx with
    | none => cur
    | some r => match cur with
      | none => some (i :: r)
      | some c => if wideF f (i :: r) < wideF f c then some (i :: r) else some c
  else cur
/-- The best way from place p on among the first i sorts, where T tells the best ways of later places. -/
def stepW (f : List (ByteArray × Int)) (s : ByteArray) (p : Nat) (T : Nat → Option (List Nat)) : Nat → Option (List Nat)
  | 0 => none
  | i + 1 => candW f s p i (T (p + lenC f i)) (stepW f s p T i)
/-- The best ways, once the last k places of the word are done. -/
def tabW (f : List (ByteArray × Int)) (s : ByteArray) : Nat → Nat → Option (List Nat)
  | 0 => fun p => if p = s.size then some [] else none
  | k + 1 => fun p => if p = s.size - (k + 1) then stepW f s p (tabW f s k) f.length else tabW f s k p
def updW (T : Nat → Option (List Nat)) (p : Nat) (o : Option (List Nat)) : Nat → Option (List Nat) := fun q => if q = p then o else T q
theorem tabW_succ (f : List (ByteArray × Int)) (s : ByteArray) (k p : Nat) (h : p = s.size - (k + 1)) : tabW f s (k + 1) = updW (tabW f s k) p (stepW f s p (tabW f s k) f.length) := by
  funext q
  unfold updW
  show (if q = s.size - (k + 1) then _ else _) = _
  subst h
  split
  · rename_i e; subst e; rfl
  · rfl
theorem tabW_none {f : List (ByteArray × Int)} {s : ByteArray} : ∀ {k p : Nat}, k ≤ s.size → p + k < s.size → tabW f s k p = none
  | 0, p, _, h => by show (if p = s.size then _ else _) = _; rw [if_neg (by omega)]
  | k + 1, p, hk, h => by
    show (if p = s.size - (k + 1) then _ else _) = _
    rw [if_neg (by omega)]
    exact tabW_none (by omega) (by omega)
/-- A table of ways in which each way has a sort that stands there, and the way of the place behind it. -/
def ChainW (f : List (ByteArray × Int)) (s : ByteArray) (T : Nat → Option (List Nat)) : Prop :=
  ∀ p l, T p = some l → p ≤ s.size ∧ ((p = s.size ∧ l = []) ∨ ∃ i r, l = i :: r ∧ i < f.length ∧ stands f s p i = true ∧ T (p + lenC f i) = some r)
theorem stands_le {f : List (ByteArray × Int)} {s : ByteArray} {p i : Nat} (hp : p ≤ s.size) (h : stands f s p i = true) : p + lenC f i ≤ s.size := by
  unfold stands preB restB at h
  have := (List.IsPrefix.length_le (of_decide_eq_true h))
  unfold lenC
  simp [ByteArray.data_extract] at this
  have e : (codeB0 f i).size = (codeB0 f i).data.size := rfl
  omega
theorem lenC_pos {f : List (ByteArray × Int)} (hF : Font f) {i : Nat} (h : i < f.length) : 1 ≤ lenC f i ∧ lenC f i ≤ 3 := by
  have := hF.size h
  unfold lenC
  have e : (codeB0 f i).size = (codeAt f i).length := by rw [← codeB0_list]; rfl
  omega
theorem stepW_some {f : List (ByteArray × Int)} {s : ByteArray} {p : Nat} {T : Nat → Option (List Nat)} : ∀ {n : Nat} {l : List Nat}, stepW f s p T n = some l → ∃ i r, l = i :: r ∧ i < n ∧ stands f s p i = true ∧ T (p + lenC f i) = some r
  | 0, l, h => by cases h
  | n + 1, l, h => by
    have old : stepW f s p T n = some l → ∃ i r, l = i :: r ∧ i < n + 1 ∧ stands f s p i = true ∧ T (p + lenC f i) = some r := fun h => by
      obtain ⟨i, r, h1, h2, h3⟩ := stepW_some h
      exact ⟨i, r, h1, by omega, h3⟩
    simp only [stepW, candW] at h
    cases hs : stands f s p n
    · rw [hs] at h; exact old h
    · rw [hs, if_pos rfl] at h
      cases hn : T (p + lenC f n) with
      | none => rw [hn] at h; exact old h
      | some r =>
        rw [hn] at h
        cases hc : stepW f s p T n with
        | none => rw [hc] at h; injection h with h; exact ⟨n, r, h.symm, by omega, hs, hn⟩
        | some c =>
          rw [hc] at h
          simp only at h
          split at h
          · injection h with h; exact ⟨n, r, h.symm, by omega, hs, hn⟩
          · exact old (hc.trans h)
theorem tabW_chain {f : List (ByteArray × Int)} {s : ByteArray} (hF : Font f) : ∀ (k : Nat), k ≤ s.size → ChainW f s (tabW f s k)
  | 0, _, p, l, h => by
    have h' : (if p = s.size then some [] else none) = some l := h
    split at h'
    · injection h' with h'; exact ⟨by omega, .inl ⟨by assumption, h'.symm⟩⟩
    · cases h'
  | k + 1, hk, p, l, h => by
    have ih := tabW_chain (s := s) hF k (by omega)
    have up : ∀ q, s.size - (k + 1) < q → tabW f s (k + 1) q = tabW f s k q := fun q hq => by
      show (if q = s.size - (k + 1) then _ else _) = _
      rw [if_neg (by omega)]
    by_cases hp : p = s.size - (k + 1)
    · have h' : stepW f s p (tabW f s k) f.length = some l := by
        rw [tabW_succ f s k p hp] at h; simpa [updW] using h
      obtain ⟨i, r, h1, h2, h3, h4⟩ := stepW_some h'
      have hl := lenC_pos hF h2
      exact ⟨by omega, .inr ⟨i, r, h1, h2, h3, by rw [up (p + lenC f i) (by omega)]; exact h4⟩⟩
    · have h' : tabW f s k p = some l := by
        have e : tabW f s (k + 1) p = tabW f s k p := by
          show (if p = s.size - (k + 1) then _ else _) = _
          rw [if_neg hp]
        rw [← e]; exact h
      obtain ⟨h1, h2⟩ := ih p l h'
      refine ⟨h1, ?_⟩
      rcases h2 with h2 | ⟨i, r, a1, a2, a3, a4⟩
      · exact .inl h2
      · have := lenC_pos hF a2
        have hpk : s.size ≤ p + k := by
          rcases Nat.lt_or_ge (p + k) s.size with hlt | hge
          · rw [tabW_none (f := f) (s := s) (by omega) hlt] at h'; cases h'
          · exact hge
        exact .inr ⟨i, r, a1, a2, a3, by rw [up (p + lenC f i) (by omega)]; exact a4⟩
theorem ChainW.mem {f : List (ByteArray × Int)} {s : ByteArray} {T : Nat → Option (List Nat)} (hT : ChainW f s T) (hF : Font f) : ∀ (l : List Nat) (p : Nat), T p = some l → (∀ i ∈ l, i < f.length) ∧ p + l.length ≤ s.size
  | [], p, h => ⟨by simp, by have := (hT p _ h).1; simpa using this⟩
  | i :: r, p, h => by
    rcases (hT p _ h).2 with ⟨_, h2⟩ | ⟨j, r', h1, h2, h3, h4⟩
    · cases h2
    · injection h1 with e1 e2
      subst e1; subst e2
      have := ChainW.mem hT hF r _ h4
      have hl := lenC_pos hF h2
      refine ⟨fun x hx => ?_, by simp; omega⟩
      rcases List.mem_cons.1 hx with rfl | hx
      · exact h2
      · exact this.1 x hx

/-! The row of the steps -/
def headW : Option (List Nat) → Int
  | some (i :: _) => (i : Int)
  | _ => 0
def widthW (f : List (ByteArray × Int)) : Option (List Nat) → Int
  | some l => wideF f l
  | none => 0
def cellW (f : List (ByteArray × Int)) (o : Option (List Nat)) (j : Nat) : Value := if j = 0 then .bool o.isSome else if j = 1 then .int .i64 (headW o) else .int .i64 (widthW f o)
def cellsW (f : List (ByteArray × Int)) (T : Nat → Option (List Nat)) (n : Nat) : Array Value := ((List.range (n * 3)).map fun q => cellW f (T (q / 3)) (q % 3)).toArray
def StepTab (f : List (ByteArray × Int)) (w : World) (g n : Nat) (T : Nat → Option (List Nat)) : Prop := w.heap[g]? = some (.cells (cellsW f T n) 75 (0, 0))
theorem StepTab.lt {f : List (ByteArray × Int)} {w : World} {g n : Nat} {T : Nat → Option (List Nat)} (h : StepTab f w g n T) : g < w.heap.size := lt_of_heap h
theorem StepTab.below {f : List (ByteArray × Int)} {w w' : World} {g n : Nat} {T : Nat → Option (List Nat)} (h : StepTab f w g n T) (hb : Below w.heap.size w w') : StepTab f w' g n T := (hb.block g (lt_of_heap h)).trans h
theorem StepTab.at_ {f : List (ByteArray × Int)} {w : World} {g n p : Nat} {T : Nat → Option (List Nat)} (h : StepTab f w g n T) (hp : p < n) :
    w.cell? ⟨g, p * 3, none⟩ = some (.bool (T p).isSome) ∧ w.cell? ⟨g, p * 3 + 1, none⟩ = some (.int .i64 (headW (T p))) ∧ w.cell? ⟨g, p * 3 + 2, none⟩ = some (.int .i64 (widthW f (T p))) := by
  refine ⟨?_, ?_, ?_⟩
  all_goals
    rw [cell_of_heap h]
    unfold cellsW
    rw [List.getElem?_toArray, List.getElem?_map, List.getElem?_range (by omega)]
    simp only [Option.map_some]
  · rw [show p * 3 / 3 = p from by omega, show p * 3 % 3 = 0 from by omega]; rfl
  · rw [show (p * 3 + 1) / 3 = p from by omega, show (p * 3 + 1) % 3 = 1 from by omega]; rfl
  · rw [show (p * 3 + 2) / 3 = p from by omega, show (p * 3 + 2) % 3 = 2 from by omega]; rfl
theorem StepTab.free {f : List (ByteArray × Int)} {w : World} {g n i : Nat} {T : Nat → Option (List Nat)} (h : StepTab f w g n T) : w.frozen? ⟨g, i, none⟩ = false := free_of_heap h i
theorem StepTab.set {f : List (ByteArray × Int)} {w : World} {g n p i : Nat} {r : List Nat} {T : Nat → Option (List Nat)} (h : StepTab f w g n T) (hp : p < n) :
    StepTab f (((w.setCell ⟨g, p * 3, none⟩ (.bool true)).setCell ⟨g, p * 3 + 1, none⟩ (.int .i64 (i : Int))).setCell ⟨g, p * 3 + 2, none⟩ (.int .i64 (wideF f (i :: r)))) g n (updW T p (some (i :: r))) := by
  unfold StepTab
  rw [heap_set (heap_set (heap_set h _) _)]
  congr 2
  apply Array.ext
  · simp [cellsW]
  · intro q h1 h2
    have hq : q < n * 3 := by simpa [cellsW] using h2
    have e2 : (cellsW f (updW T p (some (i :: r))) n)[q] = cellW f (updW T p (some (i :: r)) (q / 3)) (q % 3) := by simp [cellsW]
    rw [e2]
    rw [Array.getElem_setIfInBounds (by simpa [cellsW] using hq), Array.getElem_setIfInBounds (by simpa [cellsW] using hq), Array.getElem_setIfInBounds (by simpa [cellsW] using hq)]
    by_cases hqp : q / 3 = p
    · have : q = p * 3 ∨ q = p * 3 + 1 ∨ q = p * 3 + 2 := by omega
      rcases this with rfl | rfl | rfl
      · rw [if_neg (by omega), if_neg (by omega), if_pos rfl, hqp, show p * 3 % 3 = 0 from by omega]
        simp [updW, cellW]
      · rw [if_neg (by omega), if_pos rfl, hqp, show (p * 3 + 1) % 3 = 1 from by omega]
        simp [updW, cellW, headW]
      · rw [if_pos rfl, hqp, show (p * 3 + 2) % 3 = 2 from by omega]
        simp [updW, cellW, widthW]
    · rw [if_neg (by omega), if_neg (by omega), if_neg (by omega)]
      simp [cellsW, updW, hqp]
theorem StepTab.start (f : List (ByteArray × Int)) (w : World) (n : Nat) : StepTab f (w.alloc (.cells (madeCells #[.bool false, .int .i64 0, .int .i64 0] (n * 3)) 75)) w.heap.size n (fun _ => none) := by
  unfold StepTab
  rw [heap_new]
  congr 2
  apply Array.ext
  · simp [cellsW, size_madeCells]
  · intro q h1 h2
    have hm : q % 3 = 0 ∨ q % 3 = 1 ∨ q % 3 = 2 := by omega
    rcases hm with e | e | e <;> simp [madeCells, cellsW, cellW, e, headW, widthW]
theorem StepTab.end_ {f : List (ByteArray × Int)} {w : World} {g : Nat} {s : ByteArray} (h : StepTab f w g (s.size + 1) (fun _ => none)) : StepTab f (w.setCell ⟨g, s.size * 3, none⟩ (.bool true)) g (s.size + 1) (tabW f s 0) := by
  unfold StepTab
  rw [heap_set h]
  congr 2
  apply Array.ext
  · simp [cellsW]
  · intro q h1 h2
    have hq : q < (s.size + 1) * 3 := by simpa [cellsW] using h2
    have e2 : (cellsW f (tabW f s 0) (s.size + 1))[q] = cellW f (tabW f s 0 (q / 3)) (q % 3) := by simp [cellsW]
    rw [e2, Array.getElem_setIfInBounds (by simpa using h1)]
    show _ = cellW f (if q / 3 = s.size then some [] else none) (q % 3)
    by_cases hqp : q / 3 = s.size
    · have : q = s.size * 3 ∨ q = s.size * 3 + 1 ∨ q = s.size * 3 + 2 := by omega
      rw [if_pos hqp]
      rcases this with rfl | rfl | rfl
      · rw [if_pos rfl, show s.size * 3 % 3 = 0 from by omega]; simp [cellW]
      · rw [if_neg (by omega)]
        simp [cellsW, cellW, headW, show (s.size * 3 + 1) % 3 = 1 from by omega]
      · rw [if_neg (by omega)]
        simp [cellsW, cellW, widthW, wideF, show (s.size * 3 + 2) % 3 = 2 from by omega]
    · rw [if_neg (by omega), if_neg hqp]
      simp [cellsW]
end Go.Proofs.Ytacphcpjppkniaa

/-
  The contracts of impl.setCopy and impl.CountSorts: each answers what the plain words here say and changes nothing that was there.
-/
import Derived.Test.YtllafkeheppkjaaNee
namespace Go.Proofs.Ytllafkeheppkjaa
open Go.RowKit
set_option linter.unusedVariables false

theorem IntsOff.next {w w' : World} {g : Nat} {A : Option Addr} {l : List Int} (h : IntsOff w g A l) (hb : Below w.heap.size w w') : IntsOff w' g A l := by
  intro hn
  obtain ⟨b, off, rfl, h1, h2, h3⟩ := h hn
  exact ⟨b, off, rfl, h1, Nat.lt_of_lt_of_le h2 hb.size, fun k hk => (hb.cell (p := ⟨b, off + k, none⟩) h2).trans (h3 k hk)⟩
theorem IntsOff.set {w : World} {g : Nat} {A : Option Addr} {l : List Int} (h : IntsOff w g A l) (i : Nat) (v : Value) : IntsOff (w.setCell ⟨g, i, none⟩ v) g A l := by
  intro hn
  obtain ⟨b, off, rfl, h1, h2, h3⟩ := h hn
  refine ⟨b, off, rfl, h1, by simpa [World.setCell] using h2, fun k hk => ?_⟩
  rw [← h3 k hk]
  have := Below.heap_setCell w ⟨g, i, none⟩ v b h1
  simp only [World.cell?, this]
/-- Row g holds slices; those at the first places read as the lists. -/
def SetsIn (w : World) (g : Nat) (sts : List (List Nat)) (n : Nat) : Prop :=
  ∃ vs : List Value, Own w g 61 vs ∧ vs.length = n ∧ ∀ k (h : k < sts.length), ∃ A c, vs[k]? = some (.slice A sts[k].length c) ∧ IntsOff w g A (intL sts[k])
theorem SetsIn.next {w w' : World} {g n : Nat} {sts : List (List Nat)} (h : SetsIn w g sts n) (hb : Below w.heap.size w w') : SetsIn w' g sts n := by
  obtain ⟨vs, h1, h2, h3⟩ := h
  refine ⟨vs, h1.next hb, h2, fun k hk => ?_⟩
  obtain ⟨A, c, h4, h5⟩ := h3 k hk
  exact ⟨A, c, h4, h5.next hb⟩
theorem SetsIn.step {w : World} {g n c : Nat} {sts : List (List Nat)} {l : List Nat} {A : Option Addr} (h : SetsIn w g sts n) (hl : sts.length < n) (hi : IntsOff w g A (intL l)) (j : Nat) (hj : j = sts.length) : SetsIn (w.setCell ⟨g, j, none⟩ (.slice A l.length c)) g (sts ++ [l]) n := by
  subst hj
  obtain ⟨vs, h1, h2, h3⟩ := h
  refine ⟨_, h1.set sts.length _, by simpa using h2, fun k hk => ?_⟩
  by_cases hkl : k = sts.length
  · subst hkl
    refine ⟨A, c, ?_, ?_⟩
    · rw [List.getElem?_set_self (by omega)]; simp
    · simpa using hi.set _ _
  · have hk' : k < sts.length := by simp at hk; omega
    obtain ⟨A', c', h4, h5⟩ := h3 k hk'
    refine ⟨A', c', ?_, ?_⟩
    · rw [List.getElem?_set_ne (by omega), h4, List.getElem_append_left hk']
    · rw [List.getElem_append_left hk']; exact h5.set _ _
theorem SetsIn.at_ {w : World} {g n k : Nat} {sts : List (List Nat)} (h : SetsIn w g sts n) (hk : k < n) : (∃ u, w.cell? ⟨g, k, none⟩ = some u) ∧ w.frozen? ⟨g, k, none⟩ = false := by
  obtain ⟨vs, h1, h2, h3⟩ := h
  exact ⟨⟨_, (h1.cell k).trans (List.getElem?_eq_getElem (by omega))⟩, h1.free k⟩

noncomputable def copyR (f : List (ByteArray × Int)) (ws : List ByteArray) : Option (List (List Nat)) := if copyB f ws then some (ws.map (sg f)) else none
theorem copyR_no {f : List (ByteArray × Int)} {ws : List ByteArray} (h : copyB f ws = false) : copyR f ws = none := by unfold copyR; rw [h]; rfl
theorem copyR_yes {f : List (ByteArray × Int)} {ws : List ByteArray} (h : copyB f ws = true) : copyR f ws = some (ws.map (sg f)) := by unfold copyR; rw [h]; rfl
def CopyTo (w w' : World) (e : Ending) (r : Option (List (List Nat))) : Prop := Below w.heap.size w w' ∧
  match r with
  | none => e = .returned (.tuple #[.slice none 0 0, .bool false])
  | some sts => ∃ g, e = .returned (.tuple #[.slice (some ⟨g, 0, none⟩) sts.length sts.length, .bool true]) ∧ w.heap.size ≤ g ∧ SetsIn w' g sts sts.length
theorem CopyTo.no {w w' : World} {r : Option (List (List Nat))} (h : r = none) (hb : Below w.heap.size w w') : CopyTo w w' (.returned (.tuple #[.slice none 0 0, .bool false])) r := by subst h; exact ⟨hb, rfl⟩
theorem CopyTo.yes {w w' : World} {r : Option (List (List Nat))} {sts : List (List Nat)} {n g : Nat} (h : r = some sts) (hn : sts.length = n) (hb : Below w.heap.size w w') (hg : w.heap.size ≤ g) (hs : SetsIn w' g sts n) : CopyTo w w' (.returned (.tuple #[.slice (some ⟨g, 0, none⟩) n n, .bool true])) r := by
  subst h hn; exact ⟨hb, g, rfl, hg, hs⟩

theorem infoSl : (Try.prog.info? 61).map (fun i => (i.zero, i.size, i.bytes)) = some (some (.slice none 0 0), 1, 24) := by kernel_rfl
theorem SetsIn.made (w : World) (n : Nat) : SetsIn (w.alloc (.cells (madeCells #[.slice none 0 0] (n * 1)) 61)) w.heap.size [] n :=
  ⟨List.replicate n (.slice none 0 0), by unfold Own; rw [heap_new, Nat.mul_one, ← toList_madeCells_one], by simp, fun k h => absurd h (by simp)⟩
theorem sow_word {f : List (ByteArray × Int)} {s : ByteArray} (h1 : fontB f = true) (h2 : isWordF s = true) : sowF f s = setW f s := sow_of_font (by rw [h1, h2]; rfl)
theorem words_isWord {ws : List ByteArray} {j : Nat} (h : wordsB ws = true) (hj : j < ws.length) : isWordF ws[j] = true := by
  unfold wordsB at h
  simp only [Bool.and_eq_true] at h
  exact List.all_eq_true.1 h.2 _ (List.getElem_mem hj)

end Go.Proofs.Ytllafkeheppkjaa

/-
  The contracts of IsEnough, in spec and in impl: each answers what the plain words here say and changes nothing that was there.
-/
import Derived.Test.YtllafkeheppkjaaCop
namespace Go.Proofs.Ytllafkeheppkjaa
open Go.RowKit
set_option linter.unusedVariables false

/-- No need is greater than the stock. -/
def enB (need st : List Int) : Bool := (List.range need.length).all fun i => decide (need.getD i 0 ≤ st.getD i 0)
def enTo (need st : List Int) (k : Nat) : Prop := ∀ j, j < k → need.getD j 0 ≤ st.getD j 0
theorem getD_of {l : List Int} {k : Nat} (h : k < l.length) : l.getD k 0 = l[k] := by rw [List.getD_eq_getElem?_getD, List.getElem?_eq_getElem h]; rfl
theorem enTo_succ {need st : List Int} {k : Nat} (h : enTo need st k) (h1 : k < need.length) (h2 : k < st.length) (hk : need[k] ≤ st[k]) : enTo need st (k + 1) := by
  intro j hj
  rcases Nat.lt_or_ge j k with h3 | h3
  · exact h j h3
  · obtain rfl : j = k := by omega
    rw [getD_of h1, getD_of h2]; exact hk
theorem enB_yes {need st : List Int} (h : enTo need st need.length) : enB need st = true := by
  unfold enB; rw [List.all_eq_true]; intro i hi; exact decide_eq_true (h i (List.mem_range.1 hi))
theorem enB_no {need st : List Int} {k : Nat} (h1 : k < need.length) (h2 : k < st.length) (hk : st[k] < need[k]) : enB need st = false := by
  unfold enB; rw [List.all_eq_false]; exact ⟨k, List.mem_range.2 h1, by rw [getD_of h1, getD_of h2]; simpa using hk⟩
noncomputable def askB (f : List (ByteArray × Int)) (st : List Int) (ws : List ByteArray) : Bool := copyB f ws && stockB f st
theorem askB_no {f : List (ByteArray × Int)} {st : List Int} {ws : List ByteArray} (h : copyB f ws = false ∨ stockB f st = false) : askB f st ws = false := by
  unfold askB; rcases h with h | h <;> simp [h]
theorem askB_parts {f : List (ByteArray × Int)} {st : List Int} {ws : List ByteArray} (h : askB f st ws = true) : copyB f ws = true ∧ stockB f st = true := by
  unfold askB at h; simpa using h
theorem IntsTo.some {w w' : World} {e : Ending} {r : Option (List Int)} {l : List Int} (h : IntsTo w w' e r) (hr : r = some l) : ∃ A c, e = .returned (.tuple #[.slice A l.length c, .bool true]) ∧ Below w.heap.size w w' ∧ w'.ownsRow w.heap.size 3 1 (.slice A l.length c) l.length (intsZ l) := by
  subst hr
  obtain ⟨v, he, hb, ho⟩ := h
  obtain ⟨A, c, rfl⟩ := own_form ho
  exact ⟨A, c, he, hb, ho⟩
theorem IntsTo.none {w w' : World} {e : Ending} {r : Option (List Int)} (h : IntsTo w w' e r) (hr : r = none) : ∃ v, e = .returned (.tuple #[v, .bool false]) ∧ Below w.heap.size w w' := by
  subst hr
  obtain ⟨v, he, hb, ho⟩ := h
  exact ⟨v, he, hb⟩
theorem need_stock {f : List (ByteArray × Int)} {st : List Int} {ws : List ByteArray} (h : askB f st ws = true) : (needF f ws).length = f.length ∧ st.length = f.length ∧ f.length ≤ 32 ∧ 1 ≤ f.length ∧ (∀ i (h : i < (needF f ws).length), 0 ≤ (needF f ws)[i] ∧ (needF f ws)[i] ≤ 640) ∧ allB 0 100000 st = true := by
  obtain ⟨h1, h2⟩ := askB_parts h
  obtain ⟨hF, hw, _⟩ := copy_parts h1
  exact ⟨needF_len f ws, (stock_parts h2).1, hF.2.2, hF.2.1, fun i hi => needF_bound hw hi, (stock_parts h2).2⟩
def ret2b (a b : Bool) : Ending := .returned (.tuple #[.bool a, .bool b])
theorem ret2b_eq {a a' b b' : Bool} (h1 : a = a') (h2 : b = b') : Ending.returned (.tuple #[.bool a, .bool b]) = ret2b a' b' := by rw [h1, h2]; rfl

end Go.Proofs.Ytllafkeheppkjaa

import Derived.Test.YtnbnegkoanidmaaGreatDoorMsj
import Derived.OwnWalk
import Derived.Maps.AppendAt
import Derived.Deep.RegionLaw
import Derived.Lib.SliceRun
/-
  The contracts of IsEnough, in spec and in impl: each answers what the plain words here say and changes nothing that was there.
-/
namespace Go.Proofs.YtnbnegkoanidmaaGreatDoor.S1
open Go.RowKit
set_option linter.unusedVariables false

/-- No need is greater than the stock. -/
def enB (need st : List Int) : Bool := (List.range need.length).all fun i => decide (need.getD i 0 ≤ st.getD i 0)
def enTo (need st : List Int) (k : Nat) : Prop := ∀ j, j < k → need.getD j 0 ≤ st.getD j 0
theorem getD_of {l : List Int} {k : Nat} (h : k < l.length) : l.getD k 0 = l[k] := by rw [List.getD_eq_getElem?_getD, List.getElem?_eq_getElem h]; rfl
theorem enTo_succ {need st : List Int} {k : Nat} (h : enTo need st k) (h1 : k < need.length) (h2 : k < st.length) (hk : need[k] ≤ st[k]) : enTo need st (k + 1) := by
  intro j hj
  rcases Nat.lt_or_ge j k with h3 | h3
  · exact h j h3
  · obtain rfl : j = k := by omega
    rw [getD_of h1, getD_of h2]; exact hk
theorem enB_yes {need st : List Int} (h : enTo need st need.length) : enB need st = true := by
  unfold enB; rw [List.all_eq_true]; intro i hi; exact decide_eq_true (h i (List.mem_range.1 hi))
theorem enB_no {need st : List Int} {k : Nat} (h1 : k < need.length) (h2 : k < st.length) (hk : st[k] < need[k]) : enB need st = false := by
  unfold enB; rw [List.all_eq_false]; exact ⟨k, List.mem_range.2 h1, by rw [getD_of h1, getD_of h2]; simpa using hk⟩
noncomputable def askB (f : List (ByteArray × Int)) (st : List Int) (ws : List ByteArray) : Bool := copyB f ws && stockB f st
theorem askB_no {f : List (ByteArray × Int)} {st : List Int} {ws : List ByteArray} (h : copyB f ws = false ∨ stockB f st = false) : askB f st ws = false := by
  unfold askB; rcases h with h | h <;> simp [h]
theorem askB_parts {f : List (ByteArray × Int)} {st : List Int} {ws : List ByteArray} (h : askB f st ws = true) : copyB f ws = true ∧ stockB f st = true := by
  unfold askB at h; simpa using h
theorem biAsk_any (f : List (ByteArray × Int)) (A : Option Addr) (c : Nat) (st : List Int) (C : Option Addr) (q : Nat) (ws : List ByteArray) (B : Option Addr) (d : Nat) (lo : Nat) (w : World) (hf : SortsIn w lo A f) (hn : f.length ≤ 1048576) (ho : CodesOk f) (hi : IntsIn w C st) (hq : st.length ≤ 1048576) (hg : StrsIn w B ws) (ho' : StrsOk ws) (hm : ws.length ≤ 1048576) :
    Calls Tryz.prog 28 #[.slice A f.length c, .slice C st.length q, .slice B ws.length d] w fun e w' => e = .returned (.bool (askB f st ws)) ∧ Below w.heap.size w w' := biAsked_any f A c st C q ws B d lo w hf hn ho hi hq hg ho' hm
theorem IntsTo.some {w w' : World} {e : Ending} {r : Option (List Int)} {l : List Int} (h : IntsTo w w' e r) (hr : r = some l) : ∃ A c, e = .returned (.tuple #[.slice A l.length c, .bool true]) ∧ Below w.heap.size w w' ∧ w'.ownsRow w.heap.size 3 1 (.slice A l.length c) l.length (intsZ l) := by
  subst hr
  obtain ⟨v, he, hb, ho⟩ := h
  obtain ⟨A, c, rfl⟩ := own_form ho
  exact ⟨A, c, he, hb, ho⟩
theorem IntsTo.none {w w' : World} {e : Ending} {r : Option (List Int)} (h : IntsTo w w' e r) (hr : r = none) : ∃ v, e = .returned (.tuple #[v, .bool false]) ∧ Below w.heap.size w w' := by
  subst hr
  obtain ⟨v, he, hb, ho⟩ := h
  exact ⟨v, he, hb⟩
theorem need_stock {f : List (ByteArray × Int)} {st : List Int} {ws : List ByteArray} (h : askB f st ws = true) : (needF f ws).length = f.length ∧ st.length = f.length ∧ f.length ≤ 32 ∧ 1 ≤ f.length ∧ (∀ i (h : i < (needF f ws).length), 0 ≤ (needF f ws)[i] ∧ (needF f ws)[i] ≤ 640) ∧ allB 0 100000 st = true := by
  obtain ⟨h1, h2⟩ := askB_parts h
  obtain ⟨hF, hw, _⟩ := copy_parts h1
  exact ⟨needF_len f ws, (stock_parts h2).1, hF.2.2, hF.2.1, fun i hi => needF_bound hw hi, (stock_parts h2).2⟩
def ret2b (a b : Bool) : Ending := .returned (.tuple #[.bool a, .bool b])
theorem ret2b_eq {a a' b b' : Bool} (h1 : a = a') (h2 : b = b') : Ending.returned (.tuple #[.bool a, .bool b]) = ret2b a' b' := by rw [h1, h2]; rfl

end Go.Proofs.YtnbnegkoanidmaaGreatDoor.S1

/-
  The contracts of spec.l1Own, slices.Clone at ints, and of FirstRunOut, in spec and in impl: each answers what the plain words here say and changes nothing that was there.
-/
namespace Go.Proofs.YtnbnegkoanidmaaGreatDoor.S1
open Go.RowKit
set_option linter.unusedVariables false

theorem own_noneI (w : World) {g base : Nat} {e : TypeId} (h : w.heap[g]? = some (.cells #[] e (0, 0))) (hb : base ≤ g) : w.ownsRow base e 1 (.slice (some ⟨g, 0, none⟩) 0 0) 0 [] :=
  ⟨rfl, .inr ⟨g, 0, #[], rfl, hb, h, Nat.le_refl _, Nat.zero_le _, rfl, rfl⟩⟩
theorem add_flatI (b off k : Nat) : (⟨b, off, none⟩ : Addr).add k = ⟨b, off + k, none⟩ := by
  unfold Addr.add
  by_cases hk : k = 0 <;> simp [hk]
def OwnTo (w w' : World) (e : Ending) (l : List Int) : Prop := ∃ v, e = .returned v ∧ Below w.heap.size w w' ∧ w'.ownsRow w.heap.size 3 1 v l.length (intsZ l)
theorem intsZ_one (l : List Int) : ∀ u ∈ intsZ l, u.oneCell' = true := by
  intro u hu
  simp only [intsZ, List.mem_map] at hu
  obtain ⟨x, _, rfl⟩ := hu
  rfl
theorem news_ints {w : World} {b off : Nat} {l : List Int} (hc : ∀ k (h : k < l.length), w.cell? ⟨b, off + k, none⟩ = some (.int .i64 l[k])) : ∀ j u, (intsZ l)[j]? = some u → w.cell? ((⟨b, off, none⟩ : Addr).add j) = some u := by
  intro j u hu
  rw [add_flatI]
  have hj : j < l.length := by
    rcases Nat.lt_or_ge j l.length with h | h
    · exact h
    · rw [List.getElem?_eq_none (by rw [intsZ_len]; exact h)] at hu; cases hu
  rw [intsZ_at hj] at hu
  rw [hc j hj]; exact hu

theorem own_marked {w : World} {base n : Nat} {e : TypeId} {v : Value} {xs : List Value} (h : w.ownsRow base e 1 v n xs) (hn : 0 < n) : ∃ g cap, v = .slice (some ⟨g, 0, none⟩) n cap ∧ base ≤ g ∧ n ≤ cap ∧ Marked w g e cap xs := by
  rcases h.2 with ⟨rfl, h0⟩ | ⟨g, cap, cur, rfl, hg, hh, h1, h2, h3, h4⟩
  · omega
  · have hl := h.1
    exact ⟨g, cap, rfl, hg, h1, cur, hh, by simpa using h3, by rw [hl]; exact h4⟩
theorem Marked.put {w : World} {g cap j : Nat} {e : TypeId} {l : List Value} (h : Marked w g e cap l) (u : Value) : Marked (w.setCell ⟨g, j, none⟩ u) g e cap (l.set j u) := by
  obtain ⟨cur, h1, h2, h3⟩ := h
  refine ⟨_, heap_set h1 u, by simpa using h2, ?_⟩
  rw [List.length_set, Array.toList_setIfInBounds, List.take_set, h3]
theorem Marked.cellAt {w : World} {g cap j : Nat} {e : TypeId} {l : List Value} (h : Marked w g e cap l) (hj : j < l.length) : w.cell? ⟨g, j, none⟩ = some l[j] := by
  obtain ⟨cur, h1, h2, h3⟩ := h
  rw [cell_of_heap h1, ← Array.getElem?_toList, ← List.getElem?_eq_getElem hj]
  conv => rhs; rw [← h3]
  rw [List.getElem?_take_of_lt hj]
theorem Marked.freeAt {w : World} {g cap : Nat} {e : TypeId} {l : List Value} (h : Marked w g e cap l) (j : Nat) : w.frozen? ⟨g, j, none⟩ = false := by
  obtain ⟨cur, h1, _⟩ := h
  exact free_of_heap h1 j
theorem Marked.next {w w' : World} {g cap : Nat} {e : TypeId} {l : List Value} (h : Marked w g e cap l) (hb : Below w.heap.size w w') : Marked w' g e cap l := h.below hb
theorem Marked.ltG {w : World} {g cap : Nat} {e : TypeId} {l : List Value} (h : Marked w g e cap l) : g < w.heap.size := by
  obtain ⟨cur, h1, _⟩ := h
  exact lt_of_heap h1

/-- Types are taken one after the other: the first sort of which there is none, or what is left. -/
def runL : List Int → List Nat → Except Nat (List Int)
  | left, [] => .ok left
  | left, i :: r => if left.getD i 0 = 0 then .error i else runL (left.set i (left.getD i 0 - 1)) r
def froF (f : List (ByteArray × Int)) : List Int → Nat → List ByteArray → Option (Nat × Nat)
  | _, _, [] => none
  | left, k, s :: r => match runL left (sg f s) with
    | .error i => some (k, i)
    | .ok left' => froF f left' (k + 1) r
noncomputable def frR (f : List (ByteArray × Int)) (st : List Int) (ws : List ByteArray) : Option (Nat × Nat) := if askB f st ws then froF f st 0 ws else none
theorem fr_no {f : List (ByteArray × Int)} {st : List Int} {ws : List ByteArray} (h : askB f st ws = false) : frR f st ws = none := by unfold frR; rw [h]; rfl
theorem fr_yes {f : List (ByteArray × Int)} {st : List Int} {ws : List ByteArray} (h : askB f st ws = true) : frR f st ws = froF f st 0 ws := by unfold frR; rw [h]; rfl
/-- What is left after the first k words; after j types of the next word. -/
def LeftAt (f : List (ByteArray × Int)) (st : List Int) (ws : List ByteArray) (k : Nat) (left : List Int) : Prop := froF f st 0 ws = froF f left k (ws.drop k) ∧ left.length = f.length ∧ allB 0 100000 left = true
def RunAt (f : List (ByteArray × Int)) (l : List Nat) (L0 : List Int) (j : Nat) (left : List Int) : Prop := runL L0 l = runL left (l.drop j) ∧ left.length = f.length ∧ allB 0 100000 left = true
theorem RunAt.zero {f : List (ByteArray × Int)} {l : List Nat} {L0 : List Int} (h1 : L0.length = f.length) (h2 : allB 0 100000 L0 = true) : RunAt f l L0 0 L0 := ⟨by rw [List.drop_zero], h1, h2⟩
theorem RunAt.stop {f : List (ByteArray × Int)} {l : List Nat} {L0 left : List Int} {j : Nat} (h : RunAt f l L0 j left) (hj : j < l.length) (hz : left.getD l[j] 0 = 0) : runL L0 l = .error l[j] := by
  rw [h.1, List.drop_eq_getElem_cons hj]
  simp only [runL]
  rw [if_pos hz]
theorem allB_set {left : List Int} {i : Nat} {z : Int} (h : allB 0 100000 left = true) (h0 : 0 ≤ z) (h1 : z ≤ 100000) : allB 0 100000 (left.set i z) = true := by
  unfold allB at *
  rw [List.all_eq_true] at *
  intro x hx
  rcases List.mem_or_eq_of_mem_set hx with h2 | rfl
  · exact h x h2
  · simp [inB, h0, h1]
theorem RunAt.next {f : List (ByteArray × Int)} {l : List Nat} {L0 left : List Int} {j : Nat} {z : Int} (h : RunAt f l L0 j left) (hj : j < l.length) (hz : left.getD l[j] 0 = z) (h0 : 0 < z) (h1 : z ≤ 100000) : RunAt f l L0 (j + 1) (left.set l[j] (z - 1)) := by
  refine ⟨?_, by rw [List.length_set]; exact h.2.1, allB_set h.2.2 (by omega) (by omega)⟩
  rw [h.1, List.drop_eq_getElem_cons hj]
  simp only [runL]
  rw [if_neg (by omega), hz]
theorem RunAt.done {f : List (ByteArray × Int)} {l : List Nat} {L0 left : List Int} (h : RunAt f l L0 l.length left) : runL L0 l = .ok left := by
  rw [h.1, List.drop_length]; rfl
theorem LeftAt.stop {f : List (ByteArray × Int)} {st left : List Int} {ws : List ByteArray} {k i : Nat} (h : LeftAt f st ws k left) (hk : k < ws.length) (hr : runL left (sg f ws[k]) = .error i) : froF f st 0 ws = some (k, i) := by
  rw [h.1, List.drop_eq_getElem_cons hk]
  simp only [froF]
  rw [hr]
theorem LeftAt.next {f : List (ByteArray × Int)} {st left left' : List Int} {ws : List ByteArray} {k : Nat} (h : LeftAt f st ws k left) (hk : k < ws.length) (hr : runL left (sg f ws[k]) = .ok left') (h1 : left'.length = f.length) (h2 : allB 0 100000 left' = true) : LeftAt f st ws (k + 1) left' := by
  refine ⟨?_, h1, h2⟩
  rw [h.1, List.drop_eq_getElem_cons hk]
  simp only [froF]
  rw [hr]
theorem LeftAt.done {f : List (ByteArray × Int)} {st left : List Int} {ws : List ByteArray} (h : LeftAt f st ws ws.length left) : froF f st 0 ws = none := by
  rw [h.1, List.drop_length]; rfl
def fr3 (r : Option (Nat × Nat)) : Ending := .returned (.tuple #[.int .i64 (((r.getD (0, 0)).1 : Nat) : Int), .int .i64 (((r.getD (0, 0)).2 : Nat) : Int), .bool r.isSome])
theorem fr3_no {r : Option (Nat × Nat)} (h : r = none) : Ending.returned (.tuple #[.int .i64 0, .int .i64 0, .bool false]) = fr3 r := by subst h; rfl
theorem fr3_yes {r : Option (Nat × Nat)} {k i : Nat} (h : r = some (k, i)) : Ending.returned (.tuple #[.int .i64 (k : Int), .int .i64 (i : Int), .bool true]) = fr3 r := by subst h; rfl
theorem IntsOff.shift {w1 wo : World} {g0 g : Nat} {A : Option Addr} {l : List Int} (h : IntsOff w1 g0 A l) (hb : Below w1.heap.size w1 wo) (hg : w1.heap.size ≤ g) : IntsOff wo g A l := by
  intro hn
  obtain ⟨b, off, rfl, h1, h2, h3⟩ := h hn
  exact ⟨b, off, rfl, by omega, Nat.lt_of_lt_of_le h2 hb.size, fun k hk => (hb.cell (p := ⟨b, off + k, none⟩) h2).trans (h3 k hk)⟩


end Go.Proofs.YtnbnegkoanidmaaGreatDoor.S1

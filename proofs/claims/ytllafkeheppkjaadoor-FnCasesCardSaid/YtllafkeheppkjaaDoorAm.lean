import Derived.Test.YtllafkeheppkjaaDoorChk
import Derived.OwnWalk
import Derived.Maps.AppendAt
import Derived.Deep.RegionLaw
import Derived.Lib.SliceRun
import Derived.Test.YtllafkeheppkjaaDoorWm
import Derived.Deep.RegionHeld3
import Derived.IntWalk
import Derived.Deep.DeepCutAuto
/-
  The contracts of spec.biNeed, spec.biCopy, spec.biAsked, spec.CountSorts: each answers what the plain words here say and changes nothing that was there.
-/
namespace Go.Proofs.YtllafkeheppkjaaDoor
open Go.RowKit
set_option linter.unusedVariables false

/-- The need, where all words can be set. -/
def canR (f : List (ByteArray × Int)) (ws : List ByteArray) : Option (List Int) := if canB f ws then some (needF f ws) else none
theorem canR_no {f : List (ByteArray × Int)} {ws : List ByteArray} (h : canB f ws = false) : canR f ws = none := by unfold canR; rw [h]; rfl
theorem canR_yes {f : List (ByteArray × Int)} {ws : List ByteArray} (h : canB f ws = true) : canR f ws = some (needF f ws) := by unfold canR; rw [h]; rfl
/-- The row g counts a list of sorts, and nothing else has turned. -/
def CntAt (w : World) (g : Nat) (n : Nat) (L : List Nat) (wr : World) : Prop := Own wr g 3 (intsZ (cntL n L)) ∧ Below w.heap.size w wr
theorem CntAt.step {w wr : World} {g n i : Nat} {L : List Nat} (h : CntAt w g n L wr) (hg : w.heap.size ≤ g) (hi : i < n) : CntAt w g n (L ++ [i]) (wr.setCell ⟨g, i, none⟩ (.int .i64 (((L.count i : Nat) : Int) + 1))) :=
  ⟨by rw [← cntL_snoc L hi]; exact h.1.set i _, h.2.setCell hg _⟩
theorem CntAt.next {w wr w' : World} {g n : Nat} {L : List Nat} (h : CntAt w g n L wr) (hb : Below wr.heap.size wr w') : CntAt w g n L w' := ⟨h.1.next hb, h.2.trans (hb.mono h.2.size)⟩

theorem copyB_no {f : List (ByteArray × Int)} {ws : List ByteArray} (h : fontB f = false ∨ wordsB ws = false ∨ canB f ws = false) : copyB f ws = false := by
  unfold copyB
  rcases h with h | h | h <;> simp [h]
theorem copyB_yes {f : List (ByteArray × Int)} {ws : List ByteArray} (h1 : fontB f = true) (h2 : wordsB ws = true) : copyB f ws = canB f ws := by
  unfold copyB; simp [h1, h2]
theorem needR_can {f : List (ByteArray × Int)} {ws : List ByteArray} (h : copyB f ws = true) : needR f ws = canR f ws := by
  rw [need_yes h, canR_yes (copy_parts h).2.2]

end Go.Proofs.YtllafkeheppkjaaDoor

/-
  The contracts of impl.setCopy and impl.CountSorts: each answers what the plain words here say and changes nothing that was there.
-/
namespace Go.Proofs.YtllafkeheppkjaaDoor
open Go.RowKit
set_option linter.unusedVariables false

theorem IntsOff.next {w w' : World} {g : Nat} {A : Option Addr} {l : List Int} (h : IntsOff w g A l) (hb : Below w.heap.size w w') : IntsOff w' g A l := by
  intro hn
  obtain ⟨b, off, rfl, h1, h2, h3⟩ := h hn
  exact ⟨b, off, rfl, h1, Nat.lt_of_lt_of_le h2 hb.size, fun k hk => (hb.cell (p := ⟨b, off + k, none⟩) h2).trans (h3 k hk)⟩
theorem IntsOff.set {w : World} {g : Nat} {A : Option Addr} {l : List Int} (h : IntsOff w g A l) (i : Nat) (v : Value) : IntsOff (w.setCell ⟨g, i, none⟩ v) g A l := by
  intro hn
  obtain ⟨b, off, rfl, h1, h2, h3⟩ := h hn
  refine ⟨b, off, rfl, h1, by simpa [World.setCell] using h2, fun k hk => ?_⟩
  rw [← h3 k hk]
  have := Below.heap_setCell w ⟨g, i, none⟩ v b h1
  simp only [World.cell?, this]
/-- Row g holds slices; those at the first places read as the lists. -/
def SetsIn (w : World) (g : Nat) (sts : List (List Nat)) (n : Nat) : Prop :=
  ∃ vs : List Value, Own w g 86 vs ∧ vs.length = n ∧ ∀ k (h : k < sts.length), ∃ A c, vs[k]? = some (.slice A sts[k].length c) ∧ IntsOff w g A (intL sts[k])
theorem SetsIn.next {w w' : World} {g n : Nat} {sts : List (List Nat)} (h : SetsIn w g sts n) (hb : Below w.heap.size w w') : SetsIn w' g sts n := by
  obtain ⟨vs, h1, h2, h3⟩ := h
  refine ⟨vs, h1.next hb, h2, fun k hk => ?_⟩
  obtain ⟨A, c, h4, h5⟩ := h3 k hk
  exact ⟨A, c, h4, h5.next hb⟩
theorem SetsIn.step {w : World} {g n c : Nat} {sts : List (List Nat)} {l : List Nat} {A : Option Addr} (h : SetsIn w g sts n) (hl : sts.length < n) (hi : IntsOff w g A (intL l)) (j : Nat) (hj : j = sts.length) : SetsIn (w.setCell ⟨g, j, none⟩ (.slice A l.length c)) g (sts ++ [l]) n := by
  subst hj
  obtain ⟨vs, h1, h2, h3⟩ := h
  refine ⟨_, h1.set sts.length _, by simpa using h2, fun k hk => ?_⟩
  by_cases hkl : k = sts.length
  · subst hkl
    refine ⟨A, c, ?_, ?_⟩
    · rw [List.getElem?_set_self (by omega)]; simp
    · simpa using hi.set _ _
  · have hk' : k < sts.length := by simp at hk; omega
    obtain ⟨A', c', h4, h5⟩ := h3 k hk'
    refine ⟨A', c', ?_, ?_⟩
    · rw [List.getElem?_set_ne (by omega), h4, List.getElem_append_left hk']
    · rw [List.getElem_append_left hk']; exact h5.set _ _
theorem SetsIn.at_ {w : World} {g n k : Nat} {sts : List (List Nat)} (h : SetsIn w g sts n) (hk : k < n) : (∃ u, w.cell? ⟨g, k, none⟩ = some u) ∧ w.frozen? ⟨g, k, none⟩ = false := by
  obtain ⟨vs, h1, h2, h3⟩ := h
  exact ⟨⟨_, (h1.cell k).trans (List.getElem?_eq_getElem (by omega))⟩, h1.free k⟩

noncomputable def copyR (f : List (ByteArray × Int)) (ws : List ByteArray) : Option (List (List Nat)) := if copyB f ws then some (ws.map (sg f)) else none
theorem copyR_no {f : List (ByteArray × Int)} {ws : List ByteArray} (h : copyB f ws = false) : copyR f ws = none := by unfold copyR; rw [h]; rfl
theorem copyR_yes {f : List (ByteArray × Int)} {ws : List ByteArray} (h : copyB f ws = true) : copyR f ws = some (ws.map (sg f)) := by unfold copyR; rw [h]; rfl
def CopyTo (w w' : World) (e : Ending) (r : Option (List (List Nat))) : Prop := Below w.heap.size w w' ∧
  match r with
  | none => e = .returned (.tuple #[.slice none 0 0, .bool false])
  | some sts => ∃ g, e = .returned (.tuple #[.slice (some ⟨g, 0, none⟩) sts.length sts.length, .bool true]) ∧ w.heap.size ≤ g ∧ SetsIn w' g sts sts.length
theorem CopyTo.no {w w' : World} {r : Option (List (List Nat))} (h : r = none) (hb : Below w.heap.size w w') : CopyTo w w' (.returned (.tuple #[.slice none 0 0, .bool false])) r := by subst h; exact ⟨hb, rfl⟩
theorem CopyTo.yes {w w' : World} {r : Option (List (List Nat))} {sts : List (List Nat)} {n g : Nat} (h : r = some sts) (hn : sts.length = n) (hb : Below w.heap.size w w') (hg : w.heap.size ≤ g) (hs : SetsIn w' g sts n) : CopyTo w w' (.returned (.tuple #[.slice (some ⟨g, 0, none⟩) n n, .bool true])) r := by
  subst h hn; exact ⟨hb, g, rfl, hg, hs⟩

theorem infoSl : (Tryd.prog.info? 86).map (fun i => (i.zero, i.size, i.bytes)) = some (some (.slice none 0 0), 1, 24) := by kernel_rfl
theorem SetsIn.made (w : World) (n : Nat) : SetsIn (w.alloc (.cells (madeCells #[.slice none 0 0] (n * 1)) 86)) w.heap.size [] n :=
  ⟨List.replicate n (.slice none 0 0), by unfold Own; rw [heap_new, Nat.mul_one, ← toList_madeCells_one], by simp, fun k h => absurd h (by simp)⟩
theorem sow_word {f : List (ByteArray × Int)} {s : ByteArray} (h1 : fontB f = true) (h2 : isWordF s = true) : sowF f s = setW f s := sow_of_font (by rw [h1, h2]; rfl)
theorem words_isWord {ws : List ByteArray} {j : Nat} (h : wordsB ws = true) (hj : j < ws.length) : isWordF ws[j] = true := by
  unfold wordsB at h
  simp only [Bool.and_eq_true] at h
  exact List.all_eq_true.1 h.2 _ (List.getElem_mem hj)

end Go.Proofs.YtllafkeheppkjaaDoor

/-
  The contracts of IsEnough, in spec and in impl: each answers what the plain words here say and changes nothing that was there.
-/
namespace Go.Proofs.YtllafkeheppkjaaDoor
open Go.RowKit
set_option linter.unusedVariables false

/-- No need is greater than the stock. -/
def enB (need st : List Int) : Bool := (List.range need.length).all fun i => decide (need.getD i 0 ≤ st.getD i 0)
def enTo (need st : List Int) (k : Nat) : Prop := ∀ j, j < k → need.getD j 0 ≤ st.getD j 0
theorem getD_of {l : List Int} {k : Nat} (h : k < l.length) : l.getD k 0 = l[k] := by rw [List.getD_eq_getElem?_getD, List.getElem?_eq_getElem h]; rfl
theorem enTo_succ {need st : List Int} {k : Nat} (h : enTo need st k) (h1 : k < need.length) (h2 : k < st.length) (hk : need[k] ≤ st[k]) : enTo need st (k + 1) := by
  intro j hj
  rcases Nat.lt_or_ge j k with h3 | h3
  · exact h j h3
  · obtain rfl : j = k := by omega
    rw [getD_of h1, getD_of h2]; exact hk
theorem enB_yes {need st : List Int} (h : enTo need st need.length) : enB need st = true := by
  unfold enB; rw [List.all_eq_true]; intro i hi; exact decide_eq_true (h i (List.mem_range.1 hi))
theorem enB_no {need st : List Int} {k : Nat} (h1 : k < need.length) (h2 : k < st.length) (hk : st[k] < need[k]) : enB need st = false := by
  unfold enB; rw [List.all_eq_false]; exact ⟨k, List.mem_range.2 h1, by rw [getD_of h1, getD_of h2]; simpa using hk⟩
noncomputable def askB (f : List (ByteArray × Int)) (st : List Int) (ws : List ByteArray) : Bool := copyB f ws && stockB f st
theorem askB_no {f : List (ByteArray × Int)} {st : List Int} {ws : List ByteArray} (h : copyB f ws = false ∨ stockB f st = false) : askB f st ws = false := by
  unfold askB; rcases h with h | h <;> simp [h]
theorem askB_parts {f : List (ByteArray × Int)} {st : List Int} {ws : List ByteArray} (h : askB f st ws = true) : copyB f ws = true ∧ stockB f st = true := by
  unfold askB at h; simpa using h
theorem IntsTo.some {w w' : World} {e : Ending} {r : Option (List Int)} {l : List Int} (h : IntsTo w w' e r) (hr : r = some l) : ∃ A c, e = .returned (.tuple #[.slice A l.length c, .bool true]) ∧ Below w.heap.size w w' ∧ w'.ownsRow w.heap.size 3 1 (.slice A l.length c) l.length (intsZ l) := by
  subst hr
  obtain ⟨v, he, hb, ho⟩ := h
  obtain ⟨A, c, rfl⟩ := own_form ho
  exact ⟨A, c, he, hb, ho⟩
theorem IntsTo.none {w w' : World} {e : Ending} {r : Option (List Int)} (h : IntsTo w w' e r) (hr : r = none) : ∃ v, e = .returned (.tuple #[v, .bool false]) ∧ Below w.heap.size w w' := by
  subst hr
  obtain ⟨v, he, hb, ho⟩ := h
  exact ⟨v, he, hb⟩
theorem need_stock {f : List (ByteArray × Int)} {st : List Int} {ws : List ByteArray} (h : askB f st ws = true) : (needF f ws).length = f.length ∧ st.length = f.length ∧ f.length ≤ 32 ∧ 1 ≤ f.length ∧ (∀ i (h : i < (needF f ws).length), 0 ≤ (needF f ws)[i] ∧ (needF f ws)[i] ≤ 640) ∧ allB 0 100000 st = true := by
  obtain ⟨h1, h2⟩ := askB_parts h
  obtain ⟨hF, hw, _⟩ := copy_parts h1
  exact ⟨needF_len f ws, (stock_parts h2).1, hF.2.2, hF.2.1, fun i hi => needF_bound hw hi, (stock_parts h2).2⟩
def ret2b (a b : Bool) : Ending := .returned (.tuple #[.bool a, .bool b])
theorem ret2b_eq {a a' b b' : Bool} (h1 : a = a') (h2 : b = b') : Ending.returned (.tuple #[.bool a, .bool b]) = ret2b a' b' := by rw [h1, h2]; rfl

end Go.Proofs.YtllafkeheppkjaaDoor

/-
  The contracts of spec.l1Own, slices.Clone at ints, and of FirstRunOut, in spec and in impl: each answers what the plain words here say and changes nothing that was there.
-/
namespace Go.Proofs.YtllafkeheppkjaaDoor
open Go.RowKit
set_option linter.unusedVariables false

theorem own_noneI (w : World) {g base : Nat} {e : TypeId} (h : w.heap[g]? = some (.cells #[] e (0, 0))) (hb : base ≤ g) : w.ownsRow base e 1 (.slice (some ⟨g, 0, none⟩) 0 0) 0 [] :=
  ⟨rfl, .inr ⟨g, 0, #[], rfl, hb, h, Nat.le_refl _, Nat.zero_le _, rfl, rfl⟩⟩
theorem add_flatI (b off k : Nat) : (⟨b, off, none⟩ : Addr).add k = ⟨b, off + k, none⟩ := by
  unfold Addr.add
  by_cases hk : k = 0 <;> simp [hk]
def OwnTo (w w' : World) (e : Ending) (l : List Int) : Prop := ∃ v, e = .returned v ∧ Below w.heap.size w w' ∧ w'.ownsRow w.heap.size 3 1 v l.length (intsZ l)
theorem intsZ_one (l : List Int) : ∀ u ∈ intsZ l, u.oneCell' = true := by
  intro u hu
  simp only [intsZ, List.mem_map] at hu
  obtain ⟨x, _, rfl⟩ := hu
  rfl
theorem news_ints {w : World} {b off : Nat} {l : List Int} (hc : ∀ k (h : k < l.length), w.cell? ⟨b, off + k, none⟩ = some (.int .i64 l[k])) : ∀ j u, (intsZ l)[j]? = some u → w.cell? ((⟨b, off, none⟩ : Addr).add j) = some u := by
  intro j u hu
  rw [add_flatI]
  have hj : j < l.length := by
    rcases Nat.lt_or_ge j l.length with h | h
    · exact h
    · rw [List.getElem?_eq_none (by rw [intsZ_len]; exact h)] at hu; cases hu
  rw [intsZ_at hj] at hu
  rw [hc j hj]; exact hu

theorem own_marked {w : World} {base n : Nat} {e : TypeId} {v : Value} {xs : List Value} (h : w.ownsRow base e 1 v n xs) (hn : 0 < n) : ∃ g cap, v = .slice (some ⟨g, 0, none⟩) n cap ∧ base ≤ g ∧ n ≤ cap ∧ Marked w g e cap xs := by
  rcases h.2 with ⟨rfl, h0⟩ | ⟨g, cap, cur, rfl, hg, hh, h1, h2, h3, h4⟩
  · omega
  · have hl := h.1
    exact ⟨g, cap, rfl, hg, h1, cur, hh, by simpa using h3, by rw [hl]; exact h4⟩
theorem Marked.put {w : World} {g cap j : Nat} {e : TypeId} {l : List Value} (h : Marked w g e cap l) (u : Value) : Marked (w.setCell ⟨g, j, none⟩ u) g e cap (l.set j u) := by
  obtain ⟨cur, h1, h2, h3⟩ := h
  refine ⟨_, heap_set h1 u, by simpa using h2, ?_⟩
  rw [List.length_set, Array.toList_setIfInBounds, List.take_set, h3]
theorem Marked.cellAt {w : World} {g cap j : Nat} {e : TypeId} {l : List Value} (h : Marked w g e cap l) (hj : j < l.length) : w.cell? ⟨g, j, none⟩ = some l[j] := by
  obtain ⟨cur, h1, h2, h3⟩ := h
  rw [cell_of_heap h1, ← Array.getElem?_toList, ← List.getElem?_eq_getElem hj]
  conv => rhs; rw [← h3]
  rw [List.getElem?_take_of_lt hj]
theorem Marked.freeAt {w : World} {g cap : Nat} {e : TypeId} {l : List Value} (h : Marked w g e cap l) (j : Nat) : w.frozen? ⟨g, j, none⟩ = false := by
  obtain ⟨cur, h1, _⟩ := h
  exact free_of_heap h1 j
theorem Marked.next {w w' : World} {g cap : Nat} {e : TypeId} {l : List Value} (h : Marked w g e cap l) (hb : Below w.heap.size w w') : Marked w' g e cap l := h.below hb
theorem Marked.ltG {w : World} {g cap : Nat} {e : TypeId} {l : List Value} (h : Marked w g e cap l) : g < w.heap.size := by
  obtain ⟨cur, h1, _⟩ := h
  exact lt_of_heap h1

/-- Types are taken one after the other: the first sort of which there is none, or what is left. -/
def runL : List Int → List Nat → Except Nat (List Int)
  | left, [] => .ok left
  | left, i :: r => if left.getD i 0 = 0 then .error i else runL (left.set i (left.getD i 0 - 1)) r
def froF (f : List (ByteArray × Int)) : List Int → Nat → List ByteArray → Option (Nat × Nat)
  | _, _, [] => none
  | left, k, s :: r => match runL left (sg f s) with
    | .error i => some (k, i)
    | .ok left' => froF f left' (k + 1) r
noncomputable def frR (f : List (ByteArray × Int)) (st : List Int) (ws : List ByteArray) : Option (Nat × Nat) := if askB f st ws then froF f st 0 ws else none
theorem fr_no {f : List (ByteArray × Int)} {st : List Int} {ws : List ByteArray} (h : askB f st ws = false) : frR f st ws = none := by unfold frR; rw [h]; rfl
theorem fr_yes {f : List (ByteArray × Int)} {st : List Int} {ws : List ByteArray} (h : askB f st ws = true) : frR f st ws = froF f st 0 ws := by unfold frR; rw [h]; rfl
/-- What is left after the first k words; after j types of the next word. -/
def LeftAt (f : List (ByteArray × Int)) (st : List Int) (ws : List ByteArray) (k : Nat) (left : List Int) : Prop := froF f st 0 ws = froF f left k (ws.drop k) ∧ left.length = f.length ∧ allB 0 100000 left = true
def RunAt (f : List (ByteArray × Int)) (l : List Nat) (L0 : List Int) (j : Nat) (left : List Int) : Prop := runL L0 l = runL left (l.drop j) ∧ left.length = f.length ∧ allB 0 100000 left = true
theorem RunAt.zero {f : List (ByteArray × Int)} {l : List Nat} {L0 : List Int} (h1 : L0.length = f.length) (h2 : allB 0 100000 L0 = true) : RunAt f l L0 0 L0 := ⟨by rw [List.drop_zero], h1, h2⟩
theorem RunAt.stop {f : List (ByteArray × Int)} {l : List Nat} {L0 left : List Int} {j : Nat} (h : RunAt f l L0 j left) (hj : j < l.length) (hz : left.getD l[j] 0 = 0) : runL L0 l = .error l[j] := by
  rw [h.1, List.drop_eq_getElem_cons hj]
  simp only [runL]
  rw [if_pos hz]
theorem allB_set {left : List Int} {i : Nat} {z : Int} (h : allB 0 100000 left = true) (h0 : 0 ≤ z) (h1 : z ≤ 100000) : allB 0 100000 (left.set i z) = true := by
  unfold allB at *
  rw [List.all_eq_true] at *
  intro x hx
  rcases List.mem_or_eq_of_mem_set hx with h2 | rfl
  · exact h x h2
  · simp [inB, h0, h1]
theorem RunAt.next {f : List (ByteArray × Int)} {l : List Nat} {L0 left : List Int} {j : Nat} {z : Int} (h : RunAt f l L0 j left) (hj : j < l.length) (hz : left.getD l[j] 0 = z) (h0 : 0 < z) (h1 : z ≤ 100000) : RunAt f l L0 (j + 1) (left.set l[j] (z - 1)) := by
  refine ⟨?_, by rw [List.length_set]; exact h.2.1, allB_set h.2.2 (by omega) (by omega)⟩
  rw [h.1, List.drop_eq_getElem_cons hj]
  simp only [runL]
  rw [if_neg (by omega), hz]
theorem RunAt.done {f : List (ByteArray × Int)} {l : List Nat} {L0 left : List Int} (h : RunAt f l L0 l.length left) : runL L0 l = .ok left := by
  rw [h.1, List.drop_length]; rfl
theorem LeftAt.stop {f : List (ByteArray × Int)} {st left : List Int} {ws : List ByteArray} {k i : Nat} (h : LeftAt f st ws k left) (hk : k < ws.length) (hr : runL left (sg f ws[k]) = .error i) : froF f st 0 ws = some (k, i) := by
  rw [h.1, List.drop_eq_getElem_cons hk]
  simp only [froF]
  rw [hr]
theorem LeftAt.next {f : List (ByteArray × Int)} {st left left' : List Int} {ws : List ByteArray} {k : Nat} (h : LeftAt f st ws k left) (hk : k < ws.length) (hr : runL left (sg f ws[k]) = .ok left') (h1 : left'.length = f.length) (h2 : allB 0 100000 left' = true) : LeftAt f st ws (k + 1) left' := by
  refine ⟨?_, h1, h2⟩
  rw [h.1, List.drop_eq_getElem_cons hk]
  simp only [froF]
  rw [hr]
theorem LeftAt.done {f : List (ByteArray × Int)} {st left : List Int} {ws : List ByteArray} (h : LeftAt f st ws ws.length left) : froF f st 0 ws = none := by
  rw [h.1, List.drop_length]; rfl
def fr3 (r : Option (Nat × Nat)) : Ending := .returned (.tuple #[.int .i64 (((r.getD (0, 0)).1 : Nat) : Int), .int .i64 (((r.getD (0, 0)).2 : Nat) : Int), .bool r.isSome])
theorem fr3_no {r : Option (Nat × Nat)} (h : r = none) : Ending.returned (.tuple #[.int .i64 0, .int .i64 0, .bool false]) = fr3 r := by subst h; rfl
theorem fr3_yes {r : Option (Nat × Nat)} {k i : Nat} (h : r = some (k, i)) : Ending.returned (.tuple #[.int .i64 (k : Int), .int .i64 (i : Int), .bool true]) = fr3 r := by subst h; rfl
theorem IntsOff.shift {w1 wo : World} {g0 g : Nat} {A : Option Addr} {l : List Int} (h : IntsOff w1 g0 A l) (hb : Below w1.heap.size w1 wo) (hg : w1.heap.size ≤ g) : IntsOff wo g A l := by
  intro hn
  obtain ⟨b, off, rfl, h1, h2, h3⟩ := h hn
  exact ⟨b, off, rfl, by omega, Nat.lt_of_lt_of_le h2 hb.size, fun k hk => (hb.cell (p := ⟨b, off + k, none⟩) h2).trans (h3 k hk)⟩


end Go.Proofs.YtllafkeheppkjaaDoor

/-
  The contracts of spec.caSwap, spec.SwapBoxes, impl.boxesAsGiven, slices.Clone at placed boxes, impl.withSwap and impl.SwapBoxes.
-/
namespace Go.Proofs.YtllafkeheppkjaaDoor
open Go.RowKit
set_option linter.unusedVariables false

/-- Two boxes have exchanged their places. -/
def swapL (l : List Bx) (a b : Nat) : List Bx :=
  let p := l.getD a default; let q := l.getD b default
  let l1 := l.set a { p with row := q.row, col := q.col }
  l1.set b { l1.getD b default with row := p.row, col := p.col }
theorem swapL_len (l : List Bx) (a b : Nat) : (swapL l a b).length = l.length := by simp [swapL]
theorem getD_at {l : List Bx} {a : Nat} (h : a < l.length) : l.getD a default = l[a] := by
  rw [List.getD_eq_getElem?_getD, List.getElem?_eq_getElem h]; rfl
theorem swapL_cod {l : List Bx} {a b : Nat} (ha : a < l.length) (hb : b < l.length) : (swapL l a b).map Bx.cod = l.map Bx.cod := by
  apply List.ext_getElem
  · simp [swapL]
  · intro k h1 h2
    simp only [List.getElem_map, swapL, getD_at ha, getD_at hb]
    rw [List.getElem_set]
    split
    · rename_i e
      subst e
      rw [getD_at (by simpa using hb), List.getElem_set]
      split
      · rename_i e; subst e; rfl
      · rfl
    · rw [List.getElem_set]
      split
      · rename_i e; subst e; rfl
      · rfl
theorem swapL_sf {l : List Bx} {a b : Nat} (ha : a < l.length) (hb : b < l.length) : sf (swapL l a b) = sf l := sf_swap (swapL_cod ha hb)
theorem swapL_caI {l : List Bx} {a b : Nat} (ha : a < l.length) (hb : b < l.length) (c : ByteArray) : caI (swapL l a b) c = caI l c := by unfold caI; rw [swapL_sf ha hb]
/-- The place of box k behind the exchange. -/
theorem swapL_at {l : List Bx} {a b : Nat} (ha : a < l.length) (hb : b < l.length) {k : Nat} (h : k < (swapL l a b).length) : ∃ j, ∃ hj : j < l.length, (swapL l a b)[k].row = l[j].row ∧ (swapL l a b)[k].col = l[j].col := by
  simp only [swapL, getD_at ha, getD_at hb]
  rw [List.getElem_set]
  split
  · exact ⟨a, ha, rfl, rfl⟩
  · rw [List.getElem_set]
    split
    · exact ⟨b, hb, rfl, rfl⟩
    · exact ⟨k, by rwa [swapL_len] at h, rfl, rfl⟩
theorem swapL_places {l : List Bx} {a b : Nat} (ha : a < l.length) (hb : b < l.length) (hp : Places l) : Places (swapL l a b) := by
  intro k hk
  obtain ⟨j, hj, e1, e2⟩ := swapL_at ha hb hk
  rw [e1, e2]
  exact hp j hj

def BxTo (w w' : World) (e : Ending) (l : List Bx) : Prop := ∃ v, e = .returned v ∧ Below w.heap.size w w' ∧ w'.ownsRow w.heap.size 40 4 v l.length (flatBx l)
def BxsTo (w w' : World) (e : Ending) (r : Option (List Bx)) : Prop :=
  ∃ v, e = .returned (.tuple #[v, .bool r.isSome]) ∧ Below w.heap.size w w' ∧ w'.ownsRow w.heap.size 40 4 v (r.getD []).length (flatBx (r.getD []))
theorem BxsTo.no {w w' : World} {r : Option (List Bx)} (h : r = none) (hb : Below w.heap.size w w') : BxsTo w w' (.returned (.tuple #[.slice none 0 0, .bool false])) r := by subst h; exact ⟨_, rfl, hb, own_nil _ _ _ _⟩
theorem own_none4 (w : World) {g base : Nat} {e : TypeId} (h : w.heap[g]? = some (.cells #[] e (0, 0))) (hb : base ≤ g) : w.ownsRow base e 4 (.slice (some ⟨g, 0, none⟩) 0 0) 0 [] :=
  ⟨rfl, .inr ⟨g, 0, #[], rfl, hb, h, Nat.le_refl _, Nat.zero_le _, rfl, rfl⟩⟩
theorem flatBx_one (l : List Bx) : ∀ u ∈ flatBx l, u.oneCell' = true := by
  intro u hu
  simp only [flatBx, List.mem_flatMap] at hu
  obtain ⟨x, _, hx⟩ := hu
  simp only [Bx.vals, List.mem_cons, List.not_mem_nil, or_false] at hx
  rcases hx with rfl | rfl | rfl | rfl <;> rfl
theorem flatPb_one (l : List Bx) : ∀ u ∈ flatPb l, u.oneCell' = true := by
  intro u hu
  simp only [flatPb, List.mem_flatMap] at hu
  obtain ⟨x, _, hx⟩ := hu
  simp only [Bx.pvals, List.mem_cons, List.not_mem_nil, or_false] at hx
  rcases hx with rfl | rfl | rfl | rfl <;> rfl
theorem news4 {w : World} {b off : Nat} {xs : List Value} {n : Nat} (hlen : xs.length = 4 * n) (hg : ∀ k j, k < n → j < 4 → ∀ u, xs[k * 4 + j]? = some u → w.cell? ⟨b, off + k * 4 + j, none⟩ = some u) :
    ∀ j u, xs[j]? = some u → w.cell? ((⟨b, off, none⟩ : Addr).add j) = some u := by
  intro j u hu
  rw [add_flatI]
  have hj : j < xs.length := by
    rcases Nat.lt_or_ge j xs.length with h | h
    · exact h
    · rw [List.getElem?_eq_none h] at hu; cases hu
  have e : j = j / 4 * 4 + j % 4 := by omega
  rw [e] at hu
  have := hg (j / 4) (j % 4) (by omega) (by omega) u hu
  rw [show off + j = off + j / 4 * 4 + j % 4 from by omega]
  exact this
theorem newsBx {w : World} {b off : Nat} {l : List Bx} (hc : ∀ k (h : k < l.length), w.cell? ⟨b, off + k * 4, none⟩ = some (.string l[k].cod) ∧ w.cell? ⟨b, off + k * 4 + 1, none⟩ = some (.int .i64 l[k].row) ∧ w.cell? ⟨b, off + k * 4 + 2, none⟩ = some (.int .i64 l[k].col) ∧ w.cell? ⟨b, off + k * 4 + 3, none⟩ = some (.int .i64 l[k].cnt)) :
    ∀ j u, (flatBx l)[j]? = some u → w.cell? ((⟨b, off, none⟩ : Addr).add j) = some u := news4 (flatBx_len l) fun k j hk hj u hu => by
  obtain ⟨h0, h1, h2, h3⟩ := hc k hk
  obtain ⟨g0, g1, g2, g3⟩ := flatBx_get l k hk
  rcases (by omega : j = 0 ∨ j = 1 ∨ j = 2 ∨ j = 3) with rfl | rfl | rfl | rfl
  · rw [Nat.add_zero, g0] at hu; rw [Nat.add_zero, h0]; exact hu
  · rw [g1] at hu; rw [h1]; exact hu
  · rw [g2] at hu; rw [h2]; exact hu
  · rw [g3] at hu; rw [h3]; exact hu
theorem newsPb {w : World} {b off : Nat} {l : List Bx} (hc : ∀ k (h : k < l.length), w.cell? ⟨b, off + k * 4, none⟩ = some (.int .i64 l[k].row) ∧ w.cell? ⟨b, off + k * 4 + 1, none⟩ = some (.int .i64 l[k].col) ∧ w.cell? ⟨b, off + k * 4 + 2, none⟩ = some (.string l[k].cod) ∧ w.cell? ⟨b, off + k * 4 + 3, none⟩ = some (.int .i64 l[k].cnt)) :
    ∀ j u, (flatPb l)[j]? = some u → w.cell? ((⟨b, off, none⟩ : Addr).add j) = some u := news4 (flatPb_len l) fun k j hk hj u hu => by
  obtain ⟨h0, h1, h2, h3⟩ := hc k hk
  obtain ⟨g0, g1, g2, g3⟩ := flatPb_get l k hk
  rcases (by omega : j = 0 ∨ j = 1 ∨ j = 2 ∨ j = 3) with rfl | rfl | rfl | rfl
  · rw [Nat.add_zero, g0] at hu; rw [Nat.add_zero, h0]; exact hu
  · rw [g1] at hu; rw [h1]; exact hu
  · rw [g2] at hu; rw [h2]; exact hu
  · rw [g3] at hu; rw [h3]; exact hu

set_option maxRecDepth 100000 in
theorem clonePb_any (l : List Bx) (A : Option Addr) (c : Nat) (w : World) (hf : PbsIn w A l) (h0 : 0 < l.length) (hn : l.length ≤ 1048576) :
    Calls Tryd.prog 74 #[.slice A l.length c] w fun e w' => PbTo w w' e l := by
  have qT : ∀ (w : World) (a : Option Addr) (n c n' c' : Nat), (binOp .eql 89 (.slice a n c) (.slice none n' c')).run Tryd.prog w = .ok (.bool a.isNone) w := fun w a n c n' c' => Lib.run_eql_slice_nil w _ _ a n c n' c' Tryd.underlying89
  have hf' := hf.next ((Below.refl w.heap.size w).alloc (Nat.le_refl _) (.cells #[] 75))
  obtain ⟨b, off, rfl, hbl, hc'⟩ := hf' h0
  obtain ⟨i0, hi, hz0, hz1, hz2⟩ := info_parts infoPb
  have HI0 := Lib.hid hi; have HZ0 := Lib.hid hz0; have HZ1 := Lib.hid hz1; have HZ2 := Lib.hid hz2
  clear hi hz0 hz1 hz2
  have HNW := Lib.hid (newsPb hc')
  have HOW : Hid ((w.alloc (.cells #[] 75)).ownsRow w.heap.size 75 4 (.slice (some ⟨w.heap.size, 0, none⟩) 0 0) 0 []) := Lib.hid (own_none4 _ (heap_new _ _) (Nat.le_refl _))
  have hmx : 0 + l.length ≤ maxLen := by unfold maxLen; omega
  clear hc' hf hf'
  go_enter Tryd.func74, Tryd.ntmps74
  go_wp2_with (at_builtin; refine wpList_append_own _ rfl _ _ 89 rfl w.heap.size 75 i0 (.agg #[.int .i64 0, .int .i64 0, .string .empty, .int .i64 0]) 4 40 Tryd.underlying89 HI0.out HZ0.out HZ1.out HZ2.out rfl (by decide) _ _ _ rfl HOW.out ⟨b, off, none⟩ l.length c (flatPb l) rfl (by rw [flatPb_len]; omega) HNW.out (flatPb_one l) hmx (by omega) (by simp) ?_)
  intro v' w4 hown' hgrow _
  have HB1 : Hid (Below w.heap.size w w4) := Lib.hid (((Below.refl _ _).alloc (Nat.le_refl _) _).grown hgrow (by simp) (own_lt HOW.out))
  have HO : Hid (w4.ownsRow w.heap.size 75 4 v' l.length (flatPb l)) := Lib.hid (by simpa using hown')
  clear hown' hgrow
  go_wp2
  go_ret
  exact ⟨_, rfl, HB1.out, HO.out⟩
set_option maxRecDepth 100000 in
theorem cloneBx_any (l : List Bx) (A : Option Addr) (c : Nat) (w : World) (hf : BxsIn w A l) (h0 : 0 < l.length) (hn : l.length ≤ 1048576) :
    Calls Tryd.prog 66 #[.slice A l.length c] w fun e w' => BxTo w w' e l := by
  have qT : ∀ (w : World) (a : Option Addr) (n c n' c' : Nat), (binOp .eql 26 (.slice a n c) (.slice none n' c')).run Tryd.prog w = .ok (.bool a.isNone) w := fun w a n c n' c' => Lib.run_eql_slice_nil w _ _ a n c n' c' Tryd.underlying26
  have hf' := hf.next ((Below.refl w.heap.size w).alloc (Nat.le_refl _) (.cells #[] 40))
  obtain ⟨b, off, rfl, hbl, hc'⟩ := hf' h0
  obtain ⟨i0, hi, hz0, hz1, hz2⟩ := info_parts infoBx
  have HI0 := Lib.hid hi; have HZ0 := Lib.hid hz0; have HZ1 := Lib.hid hz1; have HZ2 := Lib.hid hz2
  clear hi hz0 hz1 hz2
  have HNW := Lib.hid (newsBx hc')
  have HOW : Hid ((w.alloc (.cells #[] 40)).ownsRow w.heap.size 40 4 (.slice (some ⟨w.heap.size, 0, none⟩) 0 0) 0 []) := Lib.hid (own_none4 _ (heap_new _ _) (Nat.le_refl _))
  have hmx : 0 + l.length ≤ maxLen := by unfold maxLen; omega
  clear hc' hf hf'
  go_enter Tryd.func66, Tryd.ntmps66
  go_wp2_with (at_builtin; refine wpList_append_own _ rfl _ _ 26 rfl w.heap.size 40 i0 (.agg #[.string .empty, .int .i64 0, .int .i64 0, .int .i64 0]) 4 40 Tryd.underlying26 HI0.out HZ0.out HZ1.out HZ2.out rfl (by decide) _ _ _ rfl HOW.out ⟨b, off, none⟩ l.length c (flatBx l) rfl (by rw [flatBx_len]; omega) HNW.out (flatBx_one l) hmx (by omega) (by simp) ?_)
  intro v' w4 hown' hgrow _
  have HB1 : Hid (Below w.heap.size w w4) := Lib.hid (((Below.refl _ _).alloc (Nat.le_refl _) _).grown hgrow (by simp) (own_lt HOW.out))
  have HO : Hid (w4.ownsRow w.heap.size 40 4 v' l.length (flatBx l)) := Lib.hid (by simpa using hown')
  clear hown' hgrow
  go_wp2
  go_ret
  exact ⟨_, rfl, HB1.out, HO.out⟩
end Go.Proofs.YtllafkeheppkjaaDoor

/-
  The contracts of spec.caSwap, spec.SwapBoxes.
-/
namespace Go.Proofs.YtllafkeheppkjaaDoor
open Go.RowKit
set_option linter.unusedVariables false

theorem flatBx_row : ∀ (l : List Bx) (k : Nat) (h : k < l.length) (z : Int), (flatBx l).set (k * 4 + 1) (.int .i64 z) = flatBx (l.set k { l[k] with row := z })
  | x :: r, 0, _, z => rfl
  | x :: r, k + 1, h, z => by
    have ih := flatBx_row r k (by simpa using h) z
    have e : ∀ y : Bx, ∀ q : List Bx, flatBx (y :: q) = .string y.cod :: .int .i64 y.row :: .int .i64 y.col :: .int .i64 y.cnt :: flatBx q := fun _ _ => rfl
    rw [e, show (k + 1) * 4 + 1 = k * 4 + 1 + 1 + 1 + 1 + 1 from by omega]
    simp only [List.set_cons_succ, ih, List.getElem_cons_succ, e]
theorem flatBx_col : ∀ (l : List Bx) (k : Nat) (h : k < l.length) (z : Int), (flatBx l).set (k * 4 + 2) (.int .i64 z) = flatBx (l.set k { l[k] with col := z })
  | x :: r, 0, _, z => rfl
  | x :: r, k + 1, h, z => by
    have ih := flatBx_col r k (by simpa using h) z
    have e : ∀ y : Bx, ∀ q : List Bx, flatBx (y :: q) = .string y.cod :: .int .i64 y.row :: .int .i64 y.col :: .int .i64 y.cnt :: flatBx q := fun _ _ => rfl
    rw [e, show (k + 1) * 4 + 2 = k * 4 + 2 + 1 + 1 + 1 + 1 from by omega]
    simp only [List.set_cons_succ, ih, List.getElem_cons_succ, e]
theorem flatBx_cnt : ∀ (l : List Bx) (k : Nat) (h : k < l.length) (z : Int), (flatBx l).set (k * 4 + 3) (.int .i64 z) = flatBx (l.set k { l[k] with cnt := z })
  | x :: r, 0, _, z => rfl
  | x :: r, k + 1, h, z => by
    have ih := flatBx_cnt r k (by simpa using h) z
    have e : ∀ y : Bx, ∀ q : List Bx, flatBx (y :: q) = .string y.cod :: .int .i64 y.row :: .int .i64 y.col :: .int .i64 y.cnt :: flatBx q := fun _ _ => rfl
    rw [e, show (k + 1) * 4 + 3 = k * 4 + 3 + 1 + 1 + 1 + 1 from by omega]
    simp only [List.set_cons_succ, ih, List.getElem_cons_succ, e]
theorem own4_marked {w : World} {base n : Nat} {e : TypeId} {v : Value} {xs : List Value} (h : w.ownsRow base e 4 v n xs) (hn : 0 < n) : ∃ g cap, v = .slice (some ⟨g, 0, none⟩) n cap ∧ base ≤ g ∧ n ≤ cap ∧ cap ≤ maxLen ∧ Marked w g e (cap * 4) xs := by
  rcases h.2 with ⟨rfl, h0⟩ | ⟨g, cap, cur, rfl, hg, hh, h1, h2, h3, h4⟩
  · omega
  · have hl := h.1
    exact ⟨g, cap, rfl, hg, h1, h2, cur, hh, by simpa using h3, by rw [hl]; exact h4⟩
theorem Marked.own4 {w : World} {g cap base n : Nat} {e : TypeId} {xs : List Value} (h : Marked w g e (cap * 4) xs) (hb : base ≤ g) (hn : xs.length = n * 4) (h1 : n ≤ cap) (h2 : cap ≤ maxLen) : w.ownsRow base e 4 (.slice (some ⟨g, 0, none⟩) n cap) n xs := by
  obtain ⟨cur, g1, g2, g3⟩ := h
  exact ⟨hn, .inr ⟨g, cap, cur, rfl, hb, g1, h1, h2, g2, by rw [← hn]; exact g3⟩⟩
/-- The four stores of an exchange. -/
theorem swapL_flat {l : List Bx} {a b : Nat} (ha : a < l.length) (hb : b < l.length) :
    ((((flatBx l).set (a * 4 + 1) (.int .i64 l[b].row)).set (a * 4 + 2) (.int .i64 l[b].col)).set (b * 4 + 1) (.int .i64 l[a].row)).set (b * 4 + 2) (.int .i64 l[a].col) = flatBx (swapL l a b) := by
  rw [flatBx_row l a ha, flatBx_col _ a (by simpa using ha), flatBx_row _ b (by simpa using hb), flatBx_col _ b (by simpa using hb)]
  congr 1
  simp only [swapL, getD_at ha, getD_at hb, List.set_set, List.getElem_set_self]
  rw [getD_at (by simpa using hb)]

set_option maxRecDepth 100000 in
set_option maxHeartbeats 2000000 in
theorem caSwap_any (l : List Bx) (A : Option Addr) (c : Nat) (a b : Nat) (w : World) (hf : BxsIn w A l) (hn : l.length ≤ 1048576) (ha : a < l.length) (hb : b < l.length) :
    Calls Tryd.prog 56 #[.slice A l.length c, .int .i64 (a : Int), .int .i64 (b : Int)] w fun e w' => BxTo w w' e (swapL l a b) := by
  have hf' := hf.next ((Below.refl w.heap.size w).alloc (Nat.le_refl _) (.cells #[] 40))
  have HF := Lib.hid hf
  obtain ⟨q, off, rfl, hbl, hc'⟩ := hf' (by omega)
  obtain ⟨i0, hi, hz0, hz1, hz2⟩ := info_parts infoBx
  have HI0 := Lib.hid hi; have HZ0 := Lib.hid hz0; have HZ1 := Lib.hid hz1; have HZ2 := Lib.hid hz2
  clear hi hz0 hz1 hz2
  have HNW := Lib.hid (newsBx hc')
  have HOW : Hid ((w.alloc (.cells #[] 40)).ownsRow w.heap.size 40 4 (.slice (some ⟨w.heap.size, 0, none⟩) 0 0) 0 []) := Lib.hid (own_none4 _ (heap_new _ _) (Nat.le_refl _))
  have hmx : 0 + l.length ≤ maxLen := by unfold maxLen; omega
  have hqw : q < w.heap.size := by
    obtain ⟨q', off', e, h, _⟩ := hf (by omega)
    have e1 := Option.some.inj e
    rw [Addr.mk.injEq] at e1
    omega
  clear hc' hf'
  clear hf
  go_enter Tryd.func56, Tryd.ntmps56
  go_wp2_with (at_builtin; refine wpList_append_own _ rfl _ _ 26 rfl w.heap.size 40 i0 (.agg #[.string .empty, .int .i64 0, .int .i64 0, .int .i64 0]) 4 40 Tryd.underlying26 HI0.out HZ0.out HZ1.out HZ2.out rfl (by decide) _ _ _ rfl HOW.out ⟨q, off, none⟩ l.length c (flatBx l) rfl (by rw [flatBx_len]; omega) HNW.out (flatBx_one l) hmx (by omega) (by simp) ?_)
  intro v' w4 hown' hgrow _
  have HB1 : Hid (Below w.heap.size w w4) := Lib.hid (((Below.refl _ _).alloc (Nat.le_refl _) _).grown hgrow (by simp) (own_lt HOW.out))
  have hown : w4.ownsRow w.heap.size 40 4 v' l.length (flatBx l) := by simpa using hown'
  obtain ⟨g, cap, rfl, hg, hcap, hcm, hmk⟩ := own4_marked hown (by omega)
  have HF4 := HF.out.below HB1.out (Nat.le_refl _)
  obtain ⟨q', off', e, _, hcc⟩ := HF4 (by omega)
  rw [Option.some.injEq, Addr.mk.injEq] at e
  obtain ⟨rfl, rfl, _⟩ := e
  obtain ⟨_, ea1, ea2, _⟩ := hcc a ha
  obtain ⟨_, eb1, eb2, _⟩ := hcc b hb
  have hne1 : ¬ q = g := by omega
  have hne2 : ¬ g = q := by omega
  have hfl := flatBx_len l
  obtain ⟨⟨u1, hu1⟩, hz1⟩ := hmk.at_ (j := a * 4 + 1) (by omega)
  obtain ⟨⟨u2, hu2⟩, hz2⟩ := hmk.at_ (j := a * 4 + 2) (by omega)
  obtain ⟨⟨u3, hu3⟩, hz3⟩ := hmk.at_ (j := b * 4 + 1) (by omega)
  obtain ⟨⟨u4, hu4⟩, hz4⟩ := hmk.at_ (j := b * 4 + 2) (by omega)
  have HOUT : Hid (w4.ownsRow w.heap.size 40 4 (.slice (some ⟨g, 0, none⟩) l.length cap) l.length (flatBx l) ∧ (((((w4.setCell ⟨g, a * 4 + 1, none⟩ (.int .i64 l[b].row)).setCell ⟨g, a * 4 + 2, none⟩ (.int .i64 l[b].col)).setCell ⟨g, b * 4 + 1, none⟩ (.int .i64 l[a].row)).setCell ⟨g, b * 4 + 2, none⟩ (.int .i64 l[a].col))).ownsRow w.heap.size 40 4 (.slice (some ⟨g, 0, none⟩) l.length cap) (swapL l a b).length (flatBx (swapL l a b))) := Lib.hid ⟨hown, by
    have h := (((hmk.put (j := a * 4 + 1) (.int .i64 l[b].row)).put (j := a * 4 + 2) (.int .i64 l[b].col)).put (j := b * 4 + 1) (.int .i64 l[a].row)).put (j := b * 4 + 2) (.int .i64 l[a].col)
    rw [swapL_flat ha hb] at h
    rw [swapL_len]
    exact h.own4 hg (by rw [flatBx_len, swapL_len]; omega) hcap hcm⟩
  have HBO := Lib.hid ((((HB1.out.setCell (p := ⟨g, a * 4 + 1, none⟩) hg (.int .i64 l[b].row)).setCell (p := ⟨g, a * 4 + 2, none⟩) hg (.int .i64 l[b].col)).setCell (p := ⟨g, b * 4 + 1, none⟩) hg (.int .i64 l[a].row)).setCell (p := ⟨g, b * 4 + 2, none⟩) hg (.int .i64 l[a].col))
  clear hown hown' hgrow hmk HF4 hcc HNW HOW
  by_cases hab : a = b
  · subst hab
    go_wp2
    go_ret
    exact ⟨_, rfl, HBO.out, HOUT.out.2⟩
  · have n1 : ¬ a * 4 + 1 = b * 4 + 1 := by omega
    have n2 : ¬ a * 4 + 2 = b * 4 + 2 := by omega
    have n3 : ¬ a * 4 + 1 = b * 4 + 2 := by omega
    have n4 : ¬ a * 4 + 2 = b * 4 + 1 := by omega
    have n5 : ¬ b * 4 + 1 = a * 4 + 1 := by omega
    have n6 : ¬ b * 4 + 2 = a * 4 + 2 := by omega
    have n7 : ¬ b * 4 + 1 = a * 4 + 2 := by omega
    have n8 : ¬ b * 4 + 2 = a * 4 + 1 := by omega
    go_wp2
    go_ret
    exact ⟨_, rfl, HBO.out, HOUT.out.2⟩
end Go.Proofs.YtllafkeheppkjaaDoor

/-
  The contracts of impl.withSwap, impl.boxesAsGiven.
-/
namespace Go.Proofs.YtllafkeheppkjaaDoor
open Go.RowKit
set_option linter.unusedVariables false

theorem flatPb_place : ∀ (l : List Bx) (k : Nat) (h : k < l.length) (y z : Int), ((flatPb l).set (k * 4) (.int .i64 y)).set (k * 4 + 1) (.int .i64 z) = flatPb (l.set k { l[k] with row := y, col := z })
  | x :: r, 0, _, y, z => rfl
  | x :: r, k + 1, h, y, z => by
    have ih := flatPb_place r k (by simpa using h) y z
    have e : ∀ y : Bx, ∀ q : List Bx, flatPb (y :: q) = .int .i64 y.row :: .int .i64 y.col :: .string y.cod :: .int .i64 y.cnt :: flatPb q := fun _ _ => rfl
    rw [e, show (k + 1) * 4 = k * 4 + 1 + 1 + 1 + 1 from by omega, show k * 4 + 1 + 1 + 1 + 1 + 1 = k * 4 + 1 + 1 + 1 + 1 + 1 from rfl]
    simp only [List.set_cons_succ, ih, List.getElem_cons_succ, e]
theorem swapL_flatP {l : List Bx} {a b : Nat} (ha : a < l.length) (hb : b < l.length) :
    ((((flatPb l).set (a * 4) (.int .i64 l[b].row)).set (a * 4 + 1) (.int .i64 l[b].col)).set (b * 4) (.int .i64 l[a].row)).set (b * 4 + 1) (.int .i64 l[a].col) = flatPb (swapL l a b) := by
  rw [flatPb_place l a ha, flatPb_place _ b (by simpa using hb)]
  congr 1
  simp only [swapL, getD_at ha, getD_at hb]
  rw [getD_at (by simpa using hb)]
theorem set_swap4 {xs : List Value} {p q : Nat} (h1 : ¬ p = q) (h2 : ¬ p = q + 1) (h3 : ¬ p + 1 = q) (u v x y : Value) :
    (((xs.set q x).set (q + 1) y).set p u).set (p + 1) v = (((xs.set p u).set (p + 1) v).set q x).set (q + 1) y := by
  apply List.ext_getElem
  · simp
  · intro k k1 k2
    simp only [List.getElem_set]
    repeat' split
    all_goals first | rfl | omega

set_option maxRecDepth 100000 in
set_option maxHeartbeats 2000000 in
theorem withSwap_any (l : List Bx) (A : Option Addr) (c : Nat) (a b : Nat) (w : World) (hf : PbsIn w A l) (hn : l.length ≤ 1048576) (ha : a < l.length) (hb : b < l.length) :
    Calls Tryd.prog 53 #[.slice A l.length c, .int .i64 (a : Int), .int .i64 (b : Int)] w fun e w' => PbTo w w' e (swapL l a b) := by
  have HF := Lib.hid hf; clear hf
  go_enter Tryd.func53, Tryd.ntmps53
  go_wp2_with fail
  refine (clonePb_any l A c _ HF.out (by omega) hn).mono ?_
  intro e w4 hto
  obtain ⟨v', rfl, hb4, hown⟩ := hto
  obtain ⟨g, cap, rfl, hg, hcap, hcm, hmk⟩ := own4_marked hown (by omega)
  obtain ⟨q, off, rfl, hql, hcc⟩ := HF.out (by omega)
  obtain ⟨ea0, ea1, _, _⟩ := hcc a ha
  obtain ⟨eb0, eb1, _, _⟩ := hcc b hb
  rw [← hb4.cell (p := ⟨q, off + a * 4, none⟩) hql] at ea0
  rw [← hb4.cell (p := ⟨q, off + a * 4 + 1, none⟩) hql] at ea1
  rw [← hb4.cell (p := ⟨q, off + b * 4, none⟩) hql] at eb0
  rw [← hb4.cell (p := ⟨q, off + b * 4 + 1, none⟩) hql] at eb1
  have hne1 : ¬ q = g := by omega
  have hne2 : ¬ g = q := by omega
  have hfl := flatPb_len l
  obtain ⟨⟨u1, hu1⟩, hz1⟩ := hmk.at_ (j := a * 4) (by omega)
  obtain ⟨⟨u2, hu2⟩, hz2⟩ := hmk.at_ (j := a * 4 + 1) (by omega)
  obtain ⟨⟨u3, hu3⟩, hz3⟩ := hmk.at_ (j := b * 4) (by omega)
  obtain ⟨⟨u4, hu4⟩, hz4⟩ := hmk.at_ (j := b * 4 + 1) (by omega)
  have HA : Hid (∀ W : World, W = w4 ∨ W = w4.drew → ((((W.setCell ⟨g, a * 4, none⟩ (.int .i64 l[b].row)).setCell ⟨g, a * 4 + 1, none⟩ (.int .i64 l[b].col)).setCell ⟨g, b * 4, none⟩ (.int .i64 l[a].row)).setCell ⟨g, b * 4 + 1, none⟩ (.int .i64 l[a].col)).ownsRow w.heap.size 75 4 (.slice (some ⟨g, 0, none⟩) l.length cap) (swapL l a b).length (flatPb (swapL l a b))) := Lib.hid (fun W hW => by
    have hm : Marked W g 75 (cap * 4) (flatPb l) := by
      rcases hW with rfl | rfl
      · exact hmk
      · exact hmk.below ((Below.refl _ _).drew)
    have h := (((hm.put (j := a * 4) (.int .i64 l[b].row)).put (j := a * 4 + 1) (.int .i64 l[b].col)).put (j := b * 4) (.int .i64 l[a].row)).put (j := b * 4 + 1) (.int .i64 l[a].col)
    rw [swapL_flatP ha hb] at h
    rw [swapL_len]
    exact h.own4 hg (by rw [flatPb_len, swapL_len]; omega) hcap hcm)
  have HA2 : Hid (∀ W : World, W = w4 ∨ W = w4.drew → ((((W.setCell ⟨g, b * 4, none⟩ (.int .i64 l[a].row)).setCell ⟨g, b * 4 + 1, none⟩ (.int .i64 l[a].col)).setCell ⟨g, a * 4, none⟩ (.int .i64 l[b].row)).setCell ⟨g, a * 4 + 1, none⟩ (.int .i64 l[b].col)).ownsRow w.heap.size 75 4 (.slice (some ⟨g, 0, none⟩) l.length cap) (swapL l a b).length (flatPb (swapL l a b))) := Lib.hid (fun W hW => by
    have hm : Marked W g 75 (cap * 4) (flatPb l) := by
      rcases hW with rfl | rfl
      · exact hmk
      · exact hmk.below ((Below.refl _ _).drew)
    have h := (((hm.put (j := b * 4) (.int .i64 l[a].row)).put (j := b * 4 + 1) (.int .i64 l[a].col)).put (j := a * 4) (.int .i64 l[b].row)).put (j := a * 4 + 1) (.int .i64 l[b].col)
    rw [show ((((flatPb l).set (b * 4) (.int .i64 l[a].row)).set (b * 4 + 1) (.int .i64 l[a].col)).set (a * 4) (.int .i64 l[b].row)).set (a * 4 + 1) (.int .i64 l[b].col) = flatPb (swapL l a b) from by
      by_cases hab : a = b
      · subst hab; exact swapL_flatP ha ha
      · rw [← swapL_flatP ha hb]; exact set_swap4 (by omega) (by omega) (by omega) _ _ _ _] at h
    rw [swapL_len]
    exact h.own4 hg (by rw [flatPb_len, swapL_len]; omega) hcap hcm)
  have HBB := Lib.hid hb4
  clear hown hmk hb4 hcc
  go_wp2_with fail
  by_cases hab : a = b
  · subst hab
    go_region_held3 (fun x => x.cell? ⟨q, off + a * 4, none⟩ = some (.int .i64 l[a].row) ∧ x.cell? ⟨q, off + a * 4 + 1, none⟩ = some (.int .i64 l[a].col)) (first | with_reducible exact ⟨ea0, ea1⟩ | go_keep) (fail)
    all_goals
      go_wp2
      go_ret
      refine ⟨.slice (some ⟨g, 0, none⟩) l.length cap, rfl, ?_, ?_⟩
      · repeat (first | (with_reducible exact HBB.out) | (refine Below.setCell ?_ hg _) | (refine Below.drew ?_))
      · first | (with_reducible exact own_below (HA.out _ (.inl rfl)) ((Below.refl _ _).drew)) | (with_reducible exact own_below (HA2.out _ (.inl rfl)) ((Below.refl _ _).drew)) | (with_reducible exact HA.out _ (.inr rfl)) | (with_reducible exact HA2.out _ (.inl rfl)) | (with_reducible exact HA2.out _ (.inr rfl))
  · have n1 : ¬ a * 4 + 1 = b * 4 + 1 := by omega
    have n2 : ¬ a * 4 = b * 4 := by omega
    have n3 : ¬ a * 4 + 1 = b * 4 := by omega
    have n4 : ¬ a * 4 = b * 4 + 1 := by omega
    have n5 : ¬ b * 4 + 1 = a * 4 + 1 := by omega
    have n6 : ¬ b * 4 = a * 4 := by omega
    have n7 : ¬ b * 4 + 1 = a * 4 := by omega
    have n8 : ¬ b * 4 = a * 4 + 1 := by omega
    go_region_held3 (fun x => x.cell? ⟨q, off + a * 4, none⟩ = some (.int .i64 l[a].row) ∧ x.cell? ⟨q, off + a * 4 + 1, none⟩ = some (.int .i64 l[a].col) ∧ x.cell? ⟨q, off + b * 4, none⟩ = some (.int .i64 l[b].row) ∧ x.cell? ⟨q, off + b * 4 + 1, none⟩ = some (.int .i64 l[b].col)) (first | with_reducible exact ⟨ea0, ea1, eb0, eb1⟩ | go_keep) (fail)
    all_goals
      go_wp2
      go_ret
      refine ⟨.slice (some ⟨g, 0, none⟩) l.length cap, rfl, ?_, ?_⟩
      · repeat (first | (with_reducible exact HBB.out) | (refine Below.setCell ?_ hg _) | (refine Below.drew ?_))
      · first | (with_reducible exact own_below (HA.out _ (.inl rfl)) ((Below.refl _ _).drew)) | (with_reducible exact own_below (HA2.out _ (.inl rfl)) ((Below.refl _ _).drew)) | (with_reducible exact HA.out _ (.inr rfl)) | (with_reducible exact HA2.out _ (.inl rfl)) | (with_reducible exact HA2.out _ (.inr rfl))
end Go.Proofs.YtllafkeheppkjaaDoor

/-
  The contracts of impl.boxesAsGiven, spec.SwapBoxes, impl.isBoxIndex, impl.SwapBoxes.
-/
namespace Go.Proofs.YtllafkeheppkjaaDoor
open Go.RowKit
set_option linter.unusedVariables false

set_option maxRecDepth 100000 in
set_option maxHeartbeats 1000000 in
theorem boxesAsGiven_any (f : List Bx) (A : Option Addr) (c : Nat) (w : World) (hf : PbsIn w A f) (hn : f.length ≤ 1048576) :
    Calls Tryd.prog 52 #[.slice A f.length c] w fun e w' => BxTo w w' e f := by
  have HF := Lib.hid hf; clear hf
  have hmk := run_makeBx f.length hn
  have hst : Marked (w.alloc (.cells (madeCells #[.string .empty, .int .i64 0, .int .i64 0, .int .i64 0] (f.length * 4)) 40)) w.heap.size 40 (f.length * 4) (flatBx (f.take 0)) := ⟨_, heap_new _ _, size_madeCells _ _, by simp [flatBx]⟩
  generalize hz : madeCells #[.string .empty, .int .i64 0, .int .i64 0, .int .i64 0] (f.length * 4) = cs0 at *
  go_enter Tryd.func52, Tryd.ntmps52
  have HST := Lib.hid hst; clear hst hz
  go_wp2
  go_loopw [11] (fun i wr => ∃ (k : Nat), k ≤ f.length ∧ i = .int .i64 k ∧ Marked wr w.heap.size 40 (f.length * 4) (flatBx (f.take k)) ∧ Below w.heap.size w wr) (fun i _ => f.length - (intOf i).toNat)
  case atStart => exact ⟨0, Nat.zero_le _, rfl, HST.out, (Below.refl _ _).alloc (Nat.le_refl _) _⟩
  case round =>
    obtain ⟨k, hk, rfl, hp, hb⟩ := hrel
    clear hmk
    by_cases hlt : k < f.length
    · obtain ⟨b, off, rfl, hbl, hc⟩ := HF.out (by omega)
      obtain ⟨hc0, hc1, hc2, hc3⟩ := hc k hlt
      clear hc
      rw [← hb.cell (p := ⟨b, off + k * 4, none⟩) hbl] at hc0
      rw [← hb.cell (p := ⟨b, off + k * 4 + 1, none⟩) hbl] at hc1
      rw [← hb.cell (p := ⟨b, off + k * 4 + 2, none⟩) hbl] at hc2
      rw [← hb.cell (p := ⟨b, off + k * 4 + 3, none⟩) hbl] at hc3
      obtain ⟨w1, hw1⟩ : ∃ w1 : World, w1 = wr.alloc (.cells #[.int .i64 f[k].row, .int .i64 f[k].col, .string f[k].cod, .int .i64 f[k].cnt] 75) := ⟨_, rfl⟩
      have hp1 : Marked w1 w.heap.size 40 (f.length * 4) (flatBx (f.take k)) := by rw [hw1]; exact hp.below ((Below.refl _ _).alloc (Nat.le_refl _) _)
      have hb' : Below w.heap.size w w1 := by rw [hw1]; exact hb.alloc hb.size _
      have hl : (flatBx (f.take k)).length = k * 4 := by rw [flatBx_len, List.length_take]; omega
      obtain ⟨⟨u0, hu0⟩, hz0⟩ := hp1.at_ (j := k * 4) (by omega)
      obtain ⟨⟨u1, hu1⟩, hz1⟩ := hp1.at_ (j := k * 4 + 1) (by omega)
      obtain ⟨⟨u2, hu2⟩, hz2⟩ := hp1.at_ (j := k * 4 + 2) (by omega)
      obtain ⟨⟨u3, hu3⟩, hz3⟩ := hp1.at_ (j := k * 4 + 3) (by omega)
      have m0 : Marked (w1.setCell ⟨w.heap.size, k * 4, none⟩ (.string f[k].cod)) w.heap.size 40 (f.length * 4) (flatBx (f.take k) ++ [.string f[k].cod]) := hp1.stepAt (k * 4) (by simp only [List.length_append, List.length_cons, List.length_nil, hl]) (by omega) _
      have m1 : Marked ((w1.setCell ⟨w.heap.size, k * 4, none⟩ (.string f[k].cod)).setCell ⟨w.heap.size, k * 4 + 1, none⟩ (.int .i64 f[k].row)) w.heap.size 40 (f.length * 4) ((flatBx (f.take k) ++ [.string f[k].cod]) ++ [.int .i64 f[k].row]) := m0.stepAt (k * 4 + 1) (by simp only [List.length_append, List.length_cons, List.length_nil, hl]) (by omega) _
      have m2 : Marked (((w1.setCell ⟨w.heap.size, k * 4, none⟩ (.string f[k].cod)).setCell ⟨w.heap.size, k * 4 + 1, none⟩ (.int .i64 f[k].row)).setCell ⟨w.heap.size, k * 4 + 2, none⟩ (.int .i64 f[k].col)) w.heap.size 40 (f.length * 4) (((flatBx (f.take k) ++ [.string f[k].cod]) ++ [.int .i64 f[k].row]) ++ [.int .i64 f[k].col]) := m1.stepAt (k * 4 + 2) (by simp only [List.length_append, List.length_cons, List.length_nil, hl]) (by omega) _
      have m3 : Marked ((((w1.setCell ⟨w.heap.size, k * 4, none⟩ (.string f[k].cod)).setCell ⟨w.heap.size, k * 4 + 1, none⟩ (.int .i64 f[k].row)).setCell ⟨w.heap.size, k * 4 + 2, none⟩ (.int .i64 f[k].col)).setCell ⟨w.heap.size, k * 4 + 3, none⟩ (.int .i64 f[k].cnt)) w.heap.size 40 (f.length * 4) ((((flatBx (f.take k) ++ [.string f[k].cod]) ++ [.int .i64 f[k].row]) ++ [.int .i64 f[k].col]) ++ [.int .i64 f[k].cnt]) := m2.stepAt (k * 4 + 3) (by simp only [List.length_append, List.length_cons, List.length_nil, hl]) (by omega) _
      have HP : Hid (Marked ((((w1.setCell ⟨w.heap.size, k * 4, none⟩ (.string f[k].cod)).setCell ⟨w.heap.size, k * 4 + 1, none⟩ (.int .i64 f[k].row)).setCell ⟨w.heap.size, k * 4 + 2, none⟩ (.int .i64 f[k].col)).setCell ⟨w.heap.size, k * 4 + 3, none⟩ (.int .i64 f[k].cnt)) w.heap.size 40 (f.length * 4) (flatBx (f.take (k + 1)))) := by
        show Marked _ _ _ _ _
        rw [List.take_succ_eq_append_getElem hlt, flatBx_snoc]
        simpa only [List.append_assoc, List.cons_append, List.nil_append] using m3
      have HB := Lib.hid ((((hb'.setCell (p := ⟨w.heap.size, k * 4, none⟩) (Nat.le_refl _) (.string f[k].cod)).setCell (p := ⟨w.heap.size, k * 4 + 1, none⟩) (Nat.le_refl _) (.int .i64 f[k].row)).setCell (p := ⟨w.heap.size, k * 4 + 2, none⟩) (Nat.le_refl _) (.int .i64 f[k].col)).setCell (p := ⟨w.heap.size, k * 4 + 3, none⟩) (Nat.le_refl _) (.int .i64 f[k].cnt))
      have hgl : w.heap.size < wr.heap.size := by obtain ⟨cur, h1, _⟩ := hp; exact lt_of_heap h1
      have hne1 : ¬ w.heap.size = wr.heap.size := by omega
      have hne2 : ¬ wr.heap.size = w.heap.size := by omega
      clear hp hb hp1 hb' hl m0 m1 m2 m3 hgl
      subst hw1
      go_wp2
      go_roundw
      case rel => exact ⟨k + 1, by omega, by go_num, HP.out, HB.out⟩
      case measure => simp [intOf]; omega
    · obtain rfl : k = f.length := by omega
      rw [List.take_length] at hp
      have hd := Lib.hid (hp.own_bx (base := w.heap.size) rfl (Nat.le_refl _) (by unfold maxLen; omega))
      clear hp
      go_wp2
      go_ret
      exact ⟨_, rfl, hb, hd.out⟩

/-- The answer of SwapBoxes. -/
noncomputable def swR (l : List Bx) (a b : Int) : Option (List Bx) := if caseB l = true ∧ (0 ≤ a ∧ a < l.length) ∧ (0 ≤ b ∧ b < l.length) then some (swapL l a.toNat b.toNat) else none
theorem swR_short (l : List Bx) (a b : Int) : ((swR l a b).getD []).length ≤ 64 := by
  unfold swR
  split
  · rename_i h
    have := (caseB_iff.1 h.1).2.2
    simp [swapL_len]; omega
  · simp

set_option maxRecDepth 100000 in
set_option maxHeartbeats 1000000 in
theorem specSwapBoxes_any (l : List Bx) (A : Option Addr) (c : Nat) (a b : Int) (w : World) (hf : BxsIn w A l) (hn : l.length ≤ 1048576) (ho : BxsOk l) (hcap : l.length ≤ c) :
    Calls Tryd.prog 22 #[.slice A l.length c, .int .i64 a, .int .i64 b] w fun e w' => BxsTo w w' e (swR l a b) := by
  have HF := Lib.hid hf; clear hf
  have HO := Lib.hid ho; clear ho
  cases hv : caseB l
  · have HE : Hid (swR l a b = none) := Lib.hid (by unfold swR; rw [hv]; simp)
    have HV := Lib.hid hv; clear hv
    go_enter Tryd.func22, Tryd.ntmps22
    go_wp2_with fail
    refine (caGood_is l _ A c _ HF.out hn HO.out hcap HV).mono ?_
    rintro e w1 ⟨rfl, hb1⟩
    go_wp2
    go_ret2
    exact BxsTo.no HE.out hb1
  · have hC := caseB_iff.1 hv
    have h32 := hC.2.2
    have h1 := hC.2.1
    cases ha : inR a 0 ((l.length : Int) - 1)
    · have HE : Hid (swR l a b = none) := Lib.hid (by unfold swR; rw [if_neg]; rintro ⟨_, h, _⟩; rw [inR_no] at ha; omega)
      have HV := Lib.hid hv; have HA := Lib.hid ha; clear hv ha hC
      go_enter Tryd.func22, Tryd.ntmps22
      go_wp2_with fail
      refine (caGood_is l _ A c _ HF.out hn HO.out hcap HV).mono ?_
      rintro e w1 ⟨rfl, hb1⟩
      go_wp2_with fail
      refine (inR_is a 0 _ _ _ HA).mono ?_
      rintro e w2 ⟨rfl, rfl⟩
      go_wp2
      go_ret2
      exact BxsTo.no HE.out hb1
    · cases hb : inR b 0 ((l.length : Int) - 1)
      · have HE : Hid (swR l a b = none) := Lib.hid (by unfold swR; rw [if_neg]; rintro ⟨_, _, h⟩; rw [inR_no] at hb; omega)
        have HV := Lib.hid hv; have HA := Lib.hid ha; have HB := Lib.hid hb; clear hv ha hb hC
        go_enter Tryd.func22, Tryd.ntmps22
        go_wp2_with fail
        refine (caGood_is l _ A c _ HF.out hn HO.out hcap HV).mono ?_
        rintro e w1 ⟨rfl, hb1⟩
        go_wp2_with fail
        refine (inR_is a 0 _ _ _ HA).mono ?_
        rintro e w2 ⟨rfl, rfl⟩
        go_wp2_with fail
        refine (inR_is b 0 _ _ _ HB).mono ?_
        rintro e w2 ⟨rfl, rfl⟩
        go_wp2
        go_ret2
        exact BxsTo.no HE.out hb1
      · have ra := inR_iff.1 ha; have rb := inR_iff.1 hb
        obtain ⟨i, rfl⟩ : ∃ i : Nat, a = (i : Int) := ⟨a.toNat, by omega⟩
        obtain ⟨j, rfl⟩ : ∃ j : Nat, b = (j : Int) := ⟨b.toNat, by omega⟩
        have hi : i < l.length := by omega
        have hj : j < l.length := by omega
        have HE : Hid (swR l (i : Int) (j : Int) = some (swapL l i j)) := Lib.hid (by unfold swR; rw [if_pos ⟨hv, by omega, by omega⟩]; simp)
        have HV := Lib.hid hv; have HA := Lib.hid ha; have HB := Lib.hid hb; clear hv ha hb hC
        go_enter Tryd.func22, Tryd.ntmps22
        go_wp2_with fail
        refine (caGood_is l _ A c _ HF.out hn HO.out hcap HV).mono ?_
        rintro e w1 ⟨rfl, hb1⟩
        have HF1 := Lib.hid (HF.out.next hb1)
        go_wp2_with fail
        refine (inR_is (i : Int) 0 _ _ _ HA).mono ?_
        rintro e w2 ⟨rfl, rfl⟩
        go_wp2_with fail
        refine (inR_is (j : Int) 0 _ _ _ HB).mono ?_
        rintro e w2 ⟨rfl, rfl⟩
        go_wp2_with fail
        refine (caSwap_any l A c i j _ HF1.out hn hi hj).mono ?_
        intro e w3 hto
        obtain ⟨v, rfl, hb3, hown⟩ := hto
        have HOW : Hid (w3.ownsRow w.heap.size 40 4 v (swapL l i j).length (flatBx (swapL l i j))) := Lib.hid ⟨hown.1, hown.2.imp id fun ⟨g, cap, cur, e1, e2, e3⟩ => ⟨g, cap, cur, e1, Nat.le_trans hb1.size e2, e3⟩⟩
        have hbb := hb1.trans (hb3.mono hb1.size)
        clear hown hb1 hb3
        go_wp2
        go_ret2
        exact ⟨_, by rw [HE.out]; rfl, hbb, by rw [HE.out]; exact HOW.out⟩

theorem isBoxIndex_any (A : Option Addr) (n c : Nat) (i : Int) (w : World) :
    Calls Tryd.prog 51 #[.slice A n c, .int .i64 i] w fun e w' => e = .returned (.bool (decide (0 ≤ i ∧ i < n))) ∧ w = w' := by
  by_cases h : 0 ≤ i
  · by_cases h2 : i < n
    · go_enter Tryd.func51, Tryd.ntmps51
      go_wp2
      go_ret
      exact ⟨ret_bool (decide_eq_true ⟨h, h2⟩).symm, rfl⟩
    · have HN : Hid (decide (0 ≤ i ∧ i < n) = false) := Lib.hid (decide_eq_false (fun h => h2 h.2))
      go_enter Tryd.func51, Tryd.ntmps51
      go_wp2
      go_ret
      exact ⟨ret_bool (by symm; exact decide_eq_false (by omega)), rfl⟩
  · have HN : Hid (decide (0 ≤ i ∧ i < n) = false) := Lib.hid (decide_eq_false (fun h2 => h h2.1))
    go_enter Tryd.func51, Tryd.ntmps51
    go_wp2
    go_ret
    exact ⟨ret_bool (by symm; first | exact decide_eq_false (by omega) | (rw [← Bool.decide_and]; exact decide_eq_false (by omega))), rfl⟩
theorem isBoxIndex_is (A : Option Addr) (n c : Nat) (i : Int) (v : Bool) (w : World) (h : Hid (decide (0 ≤ i ∧ i < n) = v)) :
    Calls Tryd.prog 51 #[.slice A n c, .int .i64 i] w fun e w' => e = .returned (.bool v) ∧ w = w' := by
  rw [← h.out]; exact isBoxIndex_any A n c i w

set_option maxRecDepth 100000 in
set_option maxHeartbeats 1000000 in
theorem implSwapBoxes_any (l : List Bx) (A : Option Addr) (c : Nat) (a b : Int) (w : World) (hf : BxsIn w A l) (hn : l.length ≤ 1048576) (ho : BxsOk l) (hcap : l.length ≤ c) :
    Calls Tryd.prog 21 #[.slice A l.length c, .int .i64 a, .int .i64 b] w fun e w' => BxsTo w w' e (swR l a b) := by
  have HF := Lib.hid hf; clear hf
  have HO := Lib.hid ho; clear ho
  cases hv : caseB l
  · have HE : Hid (swR l a b = none) := Lib.hid (by unfold swR; rw [hv]; simp)
    have HV := Lib.hid hv; clear hv
    go_enter Tryd.func21, Tryd.ntmps21
    go_wp2_with fail
    refine (implIsCase_is l _ A c _ HF.out hn HO.out HV).mono ?_
    rintro e w1 ⟨rfl, hb1⟩
    go_wp2
    go_ret2
    exact BxsTo.no HE.out hb1
  · cases ha : decide (0 ≤ a ∧ a < (l.length : Int))
    · have HE : Hid (swR l a b = none) := Lib.hid (by unfold swR; rw [if_neg]; rintro ⟨_, h, _⟩; exact of_decide_eq_false ha h)
      have HV := Lib.hid hv; have HA := Lib.hid ha; clear hv ha
      go_enter Tryd.func21, Tryd.ntmps21
      go_wp2_with fail
      refine (implIsCase_is l _ A c _ HF.out hn HO.out HV).mono ?_
      rintro e w1 ⟨rfl, hb1⟩
      go_wp2_with fail
      refine (isBoxIndex_is _ _ _ a _ _ HA).mono ?_
      rintro e w2 ⟨rfl, rfl⟩
      go_wp2
      go_ret2
      exact BxsTo.no HE.out hb1
    · cases hb : decide (0 ≤ b ∧ b < (l.length : Int))
      · have HE : Hid (swR l a b = none) := Lib.hid (by unfold swR; rw [if_neg]; rintro ⟨_, _, h⟩; exact of_decide_eq_false hb h)
        have HV := Lib.hid hv; have HA := Lib.hid ha; have HB := Lib.hid hb; clear hv ha hb
        go_enter Tryd.func21, Tryd.ntmps21
        go_wp2_with fail
        refine (implIsCase_is l _ A c _ HF.out hn HO.out HV).mono ?_
        rintro e w1 ⟨rfl, hb1⟩
        go_wp2_with fail
        refine (isBoxIndex_is _ _ _ a _ _ HA).mono ?_
        rintro e w2 ⟨rfl, rfl⟩
        go_wp2_with fail
        refine (isBoxIndex_is _ _ _ b _ _ HB).mono ?_
        rintro e w2 ⟨rfl, rfl⟩
        go_wp2
        go_ret2
        exact BxsTo.no HE.out hb1
      · have ra := of_decide_eq_true ha; have rb := of_decide_eq_true hb
        obtain ⟨i, rfl⟩ : ∃ i : Nat, a = (i : Int) := ⟨a.toNat, by omega⟩
        obtain ⟨j, rfl⟩ : ∃ j : Nat, b = (j : Int) := ⟨b.toNat, by omega⟩
        have hi : i < l.length := by omega
        have hj : j < l.length := by omega
        have HE : Hid (swR l (i : Int) (j : Int) = some (swapL l i j)) := Lib.hid (by unfold swR; rw [if_pos ⟨hv, ra, rb⟩]; simp)
        have HV := Lib.hid hv; have HA := Lib.hid ha; have HB := Lib.hid hb; clear hv ha hb ra rb
        go_enter Tryd.func21, Tryd.ntmps21
        go_wp2_with fail
        refine (implIsCase_is l _ A c _ HF.out hn HO.out HV).mono ?_
        rintro e w1 ⟨rfl, hb1⟩
        have HF1 := Lib.hid (HF.out.next hb1)
        go_wp2_with fail
        refine (isBoxIndex_is _ _ _ (i : Int) _ _ HA).mono ?_
        rintro e w2 ⟨rfl, rfl⟩
        go_wp2_with fail
        refine (isBoxIndex_is _ _ _ (j : Int) _ _ HB).mono ?_
        rintro e w2 ⟨rfl, rfl⟩
        go_wp2_with fail
        refine (placeBoxes_any l A c _ HF1.out hn).mono ?_
        intro e w3 hto
        obtain ⟨v, rfl, hb3, hown⟩ := hto
        obtain ⟨A3, c3, rfl, _, _, hpb⟩ := own_pbs hown
        have HPB := Lib.hid hpb
        have hbb := hb1.trans (hb3.mono hb1.size)
        clear hown hb1 hb3 hpb
        go_wp2_with fail
        refine (withSwap_any l A3 c3 i j _ HPB.out hn hi hj).mono ?_
        intro e w4 hto
        obtain ⟨v4, rfl, hb4, hown⟩ := hto
        obtain ⟨A4, c4, rfl, _, _, hpb⟩ := own_pbs hown
        have HPB4 := Lib.hid hpb
        have hbb4 := hbb.trans (hb4.mono hbb.size)
        clear hown hbb hb4 hpb
        go_wp2_with fail
        refine (boxesAsGiven_any (swapL l i j) A4 c4 _ HPB4.out (by rw [swapL_len]; exact hn)).mono ?_
        intro e w5 hto
        obtain ⟨v5, rfl, hb5, hown⟩ := hto
        have HOW : Hid (w5.ownsRow w.heap.size 40 4 v5 (swapL l i j).length (flatBx (swapL l i j))) := Lib.hid ⟨hown.1, hown.2.imp id fun ⟨g, cap, cur, e1, e2, e3⟩ => ⟨g, cap, cur, e1, Nat.le_trans hbb4.size e2, e3⟩⟩
        have hbb5 := hbb4.trans (hb5.mono hbb4.size)
        clear hown hbb4 hb5
        go_wp2
        go_ret2
        exact ⟨_, by rw [HE.out]; rfl, hbb5, by rw [HE.out]; exact HOW.out⟩
end Go.Proofs.YtllafkeheppkjaaDoor

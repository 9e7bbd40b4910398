import Derived.Test.YtpbkeagpipipmaaChk
import Derived.OwnWalk
import Derived.Maps.AppendAt
import Derived.Deep.RegionLaw
import Derived.Lib.SliceRun
import Derived.Test.YtpbkeagpipipmaaAdr
/-
  The contracts of spec.biNeed, spec.biCopy, spec.biAsked, spec.CountSorts: each answers what the plain words here say and changes nothing that was there.
-/
namespace Go.Proofs.Ytpbkeagpipipmaa.S1
open Go.RowKit
set_option linter.unusedVariables false

/-- The need, where all words can be set. -/
def canR (f : List (ByteArray × Int)) (ws : List ByteArray) : Option (List Int) := if canB f ws then some (needF f ws) else none
theorem canR_no {f : List (ByteArray × Int)} {ws : List ByteArray} (h : canB f ws = false) : canR f ws = none := by unfold canR; rw [h]; rfl
theorem canR_yes {f : List (ByteArray × Int)} {ws : List ByteArray} (h : canB f ws = true) : canR f ws = some (needF f ws) := by unfold canR; rw [h]; rfl
/-- The row g counts a list of sorts, and nothing else has turned. -/
def CntAt (w : World) (g : Nat) (n : Nat) (L : List Nat) (wr : World) : Prop := Own wr g 3 (intsZ (cntL n L)) ∧ Below w.heap.size w wr
theorem CntAt.step {w wr : World} {g n i : Nat} {L : List Nat} (h : CntAt w g n L wr) (hg : w.heap.size ≤ g) (hi : i < n) : CntAt w g n (L ++ [i]) (wr.setCell ⟨g, i, none⟩ (.int .i64 (((L.count i : Nat) : Int) + 1))) :=
  ⟨by rw [← cntL_snoc L hi]; exact h.1.set i _, h.2.setCell hg _⟩
theorem CntAt.next {w wr w' : World} {g n : Nat} {L : List Nat} (h : CntAt w g n L wr) (hb : Below wr.heap.size wr w') : CntAt w g n L w' := ⟨h.1.next hb, h.2.trans (hb.mono h.2.size)⟩

theorem copyB_no {f : List (ByteArray × Int)} {ws : List ByteArray} (h : fontB f = false ∨ wordsB ws = false ∨ canB f ws = false) : copyB f ws = false := by
  unfold copyB
  rcases h with h | h | h <;> simp [h]
theorem copyB_yes {f : List (ByteArray × Int)} {ws : List ByteArray} (h1 : fontB f = true) (h2 : wordsB ws = true) : copyB f ws = canB f ws := by
  unfold copyB; simp [h1, h2]
theorem needR_can {f : List (ByteArray × Int)} {ws : List ByteArray} (h : copyB f ws = true) : needR f ws = canR f ws := by
  rw [need_yes h, canR_yes (copy_parts h).2.2]

end Go.Proofs.Ytpbkeagpipipmaa.S1

/-
  The contracts of impl.setCopy and impl.CountSorts: each answers what the plain words here say and changes nothing that was there.
-/
namespace Go.Proofs.Ytpbkeagpipipmaa.S1
open Go.RowKit
set_option linter.unusedVariables false

theorem IntsOff.next {w w' : World} {g : Nat} {A : Option Addr} {l : List Int} (h : IntsOff w g A l) (hb : Below w.heap.size w w') : IntsOff w' g A l := by
  intro hn
  obtain ⟨b, off, rfl, h1, h2, h3⟩ := h hn
  exact ⟨b, off, rfl, h1, Nat.lt_of_lt_of_le h2 hb.size, fun k hk => (hb.cell (p := ⟨b, off + k, none⟩) h2).trans (h3 k hk)⟩
theorem IntsOff.set {w : World} {g : Nat} {A : Option Addr} {l : List Int} (h : IntsOff w g A l) (i : Nat) (v : Value) : IntsOff (w.setCell ⟨g, i, none⟩ v) g A l := by
  intro hn
  obtain ⟨b, off, rfl, h1, h2, h3⟩ := h hn
  refine ⟨b, off, rfl, h1, by simpa [World.setCell] using h2, fun k hk => ?_⟩
  rw [← h3 k hk]
  have := Below.heap_setCell w ⟨g, i, none⟩ v b h1
  simp only [World.cell?, this]
/-- Row g holds slices; those at the first places read as the lists. -/
def SetsIn (w : World) (g : Nat) (sts : List (List Nat)) (n : Nat) : Prop :=
  ∃ vs : List Value, Own w g 23 vs ∧ vs.length = n ∧ ∀ k (h : k < sts.length), ∃ A c, vs[k]? = some (.slice A sts[k].length c) ∧ IntsOff w g A (intL sts[k])
theorem SetsIn.next {w w' : World} {g n : Nat} {sts : List (List Nat)} (h : SetsIn w g sts n) (hb : Below w.heap.size w w') : SetsIn w' g sts n := by
  obtain ⟨vs, h1, h2, h3⟩ := h
  refine ⟨vs, h1.next hb, h2, fun k hk => ?_⟩
  obtain ⟨A, c, h4, h5⟩ := h3 k hk
  exact ⟨A, c, h4, h5.next hb⟩
theorem SetsIn.step {w : World} {g n c : Nat} {sts : List (List Nat)} {l : List Nat} {A : Option Addr} (h : SetsIn w g sts n) (hl : sts.length < n) (hi : IntsOff w g A (intL l)) (j : Nat) (hj : j = sts.length) : SetsIn (w.setCell ⟨g, j, none⟩ (.slice A l.length c)) g (sts ++ [l]) n := by
  subst hj
  obtain ⟨vs, h1, h2, h3⟩ := h
  refine ⟨_, h1.set sts.length _, by simpa using h2, fun k hk => ?_⟩
  by_cases hkl : k = sts.length
  · subst hkl
    refine ⟨A, c, ?_, ?_⟩
    · rw [List.getElem?_set_self (by omega)]; simp
    · simpa using hi.set _ _
  · have hk' : k < sts.length := by simp at hk; omega
    obtain ⟨A', c', h4, h5⟩ := h3 k hk'
    refine ⟨A', c', ?_, ?_⟩
    · rw [List.getElem?_set_ne (by omega), h4, List.getElem_append_left hk']
    · rw [List.getElem_append_left hk']; exact h5.set _ _
theorem SetsIn.at_ {w : World} {g n k : Nat} {sts : List (List Nat)} (h : SetsIn w g sts n) (hk : k < n) : (∃ u, w.cell? ⟨g, k, none⟩ = some u) ∧ w.frozen? ⟨g, k, none⟩ = false := by
  obtain ⟨vs, h1, h2, h3⟩ := h
  exact ⟨⟨_, (h1.cell k).trans (List.getElem?_eq_getElem (by omega))⟩, h1.free k⟩

noncomputable def copyR (f : List (ByteArray × Int)) (ws : List ByteArray) : Option (List (List Nat)) := if copyB f ws then some (ws.map (sg f)) else none
theorem copyR_no {f : List (ByteArray × Int)} {ws : List ByteArray} (h : copyB f ws = false) : copyR f ws = none := by unfold copyR; rw [h]; rfl
theorem copyR_yes {f : List (ByteArray × Int)} {ws : List ByteArray} (h : copyB f ws = true) : copyR f ws = some (ws.map (sg f)) := by unfold copyR; rw [h]; rfl
def CopyTo (w w' : World) (e : Ending) (r : Option (List (List Nat))) : Prop := Below w.heap.size w w' ∧
  match r with
  | none => e = .returned (.tuple #[.slice none 0 0, .bool false])
  | some sts => ∃ g, e = .returned (.tuple #[.slice (some ⟨g, 0, none⟩) sts.length sts.length, .bool true]) ∧ w.heap.size ≤ g ∧ SetsIn w' g sts sts.length
theorem CopyTo.no {w w' : World} {r : Option (List (List Nat))} (h : r = none) (hb : Below w.heap.size w w') : CopyTo w w' (.returned (.tuple #[.slice none 0 0, .bool false])) r := by subst h; exact ⟨hb, rfl⟩
theorem CopyTo.yes {w w' : World} {r : Option (List (List Nat))} {sts : List (List Nat)} {n g : Nat} (h : r = some sts) (hn : sts.length = n) (hb : Below w.heap.size w w') (hg : w.heap.size ≤ g) (hs : SetsIn w' g sts n) : CopyTo w w' (.returned (.tuple #[.slice (some ⟨g, 0, none⟩) n n, .bool true])) r := by
  subst h hn; exact ⟨hb, g, rfl, hg, hs⟩

theorem infoSl : (Try.prog.info? 23).map (fun i => (i.zero, i.size, i.bytes)) = some (some (.slice none 0 0), 1, 24) := by kernel_rfl
theorem SetsIn.made (w : World) (n : Nat) : SetsIn (w.alloc (.cells (madeCells #[.slice none 0 0] (n * 1)) 23)) w.heap.size [] n :=
  ⟨List.replicate n (.slice none 0 0), by unfold Own; rw [heap_new, Nat.mul_one, ← toList_madeCells_one], by simp, fun k h => absurd h (by simp)⟩
theorem sow_word {f : List (ByteArray × Int)} {s : ByteArray} (h1 : fontB f = true) (h2 : isWordF s = true) : sowF f s = setW f s := sow_of_font (by rw [h1, h2]; rfl)
theorem words_isWord {ws : List ByteArray} {j : Nat} (h : wordsB ws = true) (hj : j < ws.length) : isWordF ws[j] = true := by
  unfold wordsB at h
  simp only [Bool.and_eq_true] at h
  exact List.all_eq_true.1 h.2 _ (List.getElem_mem hj)

end Go.Proofs.Ytpbkeagpipipmaa.S1

/-
  The contracts of IsEnough, in spec and in impl: each answers what the plain words here say and changes nothing that was there.
-/
namespace Go.Proofs.Ytpbkeagpipipmaa.S1
open Go.RowKit
set_option linter.unusedVariables false

/-- No need is greater than the stock. -/
def enB (need st : List Int) : Bool := (List.range need.length).all fun i => decide (need.getD i 0 ≤ st.getD i 0)
def enTo (need st : List Int) (k : Nat) : Prop := ∀ j, j < k → need.getD j 0 ≤ st.getD j 0
theorem getD_of {l : List Int} {k : Nat} (h : k < l.length) : l.getD k 0 = l[k] := by rw [List.getD_eq_getElem?_getD, List.getElem?_eq_getElem h]; rfl
theorem enTo_succ {need st : List Int} {k : Nat} (h : enTo need st k) (h1 : k < need.length) (h2 : k < st.length) (hk : need[k] ≤ st[k]) : enTo need st (k + 1) := by
  intro j hj
  rcases Nat.lt_or_ge j k with h3 | h3
  · exact h j h3
  · obtain rfl : j = k := by omega
    rw [getD_of h1, getD_of h2]; exact hk
theorem enB_yes {need st : List Int} (h : enTo need st need.length) : enB need st = true := by
  unfold enB; rw [List.all_eq_true]; intro i hi; exact decide_eq_true (h i (List.mem_range.1 hi))
theorem enB_no {need st : List Int} {k : Nat} (h1 : k < need.length) (h2 : k < st.length) (hk : st[k] < need[k]) : enB need st = false := by
  unfold enB; rw [List.all_eq_false]; exact ⟨k, List.mem_range.2 h1, by rw [getD_of h1, getD_of h2]; simpa using hk⟩
noncomputable def askB (f : List (ByteArray × Int)) (st : List Int) (ws : List ByteArray) : Bool := copyB f ws && stockB f st
theorem askB_no {f : List (ByteArray × Int)} {st : List Int} {ws : List ByteArray} (h : copyB f ws = false ∨ stockB f st = false) : askB f st ws = false := by
  unfold askB; rcases h with h | h <;> simp [h]
theorem askB_parts {f : List (ByteArray × Int)} {st : List Int} {ws : List ByteArray} (h : askB f st ws = true) : copyB f ws = true ∧ stockB f st = true := by
  unfold askB at h; simpa using h
theorem IntsTo.some {w w' : World} {e : Ending} {r : Option (List Int)} {l : List Int} (h : IntsTo w w' e r) (hr : r = some l) : ∃ A c, e = .returned (.tuple #[.slice A l.length c, .bool true]) ∧ Below w.heap.size w w' ∧ w'.ownsRow w.heap.size 3 1 (.slice A l.length c) l.length (intsZ l) := by
  subst hr
  obtain ⟨v, he, hb, ho⟩ := h
  obtain ⟨A, c, rfl⟩ := own_form ho
  exact ⟨A, c, he, hb, ho⟩
theorem IntsTo.none {w w' : World} {e : Ending} {r : Option (List Int)} (h : IntsTo w w' e r) (hr : r = none) : ∃ v, e = .returned (.tuple #[v, .bool false]) ∧ Below w.heap.size w w' := by
  subst hr
  obtain ⟨v, he, hb, ho⟩ := h
  exact ⟨v, he, hb⟩
theorem need_stock {f : List (ByteArray × Int)} {st : List Int} {ws : List ByteArray} (h : askB f st ws = true) : (needF f ws).length = f.length ∧ st.length = f.length ∧ f.length ≤ 32 ∧ 1 ≤ f.length ∧ (∀ i (h : i < (needF f ws).length), 0 ≤ (needF f ws)[i] ∧ (needF f ws)[i] ≤ 640) ∧ allB 0 100000 st = true := by
  obtain ⟨h1, h2⟩ := askB_parts h
  obtain ⟨hF, hw, _⟩ := copy_parts h1
  exact ⟨needF_len f ws, (stock_parts h2).1, hF.2.2, hF.2.1, fun i hi => needF_bound hw hi, (stock_parts h2).2⟩
def ret2b (a b : Bool) : Ending := .returned (.tuple #[.bool a, .bool b])
theorem ret2b_eq {a a' b b' : Bool} (h1 : a = a') (h2 : b = b') : Ending.returned (.tuple #[.bool a, .bool b]) = ret2b a' b' := by rw [h1, h2]; rfl

end Go.Proofs.Ytpbkeagpipipmaa.S1

/-
  The contracts of spec.l1Own, slices.Clone at ints, and of FirstRunOut, in spec and in impl: each answers what the plain words here say and changes nothing that was there.
-/
namespace Go.Proofs.Ytpbkeagpipipmaa.S1
open Go.RowKit
set_option linter.unusedVariables false

theorem own_noneI (w : World) {g base : Nat} {e : TypeId} (h : w.heap[g]? = some (.cells #[] e (0, 0))) (hb : base ≤ g) : w.ownsRow base e 1 (.slice (some ⟨g, 0, none⟩) 0 0) 0 [] :=
  ⟨rfl, .inr ⟨g, 0, #[], rfl, hb, h, Nat.le_refl _, Nat.zero_le _, rfl, rfl⟩⟩
theorem add_flatI (b off k : Nat) : (⟨b, off, none⟩ : Addr).add k = ⟨b, off + k, none⟩ := by
  unfold Addr.add
  by_cases hk : k = 0 <;> simp [hk]
def OwnTo (w w' : World) (e : Ending) (l : List Int) : Prop := ∃ v, e = .returned v ∧ Below w.heap.size w w' ∧ w'.ownsRow w.heap.size 3 1 v l.length (intsZ l)
theorem intsZ_one (l : List Int) : ∀ u ∈ intsZ l, u.oneCell' = true := by
  intro u hu
  simp only [intsZ, List.mem_map] at hu
  obtain ⟨x, _, rfl⟩ := hu
  rfl
theorem news_ints {w : World} {b off : Nat} {l : List Int} (hc : ∀ k (h : k < l.length), w.cell? ⟨b, off + k, none⟩ = some (.int .i64 l[k])) : ∀ j u, (intsZ l)[j]? = some u → w.cell? ((⟨b, off, none⟩ : Addr).add j) = some u := by
  intro j u hu
  rw [add_flatI]
  have hj : j < l.length := by
    rcases Nat.lt_or_ge j l.length with h | h
    · exact h
    · rw [List.getElem?_eq_none (by rw [intsZ_len]; exact h)] at hu; cases hu
  rw [intsZ_at hj] at hu
  rw [hc j hj]; exact hu

theorem own_marked {w : World} {base n : Nat} {e : TypeId} {v : Value} {xs : List Value} (h : w.ownsRow base e 1 v n xs) (hn : 0 < n) : ∃ g cap, v = .slice (some ⟨g, 0, none⟩) n cap ∧ base ≤ g ∧ n ≤ cap ∧ Marked w g e cap xs := by
  rcases h.2 with ⟨rfl, h0⟩ | ⟨g, cap, cur, rfl, hg, hh, h1, h2, h3, h4⟩
  · omega
  · have hl := h.1
    exact ⟨g, cap, rfl, hg, h1, cur, hh, by simpa using h3, by rw [hl]; exact h4⟩
theorem Marked.put {w : World} {g cap j : Nat} {e : TypeId} {l : List Value} (h : Marked w g e cap l) (u : Value) : Marked (w.setCell ⟨g, j, none⟩ u) g e cap (l.set j u) := by
  obtain ⟨cur, h1, h2, h3⟩ := h
  refine ⟨_, heap_set h1 u, by simpa using h2, ?_⟩
  rw [List.length_set, Array.toList_setIfInBounds, List.take_set, h3]
theorem Marked.cellAt {w : World} {g cap j : Nat} {e : TypeId} {l : List Value} (h : Marked w g e cap l) (hj : j < l.length) : w.cell? ⟨g, j, none⟩ = some l[j] := by
  obtain ⟨cur, h1, h2, h3⟩ := h
  rw [cell_of_heap h1, ← Array.getElem?_toList, ← List.getElem?_eq_getElem hj]
  conv => rhs; rw [← h3]
  rw [List.getElem?_take_of_lt hj]
theorem Marked.freeAt {w : World} {g cap : Nat} {e : TypeId} {l : List Value} (h : Marked w g e cap l) (j : Nat) : w.frozen? ⟨g, j, none⟩ = false := by
  obtain ⟨cur, h1, _⟩ := h
  exact free_of_heap h1 j
theorem Marked.next {w w' : World} {g cap : Nat} {e : TypeId} {l : List Value} (h : Marked w g e cap l) (hb : Below w.heap.size w w') : Marked w' g e cap l := h.below hb
theorem Marked.ltG {w : World} {g cap : Nat} {e : TypeId} {l : List Value} (h : Marked w g e cap l) : g < w.heap.size := by
  obtain ⟨cur, h1, _⟩ := h
  exact lt_of_heap h1

/-- Types are taken one after the other: the first sort of which there is none, or what is left. -/
def runL : List Int → List Nat → Except Nat (List Int)
  | left, [] => .ok left
  | left, i :: r => if left.getD i 0 = 0 then .error i else runL (left.set i (left.getD i 0 - 1)) r
def froF (f : List (ByteArray × Int)) : List Int → Nat → List ByteArray → Option (Nat × Nat)
  | _, _, [] => none
  | left, k, s :: r => match runL left (sg f s) with
    | .error i => some (k, i)
    | .ok left' => froF f left' (k + 1) r
noncomputable def frR (f : List (ByteArray × Int)) (st : List Int) (ws : List ByteArray) : Option (Nat × Nat) := if askB f st ws then froF f st 0 ws else none
theorem fr_no {f : List (ByteArray × Int)} {st : List Int} {ws : List ByteArray} (h : askB f st ws = false) : frR f st ws = none := by unfold frR; rw [h]; rfl
theorem fr_yes {f : List (ByteArray × Int)} {st : List Int} {ws : List ByteArray} (h : askB f st ws = true) : frR f st ws = froF f st 0 ws := by unfold frR; rw [h]; rfl
/-- What is left after the first k words; after j types of the next word. -/
def LeftAt (f : List (ByteArray × Int)) (st : List Int) (ws : List ByteArray) (k : Nat) (left : List Int) : Prop := froF f st 0 ws = froF f left k (ws.drop k) ∧ left.length = f.length ∧ allB 0 100000 left = true
def RunAt (f : List (ByteArray × Int)) (l : List Nat) (L0 : List Int) (j : Nat) (left : List Int) : Prop := runL L0 l = runL left (l.drop j) ∧ left.length = f.length ∧ allB 0 100000 left = true
theorem RunAt.zero {f : List (ByteArray × Int)} {l : List Nat} {L0 : List Int} (h1 : L0.length = f.length) (h2 : allB 0 100000 L0 = true) : RunAt f l L0 0 L0 := ⟨by rw [List.drop_zero], h1, h2⟩
theorem RunAt.stop {f : List (ByteArray × Int)} {l : List Nat} {L0 left : List Int} {j : Nat} (h : RunAt f l L0 j left) (hj : j < l.length) (hz : left.getD l[j] 0 = 0) : runL L0 l = .error l[j] := by
  rw [h.1, List.drop_eq_getElem_cons hj]
  simp only [runL]
  rw [if_pos hz]
theorem allB_set {left : List Int} {i : Nat} {z : Int} (h : allB 0 100000 left = true) (h0 : 0 ≤ z) (h1 : z ≤ 100000) : allB 0 100000 (left.set i z) = true := by
  unfold allB at *
  rw [List.all_eq_true] at *
  intro x hx
  rcases List.mem_or_eq_of_mem_set hx with h2 | rfl
  · exact h x h2
  · simp [inB, h0, h1]
theorem RunAt.next {f : List (ByteArray × Int)} {l : List Nat} {L0 left : List Int} {j : Nat} {z : Int} (h : RunAt f l L0 j left) (hj : j < l.length) (hz : left.getD l[j] 0 = z) (h0 : 0 < z) (h1 : z ≤ 100000) : RunAt f l L0 (j + 1) (left.set l[j] (z - 1)) := by
  refine ⟨?_, by rw [List.length_set]; exact h.2.1, allB_set h.2.2 (by omega) (by omega)⟩
  rw [h.1, List.drop_eq_getElem_cons hj]
  simp only [runL]
  rw [if_neg (by omega), hz]
theorem RunAt.done {f : List (ByteArray × Int)} {l : List Nat} {L0 left : List Int} (h : RunAt f l L0 l.length left) : runL L0 l = .ok left := by
  rw [h.1, List.drop_length]; rfl
theorem LeftAt.stop {f : List (ByteArray × Int)} {st left : List Int} {ws : List ByteArray} {k i : Nat} (h : LeftAt f st ws k left) (hk : k < ws.length) (hr : runL left (sg f ws[k]) = .error i) : froF f st 0 ws = some (k, i) := by
  rw [h.1, List.drop_eq_getElem_cons hk]
  simp only [froF]
  rw [hr]
theorem LeftAt.next {f : List (ByteArray × Int)} {st left left' : List Int} {ws : List ByteArray} {k : Nat} (h : LeftAt f st ws k left) (hk : k < ws.length) (hr : runL left (sg f ws[k]) = .ok left') (h1 : left'.length = f.length) (h2 : allB 0 100000 left' = true) : LeftAt f st ws (k + 1) left' := by
  refine ⟨?_, h1, h2⟩
  rw [h.1, List.drop_eq_getElem_cons hk]
  simp only [froF]
  rw [hr]
theorem LeftAt.done {f : List (ByteArray × Int)} {st left : List Int} {ws : List ByteArray} (h : LeftAt f st ws ws.length left) : froF f st 0 ws = none := by
  rw [h.1, List.drop_length]; rfl
def fr3 (r : Option (Nat × Nat)) : Ending := .returned (.tuple #[.int .i64 (((r.getD (0, 0)).1 : Nat) : Int), .int .i64 (((r.getD (0, 0)).2 : Nat) : Int), .bool r.isSome])
theorem fr3_no {r : Option (Nat × Nat)} (h : r = none) : Ending.returned (.tuple #[.int .i64 0, .int .i64 0, .bool false]) = fr3 r := by subst h; rfl
theorem fr3_yes {r : Option (Nat × Nat)} {k i : Nat} (h : r = some (k, i)) : Ending.returned (.tuple #[.int .i64 (k : Int), .int .i64 (i : Int), .bool true]) = fr3 r := by subst h; rfl
theorem IntsOff.shift {w1 wo : World} {g0 g : Nat} {A : Option Addr} {l : List Int} (h : IntsOff w1 g0 A l) (hb : Below w1.heap.size w1 wo) (hg : w1.heap.size ≤ g) : IntsOff wo g A l := by
  intro hn
  obtain ⟨b, off, rfl, h1, h2, h3⟩ := h hn
  exact ⟨b, off, rfl, by omega, Nat.lt_of_lt_of_le h2 hb.size, fun k hk => (hb.cell (p := ⟨b, off + k, none⟩) h2).trans (h3 k hk)⟩


end Go.Proofs.Ytpbkeagpipipmaa.S1

/-
  The draws of chapter 3: spec.l1Cur.words, spec.l1Cur.typeStock, spec.DrawIsEnough, spec.DrawTimesToSet, spec.DrawLeastRecast: some words, some stock, some font. (For FnBills.)
-/
namespace Go.Proofs.Ytpbkeagpipipmaa.S1
open Go.RowKit
set_option linter.unusedVariables false

theorem info_str : (Try.prog.info? 9).map (fun i => (i.zero, i.size, i.bytes)) = some (some (.string .empty), 1, 16) := by kernel_rfl
def sLen : Value → Nat | .slice _ n _ => n | _ => 0
theorem strs_set (l : List ByteArray) (k : Nat) (s : ByteArray) : (strs l).set k (.string s) = strs (l.set k s) := by simp [strs, List.map_set]
theorem strs_lenD (l : List ByteArray) : (strs l).length = l.length := by simp [strs]
def Short20 (l : List ByteArray) : Prop := ∀ s ∈ l, s.size ≤ 20
theorem Short20.snoc {l : List ByteArray} {s : ByteArray} (h : Short20 l) (hs : s.size ≤ 20) : Short20 (l ++ [s]) := fun x hx => by
  rcases List.mem_append.1 hx with h1 | h1
  · exact h x h1
  · simp at h1; subst h1; exact hs
theorem Short20.set {l : List ByteArray} {s : ByteArray} (h : Short20 l) (hs : s.size ≤ 20) (k : Nat) : Short20 (l.set k s) := fun x hx => by
  rcases List.mem_or_eq_of_mem_set hx with h1 | rfl
  · exact h x h1
  · exact hs
theorem Short20.ok {l : List ByteArray} (h : Short20 l) : StrsOk l := fun k hk => by
  have := h _ (List.getElem_mem hk); unfold maxLen; omega

set_option maxRecDepth 100000 in
set_option maxHeartbeats 1000000 in
theorem words_any (b c M : Nat) (A : Option Addr) (xs : List UInt8) (w : World) (hc : CurLe w b A c M xs) (hat : M ≤ 999000) (hxs : xs.length ≤ maxLen) :
    Calls Try.prog 70 #[.pointer (some ⟨b, 0, none⟩)] w fun e w' =>
      (∃ (l : List ByteArray) (B : Option Addr) (d : Nat), e = .returned (.slice B l.length d) ∧ l.length ≤ 41 ∧ Short20 l ∧ w'.ownsRow w.heap.size 9 1 (.slice B l.length d) l.length (strs l)) ∧
      CurLe w' b A c (M + 450) xs ∧ w.grownBy w' (some b) := by
  have hbl := hc.lt
  have HC := Lib.hid hc; clear hc
  obtain ⟨i0, hi, hz0, hz1, hz2⟩ := info_parts info_str
  have HI0 := Lib.hid hi; have HZ0 := Lib.hid hz0; have HZ1 := Lib.hid hz1; have HZ2 := Lib.hid hz2
  clear hi hz0 hz1 hz2
  go_enter Try.func70, Try.ntmps70
  go_wp2_with fail
  refine (pick_any 6 b c M A xs w HC.out (by omega) hxs (by omega) (by omega)).mono ?_
  rintro e w1 ⟨⟨x, hx, rfl⟩, hc1, hg1⟩
  have HC1 := Lib.hid hc1; have HG1 := Lib.hid hg1
  clear hc1 hg1 HC
  go_wp2_with fail
  refine (one_any 16 b c (M + 1) A xs w1 HC1.out (by omega) hxs (by omega) (by omega)).mono ?_
  rintro e w2 ⟨⟨r, rfl⟩, hc2, hg2⟩
  have HC2 := Lib.hid hc2; have HG2 := Lib.hid (grownBy_trans HG1.out hg2)
  clear hc2 hg2 HC1 HG1
  cases r
  · have hx41 : x ≤ 41 := by omega
    have HC3 := Lib.hid (HC2.out.more (M' := M + 3) (by omega))
    have HG3 := HG2
    clear HC2 HG2
    obtain ⟨n, hn⟩ : ∃ n : Nat, n = x := ⟨_, rfl⟩
    rw [← hn] at hx41 ⊢
    clear hx hn
    go_wp2
    go_loopw [3] (fun v wr => ∃ (l : List ByteArray) (B : Option Addr) (d : Nat), l.length ≤ n ∧ Short20 l ∧ v = .slice B l.length d ∧ wr.ownsRow w.heap.size 9 1 v l.length (strs l) ∧ CurLe wr b A c (M + 3 + 10 * l.length) xs ∧ w.grownBy wr (some b)) (fun v _ => n - sLen v)
    case atStart => exact ⟨[], none, 0, Nat.zero_le _, fun s h => absurd h (by simp), rfl, own_nil _ _ _ _, HC3.out, HG3.out⟩
    case round =>
      obtain ⟨l, B, d, hl, hs, rfl, hown, hc, hg⟩ := hrel
      clear HC3 HG3
      have HS := Lib.hid hs; have HO := Lib.hid hown; have HC := Lib.hid hc; have HG := Lib.hid hg
      clear hs hown hc hg
      by_cases hlt : l.length < n
      · go_wp2_with fail
        refine (word_any b c (M + 3 + 10 * l.length) A xs wr HC.out (by omega) hxs).mono ?_
        rintro e w5 ⟨⟨s, hs9, rfl⟩, hc5, hg5⟩
        have hown5 := own_grown HO.out hg5 (fun k hk e => by have := own_lt HO.out k hk; have := Option.some.inj e; omega)
        have HG5 := Lib.hid (grownBy_trans HG.out hg5)
        have HC5 := Lib.hid hc5
        have hsz5 : w.heap.size ≤ w5.heap.size := HG5.out.size
        have hmx : l.length + 1 ≤ maxLen := by unfold maxLen; omega
        clear hc5 hg5 HO HG HC
        go_wp2_with (at_builtin; refine wpList_append_own _ rfl _ _ 44 rfl w.heap.size 9 i0 (.string .empty) 1 16 Try.underlying44 HI0.out HZ0.out HZ1.out HZ2.out rfl (by decide) _ _ _ rfl (hown5.alloc _) ⟨w5.heap.size, 0, none⟩ 1 1 [.string s] rfl rfl (cell_one_new _ _ _) (by simp [Value.oneCell']) hmx (by omega) (by simp; omega) ?_)
        intro v' w6 hown' hgrow _
        have hrw := own_lt hown5
        have hal : w5.grownBy (w5.alloc (.cells #[.string s] 9)) (some b) := grownBy_alloc (World.grownBy.refl _ _) _
        have HC6 := Lib.hid ((HC5.out.below ((Below.refl _ _).alloc (Nat.le_refl _) (.cells #[.string s] 9))).own hgrow (fun k hk => by have := hrw k hk; omega))
        have HG6 := Lib.hid (grownBy_own (grownBy_trans HG5.out hal) hgrow (fun k hk => by have := hrw k hk; omega))
        have ho6 : w6.ownsRow w.heap.size 9 1 v' (l ++ [s]).length (strs (l ++ [s])) := by rw [List.length_append, strs_snoc]; exact hown'
        obtain ⟨B', d', rfl⟩ := own_form_s ho6
        have HO6 := Lib.hid ho6
        have HS6 := Lib.hid (HS.out.snoc (s := s) (by omega))
        clear hown' hgrow hown5 hal ho6
        go_wp2
        go_roundw
        case rel => exact ⟨l ++ [s], B', d', by simp; omega, HS6.out, rfl, HO6.out, HC6.out.more (by simp; omega), HG6.out⟩
        case measure => simp [sLen]; omega
      · have hln : l.length = n := by omega
        subst hln
        by_cases h0 : 0 < l.length
        rotate_left
        · have hza : ¬ (0 : Int) < (l.length : Int) := by omega
          go_wp2
          go_ret
          exact ⟨⟨l, B, d, rfl, hx41, HS.out, HO.out⟩, HC.out.more (by omega), HG.out⟩
        have hza : (0 : Int) < (l.length : Int) := by omega
        go_wp2_with fail
        refine (one_any 16 b c (M + 3 + 10 * l.length) A xs wr HC.out (by omega) hxs (by omega) (by omega)).mono ?_
        rintro e w5 ⟨⟨r, rfl⟩, hc5, hg5⟩
        have HO5 := Lib.hid (own_grown HO.out hg5 (fun k hk e => by have := own_lt HO.out k hk; have := Option.some.inj e; omega))
        have HG5 := Lib.hid (grownBy_trans HG.out hg5)
        have HC5 := Lib.hid hc5
        clear hc5 hg5 HO HG HC
        cases r
        · go_wp2
          go_ret
          exact ⟨⟨l, B, d, rfl, hx41, HS.out, HO5.out⟩, HC5.out.more (by omega), HG5.out⟩
        go_wp2_with fail
        refine (pick_any l.length b c (M + 3 + 10 * l.length + 1) A xs w5 HC5.out (by omega) hxs h0 (by omega)).mono ?_
        rintro e w6 ⟨⟨k, hk, rfl⟩, hc6, hg6⟩
        have HO6 := Lib.hid (own_grown HO5.out hg6 (fun k hk e => by have := own_lt HO5.out k hk; have := Option.some.inj e; omega))
        have HG6 := Lib.hid (grownBy_trans HG5.out hg6)
        have HC6 := Lib.hid hc6
        clear hc6 hg6 HO5 HG5 HC5
        go_wp2_with fail
        refine (anyWord_any b c (M + 3 + 10 * l.length + 1 + 1) A xs w6 HC6.out (by omega) hxs).mono ?_
        rintro e w7 ⟨⟨s, hs20, rfl⟩, hc7, hg7⟩
        have HO7 := own_grown HO6.out hg7 (fun k hk e => by have := own_lt HO6.out k hk; have := Option.some.inj e; omega)
        have HG7 := Lib.hid (grownBy_trans HG6.out hg7)
        have HC7 := Lib.hid hc7
        clear hc7 hg7 HO6 HG6 HC6
        obtain ⟨g, rfl, hgb, hgz, hslot⟩ := own_slot HO7 h0
        obtain ⟨⟨u, hu⟩, hfz⟩ := hslot k (by rw [strs_lenD]; exact hk)
        have hset := own_set HO7 (i := k) (by rw [strs_lenD]; exact hk) (.string s)
        rw [strs_set] at hset
        have HO8 : Hid ((w7.setCell ⟨g, k, none⟩ (.string s)).ownsRow w.heap.size 9 1 (.slice (some ⟨g, 0, none⟩) (l.set k s).length d) (l.set k s).length (strs (l.set k s))) := Lib.hid (by rw [List.length_set]; exact hset)
        have hgr : w7.grownBy (w7.setCell ⟨g, k, none⟩ (.string s)) (some g) := grown_set (World.grownBy.refl _ _) _ _
        have HC8 := Lib.hid (HC7.out.own hgr (fun k hk => by have := Option.some.inj hk; omega))
        have HG8 := Lib.hid (grownBy_own HG7.out hgr (fun k hk => by have := Option.some.inj hk; omega))
        have hk1 : (k : Int) < (l.length : Int) := by omega
        have HS8 := Lib.hid (HS.out.set hs20 k)
        have hsl : (l.set k s).length = l.length := List.length_set
        have HSL := Lib.hid hsl
        clear hset hgr HO7 hslot HC7 HG7 hsl
        go_wp2
        go_ret
        exact ⟨⟨l.set k s, _, d, by rw [HSL.out]; rfl, by rw [HSL.out]; exact hx41, HS8.out, HO8.out⟩, HC8.out.more (by omega), HG8.out⟩
  · go_wp2_with fail
    refine (pick_any 2 b c (M + 1 + 1) A xs w2 HC2.out (by omega) hxs (by omega) (by omega)).mono ?_
    rintro e w3 ⟨⟨y, hy, rfl⟩, hc3, hg3⟩
    have HC3 : Hid (CurLe w3 b A c (M + 3) xs) := Lib.hid hc3
    have HG3 := Lib.hid (grownBy_trans HG2.out hg3)
    have hy1 : (y : Int) < 2 := by omega
    clear hc3 hg3 HC2 HG2
    go_wp2
    rw [show (40 : Int) + (y : Int) = ((40 + y : Nat) : Int) from by omega]
    obtain ⟨n, hn⟩ : ∃ n : Nat, n = 40 + y := ⟨_, rfl⟩
    have hx41 : n ≤ 41 := by omega
    rw [← hn]
    clear hy hn hx hy1
    go_loopw [3] (fun v wr => ∃ (l : List ByteArray) (B : Option Addr) (d : Nat), l.length ≤ n ∧ Short20 l ∧ v = .slice B l.length d ∧ wr.ownsRow w.heap.size 9 1 v l.length (strs l) ∧ CurLe wr b A c (M + 3 + 10 * l.length) xs ∧ w.grownBy wr (some b)) (fun v _ => n - sLen v)
    case atStart => exact ⟨[], none, 0, Nat.zero_le _, fun s h => absurd h (by simp), rfl, own_nil _ _ _ _, HC3.out, HG3.out⟩
    case round =>
      obtain ⟨l, B, d, hl, hs, rfl, hown, hc, hg⟩ := hrel
      clear HC3 HG3
      have HS := Lib.hid hs; have HO := Lib.hid hown; have HC := Lib.hid hc; have HG := Lib.hid hg
      clear hs hown hc hg
      by_cases hlt : l.length < n
      · go_wp2_with fail
        refine (word_any b c (M + 3 + 10 * l.length) A xs wr HC.out (by omega) hxs).mono ?_
        rintro e w5 ⟨⟨s, hs9, rfl⟩, hc5, hg5⟩
        have hown5 := own_grown HO.out hg5 (fun k hk e => by have := own_lt HO.out k hk; have := Option.some.inj e; omega)
        have HG5 := Lib.hid (grownBy_trans HG.out hg5)
        have HC5 := Lib.hid hc5
        have hsz5 : w.heap.size ≤ w5.heap.size := HG5.out.size
        have hmx : l.length + 1 ≤ maxLen := by unfold maxLen; omega
        clear hc5 hg5 HO HG HC
        go_wp2_with (at_builtin; refine wpList_append_own _ rfl _ _ 44 rfl w.heap.size 9 i0 (.string .empty) 1 16 Try.underlying44 HI0.out HZ0.out HZ1.out HZ2.out rfl (by decide) _ _ _ rfl (hown5.alloc _) ⟨w5.heap.size, 0, none⟩ 1 1 [.string s] rfl rfl (cell_one_new _ _ _) (by simp [Value.oneCell']) hmx (by omega) (by simp; omega) ?_)
        intro v' w6 hown' hgrow _
        have hrw := own_lt hown5
        have hal : w5.grownBy (w5.alloc (.cells #[.string s] 9)) (some b) := grownBy_alloc (World.grownBy.refl _ _) _
        have HC6 := Lib.hid ((HC5.out.below ((Below.refl _ _).alloc (Nat.le_refl _) (.cells #[.string s] 9))).own hgrow (fun k hk => by have := hrw k hk; omega))
        have HG6 := Lib.hid (grownBy_own (grownBy_trans HG5.out hal) hgrow (fun k hk => by have := hrw k hk; omega))
        have ho6 : w6.ownsRow w.heap.size 9 1 v' (l ++ [s]).length (strs (l ++ [s])) := by rw [List.length_append, strs_snoc]; exact hown'
        obtain ⟨B', d', rfl⟩ := own_form_s ho6
        have HO6 := Lib.hid ho6
        have HS6 := Lib.hid (HS.out.snoc (s := s) (by omega))
        clear hown' hgrow hown5 hal ho6
        go_wp2
        go_roundw
        case rel => exact ⟨l ++ [s], B', d', by simp; omega, HS6.out, rfl, HO6.out, HC6.out.more (by simp; omega), HG6.out⟩
        case measure => simp [sLen]; omega
      · have hln : l.length = n := by omega
        subst hln
        by_cases h0 : 0 < l.length
        rotate_left
        · have hza : ¬ (0 : Int) < (l.length : Int) := by omega
          go_wp2
          go_ret
          exact ⟨⟨l, B, d, rfl, hx41, HS.out, HO.out⟩, HC.out.more (by omega), HG.out⟩
        have hza : (0 : Int) < (l.length : Int) := by omega
        go_wp2_with fail
        refine (one_any 16 b c (M + 3 + 10 * l.length) A xs wr HC.out (by omega) hxs (by omega) (by omega)).mono ?_
        rintro e w5 ⟨⟨r, rfl⟩, hc5, hg5⟩
        have HO5 := Lib.hid (own_grown HO.out hg5 (fun k hk e => by have := own_lt HO.out k hk; have := Option.some.inj e; omega))
        have HG5 := Lib.hid (grownBy_trans HG.out hg5)
        have HC5 := Lib.hid hc5
        clear hc5 hg5 HO HG HC
        cases r
        · go_wp2
          go_ret
          exact ⟨⟨l, B, d, rfl, hx41, HS.out, HO5.out⟩, HC5.out.more (by omega), HG5.out⟩
        go_wp2_with fail
        refine (pick_any l.length b c (M + 3 + 10 * l.length + 1) A xs w5 HC5.out (by omega) hxs h0 (by omega)).mono ?_
        rintro e w6 ⟨⟨k, hk, rfl⟩, hc6, hg6⟩
        have HO6 := Lib.hid (own_grown HO5.out hg6 (fun k hk e => by have := own_lt HO5.out k hk; have := Option.some.inj e; omega))
        have HG6 := Lib.hid (grownBy_trans HG5.out hg6)
        have HC6 := Lib.hid hc6
        clear hc6 hg6 HO5 HG5 HC5
        go_wp2_with fail
        refine (anyWord_any b c (M + 3 + 10 * l.length + 1 + 1) A xs w6 HC6.out (by omega) hxs).mono ?_
        rintro e w7 ⟨⟨s, hs20, rfl⟩, hc7, hg7⟩
        have HO7 := own_grown HO6.out hg7 (fun k hk e => by have := own_lt HO6.out k hk; have := Option.some.inj e; omega)
        have HG7 := Lib.hid (grownBy_trans HG6.out hg7)
        have HC7 := Lib.hid hc7
        clear hc7 hg7 HO6 HG6 HC6
        obtain ⟨g, rfl, hgb, hgz, hslot⟩ := own_slot HO7 h0
        obtain ⟨⟨u, hu⟩, hfz⟩ := hslot k (by rw [strs_lenD]; exact hk)
        have hset := own_set HO7 (i := k) (by rw [strs_lenD]; exact hk) (.string s)
        rw [strs_set] at hset
        have HO8 : Hid ((w7.setCell ⟨g, k, none⟩ (.string s)).ownsRow w.heap.size 9 1 (.slice (some ⟨g, 0, none⟩) (l.set k s).length d) (l.set k s).length (strs (l.set k s))) := Lib.hid (by rw [List.length_set]; exact hset)
        have hgr : w7.grownBy (w7.setCell ⟨g, k, none⟩ (.string s)) (some g) := grown_set (World.grownBy.refl _ _) _ _
        have HC8 := Lib.hid (HC7.out.own hgr (fun k hk => by have := Option.some.inj hk; omega))
        have HG8 := Lib.hid (grownBy_own HG7.out hgr (fun k hk => by have := Option.some.inj hk; omega))
        have hk1 : (k : Int) < (l.length : Int) := by omega
        have HS8 := Lib.hid (HS.out.set hs20 k)
        have hsl : (l.set k s).length = l.length := List.length_set
        have HSL := Lib.hid hsl
        clear hset hgr HO7 hslot HC7 HG7 hsl
        go_wp2
        go_ret
        exact ⟨⟨l.set k s, _, d, by rw [HSL.out]; rfl, by rw [HSL.out]; exact hx41, HS8.out, HO8.out⟩, HC8.out.more (by omega), HG8.out⟩

def DrawTo (w w' : World) (vs : List Value) : Prop := ∃ (f : List (ByteArray × Int)) (B : Option Addr) (d : Nat) (l : List Int) (B2 : Option Addr) (d2 : Nat) (ws : List ByteArray) (B3 : Option Addr) (d3 : Nat),
  vs = [.slice B f.length d, .slice B2 l.length d2, .slice B3 ws.length d3] ∧ f.length ≤ 40 ∧ CodesOk f ∧ l.length ≤ 41 ∧ ws.length ≤ 41 ∧ StrsOk ws ∧ SortsIn w' 0 B f ∧ IntsIn w' B2 l ∧ StrsIn w' B3 ws ∧ Below w.heap.size w w'
theorem intsZ_lenD (l : List Int) : (intsZ l).length = l.length := by simp [intsZ]
def stockNums : List Int := [0, 1, 2, 3, 5, 8, 20, 100]
def oddNums : List Int := [100000, 100001, -1]
def times3 : List Int := [3, 1001, -1]
theorem BytesIn.below {w w' : World} {B : Nat} {A : Option Addr} {l : List UInt8} (h : BytesIn w A l) (hb : Below B w w') (hB : w.heap.size ≤ B) : BytesIn w' A l := by
  intro hn
  obtain ⟨b, off, rfl, h2, h3⟩ := h hn
  refine ⟨b, off, rfl, Nat.lt_of_lt_of_le h2 hb.size, fun k hk => ?_⟩
  rw [hb.cell (by show b < B; omega)]
  exact h3 k hk

def sumTo (l : List Int) (k : Nat) : Int := (l.take k).sum
theorem sumTo_succ (l : List Int) {k : Nat} (h : k < l.length) : sumTo l (k + 1) = sumTo l k + l[k] := by
  unfold sumTo; rw [List.take_succ_eq_append_getElem h, List.sum_append]; simp only [List.sum_cons, List.sum_nil, Int.add_zero]
theorem qSum_any (l : List Int) (A : Option Addr) (c : Nat) (w : World) (hf : IntsIn w A l) (hn : l.length ≤ 64) (hb : ∀ k (h : k < l.length), 0 ≤ l[k] ∧ l[k] ≤ 100000) :
    Calls Try.prog 27 #[.slice A l.length c] w fun e w' => e = .returned (.int .i64 l.sum) ∧ w = w' := by
  have HF := Lib.hid hf; clear hf
  have HB := Lib.hid hb; clear hb
  go_enter Try.func27, Try.ntmps27
  go_wp2
  go_loop [3, 8] (fun q i => ∃ (k : Nat) (S : Int), k ≤ l.length ∧ i = .int .i64 k ∧ q = .int .i64 S ∧ S = sumTo l k ∧ 0 ≤ S ∧ S ≤ 100000 * (k : Int)) (fun _ i => l.length - (intOf i).toNat)
  case atStart => exact ⟨0, 0, Nat.zero_le _, rfl, rfl, rfl, by omega, by omega⟩
  case round =>
    obtain ⟨k, S, hk, rfl, rfl, hs, h0, h1⟩ := hrel
    have HS := Lib.hid hs; clear hs
    by_cases hlt : k < l.length
    · obtain ⟨b, off, rfl, hbl, hc⟩ := HF.out (by omega)
      have hc0 := hc k hlt
      clear hc
      have hx := HB.out k hlt
      have HST := Lib.hid (sumTo_succ l hlt)
      generalize l[k] = x at *
      go_wp2
      go_round
      case rel => exact ⟨k + 1, S + x, by omega, by go_num, rfl, by rw [HST.out, HS.out], by omega, by omega⟩
      case measure => simp [intOf]; omega
    · obtain rfl : k = l.length := by omega
      go_wp2
      go_ret
      exact ⟨ret_int (by rw [HS.out]; unfold sumTo; rw [List.take_length]), rfl⟩
end Go.Proofs.Ytpbkeagpipipmaa.S1

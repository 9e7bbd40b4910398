/-
  The contract of impl.NewException.
-/
import Derived.Test.YtcbhhbcfnaekpaaDoorHzb
import Derived.Test.YtcbhhbcfnaekpaaDoorHyq
import Derived.Sort.MapsRangeIn
import Derived.Maps.RangeWalk
namespace Go.Proofs.YtcbhhbcfnaekpaaDoor
open Go.RowKit Go.Maps Go.WideMaps
set_option linter.unusedVariables false

/-- Block b: these texts. -/
def TbS (w : World) (b : Nat) (l : List ByteArray) : Prop := ∃ cs : Array Value, w.heap[b]? = some (.cells cs 9 (0, 0)) ∧ cs.toList = strs l
theorem TbS.lt {w : World} {b : Nat} {l : List ByteArray} (h : TbS w b l) : b < w.heap.size := by obtain ⟨cs, h1, _⟩ := h; exact lt_of_heap h1
theorem TbS.cell {w : World} {b j : Nat} {l : List ByteArray} (h : TbS w b l) (hj : j < l.length) : w.cell? ⟨b, j, none⟩ = some (.string l[j]) := by
  obtain ⟨cs, h1, h2⟩ := h
  rw [cell_of_heap h1, ← Array.getElem?_toList, h2]
  simp [strs, hj]
theorem TbS.free {w : World} {b : Nat} {l : List ByteArray} (h : TbS w b l) (j : Nat) : w.frozen? ⟨b, j, none⟩ = false := by
  obtain ⟨cs, h1, _⟩ := h; exact free_of_heap h1 j
theorem TbS.kept {w w' : World} {b : Nat} {l : List ByteArray} {row : Option Nat} (h : TbS w b l) (hg : w.grownBy w' row) (hr : some b ≠ row) : TbS w' b l := by
  obtain ⟨cs, h1, h2⟩ := h; exact ⟨cs, (hg.block b (lt_of_heap h1) hr).trans h1, h2⟩
theorem TbS.set {w : World} {b : Nat} {l : List ByteArray} (h : TbS w b l) (i : Nat) (x : ByteArray) : TbS (w.setCell ⟨b, i, none⟩ (.string x)) b (l.set i x) := by
  obtain ⟨cs, h1, h2⟩ := h
  refine ⟨_, heap_set h1 _, ?_⟩
  rw [Array.toList_setIfInBounds, h2, strs_set]
theorem TbS.made (w : World) (n : Nat) : TbS (w.alloc (.cells (madeCells #[.string .empty] (n * 1)) 9)) w.heap.size (List.replicate n .empty) := by
  refine ⟨_, heap_new _ _, ?_⟩
  apply List.ext_getElem
  · simp [strs, size_madeCells]
  · intro j h1 h2
    simp [madeCells, strs, Nat.mod_one]
theorem TbS.own {w : World} {b base n : Nat} {l : List ByteArray} (h : TbS w b l) (hl : l.length = n) (hb : base ≤ b) (hn : n ≤ maxLen) : w.ownsRow base 9 1 (.slice (some ⟨b, 0, none⟩) n n) n (strs l) := by
  obtain ⟨cs, h1, h2⟩ := h
  have hsz : cs.size = n := by rw [← Array.length_toList, h2, strs_len, hl]
  refine ⟨by rw [strs_len, hl]; omega, .inr ⟨b, n, cs, rfl, hb, h1, Nat.le_refl _, hn, by omega, ?_⟩⟩
  rw [h2, List.take_of_length_le (by rw [strs_len]; omega)]
/-- What a map says of all exceptions but the one at p. -/
structure TabE (D : DataW Unit) (es : List ByteArray) (p : Nat) : Prop where
  has1 : ∀ j (h : j < es.length), j ≠ p → has D (keyS (exW es[j])) = true
  has2 : ∀ kl, has D kl = true → ∃ j, ∃ h : j < es.length, j ≠ p ∧ kl = keyS (exW es[j])
  val : ∀ j (h : j < es.length), j ≠ p → ∀ z, D.atKey (keyS (exW es[j])) z = .lit (.int .i64 (j : Int))
theorem ex_ne {es : List ByteArray} (hn : (es.map exW).Nodup) {i j : Nat} (hi : i < es.length) (hj : j < es.length) (e : exW es[i] = exW es[j]) : i = j := by
  have h := (List.nodup_iff_pairwise_ne.1 hn)
  rw [List.pairwise_iff_getElem] at h
  rcases Nat.lt_trichotomy i j with h1 | h1 | h1
  · exact absurd (by rw [List.getElem_map, List.getElem_map]; exact e) (h i j (by simpa using hi) (by simpa using hj) h1)
  · exact h1
  · exact absurd (by rw [List.getElem_map, List.getElem_map]; exact e.symm) (h j i (by simpa using hj) (by simpa using hi) h1)
theorem TabD.cut {D : DataW Unit} {es : List ByteArray} {i : Nat} {wd : ByteArray} (h : TabD D es es.length) (hn : (es.map exW).Nodup) (hi : i < es.length) (e : exW es[i] = wd) : TabE (D.del (keyS wd)) es i ∧ Maps.size (D.del (keyS wd)) + 1 = es.length := by
  subst e
  have hnd : ((es.take es.length).map exW).Nodup := by rw [List.take_length]; exact hn
  have hk : ∀ j (h : j < es.length), j ≠ i → keyS (exW es[j]) ≠ keyS (exW es[i]) := fun j hj hji e2 => hji (ex_ne hn hj hi (keyS_inj e2))
  refine ⟨⟨fun j hj hji => by rw [has_del_other (hk j hj hji)]; exact h.has1 j hj hj, fun kl hkl => ?_, fun j hj hji z => by rw [atKey_del_other (hk j hj hji)]; exact h.val hnd j hj hj z⟩, ?_⟩
  · by_cases e3 : kl = keyS (exW es[i])
    · subst e3; rw [has_del_same] at hkl; cases hkl
    · rw [has_del_other e3] at hkl
      obtain ⟨j, hj, _, e4⟩ := h.has2 kl hkl
      exact ⟨j, hj, fun e5 => by subst e5; exact e3 e4, e4⟩
  · have h1 := size_del h.tidy (k := keyS (exW es[i]))
    rw [h.has1 i hi hi, if_pos rfl, h.size.2.2 hnd] at h1
    exact h1
theorem TabD.cut0 {D : DataW Unit} {es : List ByteArray} {wd : ByteArray} (h : TabD D es es.length) (hn : (es.map exW).Nodup) (hno : hasS (es.map exW) wd = false) : TabE (D.del (keyS wd)) es es.length ∧ Maps.size (D.del (keyS wd)) = es.length := by
  have hnd : ((es.take es.length).map exW).Nodup := by rw [List.take_length]; exact hn
  have hin := h.hasIn (Nat.le_refl _) wd
  rw [List.take_length, hno] at hin
  have hk : ∀ j (h : j < es.length), keyS (exW es[j]) ≠ keyS wd := fun j hj e2 => by
    have := h.has1 j hj hj
    rw [e2, hin] at this; cases this
  refine ⟨⟨fun j hj _ => by rw [has_del_other (hk j hj)]; exact h.has1 j hj hj, fun kl hkl => ?_, fun j hj _ z => by rw [atKey_del_other (hk j hj)]; exact h.val hnd j hj hj z⟩, ?_⟩
  · by_cases e3 : kl = keyS wd
    · subst e3; rw [has_del_same] at hkl; cases hkl
    · rw [has_del_other e3] at hkl
      obtain ⟨j, hj, _, e4⟩ := h.has2 kl hkl
      exact ⟨j, hj, by omega, e4⟩
  · have h1 := size_del h.tidy (k := keyS wd)
    rw [hin, h.size.2.2 hnd] at h1
    simpa using h1
theorem hasS_no {l : List ByteArray} {s : ByteArray} (h : hasS l s = false) : s ∉ l := fun hm => by rw [hasS_mem.2 hm] at h; cases h
/-- What the round keeps of the new list. -/
structure NewI (es : List ByteArray) (e : ByteArray) (p n : Nat) (C : List ByteArray) (left : Lit → Bool) : Prop where
  len : C.length = n
  at_ : C[p]? = some e
  old : ∀ j (h : j < es.length), j ≠ p → left (keyS (exW es[j])) = false → C[j]? = some es[j]
theorem NewI.step {es : List ByteArray} {e : ByteArray} {p n : Nat} {C : List ByteArray} {left : Lit → Bool} (h : NewI es e p n C left) (hn : (es.map exW).Nodup) {j : Nat} (hj : j < es.length) (hjp : j ≠ p) (hjn : j < n) : NewI es e p n (C.set j es[j]) (fun z => left z && !z.sameKey (keyS (exW es[j]))) := by
  refine ⟨by rw [List.length_set]; exact h.len, by rw [List.getElem?_set_ne (by omega)]; exact h.at_, fun i hi hip hl => ?_⟩
  by_cases e2 : i = j
  · subst e2
    rw [List.getElem?_set_self (by rw [h.len]; exact hjn)]
  · rw [List.getElem?_set_ne (by omega)]
    refine h.old i hi hip ?_
    have h3 : (keyS (exW es[i])).sameKey (keyS (exW es[j])) = false := sameKey_ne (fun e3 => e2 (ex_ne hn hi hj (keyS_inj e3)))
    simpa [h3] using hl
theorem NewI.done_set {es : List ByteArray} {e : ByteArray} {i n : Nat} {C : List ByteArray} {left : Lit → Bool} (h : NewI es e i n C left) (hl : ∀ kl, left kl = false) (hn : n = es.length) (hi : i < es.length) : C = es.set i e := by
  apply List.ext_getElem?
  intro j
  by_cases hj : j < es.length
  · by_cases e2 : j = i
    · subst e2; rw [h.at_, List.getElem?_set_self hj]
    · rw [h.old j hj e2 (hl _), List.getElem?_set_ne (by omega), List.getElem?_eq_getElem hj]
  · rw [List.getElem?_eq_none (by rw [h.len]; omega), List.getElem?_eq_none (by rw [List.length_set]; omega)]
theorem NewI.done_app {es : List ByteArray} {e : ByteArray} {n : Nat} {C : List ByteArray} {left : Lit → Bool} (h : NewI es e es.length n C left) (hl : ∀ kl, left kl = false) (hn : n = es.length + 1) : C = es ++ [e] := by
  apply List.ext_getElem?
  intro j
  rcases Nat.lt_trichotomy j es.length with hj | hj | hj
  · rw [h.old j hj (by omega) (hl _), List.getElem?_append_left hj, List.getElem?_eq_getElem hj]
  · subst hj; rw [h.at_]; simp
  · rw [List.getElem?_eq_none (by rw [h.len]; omega), List.getElem?_eq_none (by simp; omega)]
theorem run_makeStr1 (n : Nat) (hn : n ≤ 1000) (w : World) :
    (Instr.makeSlice 23 (.int .i64 ((n : Int) + 1)) (.int .i64 ((n : Int) + 1))).run Tryd.prog w = .ok (.slice (some ⟨w.heap.size, 0, none⟩) (n + 1) (n + 1)) (w.alloc (.cells (madeCells #[.string .empty] ((n + 1) * 1)) 9)) := by
  have := run_makeStr (n + 1) (by omega) w
  rwa [show ((n + 1 : Nat) : Int) = (n : Int) + 1 from by omega] at this
end Go.Proofs.YtcbhhbcfnaekpaaDoor

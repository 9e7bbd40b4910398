/-
  The contract of spec.DivideByWeights.
-/
import Derived.Test.YtdlobjjfakffaaaJn
import Derived.Test.YtdlobjjfakffaaaVb
import Derived.BigRegion
import Derived.OwnWalk
import Derived.Maps.AppendAt
namespace Go.Proofs.Ytdlobjjfakffaaa
open Go.RowKit
set_option linter.unusedVariables false

theorem own_setW {w : World} {base n cap g i : Nat} {e : TypeId} {xs : List Value} (h : w.ownsRow base e 1 (.slice (some ⟨g, 0, none⟩) n cap) n xs) (hi : i < xs.length) (u : Value) :
    (w.setCell ⟨g, i, none⟩ u).ownsRow base e 1 (.slice (some ⟨g, 0, none⟩) n cap) n (xs.set i u) := by
  refine ⟨by rw [List.length_set]; exact h.1, ?_⟩
  rcases h.2 with ⟨hv, _⟩ | ⟨g', cap', cur, hv, hg, hh, h1, h2, h3, h4⟩
  · cases hv
  · injection hv with e1 e2 e3
    injection e1 with e1
    injection e1 with e1
    subst e1
    refine .inr ⟨g, cap', _, by rw [e3], hg, heap_set hh u, h1, h2, by simpa using h3, ?_⟩
    rw [Array.toList_setIfInBounds, List.take_set, h4]
theorem own_rowW {w : World} {base n : Nat} {e : TypeId} {v : Value} {xs : List Value} (h : w.ownsRow base e 1 v n xs) (hn : 1 ≤ n) : ∃ g cap, v = .slice (some ⟨g, 0, none⟩) n cap ∧ base ≤ g ∧ g < w.heap.size ∧ (∀ i (hi : i < xs.length), w.cell? ⟨g, i, none⟩ = some xs[i]) ∧ ∀ i, w.frozen? ⟨g, i, none⟩ = false := by
  have hx := h.1
  rcases h.2 with ⟨rfl, hz⟩ | ⟨g, cap, cur, rfl, hg, hh, h1, h2, h3, h4⟩
  · omega
  · refine ⟨g, cap, rfl, hg, lt_of_heap hh, fun i hi => ?_, fun i => free_of_heap hh i⟩
    rw [cell_of_heap hh]
    have : (cur.toList.take (n * 1))[i]? = xs[i]? := by rw [h4]
    rw [List.getElem?_take_of_lt (by omega), List.getElem?_eq_getElem hi] at this
    rw [← Array.getElem?_toList]; exact this
theorem run_makeBW (n : Nat) (hn : n ≤ 1048576) (w : World) :
    (Instr.makeSlice 31 (.int .i64 (n : Int)) (.int .i64 (n : Int))).run Try.prog w = .ok (.slice (some ⟨w.heap.size, 0, none⟩) n n) (w.alloc (.cells (madeCells #[.bool false] (n * 1)) 4)) := by
  obtain ⟨i0, hi, hz0, hz1, hz2⟩ := info_parts info_bool
  have h := run_make (P := Try.prog) w 31 4 i0 _ Try.underlying31 hi hz0 .i64 .i64 (n : Int) (n : Int) (by omega) (Int.le_refl _) (by rw [hz2]; omega) (by omega)
  rw [hz1, Int.toNat_natCast] at h
  exact h
def qL (l : List Int) (T S : Int) (k : Nat) : List Int := (List.range k).map (dq l T S)
theorem qL_len (l : List Int) (T S : Int) (k : Nat) : (qL l T S k).length = k := by simp [qL]
theorem qL_succ (l : List Int) (T S : Int) (k : Nat) : qL l T S (k + 1) = qL l T S k ++ [dq l T S k] := by simp [qL, List.range_succ]
theorem qL_all (l : List Int) (T S : Int) : qL l T S l.length = outL l T S 0 := by
  unfold qL outL
  congr 1; funext i; rw [out_zero]
open Classical in
noncomputable def gvB (R : List Int) (t j : Nat) : Bool := decide (Gvn R t j)
theorem gvB_iff {R : List Int} {t j : Nat} : gvB R t j = true ↔ Gvn R t j := by unfold gvB; exact @decide_eq_true_iff _ (Classical.propDecidable _)
noncomputable def gvF (R : List Int) (t : Nat) : Nat → Value := fun j => .bool (gvB R t j)
theorem gvF_step {R : List Int} {t b : Nat} (h : topF R t = rowI R b) : (fun j => if j = b then Value.bool true else gvF R t j) = gvF R (t + 1) := by
  funext j
  unfold gvF
  by_cases e : j = b
  · rw [if_pos e, show gvB R (t + 1) j = true from gvB_iff.2 ((gvn_succ h j).2 (.inr e))]
  · rw [if_neg e]
    congr 1
    cases hg : gvB R t j with
    | true => exact (gvB_iff.2 ((gvn_succ h j).2 (.inl (gvB_iff.1 hg)))).symm
    | false =>
      cases hg2 : gvB R (t + 1) j with
      | false => rfl
      | true =>
        rcases (gvn_succ h j).1 (gvB_iff.1 hg2) with c | c
        · rw [gvB_iff.2 c] at hg; cases hg
        · exact absurd c e
theorem outL_set {l : List Int} {T S : Int} {t b : Nat} (hb : b < l.length) (h : topF (remL l T S) t = rowI (remL l T S) b) (hf : ¬ Gvn (remL l T S) t b) : (intsZ (outL l T S t)).set b (.int .i64 (outF l T S t b + 1)) = intsZ (outL l T S (t + 1)) := by
  apply List.ext_getElem
  · simp [intsZ, outL]
  · intro i h1 h2
    simp only [intsZ, outL, List.getElem_set, List.getElem_map, List.getElem_range]
    by_cases e : b = i
    · subst e; rw [if_pos rfl, out_here h hf]
    · rw [if_neg e, out_else h (fun x => e x.symm)]
/-- The best of those below k that are not given. -/
def BestTo (R : List Int) (t k : Nat) (v : Int) : Prop :=
  (v = -1 ∧ ∀ j, j < k → Gvn R t j) ∨ ∃ b : Nat, v = (b : Int) ∧ b < k ∧ ¬ Gvn R t b ∧ ∀ j, j < k → ¬ Gvn R t j → j = b ∨ Ah (rowI R b) (rowI R j)
theorem BestTo.given {R : List Int} {t k : Nat} {v : Int} (h : BestTo R t k v) (hg : Gvn R t k) : BestTo R t (k + 1) v := by
  have sp : ∀ j, j < k + 1 → j < k ∨ j = k := fun j h => by omega
  rcases h with ⟨h1, h2⟩ | ⟨b, h1, h2, h3, h4⟩
  · exact .inl ⟨h1, fun j hj => by rcases sp j hj with c | c; exact h2 j c; rw [c]; exact hg⟩
  · exact .inr ⟨b, h1, by omega, h3, fun j hj hn => by rcases sp j hj with c | c; exact h4 j c hn; rw [c] at hn; exact absurd hg hn⟩
theorem BestTo.first {R : List Int} {t k : Nat} {v : Int} (h : BestTo R t k v) (hv : v < 0) (hg : ¬ Gvn R t k) : BestTo R t (k + 1) k := by
  have sp : ∀ j, j < k + 1 → j < k ∨ j = k := fun j h => by omega
  rcases h with ⟨h1, h2⟩ | ⟨b, h1, h2, h3, h4⟩
  · exact .inr ⟨k, rfl, by omega, hg, fun j hj hn => by rcases sp j hj with c | c; exact absurd (h2 j c) hn; exact .inl c⟩
  · omega
theorem BestTo.more {R : List Int} {t k b : Nat} (h : BestTo R t k (b : Int)) (hg : ¬ Gvn R t k) (hr : R.getD b 0 < R.getD k 0) : BestTo R t (k + 1) k := by
  have sp : ∀ j, j < k + 1 → j < k ∨ j = k := fun j h => by omega
  rcases h with ⟨h1, h2⟩ | ⟨b', h1, h2, h3, h4⟩
  · omega
  · obtain rfl : b = b' := by omega
    refine .inr ⟨k, rfl, by omega, hg, fun j hj hn => ?_⟩
    rcases sp j hj with c | c
    · right
      have hkb : Ah (rowI R k) (rowI R b) := .inl hr
      rcases h4 j c hn with d | d
      · rw [d]; exact hkb
      · exact hkb.trans d
    · exact .inl c
theorem BestTo.stay {R : List Int} {t k b : Nat} (h : BestTo R t k (b : Int)) (hr : ¬ R.getD b 0 < R.getD k 0) : BestTo R t (k + 1) b := by
  have sp : ∀ j, j < k + 1 → j < k ∨ j = k := fun j h => by omega
  rcases h with ⟨h1, h2⟩ | ⟨b', h1, h2, h3, h4⟩
  · omega
  · obtain rfl : b = b' := by omega
    refine .inr ⟨b, rfl, by omega, h3, fun j hj hn => ?_⟩
    rcases sp j hj with c | c
    · exact h4 j c hn
    · right
      rw [c]
      unfold Ah rowI
      simp only
      omega
end Go.Proofs.Ytdlobjjfakffaaa

/-
  Plain words on a stable sort of rows (an index and a value), the greatest value first: exchange, rotation, insertion, the symmetric merge.
-/
import Derived.Test.YtdlobjjfakffaaaIn
namespace Go.Proofs.Ytdlobjjfakffaaa
set_option linter.unusedVariables false

structure Rq where
  i : Int
  v : Int
/-- x comes ahead of y. -/
def Ah (x y : Rq) : Prop := y.v < x.v ∨ (x.v = y.v ∧ x.i < y.i)
theorem Ah.trans {x y z : Rq} (h : Ah x y) (h' : Ah y z) : Ah x z := by unfold Ah at *; omega
theorem ah_irr {x : Rq} (h : Ah x x) : False := by unfold Ah at h; omega
/-- For a row that stands behind another in the beginning. -/
theorem ah_less {x y : Rq} (h : y.i < x.i) : y.v < x.v ↔ Ah x y := by unfold Ah; omega
theorem ah_not {x y : Rq} (h : y.i < x.i) : ¬ y.v < x.v ↔ Ah y x := by unfold Ah; omega

def Same (lo hi : Nat) (f g : Nat → Rq) : Prop := (∀ k, ¬ (lo ≤ k ∧ k < hi) → g k = f k) ∧ ∀ x, (∃ k, lo ≤ k ∧ k < hi ∧ f k = x) ↔ ∃ k, lo ≤ k ∧ k < hi ∧ g k = x
theorem Same.refl (lo hi : Nat) (f : Nat → Rq) : Same lo hi f f := ⟨fun _ _ => rfl, fun _ => Iff.rfl⟩
theorem Same.trans {lo hi : Nat} {f g h : Nat → Rq} (a : Same lo hi f g) (b : Same lo hi g h) : Same lo hi f h := ⟨fun k hk => (b.1 k hk).trans (a.1 k hk), fun x => (a.2 x).trans (b.2 x)⟩
theorem Same.back {lo hi : Nat} {f g : Nat → Rq} (a : Same lo hi f g) {k : Nat} (h1 : lo ≤ k) (h2 : k < hi) : ∃ j, lo ≤ j ∧ j < hi ∧ f j = g k := (a.2 (g k)).2 ⟨k, h1, h2, rfl⟩
theorem Same.wide {lo hi lo' hi' : Nat} {f g : Nat → Rq} (a : Same lo hi f g) (h1 : lo' ≤ lo) (h2 : hi ≤ hi') : Same lo' hi' f g := by
  refine ⟨fun k hk => a.1 k (by omega), fun x => ⟨?_, ?_⟩⟩
  · rintro ⟨k, g1, g2, rfl⟩
    by_cases h : lo ≤ k ∧ k < hi
    · obtain ⟨j, j1, j2, e⟩ := (a.2 (f k)).1 ⟨k, h.1, h.2, rfl⟩
      exact ⟨j, by omega, by omega, e⟩
    · exact ⟨k, g1, g2, a.1 k h⟩
  · rintro ⟨k, g1, g2, rfl⟩
    by_cases h : lo ≤ k ∧ k < hi
    · obtain ⟨j, j1, j2, e⟩ := (a.2 (g k)).2 ⟨k, h.1, h.2, rfl⟩
      exact ⟨j, by omega, by omega, e⟩
    · exact ⟨k, g1, g2, (a.1 k h).symm⟩
def Srt (lo hi : Nat) (f : Nat → Rq) : Prop := ∀ i j, lo ≤ i → i < j → j < hi → Ah (f i) (f j)

/-- Two rows exchanged. -/
def swF (a b : Nat) (f : Nat → Rq) : Nat → Rq := fun k => if k = a then f b else if k = b then f a else f k
theorem sw_same {a b lo hi : Nat} {f : Nat → Rq} (ha : lo ≤ a) (ha' : a < hi) (hb : lo ≤ b) (hb' : b < hi) : Same lo hi f (swF a b f) := by
  refine ⟨fun k hk => ?_, fun x => ⟨?_, ?_⟩⟩
  · unfold swF; rw [if_neg (by omega), if_neg (by omega)]
  · rintro ⟨k, h1, h2, rfl⟩
    by_cases e : k = a
    · refine ⟨b, hb, hb', ?_⟩; unfold swF; by_cases e2 : b = a
      · rw [if_pos e2, e, e2]
      · rw [if_neg e2, if_pos rfl, e]
    · by_cases e2 : k = b
      · exact ⟨a, ha, ha', by unfold swF; rw [if_pos rfl, e2]⟩
      · exact ⟨k, h1, h2, by unfold swF; rw [if_neg e, if_neg e2]⟩
  · rintro ⟨k, h1, h2, rfl⟩
    unfold swF
    by_cases e : k = a
    · rw [if_pos e]; exact ⟨b, hb, hb', rfl⟩
    · by_cases e2 : k = b
      · rw [if_neg e, if_pos e2]; exact ⟨a, ha, ha', rfl⟩
      · rw [if_neg e, if_neg e2]; exact ⟨k, h1, h2, rfl⟩

/-- The insertion: the row at j is to go further to the front. -/
structure Inn (a i j : Nat) (g : Nat → Rq) : Prop where
  lo : a ≤ j
  hi : j ≤ i
  rest : ∀ k l, a ≤ k → k < l → l ≤ i → k ≠ j → l ≠ j → Ah (g k) (g l)
  back : ∀ k, j < k → k ≤ i → Ah (g j) (g k)
  late : ∀ k, a ≤ k → k ≤ i → k ≠ j → (g k).i < (g j).i
theorem Inn.step {a i j : Nat} {g : Nat → Rq} (h : Inn a i (j + 1) g) (hj : a ≤ j) (hl : (g j).v < (g (j + 1)).v) : Inn a i j (swF (j + 1) j g) := by
  have hah : Ah (g (j + 1)) (g j) := (ah_less (h.late j hj (by have := h.hi; omega) (by omega))).1 hl
  have e1 : swF (j + 1) j g j = g (j + 1) := by unfold swF; rw [if_neg (by omega), if_pos rfl]
  have e2 : swF (j + 1) j g (j + 1) = g j := by unfold swF; rw [if_pos rfl]
  have e3 : ∀ k, k ≠ j → k ≠ j + 1 → swF (j + 1) j g k = g k := fun k h1 h2 => by unfold swF; rw [if_neg h2, if_neg h1]
  have hhi := h.hi
  refine ⟨hj, by omega, fun k l h1 h2 h3 h4 h5 => ?_, fun k h1 h2 => ?_, fun k h1 h2 h3 => ?_⟩
  · by_cases hk : k = j + 1
    · subst hk; rw [e2, e3 l h5 (by omega)]; exact h.rest j l hj (by omega) h3 (by omega) (by omega)
    · by_cases hl : l = j + 1
      · subst hl; rw [e2, e3 k h4 hk]; exact h.rest k j h1 (by omega) (by omega) hk (by omega)
      · rw [e3 k h4 hk, e3 l h5 hl]; exact h.rest k l h1 h2 h3 hk hl
  · rw [e1]
    by_cases hk : k = j + 1
    · subst hk; rw [e2]; exact hah
    · rw [e3 k (by omega) hk]; exact h.back k (by omega) h2
  · rw [e1]
    by_cases hk : k = j + 1
    · subst hk; rw [e2]; exact h.late j hj (by omega) (by omega)
    · rw [e3 k h3 hk]; exact h.late k h1 h2 hk
theorem Inn.front {a i : Nat} {g : Nat → Rq} (h : Inn a i a g) : Srt a (i + 1) g := fun k l h1 h2 h3 => by
  by_cases hk : k = a
  · subst hk; exact h.back l h2 (by omega)
  · exact h.rest k l h1 h2 (by omega) hk (by omega)
theorem Inn.stop {a i j : Nat} {g : Nat → Rq} (h : Inn a i (j + 1) g) (hj : a ≤ j) (hl : ¬ (g j).v < (g (j + 1)).v) : Srt a (i + 1) g := fun k l h1 h2 h3 => by
  have hhi := h.hi
  have hah : Ah (g j) (g (j + 1)) := (ah_not (h.late j hj (by omega) (by omega))).1 hl
  by_cases hk : k = j + 1
  · subst hk; exact h.back l h2 (by omega)
  · by_cases hl' : l = j + 1
    · subst hl'
      by_cases hkj : k = j
      · subst hkj; exact hah
      · exact (h.rest k j h1 (by omega) (by omega) hk (by omega)).trans hah
    · exact h.rest k l h1 h2 (by omega) hk hl'
/-- The rows stand in the order of their indices. -/
def Asc (lo hi : Nat) (f : Nat → Rq) : Prop := ∀ i j, lo ≤ i → i < j → j < hi → (f i).i < (f j).i
/-- Sorted up to i. -/
structure Out (a i : Nat) (f g : Nat → Rq) : Prop where
  same : Same a i f g
  srt : Srt a i g
theorem Out.start {a i b : Nat} {f g : Nat → Rq} (h : Out a i f g) (hf : Asc a b f) (hi : i < b) (ha : a ≤ i) : Inn a i i g := by
  refine ⟨ha, Nat.le_refl _, fun k l h1 h2 h3 h4 h5 => h.srt k l h1 h2 (by omega), fun k h1 h2 => by omega, fun k h1 h2 h3 => ?_⟩
  obtain ⟨j, j1, j2, e⟩ := h.same.back h1 (show k < i by omega)
  rw [← e, h.same.1 i (by omega)]
  exact hf j i j1 j2 hi

/-- A range of n rows at a exchanged with one at b. -/
def srF (a b n : Nat) (f : Nat → Rq) : Nat → Rq := fun k => if a ≤ k ∧ k < a + n then f (k - a + b) else if b ≤ k ∧ k < b + n then f (k - b + a) else f k
theorem sr_zero (a b : Nat) (f : Nat → Rq) : srF a b 0 f = f := by
  funext k; unfold srF; rw [if_neg (by omega), if_neg (by omega)]
theorem sr_succ {a b n : Nat} (h : a + n < b) (f : Nat → Rq) : srF a b (n + 1) f = swF (a + n) (b + n) (srF a b n f) := by
  funext k
  unfold swF srF
  by_cases h1 : k = a + n
  · rw [if_pos (by omega), if_pos h1, if_neg (by omega), if_neg (by omega), h1]; congr 1; omega
  · by_cases h2 : k = b + n
    · rw [if_neg (by omega), if_pos (by omega), if_neg h1, if_pos h2, if_neg (by omega), if_neg (by omega), h2]; congr 1; omega
    · rw [if_neg h1, if_neg h2]
      by_cases h3 : a ≤ k ∧ k < a + n
      · rw [if_pos (by omega), if_pos h3]
      · rw [if_neg (by omega), if_neg h3]
        by_cases h4 : b ≤ k ∧ k < b + n
        · rw [if_pos (by omega), if_pos h4]
        · rw [if_neg (by omega), if_neg h4]
/-- The rows from lo to mid and those from mid to hi change their places. -/
def roF (lo mid hi : Nat) (f : Nat → Rq) : Nat → Rq := fun k => if lo ≤ k ∧ k < lo + (hi - mid) then f (k - lo + mid) else if lo + (hi - mid) ≤ k ∧ k < hi then f (k - (hi - mid)) else f k
theorem ro_more {m i j : Nat} (hi : i ≤ m) (h : j < i) (f : Nat → Rq) : roF (m - (i - j)) m (m + j) (srF (m - i) m j f) = roF (m - i) m (m + j) f := by
  funext k
  unfold roF srF
  by_cases h1 : m - i ≤ k ∧ k < m - i + j
  · rw [if_neg (by omega), if_neg (by omega), if_pos (by omega), if_pos (by omega)]
  · by_cases h2 : m - (i - j) ≤ k ∧ k < m - (i - j) + j
    · rw [if_pos (by omega), if_neg (by omega), if_pos (by omega), if_neg (by omega), if_pos (by omega)]; first | done | (congr 1; omega)
    · by_cases h3 : m - (i - j) + j ≤ k ∧ k < m + j
      · rw [if_neg (by omega), if_pos (by omega), if_neg (by omega), if_neg (by omega), if_neg (by omega), if_pos (by omega)]; first | done | (congr 1; omega)
      · rw [if_neg (by omega), if_neg (by omega), if_neg (by omega), if_neg (by omega), if_neg (by omega), if_neg (by omega)]
theorem ro_less {m i j : Nat} (hi : i ≤ m) (h : i < j) (f : Nat → Rq) : roF (m - i) m (m + (j - i)) (srF (m - i) (m + j - i) i f) = roF (m - i) m (m + j) f := by
  funext k
  unfold roF srF
  by_cases h1 : m - i ≤ k ∧ k < m - i + (j - i)
  · by_cases h4 : k - (m - i) + m < m + j - i
    · rw [if_pos (by omega), if_neg (by omega), if_neg (by omega), if_pos (by omega)]
    · omega
  · by_cases h2 : m - i + (j - i) ≤ k ∧ k < m + (j - i)
    · rw [if_neg (by omega), if_pos (by omega), if_pos (by omega), if_pos (by omega)]; first | done | (congr 1; omega)
    · by_cases h3 : m + j - i ≤ k ∧ k < m + j
      · rw [if_neg (by omega), if_neg (by omega), if_neg (by omega), if_pos (by omega), if_neg (by omega), if_pos (by omega)]; first | done | (congr 1; omega)
      · rw [if_neg (by omega), if_neg (by omega), if_neg (by omega), if_neg (by omega), if_neg (by omega), if_neg (by omega)]
theorem ro_even {m i : Nat} (hi : i ≤ m) (f : Nat → Rq) : srF (m - i) m i f = roF (m - i) m (m + i) f := by
  funext k
  unfold roF srF
  by_cases h1 : m - i ≤ k ∧ k < m - i + i
  · rw [if_pos h1, if_pos (by omega)]
  · rw [if_neg h1]
    by_cases h2 : m ≤ k ∧ k < m + i
    · rw [if_pos h2, if_neg (by omega), if_pos (by omega)]; first | done | (congr 1; omega)
    · rw [if_neg h2, if_neg (by omega), if_neg (by omega)]
theorem ro_id {lo mid hi : Nat} (h : lo = mid ∨ mid = hi) (h1 : lo ≤ mid) (h2 : mid ≤ hi) (f : Nat → Rq) : roF lo mid hi f = f := by
  funext k
  unfold roF
  by_cases g1 : lo ≤ k ∧ k < lo + (hi - mid)
  · rw [if_pos g1]; first | done | (congr 1; omega)
  · rw [if_neg g1]
    by_cases g2 : lo + (hi - mid) ≤ k ∧ k < hi
    · rw [if_pos g2]; first | done | (congr 1; omega)
    · rw [if_neg g2]
theorem ro_first {lo mid hi k : Nat} (f : Nat → Rq) (h1 : lo ≤ k) (h2 : k < lo + (hi - mid)) : roF lo mid hi f k = f (k - lo + mid) := by unfold roF; rw [if_pos ⟨h1, h2⟩]
theorem ro_second {lo mid hi k : Nat} (f : Nat → Rq) (h1 : lo + (hi - mid) ≤ k) (h2 : k < hi) : roF lo mid hi f k = f (k - (hi - mid)) := by unfold roF; rw [if_neg (by omega), if_pos ⟨h1, h2⟩]
theorem ro_out {lo mid hi k : Nat} (f : Nat → Rq) (hm : lo ≤ mid) (hh : mid ≤ hi) (h : k < lo ∨ hi ≤ k) : roF lo mid hi f k = f k := by unfold roF; rw [if_neg (by omega), if_neg (by omega)]
theorem ro_same {lo mid hi : Nat} (f : Nat → Rq) (h1 : lo ≤ mid) (h2 : mid ≤ hi) : Same lo hi f (roF lo mid hi f) := by
  refine ⟨fun k hk => ro_out f h1 h2 (by omega), fun x => ⟨?_, ?_⟩⟩
  · rintro ⟨k, g1, g2, rfl⟩
    by_cases h : k < mid
    · exact ⟨k + (hi - mid), by omega, by omega, by rw [ro_second f (by omega) (by omega)]; first | done | (congr 1; omega)⟩
    · exact ⟨k - mid + lo, by omega, by omega, by rw [ro_first f (by omega) (by omega)]; first | done | (congr 1; omega)⟩
  · rintro ⟨k, g1, g2, rfl⟩
    by_cases h : k < lo + (hi - mid)
    · rw [ro_first f g1 h]; exact ⟨_, by omega, by omega, rfl⟩
    · rw [ro_second f (by omega) g2]; exact ⟨_, by omega, by omega, rfl⟩
end Go.Proofs.Ytdlobjjfakffaaa

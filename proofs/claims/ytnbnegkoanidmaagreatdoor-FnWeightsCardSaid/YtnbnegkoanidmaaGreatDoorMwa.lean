import Derived.Test.YtnbnegkoanidmaaGreatDoorIn
/-
  Plain words on a stable sort of rows (an index and a value), the greatest value first: exchange, rotation, insertion, the symmetric merge.
-/
namespace Go.Proofs.YtnbnegkoanidmaaGreatDoor
set_option linter.unusedVariables false

structure Rq where
  i : Int
  v : Int
/-- x comes ahead of y. -/
def Ah (x y : Rq) : Prop := y.v < x.v ∨ (x.v = y.v ∧ x.i < y.i)
theorem Ah.trans {x y z : Rq} (h : Ah x y) (h' : Ah y z) : Ah x z := by unfold Ah at *; omega
theorem ah_irr {x : Rq} (h : Ah x x) : False := by unfold Ah at h; omega
/-- For a row that stands behind another in the beginning. -/
theorem ah_less {x y : Rq} (h : y.i < x.i) : y.v < x.v ↔ Ah x y := by unfold Ah; omega
theorem ah_not {x y : Rq} (h : y.i < x.i) : ¬ y.v < x.v ↔ Ah y x := by unfold Ah; omega

def Same (lo hi : Nat) (f g : Nat → Rq) : Prop := (∀ k, ¬ (lo ≤ k ∧ k < hi) → g k = f k) ∧ ∀ x, (∃ k, lo ≤ k ∧ k < hi ∧ f k = x) ↔ ∃ k, lo ≤ k ∧ k < hi ∧ g k = x
theorem Same.refl (lo hi : Nat) (f : Nat → Rq) : Same lo hi f f := ⟨fun _ _ => rfl, fun _ => Iff.rfl⟩
theorem Same.trans {lo hi : Nat} {f g h : Nat → Rq} (a : Same lo hi f g) (b : Same lo hi g h) : Same lo hi f h := ⟨fun k hk => (b.1 k hk).trans (a.1 k hk), fun x => (a.2 x).trans (b.2 x)⟩
theorem Same.back {lo hi : Nat} {f g : Nat → Rq} (a : Same lo hi f g) {k : Nat} (h1 : lo ≤ k) (h2 : k < hi) : ∃ j, lo ≤ j ∧ j < hi ∧ f j = g k := (a.2 (g k)).2 ⟨k, h1, h2, rfl⟩
theorem Same.wide {lo hi lo' hi' : Nat} {f g : Nat → Rq} (a : Same lo hi f g) (h1 : lo' ≤ lo) (h2 : hi ≤ hi') : Same lo' hi' f g := by
  refine ⟨fun k hk => a.1 k (by omega), fun x => ⟨?_, ?_⟩⟩
  · rintro ⟨k, g1, g2, rfl⟩
    by_cases h : lo ≤ k ∧ k < hi
    · obtain ⟨j, j1, j2, e⟩ := (a.2 (f k)).1 ⟨k, h.1, h.2, rfl⟩
      exact ⟨j, by omega, by omega, e⟩
    · exact ⟨k, g1, g2, a.1 k h⟩
  · rintro ⟨k, g1, g2, rfl⟩
    by_cases h : lo ≤ k ∧ k < hi
    · obtain ⟨j, j1, j2, e⟩ := (a.2 (g k)).2 ⟨k, h.1, h.2, rfl⟩
      exact ⟨j, by omega, by omega, e⟩
    · exact ⟨k, g1, g2, (a.1 k h).symm⟩
def Srt (lo hi : Nat) (f : Nat → Rq) : Prop := ∀ i j, lo ≤ i → i < j → j < hi → Ah (f i) (f j)

/-- Two rows exchanged. -/
def swF (a b : Nat) (f : Nat → Rq) : Nat → Rq := fun k => if k = a then f b else if k = b then f a else f k
theorem sw_same {a b lo hi : Nat} {f : Nat → Rq} (ha : lo ≤ a) (ha' : a < hi) (hb : lo ≤ b) (hb' : b < hi) : Same lo hi f (swF a b f) := by
  refine ⟨fun k hk => ?_, fun x => ⟨?_, ?_⟩⟩
  · unfold swF; rw [if_neg (by omega), if_neg (by omega)]
  · rintro ⟨k, h1, h2, rfl⟩
    by_cases e : k = a
    · refine ⟨b, hb, hb', ?_⟩; unfold swF; by_cases e2 : b = a
      · rw [if_pos e2, e, e2]
      · rw [if_neg e2, if_pos rfl, e]
    · by_cases e2 : k = b
      · exact ⟨a, ha, ha', by unfold swF; rw [if_pos rfl, e2]⟩
      · exact ⟨k, h1, h2, by unfold swF; rw [if_neg e, if_neg e2]⟩
  · rintro ⟨k, h1, h2, rfl⟩
    unfold swF
    by_cases e : k = a
    · rw [if_pos e]; exact ⟨b, hb, hb', rfl⟩
    · by_cases e2 : k = b
      · rw [if_neg e, if_pos e2]; exact ⟨a, ha, ha', rfl⟩
      · rw [if_neg e, if_neg e2]; exact ⟨k, h1, h2, rfl⟩

/-- The insertion: the row at j is to go further to the front. -/
structure Inn (a i j : Nat) (g : Nat → Rq) : Prop where
  lo : a ≤ j
  hi : j ≤ i
  rest : ∀ k l, a ≤ k → k < l → l ≤ i → k ≠ j → l ≠ j → Ah (g k) (g l)
  back : ∀ k, j < k → k ≤ i → Ah (g j) (g k)
  late : ∀ k, a ≤ k → k ≤ i → k ≠ j → (g k).i < (g j).i
theorem Inn.step {a i j : Nat} {g : Nat → Rq} (h : Inn a i (j + 1) g) (hj : a ≤ j) (hl : (g j).v < (g (j + 1)).v) : Inn a i j (swF (j + 1) j g) := by
  have hah : Ah (g (j + 1)) (g j) := (ah_less (h.late j hj (by have := h.hi; omega) (by omega))).1 hl
  have e1 : swF (j + 1) j g j = g (j + 1) := by unfold swF; rw [if_neg (by omega), if_pos rfl]
  have e2 : swF (j + 1) j g (j + 1) = g j := by unfold swF; rw [if_pos rfl]
  have e3 : ∀ k, k ≠ j → k ≠ j + 1 → swF (j + 1) j g k = g k := fun k h1 h2 => by unfold swF; rw [if_neg h2, if_neg h1]
  have hhi := h.hi
  refine ⟨hj, by omega, fun k l h1 h2 h3 h4 h5 => ?_, fun k h1 h2 => ?_, fun k h1 h2 h3 => ?_⟩
  · by_cases hk : k = j + 1
    · subst hk; rw [e2, e3 l h5 (by omega)]; exact h.rest j l hj (by omega) h3 (by omega) (by omega)
    · by_cases hl : l = j + 1
      · subst hl; rw [e2, e3 k h4 hk]; exact h.rest k j h1 (by omega) (by omega) hk (by omega)
      · rw [e3 k h4 hk, e3 l h5 hl]; exact h.rest k l h1 h2 h3 hk hl
  · rw [e1]
    by_cases hk : k = j + 1
    · subst hk; rw [e2]; exact hah
    · rw [e3 k (by omega) hk]; exact h.back k (by omega) h2
  · rw [e1]
    by_cases hk : k = j + 1
    · subst hk; rw [e2]; exact h.late j hj (by omega) (by omega)
    · rw [e3 k h3 hk]; exact h.late k h1 h2 hk
theorem Inn.front {a i : Nat} {g : Nat → Rq} (h : Inn a i a g) : Srt a (i + 1) g := fun k l h1 h2 h3 => by
  by_cases hk : k = a
  · subst hk; exact h.back l h2 (by omega)
  · exact h.rest k l h1 h2 (by omega) hk (by omega)
theorem Inn.stop {a i j : Nat} {g : Nat → Rq} (h : Inn a i (j + 1) g) (hj : a ≤ j) (hl : ¬ (g j).v < (g (j + 1)).v) : Srt a (i + 1) g := fun k l h1 h2 h3 => by
  have hhi := h.hi
  have hah : Ah (g j) (g (j + 1)) := (ah_not (h.late j hj (by omega) (by omega))).1 hl
  by_cases hk : k = j + 1
  · subst hk; exact h.back l h2 (by omega)
  · by_cases hl' : l = j + 1
    · subst hl'
      by_cases hkj : k = j
      · subst hkj; exact hah
      · exact (h.rest k j h1 (by omega) (by omega) hk (by omega)).trans hah
    · exact h.rest k l h1 h2 (by omega) hk hl'
/-- The rows stand in the order of their indices. -/
def Asc (lo hi : Nat) (f : Nat → Rq) : Prop := ∀ i j, lo ≤ i → i < j → j < hi → (f i).i < (f j).i
/-- Sorted up to i. -/
structure Out (a i : Nat) (f g : Nat → Rq) : Prop where
  same : Same a i f g
  srt : Srt a i g
theorem Out.start {a i b : Nat} {f g : Nat → Rq} (h : Out a i f g) (hf : Asc a b f) (hi : i < b) (ha : a ≤ i) : Inn a i i g := by
  refine ⟨ha, Nat.le_refl _, fun k l h1 h2 h3 h4 h5 => h.srt k l h1 h2 (by omega), fun k h1 h2 => by omega, fun k h1 h2 h3 => ?_⟩
  obtain ⟨j, j1, j2, e⟩ := h.same.back h1 (show k < i by omega)
  rw [← e, h.same.1 i (by omega)]
  exact hf j i j1 j2 hi

/-- A range of n rows at a exchanged with one at b. -/
def srF (a b n : Nat) (f : Nat → Rq) : Nat → Rq := fun k => if a ≤ k ∧ k < a + n then f (k - a + b) else if b ≤ k ∧ k < b + n then f (k - b + a) else f k
theorem sr_zero (a b : Nat) (f : Nat → Rq) : srF a b 0 f = f := by
  funext k; unfold srF; rw [if_neg (by omega), if_neg (by omega)]
theorem sr_succ {a b n : Nat} (h : a + n < b) (f : Nat → Rq) : srF a b (n + 1) f = swF (a + n) (b + n) (srF a b n f) := by
  funext k
  unfold swF srF
  by_cases h1 : k = a + n
  · rw [if_pos (by omega), if_pos h1, if_neg (by omega), if_neg (by omega), h1]; congr 1; omega
  · by_cases h2 : k = b + n
    · rw [if_neg (by omega), if_pos (by omega), if_neg h1, if_pos h2, if_neg (by omega), if_neg (by omega), h2]; congr 1; omega
    · rw [if_neg h1, if_neg h2]
      by_cases h3 : a ≤ k ∧ k < a + n
      · rw [if_pos (by omega), if_pos h3]
      · rw [if_neg (by omega), if_neg h3]
        by_cases h4 : b ≤ k ∧ k < b + n
        · rw [if_pos (by omega), if_pos h4]
        · rw [if_neg (by omega), if_neg h4]
/-- The rows from lo to mid and those from mid to hi change their places. -/
def roF (lo mid hi : Nat) (f : Nat → Rq) : Nat → Rq := fun k => if lo ≤ k ∧ k < lo + (hi - mid) then f (k - lo + mid) else if lo + (hi - mid) ≤ k ∧ k < hi then f (k - (hi - mid)) else f k
theorem ro_more {m i j : Nat} (hi : i ≤ m) (h : j < i) (f : Nat → Rq) : roF (m - (i - j)) m (m + j) (srF (m - i) m j f) = roF (m - i) m (m + j) f := by
  funext k
  unfold roF srF
  by_cases h1 : m - i ≤ k ∧ k < m - i + j
  · rw [if_neg (by omega), if_neg (by omega), if_pos (by omega), if_pos (by omega)]
  · by_cases h2 : m - (i - j) ≤ k ∧ k < m - (i - j) + j
    · rw [if_pos (by omega), if_neg (by omega), if_pos (by omega), if_neg (by omega), if_pos (by omega)]; first | done | (congr 1; omega)
    · by_cases h3 : m - (i - j) + j ≤ k ∧ k < m + j
      · rw [if_neg (by omega), if_pos (by omega), if_neg (by omega), if_neg (by omega), if_neg (by omega), if_pos (by omega)]; first | done | (congr 1; omega)
      · rw [if_neg (by omega), if_neg (by omega), if_neg (by omega), if_neg (by omega), if_neg (by omega), if_neg (by omega)]
theorem ro_less {m i j : Nat} (hi : i ≤ m) (h : i < j) (f : Nat → Rq) : roF (m - i) m (m + (j - i)) (srF (m - i) (m + j - i) i f) = roF (m - i) m (m + j) f := by
  funext k
  unfold roF srF
  by_cases h1 : m - i ≤ k ∧ k < m - i + (j - i)
  · by_cases h4 : k - (m - i) + m < m + j - i
    · rw [if_pos (by omega), if_neg (by omega), if_neg (by omega), if_pos (by omega)]
    · omega
  · by_cases h2 : m - i + (j - i) ≤ k ∧ k < m + (j - i)
    · rw [if_neg (by omega), if_pos (by omega), if_pos (by omega), if_pos (by omega)]; first | done | (congr 1; omega)
    · by_cases h3 : m + j - i ≤ k ∧ k < m + j
      · rw [if_neg (by omega), if_neg (by omega), if_neg (by omega), if_pos (by omega), if_neg (by omega), if_pos (by omega)]; first | done | (congr 1; omega)
      · rw [if_neg (by omega), if_neg (by omega), if_neg (by omega), if_neg (by omega), if_neg (by omega), if_neg (by omega)]
theorem ro_even {m i : Nat} (hi : i ≤ m) (f : Nat → Rq) : srF (m - i) m i f = roF (m - i) m (m + i) f := by
  funext k
  unfold roF srF
  by_cases h1 : m - i ≤ k ∧ k < m - i + i
  · rw [if_pos h1, if_pos (by omega)]
  · rw [if_neg h1]
    by_cases h2 : m ≤ k ∧ k < m + i
    · rw [if_pos h2, if_neg (by omega), if_pos (by omega)]; first | done | (congr 1; omega)
    · rw [if_neg h2, if_neg (by omega), if_neg (by omega)]
theorem ro_id {lo mid hi : Nat} (h : lo = mid ∨ mid = hi) (h1 : lo ≤ mid) (h2 : mid ≤ hi) (f : Nat → Rq) : roF lo mid hi f = f := by
  funext k
  unfold roF
  by_cases g1 : lo ≤ k ∧ k < lo + (hi - mid)
  · rw [if_pos g1]; first | done | (congr 1; omega)
  · rw [if_neg g1]
    by_cases g2 : lo + (hi - mid) ≤ k ∧ k < hi
    · rw [if_pos g2]; first | done | (congr 1; omega)
    · rw [if_neg g2]
theorem ro_first {lo mid hi k : Nat} (f : Nat → Rq) (h1 : lo ≤ k) (h2 : k < lo + (hi - mid)) : roF lo mid hi f k = f (k - lo + mid) := by unfold roF; rw [if_pos ⟨h1, h2⟩]
theorem ro_second {lo mid hi k : Nat} (f : Nat → Rq) (h1 : lo + (hi - mid) ≤ k) (h2 : k < hi) : roF lo mid hi f k = f (k - (hi - mid)) := by unfold roF; rw [if_neg (by omega), if_pos ⟨h1, h2⟩]
theorem ro_out {lo mid hi k : Nat} (f : Nat → Rq) (hm : lo ≤ mid) (hh : mid ≤ hi) (h : k < lo ∨ hi ≤ k) : roF lo mid hi f k = f k := by unfold roF; rw [if_neg (by omega), if_neg (by omega)]
theorem ro_same {lo mid hi : Nat} (f : Nat → Rq) (h1 : lo ≤ mid) (h2 : mid ≤ hi) : Same lo hi f (roF lo mid hi f) := by
  refine ⟨fun k hk => ro_out f h1 h2 (by omega), fun x => ⟨?_, ?_⟩⟩
  · rintro ⟨k, g1, g2, rfl⟩
    by_cases h : k < mid
    · exact ⟨k + (hi - mid), by omega, by omega, by rw [ro_second f (by omega) (by omega)]; first | done | (congr 1; omega)⟩
    · exact ⟨k - mid + lo, by omega, by omega, by rw [ro_first f (by omega) (by omega)]; first | done | (congr 1; omega)⟩
  · rintro ⟨k, g1, g2, rfl⟩
    by_cases h : k < lo + (hi - mid)
    · rw [ro_first f g1 h]; exact ⟨_, by omega, by omega, rfl⟩
    · rw [ro_second f (by omega) g2]; exact ⟨_, by omega, by omega, rfl⟩
end Go.Proofs.YtnbnegkoanidmaaGreatDoor

/-
  Plain words on the symmetric merge.
-/
namespace Go.Proofs.YtnbnegkoanidmaaGreatDoor
set_option linter.unusedVariables false

structure Bs (lo hi : Nat) (P : Nat → Prop) (s r : Nat) : Prop where
  h1 : lo ≤ s
  h2 : s ≤ r
  h3 : r ≤ hi
  no : ∀ c, lo ≤ c → c < s → ¬ P c
  yes : ∀ c, r ≤ c → c < hi → P c
theorem Bs.start {lo hi : Nat} {P : Nat → Prop} (h : lo ≤ hi) : Bs lo hi P lo hi := ⟨Nat.le_refl _, h, Nat.le_refl _, fun c h1 h2 => by omega, fun c h1 h2 => by omega⟩
def MonoP (lo hi : Nat) (P : Nat → Prop) : Prop := ∀ c d, lo ≤ c → c ≤ d → d < hi → P c → P d
theorem Bs.right {lo hi s r : Nat} {P : Nat → Prop} (mono : MonoP lo hi P) (h : Bs lo hi P s r) {c : Nat} (hs : s ≤ c) (hr : c < r) (hn : ¬ P c) : Bs lo hi P (c + 1) r := by
  have g1 := h.h1; have g3 := h.h3
  exact ⟨by omega, by omega, g3, fun d h1 h2 hp => hn (mono d c h1 (by omega) (by omega) hp), h.yes⟩
theorem Bs.left {lo hi s r : Nat} {P : Nat → Prop} (mono : MonoP lo hi P) (h : Bs lo hi P s r) {c : Nat} (hs : s ≤ c) (hr : c < r) (hy : P c) : Bs lo hi P s c := by
  have g1 := h.h1; have g3 := h.h3
  exact ⟨g1, hs, by omega, h.no, fun d h1 h2 => mono c d (by omega) h1 h2 hy⟩

/-- Two sorted ranges, all rows of the right one with greater indices. -/
structure Mg (a m b : Nat) (f : Nat → Rq) : Prop where
  am : a < m
  mb : m < b
  sl : Srt a m f
  sr : Srt m b f
  ord : ∀ k l, a ≤ k → k < m → m ≤ l → l < b → (f k).i < (f l).i
theorem Mg.less {a m b : Nat} {f : Nat → Rq} (h : Mg a m b f) {k l : Nat} (h1 : a ≤ k) (h2 : k < m) (h3 : m ≤ l) (h4 : l < b) : (f k).v < (f l).v ↔ Ah (f l) (f k) := ah_less (h.ord k l h1 h2 h3 h4)
theorem Mg.not {a m b : Nat} {f : Nat → Rq} (h : Mg a m b f) {k l : Nat} (h1 : a ≤ k) (h2 : k < m) (h3 : m ≤ l) (h4 : l < b) : ¬ (f k).v < (f l).v ↔ Ah (f k) (f l) := ah_not (h.ord k l h1 h2 h3 h4)
theorem ah_le {lo hi : Nat} {f : Nat → Rq} (h : Srt lo hi f) {k l : Nat} (h1 : lo ≤ k) (h2 : k ≤ l) (h3 : l < hi) {x : Rq} (hx : Ah x (f k)) : Ah x (f l) := by
  rcases Nat.lt_or_ge k l with g | g
  · exact hx.trans (h k l h1 g h3)
  · rw [show l = k from by omega]; exact hx
theorem ah_ge {lo hi : Nat} {f : Nat → Rq} (h : Srt lo hi f) {k l : Nat} (h1 : lo ≤ k) (h2 : k ≤ l) (h3 : l < hi) {x : Rq} (hx : Ah (f l) x) : Ah (f k) x := by
  rcases Nat.lt_or_ge k l with g | g
  · exact (h k l h1 g h3).trans hx
  · rw [show k = l from by omega]; exact hx

def PF (a : Nat) (f : Nat → Rq) (h : Nat) : Prop := ¬ (f a).v < (f h).v
theorem pf_mono {a b : Nat} {f : Nat → Rq} (h : Mg a (a + 1) b f) : MonoP (a + 1) b (PF a f) := fun c d h1 h2 h3 hp =>
  (h.not (Nat.le_refl _) (by omega) (by omega) h3).2 (ah_le h.sr h1 h2 h3 ((h.not (Nat.le_refl _) (by omega) (by omega) (by omega)).1 hp))
theorem mg_first {a b i : Nat} {f : Nat → Rq} (h : Mg a (a + 1) b f) (hs : Bs (a + 1) b (PF a f) i i) : Srt a b (roF a (a + 1) i f) := by
  have g1 := h.mb; have g2 := hs.h1; have g3 := hs.h3
  have lo : ∀ k, a ≤ k → k < i - 1 → roF a (a + 1) i f k = f (k + 1) := fun k h1 h2 => by rw [ro_first f h1 (by omega)]; congr 1; omega
  have at_ : roF a (a + 1) i f (i - 1) = f a := by rw [ro_second f (by omega) (by omega)]; congr 1; omega
  have up : ∀ k, i ≤ k → roF a (a + 1) i f k = f k := fun k h1 => ro_out f (by omega) (by omega) (.inr h1)
  have no : ∀ c, a + 1 ≤ c → c < i → Ah (f c) (f a) := fun c h1 h2 => by
    have := hs.no c h1 h2
    unfold PF at this
    exact (h.less (Nat.le_refl _) (by omega) h1 (by omega)).1 (by omega)
  have yes : ∀ c, i ≤ c → c < b → Ah (f a) (f c) := fun c h1 h2 => (h.not (Nat.le_refl _) (by omega) (by omega) h2).1 (hs.yes c h1 h2)
  intro k l h1 h2 h3
  rcases (by omega : l < i - 1 ∨ l = i - 1 ∨ i ≤ l) with e | e | e
  · rw [lo k h1 (by omega), lo l (by omega) e]; exact h.sr _ _ (by omega) (by omega) (by omega)
  · subst e; rw [lo k h1 h2, at_]; exact no _ (by omega) (by omega)
  · rw [up l e]
    rcases (by omega : k < i - 1 ∨ k = i - 1 ∨ i ≤ k) with e' | e' | e'
    · rw [lo k h1 e']; exact h.sr _ _ (by omega) (by omega) h3
    · subst e'; rw [at_]; exact yes l e h3
    · rw [up k e']; exact h.sr _ _ (by omega) h2 h3

def PL (m : Nat) (f : Nat → Rq) (h : Nat) : Prop := (f h).v < (f m).v
theorem pl_mono {a m : Nat} {f : Nat → Rq} (h : Mg a m (m + 1) f) : MonoP a m (PL m f) := fun c d h1 h2 h3 hp =>
  (h.less (by omega) h3 (Nat.le_refl _) (by omega)).2 (ah_le h.sl h1 h2 h3 ((h.less h1 (by omega) (Nat.le_refl _) (by omega)).1 hp))
theorem mg_last {a m i : Nat} {f : Nat → Rq} (h : Mg a m (m + 1) f) (hs : Bs a m (PL m f) i i) : Srt a (m + 1) (roF i m (m + 1) f) := by
  have g1 := h.am; have g2 := hs.h1; have g3 := hs.h3
  have lo : ∀ k, k < i → roF i m (m + 1) f k = f k := fun k h1 => ro_out f (by omega) (by omega) (.inl h1)
  have at_ : roF i m (m + 1) f i = f m := by rw [ro_first f (by omega) (by omega)]; congr 1; omega
  have up : ∀ k, i < k → k ≤ m → roF i m (m + 1) f k = f (k - 1) := fun k h1 h2 => by rw [ro_second f (by omega) (by omega)]; congr 1; omega
  have no : ∀ c, a ≤ c → c < i → Ah (f c) (f m) := fun c h1 h2 => (h.not h1 (by omega) (Nat.le_refl _) (by omega)).1 (hs.no c h1 h2)
  have yes : ∀ c, i ≤ c → c < m → Ah (f m) (f c) := fun c h1 h2 => (h.less (by omega) h2 (Nat.le_refl _) (by omega)).1 (hs.yes c h1 h2)
  intro k l h1 h2 h3
  rcases (by omega : k < i ∨ k = i ∨ i < k) with e | e | e
  · rw [lo k e]
    rcases (by omega : l < i ∨ l = i ∨ i < l) with e' | e' | e'
    · rw [lo l e']; exact h.sl _ _ h1 h2 (by omega)
    · subst e'; rw [at_]; exact no k h1 e
    · rw [up l e' (by omega)]; exact h.sl _ _ h1 (by omega) (by omega)
  · subst e; rw [at_, up l h2 (by omega)]; exact yes _ (by omega) (by omega)
  · rw [up k e (by omega), up l (by omega) (by omega)]; exact h.sl _ _ (by omega) (by omega) (by omega)

/-- What the great search asks, p being mid + m - 1. -/
def PM (p : Nat) (f : Nat → Rq) (c : Nat) : Prop := (f c).v < (f (p - c)).v
structure Sides (a m b lo hi mid : Nat) : Prop where
  am : a < m
  mb : m < b
  half : a + b - 1 ≤ 2 * mid ∧ 2 * mid ≤ a + b
  lohi : (mid < m ∧ lo = mid + m - b ∧ hi = mid) ∨ (m ≤ mid ∧ lo = a ∧ hi = m)
theorem Sides.in_ {a m b lo hi mid c : Nat} (h : Sides a m b lo hi mid) (h1 : lo ≤ c) (h2 : c < hi) : (a ≤ c ∧ c < m) ∧ m ≤ mid + m - 1 - c ∧ mid + m - 1 - c < b := by
  have := h.am; have := h.mb; have := h.half; have := h.lohi; omega
theorem Sides.le {a m b lo hi mid : Nat} (h : Sides a m b lo hi mid) : a ≤ lo ∧ lo ≤ hi ∧ hi ≤ m ∧ hi ≤ mid := by
  have := h.am; have := h.mb; have := h.half; have := h.lohi; omega
theorem pm_mono {a m b lo hi mid : Nat} {f : Nat → Rq} (h : Mg a m b f) (hd : Sides a m b lo hi mid) : MonoP lo hi (PM (mid + m - 1) f) := fun c d h1 h2 h3 hp => by
  obtain ⟨⟨c1, c2⟩, c3, c4⟩ := hd.in_ h1 (show c < hi by omega)
  obtain ⟨⟨d1, d2⟩, d3, d4⟩ := hd.in_ (show lo ≤ d by omega) h3
  have g := (h.less c1 c2 c3 c4).1 hp
  refine (h.less d1 d2 d3 d4).2 ?_
  exact ah_ge h.sr d3 (show mid + m - 1 - d ≤ mid + m - 1 - c by omega) c4 (ah_le h.sl c1 h2 d2 g)

structure Halves (a mid b s e m : Nat) (g : Nat → Rq) : Prop where
  left : (a < s ∧ s < mid ∧ Mg a s mid g) ∨ (¬ (a < s ∧ s < mid) ∧ Srt a mid g)
  right : (mid < e ∧ e < b ∧ Mg mid e b g) ∨ (¬ (mid < e ∧ e < b) ∧ Srt mid b g)
  cross : ∀ k l, a ≤ k → k < mid → mid ≤ l → l < b → Ah (g k) (g l)
theorem mg_main {a m b lo hi mid s : Nat} {f : Nat → Rq} (h : Mg a m b f) (hd : Sides a m b lo hi mid) (hs : Bs lo hi (PM (mid + m - 1) f) s s) :
    (s ≤ m ∧ m ≤ mid + m - s ∧ s ≤ mid ∧ mid ≤ mid + m - s ∧ mid + m - s ≤ b) ∧ Halves a mid b s (mid + m - s) m (roF s m (mid + m - s) f) := by
  have hle := hd.le
  have s1 := hs.h1; have s3 := hs.h3
  have ham := hd.am; have hmb := hd.mb; have hmid := hd.half; have hlh := hd.lohi
  have hb : mid + m - s ≤ b := by omega
  refine ⟨by omega, ?_⟩
  obtain ⟨e, he⟩ : ∃ e, e = mid + m - s := ⟨_, rfl⟩
  have z1 : ∀ k, a ≤ k → k < s → roF s m (mid + m - s) f k = f k := fun k h1 h2 => ro_out f (by omega) (by omega) (.inl h2)
  have z2 : ∀ k, s ≤ k → k < mid → roF s m (mid + m - s) f k = f (k - s + m) := fun k h1 h2 => ro_first f h1 (by omega)
  have z3 : ∀ k, mid ≤ k → k < mid + m - s → roF s m (mid + m - s) f k = f (k - (mid - s)) := fun k h1 h2 => by rw [ro_second f (by omega) h2]; congr 1; omega
  have z4 : ∀ k, mid + m - s ≤ k → roF s m (mid + m - s) f k = f k := fun k h1 => ro_out f (by omega) (by omega) (.inr h1)
  generalize roF s m (mid + m - s) f = g at *
  -- the two meetings
  have t1 : ∀ k l, a ≤ k → k < s → mid + m - s ≤ l → l < b → Ah (f k) (f l) := fun k l h1 h2 h3 h4 => by
    have hlo : lo ≤ s - 1 := by omega
    obtain ⟨⟨c1, c2⟩, c3, c4⟩ := hd.in_ hlo (show s - 1 < hi by omega)
    have g0 := (h.not c1 c2 c3 c4).1 (hs.no (s - 1) hlo (by omega))
    refine ah_ge h.sl h1 (show k ≤ s - 1 by omega) c2 (ah_le h.sr c3 (by omega) h4 g0)
  have t2 : ∀ k l, m ≤ k → k < mid + m - s → s ≤ l → l < m → Ah (f k) (f l) := fun k l h1 h2 h3 h4 => by
    have hhi : s < hi := by omega
    obtain ⟨⟨c1, c2⟩, c3, c4⟩ := hd.in_ s1 hhi
    have g0 := (h.less c1 c2 c3 c4).1 (hs.yes s (Nat.le_refl _) hhi)
    exact ah_ge h.sr h1 (show k ≤ mid + m - 1 - s by omega) c4 (ah_le h.sl c1 h3 h4 g0)
  have sl1 : Srt a s g := fun k l h1 h2 h3 => by rw [z1 k h1 (by omega), z1 l (by omega) h3]; exact h.sl k l h1 h2 (by omega)
  have sl2 : Srt s mid g := fun k l h1 h2 h3 => by rw [z2 k h1 (by omega), z2 l (by omega) h3]; exact h.sr _ _ (by omega) (by omega) (by omega)
  have sr1 : Srt mid (mid + m - s) g := fun k l h1 h2 h3 => by rw [z3 k h1 (by omega), z3 l (by omega) h3]; exact h.sl _ _ (by omega) (by omega) (by omega)
  have sr2 : Srt (mid + m - s) b g := fun k l h1 h2 h3 => by rw [z4 k h1, z4 l (by omega)]; exact h.sr _ _ (by omega) h2 h3
  refine ⟨?_, ?_, ?_⟩
  · by_cases c : a < s ∧ s < mid
    · refine .inl ⟨c.1, c.2, c.1, c.2, sl1, sl2, fun k l h1 h2 h3 h4 => ?_⟩
      rw [z1 k h1 h2, z2 l h3 h4]; exact h.ord _ _ h1 (by omega) (by omega) (by omega)
    · refine .inr ⟨c, ?_⟩
      rcases (by omega : s = a ∨ s = mid) with e1 | e1
      · rw [← e1]; exact sl2
      · rw [← e1]; exact sl1
  · by_cases c : mid < mid + m - s ∧ mid + m - s < b
    · refine .inl ⟨c.1, c.2, c.1, c.2, sr1, sr2, fun k l h1 h2 h3 h4 => ?_⟩
      rw [z3 k h1 h2, z4 l h3]; exact h.ord _ _ (by omega) (by omega) (by omega) h4
    · refine .inr ⟨c, ?_⟩
      rcases (by omega : mid + m - s = mid ∨ mid + m - s = b) with e1 | e1
      · rw [e1] at sr2; exact sr2
      · rw [e1] at sr1; exact sr1
  · intro k l h1 h2 h3 h4
    by_cases c1 : k < s
    · rw [z1 k h1 c1]
      by_cases c2 : l < mid + m - s
      · rw [z3 l h3 c2]; exact h.sl _ _ h1 (by omega) (by omega)
      · rw [z4 l (by omega)]; exact t1 k l h1 c1 (by omega) h4
    · rw [z2 k (by omega) h2]
      by_cases c2 : l < mid + m - s
      · rw [z3 l h3 c2]; exact t2 _ _ (by omega) (by omega) (by omega) (by omega)
      · rw [z4 l (by omega)]; exact h.sr _ _ (by omega) (by omega) h4
/-- Both halves sorted each for itself. -/
theorem halves_done {a mid b : Nat} {g h1 h2 : Nat → Rq} (ha : a ≤ mid) (hb : mid ≤ b) (s1 : Same a mid g h1) (t1 : Srt a mid h1) (s2 : Same mid b h1 h2) (t2 : Srt mid b h2) (cross : ∀ k l, a ≤ k → k < mid → mid ≤ l → l < b → Ah (g k) (g l)) : Same a b g h2 ∧ Srt a b h2 := by
  refine ⟨(s1.wide (Nat.le_refl _) hb).trans (s2.wide ha (Nat.le_refl _)), fun k l g1 g2 g3 => ?_⟩
  by_cases c1 : l < mid
  · rw [s2.1 k (by omega), s2.1 l (by omega)]; exact t1 k l g1 g2 c1
  · by_cases c2 : k < mid
    · rw [s2.1 k (by omega)]
      obtain ⟨k', k1, k2, ek⟩ := s1.back g1 c2
      obtain ⟨l', l1, l2, el⟩ := s2.back (show mid ≤ l by omega) g3
      rw [← ek, ← el, s1.1 l' (by omega)]
      exact cross k' l' k1 k2 l1 l2
    · exact t2 k l (by omega) g2 g3
end Go.Proofs.YtnbnegkoanidmaaGreatDoor

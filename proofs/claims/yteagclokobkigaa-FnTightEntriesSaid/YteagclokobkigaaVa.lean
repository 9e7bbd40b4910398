/-
  Plain words on spaces: numbers that are sums of widths, the fewest widths in a sum, sums out of a stock. (No function is named here.)
-/
import Derived.Test.YteagclokobkigaaBase
namespace Go.Proofs.Yteagclokobkigaa
open Go.RowKit
set_option linter.unusedVariables false

/-- n is the sum of m numbers of ks. -/
def Rep (ks : List Int) : Nat → Int → Prop
  | 0, n => n = 0
  | m + 1, n => ∃ k, k ∈ ks ∧ Rep ks m (n - k)
def Can (ks : List Int) (n : Int) : Prop := ∃ m, Rep ks m n
def Pos (ks : List Int) : Prop := ∀ k, k ∈ ks → (1 : Int) ≤ k
theorem Pos.sub {ks ls : List Int} (h : Pos ks) (hs : ∀ k, k ∈ ls → k ∈ ks) : Pos ls := fun k hk => h k (hs k hk)
theorem Pos.take {ks : List Int} (h : Pos ks) (i : Nat) : Pos (ks.take i) := h.sub fun k hk => List.mem_of_mem_take hk
theorem Pos.get {ks : List Int} (h : Pos ks) {i : Nat} (hi : i < ks.length) : 1 ≤ ks[i] := h _ (List.getElem_mem hi)
theorem rep_le {ks : List Int} (hp : Pos ks) : ∀ {m : Nat} {n : Int}, Rep ks m n → (m : Int) ≤ n
  | 0, n, h => by have : n = 0 := h; omega
  | m + 1, n, ⟨k, hk, h⟩ => by have := rep_le hp h; have := hp k hk; omega
theorem rep_sub {ks ls : List Int} (hs : ∀ k, k ∈ ks → k ∈ ls) : ∀ {m : Nat} {n : Int}, Rep ks m n → Rep ls m n
  | 0, n, h => h
  | m + 1, n, ⟨k, hk, h⟩ => ⟨k, hs k hk, rep_sub hs h⟩
theorem rep_one {ks : List Int} {m : Nat} {n k : Int} (hk : k ∈ ks) (h : Rep ks m n) : Rep ks (m + 1) (n + k) := ⟨k, hk, by rw [show n + k - k = n from by omega]; exact h⟩
theorem rep_many {ks : List Int} {m : Nat} {n k : Int} (hk : k ∈ ks) (h : Rep ks m n) : ∀ c : Nat, Rep ks (m + c) (n + c * k)
  | 0 => by simpa using h
  | c + 1 => by
    have := rep_one hk (rep_many hk h c)
    rw [show n + ((c + 1 : Nat) : Int) * k = n + c * k + k from by rw [Int.natCast_add, Int.add_mul]; simp; omega]
    exact this
theorem rep_join {ks : List Int} {b : Nat} {y : Int} (h : Rep ks b y) : ∀ {a : Nat} {x : Int}, Rep ks a x → Rep ks (a + b) (x + y)
  | 0, x, h0 => by have : x = 0 := h0; subst this; simpa using h
  | a + 1, x, ⟨k, hk, h1⟩ => by
    have := rep_one hk (rep_join h h1)
    rw [show x - k + y + k = x + y from by omega] at this
    rw [show a + 1 + b = a + b + 1 from by omega]; exact this
theorem rep_snoc {ks : List Int} {w : Int} : ∀ {m : Nat} {n : Int}, Rep (ks ++ [w]) m n ↔ ∃ c : Nat, c ≤ m ∧ Rep ks (m - c) (n - c * w)
  | 0, n => by
    constructor
    · intro h; exact ⟨0, Nat.le_refl _, by have : n = 0 := h; subst this; show (0 : Int) - _ = 0; simp⟩
    · rintro ⟨c, hc, h⟩
      obtain rfl : c = 0 := by omega
      have h' : n - ((0 : Nat) : Int) * w = 0 := h
      show n = 0
      simpa using h'
  | m + 1, n => by
    constructor
    · rintro ⟨k, hk, h⟩
      obtain ⟨c, hc, h1⟩ := rep_snoc.1 h
      rcases List.mem_append.1 hk with h2 | h2
      · refine ⟨c, by omega, ?_⟩
        rw [show m + 1 - c = (m - c) + 1 from by omega]
        exact ⟨k, h2, by rw [show n - c * w - k = n - k - c * w from by omega]; exact h1⟩
      · obtain rfl : k = w := by simpa using h2
        refine ⟨c + 1, by omega, ?_⟩
        rw [show m + 1 - (c + 1) = m - c from by omega, show n - ((c + 1 : Nat) : Int) * k = n - k - c * k from by rw [Int.natCast_add, Int.add_mul]; simp; omega]
        exact h1
    · rintro ⟨c, hc, h⟩
      have h1 := rep_many (ks := ks ++ [w]) (k := w) (by simp) (rep_sub (fun k hk => List.mem_append_left _ hk) h) c
      rw [show n - c * w + c * w = n from by omega, show m + 1 - c + c = m + 1 from by omega] at h1
      exact h1
theorem can_nonneg {ks : List Int} (hp : Pos ks) {n : Int} (h : Can ks n) : 0 ≤ n := by obtain ⟨m, h⟩ := h; have := rep_le hp h; omega
theorem can_zero (ks : List Int) : Can ks 0 := ⟨0, rfl⟩
theorem can_snoc {ks : List Int} {w n : Int} : Can (ks ++ [w]) n ↔ ∃ c : Nat, Can ks (n - c * w) := by
  constructor
  · rintro ⟨m, h⟩
    obtain ⟨c, _, h⟩ := rep_snoc.1 h
    exact ⟨c, _, h⟩
  · rintro ⟨c, m, h⟩
    exact ⟨m + c, rep_snoc.2 ⟨c, by omega, by rw [show m + c - c = m from by omega]; exact h⟩⟩

theorem least_ex {P : Nat → Prop} (h : ∃ n, P n) : ∃ m, P m ∧ ∀ k, P k → m ≤ k := by
  obtain ⟨n, hn⟩ := h
  induction n using Nat.strongRecOn with
  | _ n ih =>
    by_cases h1 : ∃ k, k < n ∧ P k
    · obtain ⟨k, hk, hp⟩ := h1
      exact ih k hk hp
    · refine ⟨n, hn, fun k hk => ?_⟩
      rcases Nat.lt_or_ge k n with h2 | h2
      · exact absurd ⟨k, h2, hk⟩ h1
      · exact h2
theorem great_ex {P : Nat → Prop} (B : Nat) (h : ∃ n, P n) (hb : ∀ n, P n → n ≤ B) : ∃ m, P m ∧ ∀ k, P k → k ≤ m := by
  obtain ⟨n, hn⟩ := h
  obtain ⟨m, ⟨h1, h2⟩, h3⟩ := least_ex (P := fun d => d ≤ B ∧ P (B - d)) ⟨B - n, by omega, by rw [show B - (B - n) = n from by have := hb n hn; omega]; exact hn⟩
  refine ⟨B - m, h2, fun k hk => ?_⟩
  have hkb := hb k hk
  have := h3 (B - k) ⟨by omega, by rw [show B - (B - k) = k from by omega]; exact hk⟩
  omega

open Classical in
/-- The least number of ks that make up n, or -1. -/
noncomputable def fewV (ks : List Int) (n : Int) : Int := if h : ∃ m, Rep ks m n then ((Classical.choose (least_ex h) : Nat) : Int) else -1
theorem fewV_no {ks : List Int} {n : Int} (h : ¬ Can ks n) : fewV ks n = -1 := dif_neg h
theorem fewV_yes {ks : List Int} {n : Int} (h : Can ks n) : ∃ m : Nat, fewV ks n = m ∧ Rep ks m n ∧ ∀ k, Rep ks k n → m ≤ k := by
  refine ⟨Classical.choose (least_ex h), dif_pos h, ?_⟩
  exact Classical.choose_spec (least_ex h)
theorem fewV_eq {ks : List Int} {m : Nat} {n : Int} (h : Rep ks m n) (hl : ∀ k, Rep ks k n → m ≤ k) : fewV ks n = m := by
  obtain ⟨m', h1, h2, h3⟩ := fewV_yes ⟨m, h⟩
  have := hl _ h2; have := h3 _ h
  rw [h1]; omega
theorem fewV_can {ks : List Int} {n : Int} : 0 ≤ fewV ks n ↔ Can ks n := by
  constructor
  · intro h
    rcases Classical.em (Can ks n) with h1 | h1
    · exact h1
    · rw [fewV_no h1] at h; omega
  · intro h
    obtain ⟨m, h1, _⟩ := fewV_yes h
    omega
theorem fewV_neg {ks : List Int} {n : Int} : fewV ks n < 0 ↔ ¬ Can ks n := by rw [← fewV_can]; omega
theorem fewV_le {ks : List Int} {m : Nat} {n : Int} (h : Rep ks m n) : fewV ks n ≤ m := by
  obtain ⟨m', h1, h2, h3⟩ := fewV_yes ⟨m, h⟩
  have := h3 _ h; omega
theorem fewV_zero (ks : List Int) : fewV ks 0 = 0 := fewV_eq (m := 0) rfl (fun _ _ => Nat.zero_le _)
theorem fewV_range {ks : List Int} (hp : Pos ks) {n : Int} (hn : 0 ≤ n) : -1 ≤ fewV ks n ∧ fewV ks n ≤ n := by
  rcases Classical.em (Can ks n) with h1 | h1
  · obtain ⟨m, h2, h3, _⟩ := fewV_yes h1
    have := rep_le hp h3; omega
  · rw [fewV_no h1]; omega

/-- One width more tried at x. -/
def fewStep (T : Int → Int) (x acc k : Int) : Int := if k ≤ x ∧ 0 ≤ T (x - k) ∧ (acc < 0 ∨ T (x - k) + 1 < acc) then T (x - k) + 1 else acc
def FewIs (T : Int → Int) (x : Int) (l : List Int) (v : Int) : Prop :=
  (v = -1 ∧ ∀ k, k ∈ l → k ≤ x → T (x - k) < 0) ∨ (0 ≤ v ∧ (∃ k, k ∈ l ∧ k ≤ x ∧ 0 ≤ T (x - k) ∧ v = T (x - k) + 1) ∧ ∀ k, k ∈ l → k ≤ x → 0 ≤ T (x - k) → v ≤ T (x - k) + 1)
theorem FewIs.start (T : Int → Int) (x : Int) : FewIs T x [] (-1) := .inl ⟨rfl, by simp⟩
theorem FewIs.step {T : Int → Int} {x : Int} {l : List Int} {v : Int} (h : FewIs T x l v) (k : Int) : FewIs T x (l ++ [k]) (fewStep T x v k) := by
  unfold fewStep
  by_cases hc : k ≤ x ∧ 0 ≤ T (x - k) ∧ (v < 0 ∨ T (x - k) + 1 < v)
  · rw [if_pos hc]
    obtain ⟨h1, h2, h3⟩ := hc
    refine .inr ⟨by omega, ⟨k, by simp, h1, h2, rfl⟩, fun j hj hjx hj0 => ?_⟩
    rcases List.mem_append.1 hj with h4 | h4
    · rcases h with ⟨h5, h6⟩ | ⟨h5, _, h6⟩
      · have := h6 j h4 hjx; omega
      · have := h6 j h4 hjx hj0; omega
    · obtain rfl : j = k := by simpa using h4
      omega
  · rw [if_neg hc]
    rcases h with ⟨h5, h6⟩ | ⟨h5, ⟨k', h7, h8⟩, h6⟩
    · refine .inl ⟨h5, fun j hj hjx => ?_⟩
      rcases List.mem_append.1 hj with h4 | h4
      · exact h6 j h4 hjx
      · obtain rfl : j = k := by simpa using h4
        omega
    · refine .inr ⟨h5, ⟨k', List.mem_append_left _ h7, h8⟩, fun j hj hjx hj0 => ?_⟩
      rcases List.mem_append.1 hj with h4 | h4
      · exact h6 j h4 hjx hj0
      · obtain rfl : j = k := by simpa using h4
        omega
theorem FewIs.all {ks : List Int} (hp : Pos ks) {x v : Int} (hx : 1 ≤ x) (h : FewIs (fewV ks) x ks v) : v = fewV ks x := by
  rcases h with ⟨rfl, h⟩ | ⟨h0, ⟨k, hk, hkx, hk0, rfl⟩, h⟩
  · symm; apply fewV_no
    rintro ⟨m, hm⟩
    cases m with
    | zero => have : x = 0 := hm; omega
    | succ m =>
      obtain ⟨k, hk, hr⟩ := hm
      have := rep_le hp hr
      have := h k hk (by omega)
      exact (fewV_neg.1 this) ⟨m, hr⟩
  · obtain ⟨m, hm, hr, hl⟩ := fewV_yes (fewV_can.1 hk0)
    rw [hm]
    have hr' := rep_one hk hr
    rw [show x - k + k = x from by omega] at hr'
    symm
    rw [fewV_eq hr' (fun j hj => ?_)]; simp
    cases j with
    | zero => have : x = 0 := hj; omega
    | succ j =>
      obtain ⟨k', hk', hr2⟩ := hj
      have h1 := rep_le hp hr2
      have h2 := h k' hk' (by omega) (fewV_can.2 ⟨j, hr2⟩)
      have h3 := fewV_le hr2
      omega

/-- The same, with 401 in place of -1. -/
noncomputable def fewW (ks : List Int) (n : Int) : Int := if fewV ks n < 0 then 401 else fewV ks n
theorem fewW_can {ks : List Int} {n : Int} (h : Can ks n) : fewW ks n = fewV ks n := if_neg (by have := fewV_can.2 h; omega)
theorem fewW_no {ks : List Int} {n : Int} (h : ¬ Can ks n) : fewW ks n = 401 := if_pos (fewV_neg.2 h)
theorem fewW_range {ks : List Int} (hp : Pos ks) {n : Int} (hn : 0 ≤ n) (h4 : n ≤ 400) : 0 ≤ fewW ks n ∧ fewW ks n ≤ 401 := by
  have := fewV_range hp hn
  unfold fewW; split <;> omega
theorem fewW_zero (ks : List Int) : fewW ks 0 = 0 := by rw [fewW_can (can_zero ks), fewV_zero]
def minStep (T : Int → Int) (x acc k : Int) : Int := if k ≤ x then (if acc ≤ T (x - k) + 1 then acc else T (x - k) + 1) else acc
def MinIs (T : Int → Int) (x : Int) (l : List Int) (v : Int) : Prop :=
  v ≤ 401 ∧ (∀ k, k ∈ l → k ≤ x → v ≤ T (x - k) + 1) ∧ (v = 401 ∨ ∃ k, k ∈ l ∧ k ≤ x ∧ v = T (x - k) + 1)
theorem MinIs.start (T : Int → Int) (x : Int) : MinIs T x [] 401 := ⟨by omega, by simp, .inl rfl⟩
theorem MinIs.step {T : Int → Int} {x : Int} {l : List Int} {v : Int} (h : MinIs T x l v) (k : Int) : MinIs T x (l ++ [k]) (minStep T x v k) := by
  obtain ⟨h1, h2, h3⟩ := h
  have up : ∀ v', v' ≤ v → (k ≤ x → v' ≤ T (x - k) + 1) → ∀ j, j ∈ l ++ [k] → j ≤ x → v' ≤ T (x - j) + 1 := fun v' hv hk j hj hjx => by
    rcases List.mem_append.1 hj with h4 | h4
    · have := h2 j h4 hjx; omega
    · obtain rfl : j = k := by simpa using h4
      exact hk hjx
  have old : v = 401 ∨ ∃ j, j ∈ l ++ [k] ∧ j ≤ x ∧ v = T (x - j) + 1 := h3.imp id fun ⟨j, a, b⟩ => ⟨j, List.mem_append_left _ a, b⟩
  unfold minStep
  by_cases hk : k ≤ x
  · rw [if_pos hk]
    by_cases ht : v ≤ T (x - k) + 1
    · rw [if_pos ht]; exact ⟨h1, up v (Int.le_refl _) (fun _ => ht), old⟩
    · rw [if_neg ht]; exact ⟨by omega, up _ (by omega) (fun _ => Int.le_refl _), .inr ⟨k, by simp, hk, rfl⟩⟩
  · rw [if_neg hk]; exact ⟨h1, up v (Int.le_refl _) (fun h => absurd h hk), old⟩
theorem MinIs.all {ks : List Int} (hp : Pos ks) {x v : Int} (hx : 1 ≤ x) (h4 : x ≤ 400) (h : MinIs (fewW ks) x ks v) : v = fewW ks x := by
  obtain ⟨h1, h2, h3⟩ := h
  have split : ∀ m, Rep ks m x → ∃ k, k ∈ ks ∧ k ≤ x ∧ fewW ks (x - k) + 1 ≤ m := fun m hm => by
    cases m with
    | zero => have : x = 0 := hm; omega
    | succ m =>
      obtain ⟨k, hk, hr⟩ := hm
      have h5 := rep_le hp hr
      have h6 := fewV_le hr
      refine ⟨k, hk, by omega, ?_⟩
      rw [fewW_can ⟨m, hr⟩]; omega
  have join : ∀ k, k ∈ ks → k ≤ x → Can ks (x - k) → ∃ m : Nat, (m : Int) = fewW ks (x - k) + 1 ∧ Rep ks m x := fun k hk hkx hc => by
    obtain ⟨m, hm, hr, _⟩ := fewV_yes hc
    have hr' := rep_one hk hr
    rw [show x - k + k = x from by omega] at hr'
    exact ⟨m + 1, by rw [fewW_can hc, hm]; simp, hr'⟩
  rcases Classical.em (Can ks x) with hc | hc
  · rw [fewW_can hc]
    obtain ⟨m, hm, hr, hl⟩ := fewV_yes hc
    rw [hm]
    have hmx := rep_le hp hr
    obtain ⟨k, hk, hkx, hkm⟩ := split m hr
    have h5 := h2 k hk hkx
    rcases h3 with h3 | ⟨k', hk', hkx', rfl⟩
    · omega
    · rcases Classical.em (Can ks (x - k')) with hc' | hc'
      · obtain ⟨m', hm', hr'⟩ := join k' hk' hkx' hc'
        have := hl _ hr'
        omega
      · rw [fewW_no hc'] at h5 h1; omega
  · rw [fewW_no hc]
    rcases h3 with h3 | ⟨k', hk', hkx', rfl⟩
    · exact h3
    · rcases Classical.em (Can ks (x - k')) with hc' | hc'
      · obtain ⟨m', hm', hr'⟩ := join k' hk' hkx' hc'
        exact absurd ⟨m', hr'⟩ hc
      · rw [fewW_no hc'] at h1; omega

/-- n is made up of at most ss[j] of each ks[j], j < i. -/
def StU (ks ss : List Int) : Nat → Int → Prop
  | 0, n => n = 0
  | i + 1, n => ∃ c : Nat, (c : Int) ≤ ss.getD i 0 ∧ StU ks ss i (n - c * ks.getD i 0)
theorem nat_mul_nonneg {k : Int} (h : 1 ≤ k) (c : Nat) : (c : Int) ≤ c * k := by
  have : (c : Int) * 1 ≤ c * k := Int.mul_le_mul_of_nonneg_left h (by omega)
  omega
theorem getD_pos {ks : List Int} (hp : Pos ks) {i : Nat} (hi : i < ks.length) : 1 ≤ ks.getD i 0 := by
  rw [List.getD_eq_getElem?_getD, List.getElem?_eq_getElem hi]; exact hp.get hi
theorem stu_nonneg {ks ss : List Int} (hp : Pos ks) : ∀ {i : Nat} {n : Int}, i ≤ ks.length → StU ks ss i n → 0 ≤ n
  | 0, n, _, h => by have : n = 0 := h; omega
  | i + 1, n, hi, ⟨c, _, h⟩ => by
    have := stu_nonneg hp (by omega) h
    have := nat_mul_nonneg (getD_pos hp (show i < ks.length by omega)) c
    omega
theorem stu_zero {ks ss : List Int} : ∀ {i : Nat}, (∀ j, j < i → 0 ≤ ss.getD j 0) → StU ks ss i 0
  | 0, _ => rfl
  | i + 1, h => ⟨0, by have := h i (by omega); simpa using this, by simpa using stu_zero (fun j hj => h j (by omega))⟩
theorem stu_take {ks ss : List Int} : ∀ {i j : Nat} {n : Int}, i ≤ j → (StU (ks.take j) (ss.take j) i n ↔ StU ks ss i n)
  | 0, _, _, _ => Iff.rfl
  | i + 1, j, n, h => by
    have e : ∀ l : List Int, (l.take j).getD i 0 = l.getD i 0 := fun l => by
      rw [List.getD_eq_getElem?_getD, List.getD_eq_getElem?_getD, List.getElem?_take_of_lt (by omega)]
    constructor
    · rintro ⟨c, h1, h2⟩
      rw [e] at h1 h2
      exact ⟨c, h1, (stu_take (by omega)).1 h2⟩
    · rintro ⟨c, h1, h2⟩
      exact ⟨c, by rw [e]; exact h1, by rw [e]; exact (stu_take (by omega)).2 h2⟩
/-- With 400 of each, all sums up to 400 come. -/
theorem stu_full {ks ss : List Int} (hp : Pos ks) (hs : ∀ j, j < ks.length → ss.getD j 0 = 400) : ∀ {i : Nat} {n : Int}, i ≤ ks.length → n ≤ 400 → (StU ks ss i n ↔ Can (ks.take i) n)
  | 0, n, _, _ => by
    constructor
    · intro h; exact ⟨0, h⟩
    · rintro ⟨m, h⟩
      cases m with
      | zero => exact h
      | succ m => obtain ⟨k, hk, _⟩ := h; simp at hk
  | i + 1, n, hi, hn => by
    have hw := getD_pos hp (show i < ks.length by omega)
    have e : ks.take (i + 1) = ks.take i ++ [ks.getD i 0] := by
      rw [List.take_succ_eq_append_getElem (by omega), List.getD_eq_getElem?_getD, List.getElem?_eq_getElem (by omega)]; rfl
    rw [e, can_snoc]
    constructor
    · rintro ⟨c, h1, h2⟩
      have := nat_mul_nonneg hw c
      exact ⟨c, (stu_full hp hs (by omega) (by omega)).1 h2⟩
    · rintro ⟨c, h2⟩
      have h3 := nat_mul_nonneg hw c
      have h4 := can_nonneg (hp.take i) h2
      exact ⟨c, by rw [hs i (by omega)]; omega, (stu_full hp hs (by omega) (by omega)).2 h2⟩

open Classical in
noncomputable def stB (ks ss : List Int) (i : Nat) (n : Int) : Bool := decide (StU ks ss i n)
theorem stB_iff {ks ss : List Int} {i : Nat} {n : Int} : stB ks ss i n = true ↔ StU ks ss i n := by unfold stB; exact @decide_eq_true_iff _ (Classical.propDecidable _)
open Classical in
noncomputable def canB (ks : List Int) (n : Int) : Bool := decide (Can ks n)
theorem canB_iff {ks : List Int} {n : Int} : canB ks n = true ↔ Can ks n := by unfold canB; exact @decide_eq_true_iff _ (Classical.propDecidable _)
theorem canB_no {ks : List Int} {n : Int} : canB ks n = false ↔ ¬ Can ks n := by rw [← canB_iff]; simp
end Go.Proofs.Yteagclokobkigaa

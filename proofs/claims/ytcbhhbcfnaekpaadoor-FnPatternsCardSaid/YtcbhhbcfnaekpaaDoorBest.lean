/-
  Plain facts on fonts: the order of Codes, the first sort with a Code, and that the longest Code with which a text begins is the last one of the font.
-/
import Derived.Test.YtcbhhbcfnaekpaaDoorFind
import Derived.Lib.Strings
namespace Go.Proofs.YtcbhhbcfnaekpaaDoor
open Go.RowKit
set_option linter.unusedVariables false

theorem bl_irrefl : ∀ x : List UInt8, Op.bytesLess x x = false
  | [] => rfl
  | a :: x => by simp [Op.bytesLess, bl_irrefl x]
theorem bl_trans : ∀ x y z : List UInt8, Op.bytesLess x y = true → Op.bytesLess y z = true → Op.bytesLess x z = true
  | _, [], _, h, _ => by cases ‹List UInt8› <;> simp [Op.bytesLess] at h
  | _, _ :: _, [], _, h => by simp [Op.bytesLess] at h
  | [], _ :: _, _ :: _, _, _ => by simp [Op.bytesLess]
  | a :: x, b :: y, c :: z, h1, h2 => by
    simp only [Op.bytesLess, Bool.or_eq_true, Bool.and_eq_true, decide_eq_true_eq, beq_iff_eq] at h1 h2 ⊢
    rcases h1 with h1 | ⟨rfl, h1⟩
    · rcases h2 with h2 | ⟨rfl, h2⟩
      · exact .inl (UInt8.lt_trans h1 h2)
      · exact .inl h1
    · rcases h2 with h2 | ⟨rfl, h2⟩
      · exact .inl h2
      · exact .inr ⟨rfl, bl_trans x y z h1 h2⟩
theorem bl_prefix : ∀ (x d : List UInt8), d ≠ [] → Op.bytesLess x (x ++ d) = true
  | [], d :: r, _ => by simp [Op.bytesLess]
  | [], [], h => absurd rfl h
  | a :: x, d, h => by simp [Op.bytesLess, bl_prefix x d h]

/-- The Code of sort i. -/
def codeAt (f : List (ByteArray × Int)) (i : Nat) : List UInt8 := (f.getD i (.empty, 0)).1.data.toList
theorem codeAt_of {f : List (ByteArray × Int)} {i : Nat} (h : i < f.length) : codeAt f i = f[i].1.data.toList := by
  unfold codeAt; rw [List.getD_eq_getElem?_getD, List.getElem?_eq_getElem h]; rfl
theorem Font.next {f : List (ByteArray × Int)} (hf : Font f) {i : Nat} (h : i + 1 < f.length) : Op.bytesLess (codeAt f i) (codeAt f (i + 1)) = true := by
  have h1 := hf.1 (i + 1) h
  unfold okAt at h1
  simp only [Bool.and_eq_true, Bool.or_eq_true] at h1
  rcases h1.2 with h2 | h2
  · simp at h2
  · rw [codeAt_of (by omega), codeAt_of h]
    rw [ByteArray.toList_eq, ByteArray.toList_eq] at h2
    exact h2
theorem Font.less {f : List (ByteArray × Int)} (hf : Font f) {i : Nat} : ∀ {j : Nat}, i < j → j < f.length → Op.bytesLess (codeAt f i) (codeAt f j) = true
  | 0, h, _ => absurd h (by omega)
  | j + 1, h, hj => by
    rcases Nat.lt_or_ge i j with h1 | h1
    · exact bl_trans _ _ _ (Font.less hf h1 (by omega)) (hf.next hj)
    · obtain rfl : i = j := by omega
      exact hf.next hj
theorem Font.inj {f : List (ByteArray × Int)} (hf : Font f) {i j : Nat} (hi : i < f.length) (hj : j < f.length) (h : codeAt f i = codeAt f j) : i = j := by
  rcases Nat.lt_trichotomy i j with h1 | h1 | h1
  · have := hf.less h1 hj; rw [h, bl_irrefl] at this; cases this
  · exact h1
  · have := hf.less h1 hi; rw [h, bl_irrefl] at this; cases this
theorem Font.size {f : List (ByteArray × Int)} (hf : Font f) {i : Nat} (hi : i < f.length) : 1 ≤ (codeAt f i).length ∧ (codeAt f i).length ≤ 3 ∧ lets (codeAt f i) = true := by
  have h1 := hf.1 i hi
  unfold okAt tySortF tyLettersF at h1
  simp only [Bool.and_eq_true, decide_eq_true_eq] at h1
  rw [codeAt_of hi]
  refine ⟨h1.1.1.2.1, by have := h1.1.1.2.2; omega, h1.1.1.1⟩
theorem Font.width {f : List (ByteArray × Int)} (hf : Font f) {i : Nat} (hi : i < f.length) : 1 ≤ f[i].2 ∧ f[i].2 ≤ 54 := by
  have h1 := hf.1 i hi
  unfold okAt tySortF tyLettersF at h1
  simp only [Bool.and_eq_true, decide_eq_true_eq] at h1
  exact h1.1.2

theorem findI_none {c : ByteArray} : ∀ {f : List (ByteArray × Int)} {k : Nat}, (∀ i (h : i < f.length), f[i].1 ≠ c) → findI f c k = -1
  | [], _, _ => rfl
  | x :: r, k, h => by
    have h0 : x.1 ≠ c := h 0 (by simp)
    simp only [findI, h0, if_false]
    exact findI_none fun i hi => h (i + 1) (by simpa using hi)
theorem findI_some {c : ByteArray} : ∀ {f : List (ByteArray × Int)} {k : Nat}, (∃ i, ∃ h : i < f.length, f[i].1 = c) → ∃ i, ∃ h : i < f.length, f[i].1 = c ∧ findI f c k = ((k + i : Nat) : Int) ∧ ∀ j (hj : j < f.length), j < i → f[j].1 ≠ c
  | [], _, ⟨i, h, _⟩ => absurd h (by simp)
  | x :: r, k, ⟨i, h, he⟩ => by
    by_cases h0 : x.1 = c
    · exact ⟨0, by simp, h0, by simp [findI, h0], fun j _ hj => absurd hj (by omega)⟩
    · have hi : i ≠ 0 := by rintro rfl; exact h0 he
      obtain ⟨m, rfl⟩ : ∃ m, i = m + 1 := ⟨i - 1, by omega⟩
      obtain ⟨i', h', e', hf, hl⟩ := findI_some (f := r) (k := k + 1) ⟨m, by simpa using h, by simpa using he⟩
      refine ⟨i' + 1, by simpa using h', by simpa using e', ?_, ?_⟩
      · simp only [findI, h0, if_false]; rw [hf]; congr 1; omega
      · intro j hj hji
        cases j with
        | zero => exact h0
        | succ j => exact fun e => hl j (by simpa using hj) (by omega) (by simpa using e)
theorem findI_cases (f : List (ByteArray × Int)) (c : ByteArray) : (findI f c 0 = -1 ∧ ∀ i, i < f.length → codeAt f i ≠ c.data.toList) ∨ ∃ i, i < f.length ∧ codeAt f i = c.data.toList ∧ findI f c 0 = (i : Int) := by
  by_cases h : ∃ i, ∃ h : i < f.length, f[i].1 = c
  · obtain ⟨i, hi, e, hf, _⟩ := findI_some (k := 0) h
    exact .inr ⟨i, hi, by rw [codeAt_of hi, e], by rw [hf]; congr 1; omega⟩
  · refine .inl ⟨findI_none fun i hi e => h ⟨i, hi, e⟩, fun i hi e => h ⟨i, hi, ?_⟩⟩
    rw [codeAt_of hi] at e
    exact ByteArray.ext (Array.ext' e)

theorem lastPre_none {f : List (ByteArray × Int)} {t : ByteArray} : ∀ {n : Nat}, lastPre f t n = none → ∀ i, i < n → ¬ codeAt f i <+: t.data.toList
  | 0, _, _, h => absurd h (by omega)
  | n + 1, h, i, hi => by
    simp only [lastPre] at h
    cases hp : preB t (f.getD n (.empty, 0)).1 with
    | true => rw [hp] at h; cases h
    | false =>
      rw [hp] at h
      rcases Nat.lt_or_ge i n with h1 | h1
      · exact lastPre_none h i h1
      · obtain rfl : i = n := by omega
        exact of_decide_eq_false hp
theorem lastPre_some {f : List (ByteArray × Int)} {t : ByteArray} : ∀ {n k : Nat}, lastPre f t n = some k → k < n ∧ codeAt f k <+: t.data.toList ∧ ∀ i, k < i → i < n → ¬ codeAt f i <+: t.data.toList
  | 0, _, h => by cases h
  | n + 1, k, h => by
    simp only [lastPre] at h
    cases hp : preB t (f.getD n (.empty, 0)).1 with
    | true =>
      rw [hp] at h
      obtain rfl : n = k := by simpa using h
      exact ⟨by omega, of_decide_eq_true hp, fun i h1 h2 => absurd h1 (by omega)⟩
    | false =>
      rw [hp] at h
      obtain ⟨h1, h2, h3⟩ := lastPre_some (n := n) (by simpa using h)
      refine ⟨by omega, h2, fun i hi hn => ?_⟩
      rcases Nat.lt_or_ge i n with h4 | h4
      · exact h3 i hi h4
      · obtain rfl : i = n := by omega
        exact of_decide_eq_false hp

/-- What spec.tySet seeks: from n letters on downwards the sort whose Code they are. -/
def downF (f : List (ByteArray × Int)) (s : ByteArray) (p : Nat) : Nat → Int
  | 0 => -1
  | n + 1 => if findI f (s.extract p (p + (n + 1))) 0 < 0 then downF f s p n else findI f (s.extract p (p + (n + 1))) 0
theorem cut_list (s : ByteArray) (p m : Nat) : (s.extract p (p + m)).data.toList = (s.data.toList.drop p).take m := by
  rw [Lib.extract_data, Nat.add_sub_cancel_left]
theorem rest_list (s : ByteArray) (p : Nat) : (s.extract p s.size).data.toList = s.data.toList.drop p := by
  rw [Lib.extract_data]
  exact List.take_of_length_le (by rw [List.length_drop, len_list]; omega)
def asInt : Option Nat → Int | some k => k | none => -1

theorem downF_eq {f : List (ByteArray × Int)} (hf : Font f) (s : ByteArray) (p : Nat) : ∀ n, n ≤ s.size - p →
    (∀ i, i < f.length → n < (codeAt f i).length → ¬ codeAt f i <+: s.data.toList.drop p) → downF f s p n = asInt (lastPre f (s.extract p s.size) f.length) := by
  intro n
  induction n with
  | zero =>
    intro _ h
    cases hl : lastPre f (s.extract p s.size) f.length with
    | none => rfl
    | some k =>
      obtain ⟨h1, h2, _⟩ := lastPre_some hl
      rw [rest_list] at h2
      exact absurd h2 (h k h1 (by have := hf.size h1; omega))
  | succ n ih =>
    intro hn h
    have hlen : (s.data.toList.drop p).length = s.size - p := by rw [List.length_drop, len_list]
    rcases findI_cases f (s.extract p (p + (n + 1))) with ⟨h1, h2⟩ | ⟨i, hi, he, h1⟩
    · simp only [downF, h1]
      rw [if_pos (by omega)]
      refine ih (by omega) fun i hi hlt hp => ?_
      rcases Nat.lt_or_ge (n + 1) (codeAt f i).length with h3 | h3
      · exact h i hi h3 hp
      · refine h2 i hi ?_
        rw [cut_list]
        have := List.prefix_iff_eq_take.1 hp
        rw [show (codeAt f i).length = n + 1 from by omega] at this
        exact this
    · simp only [downF, h1]
      rw [if_neg (by omega)]
      rw [cut_list] at he
      have hpre : codeAt f i <+: s.data.toList.drop p := by rw [he]; exact List.take_prefix _ _
      have hil : (codeAt f i).length = n + 1 := by rw [he, List.length_take, hlen]; omega
      cases hl : lastPre f (s.extract p s.size) f.length with
      | none =>
        have := lastPre_none hl i hi
        rw [rest_list] at this
        exact absurd hpre this
      | some k =>
        obtain ⟨g1, g2, g3⟩ := lastPre_some hl
        rw [rest_list] at g2
        have hik : i ≤ k := by
          rcases Nat.lt_or_ge k i with h4 | h4
          · have := g3 i h4 hi
            rw [rest_list] at this
            exact absurd hpre this
          · exact h4
        have hkl : (codeAt f k).length ≤ n + 1 := by
          rcases Nat.lt_or_ge (n + 1) (codeAt f k).length with h4 | h4
          · exact absurd g2 (h k g1 h4)
          · exact h4
        have hki : codeAt f k <+: codeAt f i := List.prefix_of_prefix_length_le g2 hpre (by omega)
        obtain ⟨d, hd⟩ := hki
        by_cases hd0 : d = []
        · subst hd0
          rw [List.append_nil] at hd
          have := hf.inj g1 hi hd
          subst this; rfl
        · have hless := bl_prefix (codeAt f k) d hd0
          rw [hd] at hless
          rcases Nat.lt_or_ge i k with h4 | h4
          · have := bl_trans _ _ _ (hf.less h4 g1) hless
            rw [bl_irrefl] at this; cases this
          · obtain rfl : i = k := by omega
            rfl
end Go.Proofs.YtcbhhbcfnaekpaaDoor

/-
  Ways to set a word: the table of the narrowest ways holds a way wherever there is one, and none is narrower; the greedy setting is a way; a way spells the word. (For FnFonts.)
-/
import Derived.Test.YtacphcpjppkniaaNar
namespace Go.Proofs.Ytacphcpjppkniaa
open Go.RowKit
set_option linter.unusedVariables false

/-- The sorts of the list, one after the other, are the rest of the word from place p on. -/
def WayAt (f : List (ByteArray × Int)) (s : ByteArray) : Nat → List Nat → Prop
  | p, [] => p = s.size
  | p, i :: r => i < f.length ∧ stands f s p i = true ∧ WayAt f s (p + lenC f i) r
theorem lenC_list (f : List (ByteArray × Int)) (i : Nat) : lenC f i = (codeAt f i).length := by rw [← codeB0_list]; rfl
theorem ChainW.way {f : List (ByteArray × Int)} {s : ByteArray} {T : Nat → Option (List Nat)} (hT : ChainW f s T) : ∀ (l : List Nat) (p : Nat), T p = some l → WayAt f s p l
  | [], p, h => by
    rcases (hT p _ h).2 with ⟨h1, _⟩ | ⟨i, r, h1, _⟩
    · exact h1
    · cases h1
  | i :: r, p, h => by
    rcases (hT p _ h).2 with ⟨_, h2⟩ | ⟨j, r', h1, h2, h3, h4⟩
    · cases h2
    · injection h1 with e1 e2
      subst e1; subst e2
      exact ⟨h2, h3, ChainW.way hT _ _ h4⟩
theorem tabW_stable {f : List (ByteArray × Int)} {s : ByteArray} {k p : Nat} (hp : s.size ≤ p + k) : ∀ m, k ≤ m → m ≤ s.size → tabW f s m p = tabW f s k p
  | 0, h, _ => by obtain rfl : k = 0 := by omega
                  rfl
  | m + 1, h, hm => by
    rcases Nat.lt_or_ge m k with h1 | h1
    · obtain rfl : k = m + 1 := by omega
      rfl
    · have e : tabW f s (m + 1) p = tabW f s m p := by
        show (if p = s.size - (m + 1) then _ else _) = _
        rw [if_neg (by omega)]
      rw [e]
      exact tabW_stable hp m h1 (by omega)
theorem stepW_congr {f : List (ByteArray × Int)} {s : ByteArray} {p : Nat} {T T' : Nat → Option (List Nat)} (hF : Font f) (h : ∀ q, p < q → T q = T' q) : ∀ n, n ≤ f.length → stepW f s p T n = stepW f s p T' n
  | 0, _ => rfl
  | n + 1, hn => by
    have := lenC_pos hF (i := n) (by omega)
    show candW f s p n (T (p + lenC f n)) (stepW f s p T n) = candW f s p n (T' (p + lenC f n)) (stepW f s p T' n)
    rw [h _ (by omega), stepW_congr hF h n (by omega)]
theorem tabW_fix {f : List (ByteArray × Int)} {s : ByteArray} {p : Nat} (hF : Font f) (hp : p < s.size) : tabW f s s.size p = stepW f s p (tabW f s s.size) f.length := by
  obtain ⟨k, hk⟩ : ∃ k, s.size = p + (k + 1) := ⟨s.size - (p + 1), by omega⟩
  rw [tabW_stable (k := k + 1) (by omega) s.size (by omega) (Nat.le_refl _), tabW_succ f s k p (by omega)]
  show (if p = p then _ else _) = _
  rw [if_pos rfl]
  refine stepW_congr hF (fun q hq => ?_) _ (Nat.le_refl _)
  exact (tabW_stable (k := k) (by omega) s.size (by omega) (Nat.le_refl _)).symm
theorem tabW_end {f : List (ByteArray × Int)} {s : ByteArray} : tabW f s s.size s.size = some [] := by
  rw [tabW_stable (k := 0) (by omega) s.size (Nat.zero_le _) (Nat.le_refl _)]
  show (if s.size = s.size then _ else _) = _
  rw [if_pos rfl]
theorem stepW_best {f : List (ByteArray × Int)} {s : ByteArray} {p i : Nat} {r : List Nat} {T : Nat → Option (List Nat)} (hs : stands f s p i = true) (hT : T (p + lenC f i) = some r) : ∀ n, i < n → ∃ c, stepW f s p T n = some c ∧ wideF f c ≤ wideF f (i :: r)
  | n + 1, hn => by
    by_cases hi : i = n
    · subst hi
      show ∃ c, candW f s p i (T (p + lenC f i)) (stepW f s p T i) = some c ∧ _
      unfold candW
      rw [if_pos hs, hT]
      cases hc : stepW f s p T i with
      | none => exact ⟨_, rfl, Int.le_refl _⟩
      | some c =>
        by_cases hl : wideF f (i :: r) < wideF f c
        · exact ⟨i :: r, by simp only [if_pos hl], Int.le_refl _⟩
        · exact ⟨c, by simp only [if_neg hl], by omega⟩
    · obtain ⟨c, hc, hle⟩ := stepW_best hs hT n (by omega)
      show ∃ c, candW f s p n (T (p + lenC f n)) (stepW f s p T n) = some c ∧ _
      unfold candW
      rw [hc]
      by_cases hst : stands f s p n = true
      · rw [if_pos hst]
        cases hnx : T (p + lenC f n) with
        | none => exact ⟨c, rfl, hle⟩
        | some r' =>
          by_cases hl : wideF f (n :: r') < wideF f c
          · exact ⟨n :: r', by simp only [if_pos hl], by omega⟩
          · exact ⟨c, by simp only [if_neg hl], hle⟩
      · rw [if_neg hst]; exact ⟨c, rfl, hle⟩
/-- NO WAY IS NARROWER than the one in the table, and there is one in the table wherever there is a way. -/
theorem tabW_best {f : List (ByteArray × Int)} {s : ByteArray} (hF : Font f) : ∀ (l : List Nat) (p : Nat), p ≤ s.size → WayAt f s p l → ∃ c, tabW f s s.size p = some c ∧ wideF f c ≤ wideF f l
  | [], p, hp, h => by
    have e : p = s.size := h
    subst e
    exact ⟨[], tabW_end, Int.le_refl _⟩
  | i :: r, p, hp, h => by
    obtain ⟨h1, h2, h3⟩ := h
    have hl := lenC_pos hF h1
    have hle := stands_le hp h2
    obtain ⟨c, hc, hw⟩ := tabW_best hF r _ hle h3
    obtain ⟨c', hc', hw'⟩ := stepW_best h2 hc f.length h1
    refine ⟨c', by rw [tabW_fix hF (by omega)]; exact hc', ?_⟩
    have e1 : wideF f (i :: c) = widthAt f i + wideF f c := rfl
    have e2 : wideF f (i :: r) = widthAt f i + wideF f r := rfl
    omega
theorem setF_way {f : List (ByteArray × Int)} {s : ByteArray} (hF : Font f) : ∀ {n p : Nat} {l : List Nat}, p ≤ s.size → setF f s n p = some l → WayAt f s p l
  | 0, p, l, hp, h => by
    simp only [setF] at h
    split at h
    · simp at h; subst h; show p = s.size; omega
    · cases h
  | n + 1, p, l, hp, h => by
    simp only [setF] at h
    split at h
    · simp at h; subst h; show p = s.size; omega
    · split at h
      · cases h
      · rename_i i hi
        cases hr : setF f s n (p + (codeAt f i).length) with
        | none => rw [hr] at h; cases h
        | some m =>
          rw [hr] at h
          simp at h
          subst h
          obtain ⟨g1, g2, _⟩ := lastPre_some hi
          have hst : stands f s p i = true := by
            unfold stands restB preB
            rw [codeB0_list]
            exact decide_eq_true g2
          have hle := stands_le hp hst
          refine ⟨g1, hst, ?_⟩
          rw [lenC_list] at hle ⊢
          exact setF_way hF hle hr
/-- A way spells the rest of the word. -/
theorem WayAt.spell {f : List (ByteArray × Int)} {s : ByteArray} : ∀ (l : List Nat) (p : Nat), p ≤ s.size → WayAt f s p l → l.flatMap (codeAt f) = s.data.toList.drop p
  | [], p, hp, h => by
    have e : p = s.size := h
    subst e
    show [] = _
    symm
    exact List.drop_eq_nil_of_le (by simp)
  | i :: r, p, hp, h => by
    obtain ⟨h1, h2, h3⟩ := h
    have hle := stands_le hp h2
    have ih := WayAt.spell r _ hle h3
    rw [List.flatMap_cons, ih, lenC_list]
    unfold stands restB preB at h2
    rw [codeB0_list] at h2
    have hpre := of_decide_eq_true h2
    have e : (s.extract p s.size).data.toList = s.data.toList.drop p := by
      simp [ByteArray.data_extract]
      rw [List.take_of_length_le (by simp)]
    rw [e] at hpre
    obtain ⟨t, ht⟩ := hpre
    rw [← ht, ← List.drop_drop, ← ht]
    simp
end Go.Proofs.Ytacphcpjppkniaa

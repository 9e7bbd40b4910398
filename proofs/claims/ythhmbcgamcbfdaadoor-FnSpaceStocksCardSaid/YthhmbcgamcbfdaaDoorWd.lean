/-
  Plain words for FnSpaces: the number of ways is greater than zero just if the width can be filled.
-/
import Derived.Test.YthhmbcgamcbfdaaDoorVc
import Derived.Test.YthhmbcgamcbfdaaDoorVs
namespace Go.Proofs.YthhmbcgamcbfdaaDoor
open Go.RowKit
set_option linter.unusedVariables false

theorem wayIn_keep (F : Nat → Int) (v : Nat) : ∀ d j : Nat, v + d ≤ j → wayIn F v d j = F j
  | 0, _, _ => rfl
  | d + 1, j, h => by
    show (if j = v + d then _ else _) = _
    rw [if_neg (by omega)]
    exact wayIn_keep F v d j (by omega)
theorem wayIn_done (F : Nat → Int) (v : Nat) {e j : Nat} : ∀ d : Nat, e ≤ d → j < v + e → wayIn F v d j = wayIn F v e j
  | 0, h, _ => by rw [show e = 0 from by omega]
  | d + 1, h, hj => by
    by_cases he : e = d + 1
    · rw [he]
    · show (if j = v + d then _ else _) = _
      rw [if_neg (by omega)]
      exact wayIn_done F v d (by omega) hj
theorem wayIn_small (F : Nat → Int) (v d : Nat) {j : Nat} (h : j < v) : wayIn F v d j = F j := by
  rw [wayIn_done F v (e := 0) d (by omega) (by omega)]; rfl
theorem wayIn_step (F : Nat → Int) {v d j : Nat} (hv : 1 ≤ v) (h1 : v ≤ j) (h2 : j < v + d) : wayIn F v d j = wrap64 (F j + wayIn F v d (j - v)) := by
  rw [wayIn_done F v (e := j - v + 1) d (by omega) (by omega), wayIn_done F v (e := j - v) (j := j - v) d (by omega) (by omega)]
  show (if j = v + (j - v) then _ else _) = _
  rw [if_pos (by omega), show v + (j - v) = j from by omega, wayIn_keep F v (j - v) j (by omega)]
theorem way_in {F : Nat → Int} {v N : Nat} {B : Int} (hv : 1 ≤ v) (hN : N ≤ 400) (hB0 : 0 ≤ B) (hB : 401 * B ≤ 9223372036854775807) (hF : ∀ j, j ≤ N → 0 ≤ F j ∧ F j ≤ B) : ∀ n j : Nat, j ≤ n → j ≤ N → (0 ≤ wayIn F v (N + 1 - v) j ∧ wayIn F v (N + 1 - v) j ≤ ((j : Int) + 1) * B) ∧ (0 < wayIn F v (N + 1 - v) j ↔ ∃ c : Nat, c * v ≤ j ∧ 0 < F (j - c * v))
  | n, j, hjn, hj => by
    have hb := hF j hj
    have hjb : 0 ≤ (j : Int) * B := Int.mul_nonneg (by omega) hB0
    have hex : ((j : Int) + 1) * B = (j : Int) * B + B := by rw [Int.add_mul, Int.one_mul]
    by_cases h1 : j < v
    · rw [wayIn_small F v _ h1]
      refine ⟨⟨hb.1, by omega⟩, ⟨fun h => ⟨0, by omega, by simpa using h⟩, fun ⟨c, h2, h3⟩ => ?_⟩⟩
      cases c with
      | zero => simpa using h3
      | succ c => rw [Nat.succ_mul] at h2; omega
    · cases n with
      | zero => omega
      | succ n =>
        obtain ⟨⟨i1, i2⟩, i3⟩ := way_in hv hN hB0 hB hF n (j - v) (by omega) (by omega)
        have hst := wayIn_step F (v := v) (d := N + 1 - v) (j := j) hv (by omega) (by omega)
        have hle : (((j - v : Nat) : Int) + 1) * B ≤ (j : Int) * B := Int.mul_le_mul_of_nonneg_right (by omega) hB0
        have hle2 : ((j : Int) + 1) * B ≤ 401 * B := Int.mul_le_mul_of_nonneg_right (by omega) hB0
        have hw : wrap64 (F j + wayIn F v (N + 1 - v) (j - v)) = F j + wayIn F v (N + 1 - v) (j - v) := by unfold wrap64; omega
        rw [hw] at hst
        rw [hst]
        refine ⟨⟨by omega, by omega⟩, ⟨fun h => ?_, fun ⟨c, h2, h3⟩ => ?_⟩⟩
        · by_cases h0 : 0 < F j
          · exact ⟨0, by omega, by simpa using h0⟩
          · obtain ⟨c, h2, h3⟩ := i3.1 (by omega)
            exact ⟨c + 1, by rw [Nat.succ_mul]; omega, by rw [Nat.succ_mul, show j - (c * v + v) = j - v - c * v from by omega]; exact h3⟩
        · cases c with
          | zero => have : 0 < F j := by simpa using h3
                    omega
          | succ c =>
            rw [Nat.succ_mul] at h2 h3
            have := i3.2 ⟨c, by omega, by rw [show j - v - c * v = j - (c * v + v) from by omega]; exact h3⟩
            omega
theorem can_nil {n : Int} : Can [] n ↔ n = 0 := by
  constructor
  · rintro ⟨m, h⟩
    cases m with
    | zero => exact h
    | succ m => obtain ⟨k, hk, _⟩ := h; cases hk
  · rintro rfl; exact can_zero _
theorem way_all {ks : List Int} (hp : Pos ks) (h6 : ks.length ≤ 6) {N : Nat} (hN : N ≤ 400) : ∀ i : Nat, i ≤ ks.length → (∃ B : Int, 0 ≤ B ∧ B ≤ (401 : Int) ^ i ∧ ∀ j, j ≤ N → 0 ≤ wayT ks N i j ∧ wayT ks N i j ≤ B) ∧ ∀ j, j ≤ N → (0 < wayT ks N i j ↔ Can (ks.take i) (j : Int))
  | 0, _ => by
    refine ⟨⟨1, by omega, by simp, fun j _ => ?_⟩, fun j _ => ?_⟩
    · show 0 ≤ (if j = 0 then (1 : Int) else 0) ∧ (if j = 0 then (1 : Int) else 0) ≤ 1
      split <;> omega
    · show 0 < (if j = 0 then (1 : Int) else 0) ↔ _
      rw [List.take_zero, can_nil]
      split <;> omega
  | i + 1, hi => by
    obtain ⟨⟨B, hB0, hB1, hB⟩, ih⟩ := way_all hp h6 hN i (by omega)
    have hil : i < ks.length := by omega
    have hv1 := hp.get hil
    obtain ⟨V, hV⟩ : ∃ V : Nat, ks[i] = (V : Int) := ⟨ks[i].toNat, by omega⟩
    have hgd : ks.getD i 0 = (V : Int) := by rw [getD_of hil]; exact hV
    have h5 : (401 : Int) ^ i ≤ (401 : Int) ^ 5 := by
      rcases (by omega : i = 0 ∨ i = 1 ∨ i = 2 ∨ i = 3 ∨ i = 4 ∨ i = 5) with rfl | rfl | rfl | rfl | rfl | rfl <;> decide
    have h55 : (401 : Int) ^ 5 = 10368641602001 := by decide
    have hV1 : 1 ≤ V := by omega
    have e : wayT ks N (i + 1) = wayIn (wayT ks N i) V (N + 1 - V) := by
      show wayIn (wayT ks N i) (ks.getD i 0).toNat (N + 1 - (ks.getD i 0).toNat) = _
      rw [hgd]; rfl
    have hin := way_in (F := wayT ks N i) (v := V) (N := N) (B := B) hV1 hN hB0 (by omega) hB
    refine ⟨⟨401 * B, by omega, by rw [Int.pow_succ]; omega, fun j hj => ?_⟩, fun j hj => ?_⟩
    · rw [e]
      have h := (hin j j (Nat.le_refl _) hj).1
      have hle2 : ((j : Int) + 1) * B ≤ 401 * B := Int.mul_le_mul_of_nonneg_right (by omega) hB0
      omega
    · rw [e, (hin j j (Nat.le_refl _) hj).2, List.take_succ_eq_append_getElem hil, hV, can_snoc]
      constructor
      · rintro ⟨c, h1, h2⟩
        have h3 := (ih (j - c * V) (by omega)).1 h2
        refine ⟨c, ?_⟩
        rw [show (j : Int) - (c : Int) * (V : Int) = ((j - c * V : Nat) : Int) from by have := Int.natCast_mul c V; omega]
        exact h3
      · rintro ⟨c, h1⟩
        have h2 := can_nonneg (hp.take i) h1
        have h3 := Int.natCast_mul c V
        refine ⟨c, by omega, (ih (j - c * V) (by omega)).2 ?_⟩
        rw [show ((j - c * V : Nat) : Int) = (j : Int) - (c : Int) * (V : Int) from by omega]
        exact h1
/-- There is a way just if it can be filled. -/
theorem way_can {l : List Int} {n : Int} (h : wAsk l n = true) : 0 < wayV l n ↔ Can l n := by
  obtain ⟨hg, h0, h4⟩ := wAsk_iff.1 h
  obtain ⟨N, rfl⟩ : ∃ N : Nat, n = (N : Int) := ⟨n.toNat, by omega⟩
  rw [wayV_yes h]
  have := (way_all (N := N) hg.pos hg.six (by omega) l.length (Nat.le_refl _)).2 N (Nat.le_refl _)
  rw [List.take_length] at this
  exact this
theorem miss_has {l : List Int} : ∀ k : Nat, ∀ x : Nat, ((x : Int) ∈ missT l k ↔ x < k ∧ ¬ Can l (x : Int))
  | 0, x => by simp [missT]
  | k + 1, x => by
    have ih := miss_has (l := l) k x
    by_cases hc : Can l (k : Int)
    · rw [missT_yes hc, ih]
      constructor
      · rintro ⟨h1, h2⟩; exact ⟨by omega, h2⟩
      · rintro ⟨h1, h2⟩
        refine ⟨?_, h2⟩
        rcases Nat.lt_or_ge x k with h3 | h3
        · exact h3
        · rw [show x = k from by omega] at h2; exact absurd hc h2
    · rw [missT_no hc, List.mem_append, ih]
      constructor
      · rintro (⟨h1, h2⟩ | h1)
        · exact ⟨by omega, h2⟩
        · have h2 : (x : Int) = (k : Int) := by simpa using h1
          have h3 : x = k := by omega
          exact ⟨by omega, by rw [h3]; exact hc⟩
      · rintro ⟨h1, h2⟩
        rcases Nat.lt_or_ge x k with h3 | h3
        · exact .inl ⟨h3, h2⟩
        · exact .inr (by rw [show x = k from by omega]; simp)
/-- The nearest width can be filled. -/
theorem near_can (l : List Int) : ∀ n : Nat, Can l (nearN l n : Int)
  | 0 => can_zero l
  | n + 1 => by
    by_cases h : Can l ((n + 1 : Nat) : Int)
    · rw [nearN_can h]; exact h
    · rw [nearN_no h]; exact near_can l n
theorem near_eq {l : List Int} {n : Nat} : nearN l n = n ↔ Can l (n : Int) :=
  ⟨fun h => by have := near_can l n; rw [h] at this; exact this, nearN_can⟩
end Go.Proofs.YthhmbcgamcbfdaaDoor

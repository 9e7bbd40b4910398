/-
  The contracts of impl.sumOfWeights and impl.DivideByWeights.
-/
import Derived.Test.YtdlobjjfakffaaaJn
import Derived.Test.YtdlobjjfakffaaaJi
import Derived.Test.YtdlobjjfakffaaaVb
import Derived.BigRegion
namespace Go.Proofs.Ytdlobjjfakffaaa
open Go.RowKit
set_option linter.unusedVariables false

def okW (l : List Int) (k : Nat) : Prop := ∀ j (h : j < l.length), j < k → 0 ≤ l[j] ∧ l[j] ≤ 1000000
def SumTo (l : List Int) (e : Ending) : Prop := ∃ (s : Int) (b : Bool), e = .returned (.tuple #[.int .i64 s, .bool b]) ∧ (b = true ↔ l.length ≤ 32 ∧ okW l l.length ∧ 0 < sumW l l.length) ∧ (b = true → s = sumW l l.length)
theorem sumOfWeights_any (l : List Int) (A : Option Addr) (c : Nat) (w : World) (hA : IntsIn w A l) (hn : l.length ≤ 1048576) :
    Calls Try.prog 12 #[.slice A l.length c] w fun e w' => SumTo l e ∧ w = w' := by
  have HA := Lib.hid hA; clear hA
  by_cases h32 : 32 < l.length
  · have hi : (32 : Int) < (l.length : Int) := by omega
    go_enter Try.func12, Try.ntmps12
    go_wp2
    go_ret2
    exact ⟨⟨0, false, rfl, ⟨fun h => (by cases h), fun h => by omega⟩, fun h => (by cases h)⟩, rfl⟩
  · have hi : ¬ (32 : Int) < (l.length : Int) := by omega
    go_enter Try.func12, Try.ntmps12
    go_wp2
    go_loop [4, 12] (fun sv i => ∃ k : Nat, k ≤ l.length ∧ i = .int .i64 (k : Int) ∧ sv = .int .i64 (sumW l k) ∧ okW l k) (fun _ i => l.length - (intOf i).toNat)
    case atStart => exact ⟨0, Nat.zero_le _, rfl, rfl, fun j _ h => by omega⟩
    case round =>
      obtain ⟨k, hk, rfl, rfl, hok⟩ := hrel
      have HOK := Lib.hid hok; clear hok
      have hsr : 0 ≤ sumW l k ∧ sumW l k ≤ 1000000 * (k : Int) := by
        have h2 : ∀ k, k ≤ l.length → okW l k → 0 ≤ sumW l k ∧ sumW l k ≤ 1000000 * (k : Int) := fun k => by
          induction k with
          | zero => intro _ _; simp [sumW]
          | succ k ih =>
            intro h1 h2
            have := ih (by omega) (fun j hj hjk => h2 j hj (by omega))
            have h3 := h2 k (by omega) (by omega)
            show 0 ≤ sumW l k + l.getD k 0 ∧ sumW l k + l.getD k 0 ≤ _
            rw [getI_of (show k < l.length by omega)]
            omega
        exact h2 k hk HOK.out
      by_cases hlt : k < l.length
      · obtain ⟨b, off, rfl, hbl, hc⟩ := HA.out (by omega)
        have hc0 := hc k hlt
        clear hc
        have HST : Hid (sumW l (k + 1) = sumW l k + l[k]) := Lib.hid (by show sumW l k + l.getD k 0 = _; rw [getI_of hlt])
        have HOK2 : Hid (0 ≤ l[k] ∧ l[k] ≤ 1000000 → okW l (k + 1)) := Lib.hid (fun h j hj hjk => by
          rcases Nat.lt_or_ge j k with d | d
          · exact HOK.out j hj d
          · have : j = k := by omega
            subst this; exact h)
        have HNO : Hid (¬ (0 ≤ l[k] ∧ l[k] ≤ 1000000) → ¬ okW l l.length) := Lib.hid (fun h h2 => h (h2 k hlt hlt))
        generalize l[k]'hlt = x at *
        generalize sumW l k = s at *
        rcases (by omega : x < 0 ∨ (0 ≤ x ∧ 1000000 < x) ∨ (0 ≤ x ∧ x ≤ 1000000)) with h1 | ⟨h1, h2⟩ | ⟨h1, h2⟩
        · go_wp2
          go_ret2
          exact ⟨⟨0, false, rfl, ⟨fun h => (by cases h), fun h => absurd h.2.1 (HNO.out (by omega))⟩, fun h => (by cases h)⟩, rfl⟩
        · go_wp2
          go_ret2
          exact ⟨⟨0, false, rfl, ⟨fun h => (by cases h), fun h => absurd h.2.1 (HNO.out (by omega))⟩, fun h => (by cases h)⟩, rfl⟩
        · have HOK3 := Lib.hid (HOK2.out ⟨h1, h2⟩)
          go_wp2
          go_round
          case rel => exact ⟨k + 1, by omega, by go_num, by rw [HST.out], HOK3.out⟩
          case measure => simp [intOf]; omega
      · obtain rfl : k = l.length := by omega
        obtain ⟨s, hs⟩ : ∃ s, s = sumW l l.length := ⟨_, rfl⟩
        rw [← hs] at hsr ⊢
        have HS := Lib.hid hs; clear hs
        by_cases h0 : 0 < s
        · have HB : Hid (l.length ≤ 32 ∧ okW l l.length ∧ 0 < sumW l l.length) := Lib.hid ⟨by omega, HOK.out, by rw [← HS.out]; exact h0⟩
          go_wp2
          go_ret2
          exact ⟨⟨s, true, rfl, ⟨fun _ => HB.out, fun _ => rfl⟩, fun _ => HS.out⟩, rfl⟩
        · have HB : Hid (¬ 0 < sumW l l.length) := Lib.hid (by rw [← HS.out]; exact h0)
          go_wp2
          go_ret2
          exact ⟨⟨s, false, rfl, ⟨fun h => (by cases h), fun h => absurd h.2.2 (by have := HB.out; omega)⟩, fun h => (by cases h)⟩, rfl⟩
theorem divB_parts {l : List Int} {T : Int} : divB l T = true ↔ (l.length ≤ 32 ∧ okW l l.length ∧ 0 < sumW l l.length) ∧ 0 ≤ T ∧ T ≤ 100000 := by
  rw [divB_iff]
  constructor
  · intro h; exact ⟨⟨h.len.2, fun j hj _ => h.all j hj, h.pos⟩, h.tot⟩
  · rintro ⟨⟨h1, h2, h3⟩, h4⟩
    refine ⟨⟨?_, h1⟩, fun j hj => h2 j hj hj, h4, rfl, h3⟩
    rcases Nat.eq_zero_or_pos l.length with d | d
    · rw [d] at h3; simp [sumW] at h3
    · exact d
theorem divB_false {l : List Int} {T : Int} (h : ¬ ((l.length ≤ 32 ∧ okW l l.length ∧ 0 < sumW l l.length) ∧ 0 ≤ T ∧ T ≤ 100000)) : divB l T = false := by
  cases hb : divB l T with
  | false => rfl
  | true => exact absurd (divB_parts.1 hb) h
end Go.Proofs.Ytdlobjjfakffaaa

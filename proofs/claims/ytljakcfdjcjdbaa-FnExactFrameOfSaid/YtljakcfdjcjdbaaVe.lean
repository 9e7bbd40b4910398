/-
  The contracts of spec.CanFill, NearestFill, MissingSums and ThinnestNeeded.
-/
import Derived.Test.YtljakcfdjcjdbaaVd
import Derived.OwnWalk
import Derived.Maps.AppendAt
namespace Go.Proofs.Ytljakcfdjcjdbaa
open Go.RowKit
set_option linter.unusedVariables false

noncomputable def canV (l : List Int) (n : Int) : Bool := wAsk l n && canB l n
theorem canV_iff {l : List Int} {n : Int} : canV l n = true ↔ wAsk l n = true ∧ Can l n := by unfold canV; rw [Bool.and_eq_true, canB_iff]
/-- The greatest number of at most n that is a sum. -/
noncomputable def nearN (l : List Int) : Nat → Nat
  | 0 => 0
  | n + 1 => if canB l ((n + 1 : Nat) : Int) = true then n + 1 else nearN l n
theorem nearN_can {l : List Int} {n : Nat} (h : Can l (n : Int)) : nearN l n = n := by
  cases n with
  | zero => rfl
  | succ n => unfold nearN; rw [if_pos (canB_iff.2 h)]
theorem nearN_no {l : List Int} {n : Nat} (h : ¬ Can l ((n + 1 : Nat) : Int)) : nearN l (n + 1) = nearN l n := by
  show (if _ then _ else _) = _; rw [if_neg (fun h' => h (canB_iff.1 h'))]
theorem nearN_le (l : List Int) : ∀ n : Nat, nearN l n ≤ n
  | 0 => Nat.le_refl _
  | n + 1 => by unfold nearN; split; · omega
                · have := nearN_le l n; omega
noncomputable def nearV (l : List Int) (n : Int) : Int := if wAsk l n = true then (nearN l n.toNat : Int) else 0
theorem nearV_no {l : List Int} {n : Int} (h : wAsk l n = false) : nearV l n = 0 := by unfold nearV; rw [h]; simp
theorem nearV_yes {l : List Int} {n : Nat} (h : wAsk l (n : Int) = true) : nearV l (n : Int) = nearN l n := by unfold nearV; rw [h]; simp
/-- The numbers below k that are no sums. -/
noncomputable def missT (l : List Int) : Nat → List Int
  | 0 => []
  | k + 1 => if canB l (k : Int) = true then missT l k else missT l k ++ [(k : Int)]
theorem missT_yes {l : List Int} {k : Nat} (h : Can l (k : Int)) : missT l (k + 1) = missT l k := by show (if _ then _ else _) = _; rw [if_pos (canB_iff.2 h)]
theorem missT_no {l : List Int} {k : Nat} (h : ¬ Can l (k : Int)) : missT l (k + 1) = missT l k ++ [(k : Int)] := by show (if _ then _ else _) = _; rw [if_neg (fun h' => h (canB_iff.1 h'))]
theorem missT_len (l : List Int) : ∀ k, (missT l k).length ≤ k
  | 0 => Nat.le_refl _
  | k + 1 => by have := missT_len l k; unfold missT; split; · omega
                · simp; omega
noncomputable def missV (l : List Int) (n : Int) : List Int := if wAsk l n = true then missT l (n.toNat + 1) else []
theorem missV_no {l : List Int} {n : Int} (h : wAsk l n = false) : missV l n = [] := by unfold missV; rw [h]; simp
theorem missV_yes {l : List Int} {n : Nat} (h : wAsk l (n : Int) = true) : missV l (n : Int) = missT l (n + 1) := by unfold missV; rw [h]; simp
theorem missV_len (l : List Int) (n : Int) : (missV l n).length ≤ 1048576 := by
  cases h : wAsk l n
  · rw [missV_no h]; simp
  · obtain ⟨_, h0, h4⟩ := wAsk_iff.1 h
    unfold missV; rw [if_pos h]
    have := missT_len l (n.toNat + 1); omega
/-- c of the first width leave a sum of the others. -/
def ThinP (l : List Int) (n : Int) (c : Nat) : Prop := Can l.tail (n - c * l.headD 0)
theorem can_thin {l : List Int} (hl : 1 ≤ l.length) {n : Int} : Can l n ↔ ∃ c, ThinP l n c := by
  cases l with
  | nil => simp at hl
  | cons k r =>
    unfold ThinP
    rw [← can_snoc (ks := (k :: r).tail)]
    constructor
    · rintro ⟨m, h⟩; exact ⟨m, rep_sub (fun j hj => by simpa [or_comm] using hj) h⟩
    · rintro ⟨m, h⟩; exact ⟨m, rep_sub (fun j hj => by simpa [or_comm] using hj) h⟩
open Classical in
noncomputable def thinV (l : List Int) (n : Int) : Int := if h : wAsk l n = true ∧ ∃ c, ThinP l n c then ((Classical.choose (least_ex h.2) : Nat) : Int) else 0
theorem thinV_eq {l : List Int} {n : Int} {c : Nat} (h : wAsk l n = true) (hc : ThinP l n c) (hl : ∀ k, k < c → ¬ ThinP l n k) : thinV l n = c := by
  have hh : wAsk l n = true ∧ ∃ c, ThinP l n c := ⟨h, c, hc⟩
  unfold thinV
  rw [dif_pos hh]
  obtain ⟨h1, h2⟩ := Classical.choose_spec (least_ex hh.2)
  have h3 := h2 c hc
  rcases Nat.lt_or_ge (Classical.choose (least_ex hh.2)) c with h4 | h4
  · exact absurd h1 (hl _ h4)
  · congr 1; omega
theorem thinV_no {l : List Int} {n : Int} (h : canV l n = false) : thinV l n = 0 := by
  unfold thinV
  rw [dif_neg]
  rintro ⟨h1, c, h2⟩
  have hg := (wAsk_iff.1 h1).1
  have := canV_iff.2 ⟨h1, (can_thin hg.one).2 ⟨c, h2⟩⟩
  rw [h] at this; cases this

end Go.Proofs.Ytljakcfdjcjdbaa

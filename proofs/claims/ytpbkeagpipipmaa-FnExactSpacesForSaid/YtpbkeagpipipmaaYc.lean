/-
  The contracts of IsAccepted, WithoutOutside, gaSums, SumsOff and FirstAlarm, in spec and in impl.
-/
import Derived.Test.YtpbkeagpipipmaaYb
import Derived.Test.YtpbkeagpipipmaaVr
namespace Go.Proofs.Ytpbkeagpipipmaa
open Go.RowKit
set_option linter.unusedVariables false

theorem Marked.owns {w : World} {g n base : Nat} {e : TypeId} {l : List Value} (h : Marked w g e n l) (hl : l.length = n) (hb : base ≤ g) (hn : n ≤ maxLen) : w.ownsRow base e 1 (.slice (some ⟨g, 0, none⟩) n n) n l := by
  obtain ⟨cur, h1, h2, h3⟩ := h
  exact ⟨by omega, .inr ⟨g, n, cur, rfl, hb, h1, Nat.le_refl _, hn, by omega, by rw [Nat.mul_one, ← hl]; exact h3⟩⟩
def askA (l : List Int) (m a : Int) : Bool := askO l m && inB 0 40 a
def accV (l : List Int) (m a : Int) : Bool := askA l m a && decide (((outT l m l.length).length : Int) ≤ a)
theorem accV_no {l : List Int} {m a : Int} (h : askA l m a = false) : accV l m a = false := by unfold accV; rw [h]; rfl
theorem accV_yes {l : List Int} {m a : Int} (h : askA l m a = true) : accV l m a = decide (((outT l m l.length).length : Int) ≤ a) := by unfold accV; rw [h]; rfl
theorem ret_bb {a b c d : Bool} (h1 : a = b) (h2 : c = d) : Ending.returned (.tuple #[.bool a, .bool c]) = .returned (.tuple #[.bool b, .bool d]) := by rw [h1, h2]
def alB (l : List Int) (a m : Int) : Bool := askS l a && inB 0 20000 m
def alF (l : List Int) (a m : Int) : Option Nat := (smT l a l.length).findIdx? fun x => outB x m
def falB (l : List Int) (a m : Int) : Bool := alB l a m && (alF l a m).isSome
def falV (l : List Int) (a m : Int) : Int := if alB l a m = true then (((alF l a m).getD 0 : Nat) : Int) else 0
theorem fal_no {l : List Int} {a m : Int} (h : alB l a m = false) : falV l a m = 0 ∧ falB l a m = false := by unfold falV falB; rw [h]; simp
theorem fal_none {l : List Int} {a m : Int} (h : ∀ j, j < l.length → outB (smS l a (j + 1)) m = false) : falV l a m = 0 ∧ falB l a m = false := by
  have e : alF l a m = none := by
    unfold alF
    rw [List.findIdx?_eq_none_iff]
    intro x hx
    obtain ⟨j, hj, rfl⟩ := List.mem_iff_getElem.1 hx
    rw [smT_get]
    exact h j (by rw [smT_len] at hj; exact hj)
  unfold falV falB; rw [e]; simp
theorem fal_some {l : List Int} {a m : Int} {k : Nat} (h0 : alB l a m = true) (hk : k < l.length) (h : ∀ j, j < k → outB (smS l a (j + 1)) m = false) (ho : outB (smS l a (k + 1)) m = true) : falV l a m = (k : Int) ∧ falB l a m = true := by
  have e : alF l a m = some k := by
    unfold alF
    rw [List.findIdx?_eq_some_iff_getElem]
    refine ⟨by rw [smT_len]; exact hk, by rw [smT_get]; exact ho, fun j hj => ?_⟩
    rw [smT_get, h j hj]; decide
  unfold falV falB; rw [e, h0]; simp
end Go.Proofs.Ytpbkeagpipipmaa

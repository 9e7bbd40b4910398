/-
  Trials, and the contracts of the small functions of stage 8, in spec and in impl: each answers what the plain words here say and leaves the world as it is.
-/
import Derived.Test.YtpbkeagpipipmaaIn
import Derived.Test.YtpbkeagpipipmaaTail
import Derived.IntWalk
namespace Go.Proofs.Ytpbkeagpipipmaa
open Go.RowKit
set_option linter.unusedVariables false

theorem inB_iff {a b c : Int} : inB a b c = true ↔ a ≤ c ∧ c ≤ b := by simp [inB]
theorem inB_no {a b c : Int} : inB a b c = false ↔ ¬ (a ≤ c ∧ c ≤ b) := by rw [← Bool.not_eq_true, inB_iff]
theorem allB_iff {a b : Int} {l : List Int} : allB a b l = true ↔ ∀ j (h : j < l.length), a ≤ l[j] ∧ l[j] ≤ b := by
  unfold allB
  rw [List.all_eq_true]
  constructor
  · intro h j hj; exact inB_iff.1 (h _ (List.getElem_mem hj))
  · intro h x hx
    obtain ⟨j, hj, rfl⟩ := List.mem_iff_getElem.1 hx
    exact inB_iff.2 (h j hj)
/-- A trial. -/
def gaB (l : List Int) : Bool := inB 1 40 (l.length : Int) && allB (-500) 500 l
structure GoodT (l : List Int) : Prop where
  one : 1 ≤ l.length
  most : l.length ≤ 40
  all : ∀ j (h : j < l.length), -500 ≤ l[j] ∧ l[j] ≤ 500
theorem gaB_iff {l : List Int} : gaB l = true ↔ GoodT l := by
  unfold gaB
  rw [Bool.and_eq_true, inB_iff, allB_iff]
  exact ⟨fun h => ⟨by omega, by omega, h.2⟩, fun h => ⟨⟨by have := h.one; omega, by have := h.most; omega⟩, h.all⟩⟩
theorem GoodT.mem {l : List Int} (h : GoodT l) : ∀ x ∈ l, -500 ≤ x ∧ x ≤ 500 := fun x hx => by
  obtain ⟨j, hj, rfl⟩ := List.mem_iff_getElem.1 hx
  exact h.all j hj
def absI (x : Int) : Int := (x.natAbs : Int)
theorem ret_ib {a b : Int} {x y : Bool} (h1 : a = b) (h2 : x = y) : Ending.returned (.tuple #[.int .i64 a, .bool x]) = .returned (.tuple #[.int .i64 b, .bool y]) := by rw [h1, h2]
theorem ret_iib {a a' b b' : Int} {c c' : Bool} (h1 : a = a') (h2 : b = b') (h3 : c = c') : Ending.returned (.tuple #[.int .i64 a, .int .i64 b, .bool c]) = .returned (.tuple #[.int .i64 a', .int .i64 b', .bool c']) := by rw [h1, h2, h3]

def outB (a m : Int) : Bool := decide (m < absI a)
def sgn (x : Int) : Int := if 0 < x then 1 else if x < 0 then -1 else 0
end Go.Proofs.Ytpbkeagpipipmaa

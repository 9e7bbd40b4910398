/-
  The contracts of spec.WaysToFill and impl.WaysToFill: both go through the same table.
-/
import Derived.Test.YthhmbcgamcbfdaaDoorVb
import Derived.BigRegion
namespace Go.Proofs.YthhmbcgamcbfdaaDoor
open Go.RowKit
set_option linter.unusedVariables false

/-- One sum more. -/
def wayUp (F : Nat → Int) (v x : Nat) : Nat → Int := fun j => if j = x then wrap64 (F x + F (x - v)) else F j
/-- Behind d sums of the width v. -/
def wayIn (F : Nat → Int) (v : Nat) : Nat → Nat → Int
  | 0 => F
  | d + 1 => wayUp (wayIn F v d) v (v + d)
/-- The table behind i widths. -/
def wayT (ks : List Int) (N : Nat) : Nat → Nat → Int
  | 0 => fun j => if j = 0 then 1 else 0
  | i + 1 => wayIn (wayT ks N i) (ks.getD i 0).toNat (N + 1 - (ks.getD i 0).toNat)
open Classical in
noncomputable def wayV (ks : List Int) (n : Int) : Int := if wAsk ks n = true then wayT ks n.toNat ks.length n.toNat else 0
theorem wayV_no {ks : List Int} {n : Int} (h : wAsk ks n = false) : wayV ks n = 0 := by unfold wayV; rw [h]; simp
theorem wayV_yes {ks : List Int} {n : Int} (h : wAsk ks n = true) : wayV ks n = wayT ks n.toNat ks.length n.toNat := by unfold wayV; rw [h]; simp
def iT (F : Nat → Int) : Nat → Value := fun j => .int .i64 (F j)
theorem iT_set (F : Nat → Int) (v x : Nat) : (fun j => if j = x then Value.int .i64 (wrap64 (F x + F (x - v))) else iT F j) = iT (wayUp F v x) := by
  funext j; unfold iT wayUp; split <;> rfl

end Go.Proofs.YthhmbcgamcbfdaaDoor

/-
  Several rules: how big, and what stays while another row grows.
-/
import Derived.Test.YtljakcfdjcjdbaaRo
namespace Go.Proofs.Ytljakcfdjcjdbaa
open Go.RowKit
set_option linter.unusedVariables false

theorem GI.grown {w w' : World} {base N c M : Nat} {A : Option Addr} {hs : Nat → Nat} {rw : Nat → List Int} {row : Option Nat} (h : GI w base A N c M hs rw) (hg : w.grownBy w' row) (hr : ∀ q, row = some q → q < base) : GI w' base A N c M hs rw :=
  ⟨own_grown h.outer hg (fun k hk e => by have h1 := hr k e; have h2 := own_lt h.outer k hk; omega), fun i hi => ⟨(h.rows i hi).1, own_grown (h.rows i hi).2 hg (fun k hk e => by have h1 := hr k e; have h2 := own_lt (h.rows i hi).2 k hk; omega)⟩, h.out, h.inc⟩
theorem rs_small (f : List Sl) (ls : List Int) : rsN f ls ≤ 6 ∧ rsN f ls * f.length ≤ 48 := by
  cases h : rsB f ls with
  | false => rw [rsN_no h]; omega
  | true =>
    rw [rsN_yes h]
    unfold rsB at h
    rw [Bool.and_eq_true, Bool.and_eq_true] at h
    have h8 := (stkB_iff.1 h.1).eight
    have h6 := (lenB_iff.1 h.2.1).1
    exact ⟨h6, Nat.mul_le_mul h6 h8⟩
end Go.Proofs.Ytljakcfdjcjdbaa

/-
  A region that draws its order, whose own operations only read and whose callees change nothing below a block number: one walk in the order of the text serves every order. (No program is named here.)
-/
import Derived.WalkKit
import Derived.Lib.Hide
import Derived.BigQuiet
namespace Go.Proofs.YtcbhhbcfnaekpaaDoor
open Go.RowKit
set_option linter.unusedVariables false

/-- A world that is as w was below block number B. -/
structure KeptW (B : Nat) (w : World) where
  at_ : World
  below : Below B w at_
instance {B : Nat} {w : World} : Nonempty (KeptW B w) := ⟨⟨w, Below.refl _ _⟩⟩

theorem KeptW.cell {B : Nat} {w : World} {a : Addr} {v : Value} (h : w.cell? a = some v) (hB : a.block < B) (x : KeptW B w) : x.at_.cell? a = some v := (x.below.cell hB).trans h

theorem region_kept (B : Nat) {P : Program} {id : Nat} {Q : Exit → Act → World → Prop} {a : Act} {w : World} {l : List Oper} (hm : P.follows .mixedOrders = true) (hL : Region.lexB .any l.toArray = true)
    (h : wpQuiet P l.toArray (fun w' => ∃ x : KeptW B w, w' = x.at_) (fun a' => ∀ w', Below B w w' → Q .normal a' w') l a) : (Code.region id l.toArray true).wp P Q a w := by
  refine wp_region_quiet (C := fun w' => ∃ x : KeptW B w, w' = x.at_) hm hL ⟨⟨w.drew, (Below.refl _ _).drew⟩, rfl⟩ ?_
  have e : (fun a' => ∀ w', (∃ x : KeptW B w, w' = x.at_) → Q .normal a' w') = fun a' => ∀ w', Below B w w' → Q .normal a' w' :=
    funext fun a' => propext ⟨fun h w' hb => h w' ⟨⟨w', hb⟩, rfl⟩, fun h w' ⟨x, hx⟩ => h w' (hx ▸ x.below)⟩
  rw [e]
  exact h

theorem kept_call {B : Nat} {w : World} {P : Program} {f : FuncId} {args : Array Value} {v : Value} (x : KeptW B w) (hB : B ≤ w.heap.size)
    (h : Calls P f args x.at_ fun e w' => e = .returned v ∧ Below x.at_.heap.size x.at_ w') : Calls P f args x.at_ fun e w'' => e = .returned v ∧ ∃ y : KeptW B w, w'' = y.at_ :=
  h.mono fun _ w'' ⟨he, hb⟩ => ⟨he, ⟨w'', x.below.trans (hb.mono (Nat.le_trans hB x.below.size))⟩, rfl⟩
theorem kept_same {B : Nat} {w : World} {P : Program} {f : FuncId} {args : Array Value} {v : Value} (x : KeptW B w)
    (h : Calls P f args x.at_ fun e w' => e = .returned v ∧ x.at_ = w') : Calls P f args x.at_ fun e w'' => e = .returned v ∧ ∃ y : KeptW B w, w'' = y.at_ :=
  h.mono fun _ _ ⟨he, hb⟩ => ⟨he, x, hb.symm⟩
end Go.Proofs.YtcbhhbcfnaekpaaDoor

/-
  What the laws hand over; IsTrial as the laws ask it.
-/
import Derived.Test.YtbepgjknjopikaaVr
namespace Go.Proofs.Ytbepgjknjopikaa
open Go.RowKit
set_option linter.unusedVariables false
theorem implIsTrialB_any (l : List Int) (A : Option Addr) (c : Nat) (w : World) (hf : IntsIn w A l) (hn : l.length ≤ 1048576) :
    Calls Try.prog 18 #[.slice A l.length c] w fun e w' => e = .returned (.bool (gaB l)) ∧ Below w.heap.size w w' :=
  (implIsTrial_any l A c w hf hn).mono fun _ _ ⟨h1, h2⟩ => ⟨h1, h2 ▸ Below.refl _ _⟩
end Go.Proofs.Ytbepgjknjopikaa

/-
  strings.IndexAny at the ten digits, at texts of every length. (For ParseFont.)
-/
import Derived.Test.YtebbgdihifihnaaDoorQj
namespace Go.Proofs.YtebbgdihifihnaaDoor.P
open Go.RowKit
set_option linter.unusedVariables false

set_option maxRecDepth 100000 in
theorem indexAny_any (p : ByteArray) (w : World) (hs : p.size ≤ 1048576) :
    Calls Tryd.prog 90 #[.string p, .string digitsB] w fun e w' => IxTo p w w' e := by
  by_cases h8 : p.size ≤ 8
  · exact indexAny_small p w h8
  · refine (Tryd.strings_IndexAny_long (zero_of_info (t := 121) (n := 256) (by kernel_rfl)).1 p digitsB w (by decide) (by omega) (by omega) (by decide) (fun j b hb => ?_)).mono ?_
    · have hm : b ∈ digitsL := List.mem_of_getElem? hb
      have ha : ∀ b ∈ digitsL, b.toNat < 128 := by decide
      exact ha _ hm
    · rintro e w' ⟨rfl, rfl⟩
      exact ⟨rfl, ((Below.refl _ _).alloc (Nat.le_refl _) _).alloc (by simp) _⟩
end Go.Proofs.YtebbgdihifihnaaDoor.P

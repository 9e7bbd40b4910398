/-
  Plain words that the numbers' and the strikes' readers share: bytes to a string, the library's table of powers.
-/
import Derived.Test.YtljakcfdjcjdbaaDoorBase
import Derived.Lib.ItoaMem
namespace Go.Proofs.YtljakcfdjcjdbaaDoor
open Go.RowKit
set_option linter.unusedVariables false

def baOf (l : List UInt8) : ByteArray := ⟨l.toArray⟩
theorem baOf_size (l : List UInt8) : (baOf l).size = l.length := rfl
theorem ba_data (c : ByteArray) : baOf c.data.toList = c := by unfold baOf; simp
def digU (n : Nat) : UInt8 := UInt8.ofNat (48 + n)
theorem digU_int {n : Nat} (h : n < 10) : ((digU n).toNat : Int) = 48 + (n : Int) := by
  unfold digU
  rw [UInt8.toNat_ofNat', Nat.mod_eq_of_lt (by omega)]; omega
def Tab (w : World) : Prop := Lib.TabIs Tryd.prog w "internal/strconv.uint64pow10" .u64 Lib.pow10Tab
theorem Tab.below {w w' : World} (h : Tab w) (hb : Below w.heap.size w w') : Tab w' := by
  unfold Tab Lib.TabIs World.var? at h ⊢
  obtain ⟨g, hg⟩ : ∃ g, Tryd.prog.globalNamed "internal/strconv.uint64pow10" = some g := by
    cases hg : Tryd.prog.globalNamed "internal/strconv.uint64pow10" with
    | none => rw [hg] at h; cases h
    | some g => exact ⟨g, rfl⟩
  rw [hg] at h ⊢
  simp only [Option.bind_some] at h ⊢
  have hlt : g < w.heap.size := by
    rcases Nat.lt_or_ge g w.heap.size with h' | h'
    · exact h'
    · rw [Array.getElem?_eq_none h'] at h; cases h
  rw [hb.block g hlt]
  exact h
end Go.Proofs.YtljakcfdjcjdbaaDoor

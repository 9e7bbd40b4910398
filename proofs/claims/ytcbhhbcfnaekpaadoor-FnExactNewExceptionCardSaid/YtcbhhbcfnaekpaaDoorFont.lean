/-
  The contracts of the functions on a slice of sorts that only read (laws.szSortS, laws.toSortS, laws.eqSortS, spec.tyFont, impl.IsFont): each returns what the plain function here says and changes nothing that was there.
-/
import Derived.Test.YtcbhhbcfnaekpaaDoorOne
import Derived.WalkLawsBesides
import Derived.StillTailTactics
import Derived.Sort.Walk0
namespace Go.Proofs.YtcbhhbcfnaekpaaDoor
open Go.RowKit
set_option linter.unusedVariables false

/-- A slice of sorts at A reads as the list f; its block lies from lo on and below the heap's end. -/
def SortsIn (w : World) (lo : Nat) (A : Option Addr) (f : List (ByteArray × Int)) : Prop :=
  0 < f.length → ∃ b off, A = some ⟨b, off, none⟩ ∧ lo ≤ b ∧ b < w.heap.size ∧ ∀ k (h : k < f.length), w.cell? ⟨b, off + k * 2, none⟩ = some (.string f[k].1) ∧ w.cell? ⟨b, off + k * 2 + 1, none⟩ = some (.int .i64 f[k].2)
/-- Each Code is no longer than a string can be. -/
def CodesOk (f : List (ByteArray × Int)) : Prop := ∀ k (h : k < f.length), f[k].1.size ≤ maxLen

theorem SortsIn.below {w w' : World} {lo B : Nat} {A : Option Addr} {f : List (ByteArray × Int)} (h : SortsIn w lo A f) (hb : Below B w w') (hB : w.heap.size ≤ B) : SortsIn w' lo A f := by
  intro hn
  obtain ⟨b, off, rfl, h1, h2, h3⟩ := h hn
  refine ⟨b, off, rfl, h1, Nat.lt_of_lt_of_le h2 hb.size, fun k hk => ?_⟩
  rw [hb.cell (by show b < B; omega), hb.cell (by show b < B; omega)]
  exact h3 k hk

theorem ret_int {k : IntKind} {a b : Int} (h : a = b) : Ending.returned (.int k a) = .returned (.int k b) := by rw [h]
def szF : List (ByteArray × Int) → Int → Int
  | [], l => l
  | x :: r, l => if l < x.1.size then -1 else szF r (l - x.1.size)
def szSortSF (f : List (ByteArray × Int)) (l : Int) : Int := if l < f.length then -1 else szF f (l - f.length)
theorem szF_drop (f : List (ByteArray × Int)) (k : Nat) (h : k < f.length) (l : Int) : szF (f.drop k) l = if l < f[k].1.size then -1 else szF (f.drop (k + 1)) (l - f[k].1.size) := by
  rw [List.drop_eq_getElem_cons h]; rfl

theorem sz_len (f : List (ByteArray × Int)) (h : 0 ≤ szSortSF f 1048576) : f.length ≤ 1048576 := by
  unfold szSortSF at h
  split at h <;> omega

theorem str_inj {c d : ByteArray} (e : c.toList = d.toList) : c = d := by
  rw [ByteArray.toList_eq, ByteArray.toList_eq] at e
  exact ByteArray.ext (Array.ext' e)
theorem str_ne {c d : ByteArray} (h : ¬ c = d) : (!c.toList == d.toList) = true := by
  have : c.toList ≠ d.toList := fun e => h (str_inj e)
  rw [beq_eq_false_iff_ne.2 this]; rfl

end Go.Proofs.YtcbhhbcfnaekpaaDoor

/-
  The contracts of impl.numbersOfSlips, StockLength and spec.StockLength; slices.Clone at slips; RestOfStock in spec (ruRest) and in impl.
-/
import Derived.Test.YtljakcfdjcjdbaaDoorPc
import Derived.Test.YtljakcfdjcjdbaaDoorVr
import Derived.BigRegion
import Derived.Deep.RegionLaw
import Derived.Deep.DeepCutAuto
import Derived.Lib.SliceRun
namespace Go.Proofs.YtljakcfdjcjdbaaDoor
open Go.RowKit
set_option linter.unusedVariables false

/-- The numbers g j for the first k, 0 behind. -/
def upF (g : Nat → Int) (k : Nat) : Nat → Value := fun j => .int .i64 (if j < k then g j else 0)
theorem upF_succ (g : Nat → Int) (k : Nat) : (fun j => if j = k then Value.int .i64 (g k) else upF g k j) = upF g (k + 1) := by
  funext j
  unfold upF
  by_cases h : j = k
  · subst h; rw [if_pos rfl, if_pos (by omega)]
  · rw [if_neg h]
    by_cases h2 : j < k
    · rw [if_pos h2, if_pos (by omega)]
    · rw [if_neg h2, if_neg (by omega)]
def lensF (f : List Sl) : Nat → Int := fun j => (f.getD j ⟨0, 0⟩).len
def cntsF (f : List Sl) : Nat → Int := fun j => (f.getD j ⟨0, 0⟩).cnt
/-- Two tables of their own: the Lengths and the Counts. -/
structure NumTo (w w' : World) (f : List Sl) (g h : Nat) : Prop where
  bel : Below w.heap.size w w'
  lo : w.heap.size ≤ g
  lo' : w.heap.size ≤ h
  ne : ¬ g = h
  l : Tb w' g 3 f.length (upF (lensF f) f.length)
  c : Tb w' h 3 f.length (upF (cntsF f) f.length)
theorem upF_zero (q : Nat → Int) : (fun (j : Nat) => Value.int .i64 0) = upF q 0 := by funext j; unfold upF; rw [if_neg (by omega)]
theorem twoT (w : World) (n : Nat) : Below w.heap.size w ((w.alloc (.cells (madeCells #[.int .i64 0] n) 3)).alloc (.cells (madeCells #[.int .i64 0] n) 3)).drew ∧ ¬ w.heap.size = w.heap.size + 1 ∧ ¬ w.heap.size + 1 = w.heap.size ∧ (∀ q, Tb ((w.alloc (.cells (madeCells #[.int .i64 0] n) 3)).alloc (.cells (madeCells #[.int .i64 0] n) 3)).drew w.heap.size 3 n (upF q 0)) ∧ (∀ q, Tb ((w.alloc (.cells (madeCells #[.int .i64 0] n) 3)).alloc (.cells (madeCells #[.int .i64 0] n) 3)).drew (w.heap.size + 1) 3 n (upF q 0)) := by
  have e : n = n * 1 := by omega
  refine ⟨(((Below.refl _ _).alloc (Nat.le_refl _) _).alloc (by simp) _).drew, by omega, by omega, fun q => ?_, fun q => ?_⟩
  · rw [← upF_zero q]
    have h := made_int w n 3
    rw [← e] at h
    exact (h.alloc _).next (Below.refl _ _).drew
  · rw [← upF_zero q]
    have h := made_int (w.alloc (.cells (madeCells #[.int .i64 0] n) 3)) n 3
    rw [World.size_alloc, ← e] at h
    exact h.next (Below.refl _ _).drew
/-- A table as numbers. -/
theorem tb_ints {w : World} {b : Nat} {t : TypeId} {q : Nat → Int} {l : List Int} (h : Tb w b t l.length (upF q l.length)) (hq : ∀ j (hj : j < l.length), l[j] = q j) : IntsIn w (some ⟨b, 0, none⟩) l :=
  h.ints (g := q) (fun j hj => by unfold upF; rw [if_pos hj]) rfl hq
def lensL (f : List Sl) : List Int := f.map (·.len)
def cntsL (f : List Sl) : List Int := f.map (·.cnt)
theorem lensL_len (f : List Sl) : (lensL f).length = f.length := by simp [lensL]
theorem cntsL_len (f : List Sl) : (cntsL f).length = f.length := by simp [cntsL]
theorem NumTo.li {w w' : World} {f : List Sl} {g h : Nat} (H : NumTo w w' f g h) : IntsIn w' (some ⟨g, 0, none⟩) (lensL f) :=
  tb_ints (q := lensF f) (by rw [lensL_len]; exact H.l) (fun j hj => by rw [lensL_len] at hj; unfold lensF; rw [getS hj]; simp [lensL])
theorem NumTo.ci {w w' : World} {f : List Sl} {g h : Nat} (H : NumTo w w' f g h) : IntsIn w' (some ⟨h, 0, none⟩) (cntsL f) :=
  tb_ints (q := cntsF f) (by rw [cntsL_len]; exact H.c) (fun j hj => by rw [cntsL_len] at hj; unfold cntsF; rw [getS hj]; simp [cntsL])
theorem cntsL_good {f : List Sl} (h : GoodS f) : GoodC f (cntsL f) := ⟨h, cntsL_len f, fun j hj h2 _ => by
  have e : (cntsL f)[j] = f[j].cnt := by simp [cntsL]
  rw [e]; exact ⟨(h.bd h2).2.1, Int.le_refl _⟩⟩
theorem cntsL_b (f : List Sl) : cntsB f (cntsL f) = stkB f := by
  cases h : stkB f with
  | true => exact cntsB_iff.2 (cntsL_good (stkB_iff.1 h))
  | false => exact cntsB_no fun g => by rw [stkB_iff.2 g.s] at h; cases h
noncomputable def allV (f : List Sl) : Int := lnV f (cntsL f)
theorem lnC_succ {f : List Sl} {k : Nat} (h : k < f.length) : lnS f (cntsL f) (k + 1) = lnS f (cntsL f) k + f[k].cnt * f[k].len := by
  rw [lnS_succ (by rw [cntsL_len]; exact h) h]; simp [cntsL]
end Go.Proofs.YtljakcfdjcjdbaaDoor

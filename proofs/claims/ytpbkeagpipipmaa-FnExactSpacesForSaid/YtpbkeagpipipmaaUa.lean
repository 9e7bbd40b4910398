/-
  The struct type Rule: its words, and the contracts of the laws' own helpers on it (to, sz, eq, mark): each answers what the plain words here say. (The text is made by a program of mine.)
-/
import Derived.Test.YtpbkeagpipipmaaInts
namespace Go.Proofs.Ytpbkeagpipipmaa
open Go.RowKit
set_option linter.unusedVariables false

structure Ru where
  lst : Int
  nrm : Int
  mst : Int
deriving DecidableEq, Inhabited

def Ru.zs (s : Ru) : List Int := [s.lst, s.nrm, s.mst]
def flatRu (f : List Ru) : List Value := f.flatMap fun s => intsZ s.zs
theorem flatRu_len (f : List Ru) : (flatRu f).length = 3 * f.length := by
  induction f with
  | nil => rfl
  | cons x r ih => simp [flatRu, intsZ, Ru.zs] at ih ⊢; omega
theorem flatRu_snoc (f : List Ru) (s : Ru) : flatRu (f ++ [s]) = flatRu f ++ [.int .i64 s.lst, .int .i64 s.nrm, .int .i64 s.mst] := by simp [flatRu, intsZ, Ru.zs]
theorem flatRu_get : ∀ (f : List Ru) (k : Nat) (h : k < f.length), (flatRu f)[k * 3]? = some (.int .i64 f[k].lst) ∧ (flatRu f)[k * 3 + 1]? = some (.int .i64 f[k].nrm) ∧ (flatRu f)[k * 3 + 2]? = some (.int .i64 f[k].mst)
  | x :: r, 0, _ => ⟨rfl, rfl, rfl⟩
  | x :: r, k + 1, h => by
    have ih := flatRu_get r k (by simpa using h)
    have e : flatRu (x :: r) = .int .i64 x.lst :: .int .i64 x.nrm :: .int .i64 x.mst :: flatRu r := rfl
    rw [e, show (k + 1) * 3 = k * 3 + 1 + 1 + 1 from by omega]
    simpa using ih
/-- A slice of them at A reads as f. -/
def RusIn (w : World) (A : Option Addr) (f : List Ru) : Prop :=
  0 < f.length → ∃ b off, A = some ⟨b, off, none⟩ ∧ b < w.heap.size ∧ ∀ k (h : k < f.length), w.cell? ⟨b, off + k * 3, none⟩ = some (.int .i64 f[k].lst) ∧ w.cell? ⟨b, off + k * 3 + 1, none⟩ = some (.int .i64 f[k].nrm) ∧ w.cell? ⟨b, off + k * 3 + 2, none⟩ = some (.int .i64 f[k].mst)
theorem RusIn.below {w w' : World} {B : Nat} {A : Option Addr} {f : List Ru} (h : RusIn w A f) (hb : Below B w w') (hB : w.heap.size ≤ B) : RusIn w' A f := by
  intro hn
  obtain ⟨b, off, rfl, h2, h3⟩ := h hn
  refine ⟨b, off, rfl, Nat.lt_of_lt_of_le h2 hb.size, fun k hk => ?_⟩
  rw [hb.cell (by show b < B; omega), hb.cell (by show b < B; omega), hb.cell (by show b < B; omega)]
  exact h3 k hk
theorem Own.rus {w : World} {b : Nat} {t : TypeId} {f : List Ru} (h : Own w b t (flatRu f)) : RusIn w (some ⟨b, 0, none⟩) f := fun _ =>
  ⟨b, 0, rfl, h.lt, fun k hk => by
    have hg := flatRu_get f k hk
    simp only [Nat.zero_add, h.cell]
    exact hg⟩
/-- Block b is a box that holds s. -/
def RuAt (w : World) (b : Nat) (t : TypeId) (s : Ru) : Prop := w.heap[b]? = some (.cells #[.int .i64 s.lst, .int .i64 s.nrm, .int .i64 s.mst] t (0, 0))
theorem RuAt.lt {w : World} {b : Nat} {t : TypeId} {s : Ru} (h : RuAt w b t s) : b < w.heap.size := lt_of_heap h
theorem RuAt.below {w w' : World} {b B : Nat} {t : TypeId} {s : Ru} (h : RuAt w b t s) (hb : Below B w w') (hB : b < B) : RuAt w' b t s := (hb.block b hB).trans h
theorem RuAt.next {w w' : World} {b : Nat} {t : TypeId} {s : Ru} (h : RuAt w b t s) (hb : Below w.heap.size w w') : RuAt w' b t s := h.below hb h.lt
theorem RuAt.cells {w : World} {b : Nat} {t : TypeId} {s : Ru} (h : RuAt w b t s) : w.cell? ⟨b, 0, none⟩ = some (.int .i64 s.lst) ∧ w.cell? ⟨b, 1, none⟩ = some (.int .i64 s.nrm) ∧ w.cell? ⟨b, 2, none⟩ = some (.int .i64 s.mst) := by
  refine ⟨?_, ?_, ?_⟩ <;> (rw [cell_of_heap h]; rfl)
theorem RuAt.free {w : World} {b : Nat} {t : TypeId} {s : Ru} (h : RuAt w b t s) (i : Nat) : w.frozen? ⟨b, i, none⟩ = false := free_of_heap h i
theorem RuAt.new (w : World) (t : TypeId) (s : Ru) : RuAt (w.alloc (.cells #[.int .i64 s.lst, .int .i64 s.nrm, .int .i64 s.mst] t)) w.heap.size t s := heap_new _ _
theorem RuAt.alloc {w : World} {b : Nat} {t : TypeId} {s : Ru} (h : RuAt w b t s) (o : Obj) : RuAt (w.alloc o) b t s := h.next ((Below.refl _ _).alloc (Nat.le_refl _) _)
theorem RuAt.kept {w : World} {b B : Nat} {t : TypeId} {s : Ru} (h : RuAt w b t s) (hB : b < B) : (∀ x : KeptW B w, x.at_.cell? ⟨b, 0, none⟩ = some (.int .i64 s.lst)) ∧ (∀ x : KeptW B w, x.at_.cell? ⟨b, 1, none⟩ = some (.int .i64 s.nrm)) ∧ (∀ x : KeptW B w, x.at_.cell? ⟨b, 2, none⟩ = some (.int .i64 s.mst)) :=
  ⟨KeptW.cell h.cells.1 hB, KeptW.cell h.cells.2.1 hB, KeptW.cell h.cells.2.2 hB⟩
theorem toRule_any (s : Ru) (w : World) :
    Calls Try.prog 40 #[.agg #[.int .i64 s.lst, .int .i64 s.nrm, .int .i64 s.mst]] w fun e w' => e = .returned (.agg #[.int .i64 s.lst, .int .i64 s.nrm, .int .i64 s.mst]) ∧ Below w.heap.size w w' := by
  go_enter Try.func40, Try.ntmps40
  go_wp2
  refine bodyPost_ret (v := .agg #[.int .i64 s.lst, .int .i64 s.nrm, .int .i64 s.mst]) (by simp [results, Try.results40, go_sem]) rfl ⟨rfl, ?_⟩
  exact (((Below.refl _ _).alloc (Nat.le_refl _) _).alloc (by simp) _).alloc (by simp; omega) _

theorem infoRu : (Try.prog.info? 25).map (fun i => (i.zero, i.size, i.bytes)) = some (some (.agg #[.int .i64 0, .int .i64 0, .int .i64 0]), 3, 24) := by kernel_rfl
end Go.Proofs.Ytpbkeagpipipmaa

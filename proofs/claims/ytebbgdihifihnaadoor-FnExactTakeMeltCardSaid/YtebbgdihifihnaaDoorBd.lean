/-
  The struct type Blend: its words, and the contracts of the laws' own helpers on it (to, sz, eq, mark): each answers what the plain words here say. (The text is made by a program of mine.)
-/
import Derived.Test.YtebbgdihifihnaaDoorInts
namespace Go.Proofs.YtebbgdihifihnaaDoor
open Go.RowKit
set_option linter.unusedVariables false

structure Bd where
  lot : Int
  hit : Int
  loa : Int
  hia : Int
deriving DecidableEq, Inhabited

def Bd.zs (s : Bd) : List Int := [s.lot, s.hit, s.loa, s.hia]
def flatBd (f : List Bd) : List Value := f.flatMap fun s => intsZ s.zs
theorem flatBd_len (f : List Bd) : (flatBd f).length = 4 * f.length := by
  induction f with
  | nil => rfl
  | cons x r ih => simp [flatBd, intsZ, Bd.zs] at ih ⊢; omega
theorem flatBd_snoc (f : List Bd) (s : Bd) : flatBd (f ++ [s]) = flatBd f ++ [.int .i64 s.lot, .int .i64 s.hit, .int .i64 s.loa, .int .i64 s.hia] := by simp [flatBd, intsZ, Bd.zs]
theorem flatBd_get : ∀ (f : List Bd) (k : Nat) (h : k < f.length), (flatBd f)[k * 4]? = some (.int .i64 f[k].lot) ∧ (flatBd f)[k * 4 + 1]? = some (.int .i64 f[k].hit) ∧ (flatBd f)[k * 4 + 2]? = some (.int .i64 f[k].loa) ∧ (flatBd f)[k * 4 + 3]? = some (.int .i64 f[k].hia)
  | x :: r, 0, _ => ⟨rfl, rfl, rfl, rfl⟩
  | x :: r, k + 1, h => by
    have ih := flatBd_get r k (by simpa using h)
    have e : flatBd (x :: r) = .int .i64 x.lot :: .int .i64 x.hit :: .int .i64 x.loa :: .int .i64 x.hia :: flatBd r := rfl
    rw [e, show (k + 1) * 4 = k * 4 + 1 + 1 + 1 + 1 from by omega]
    simpa using ih
/-- A slice of them at A reads as f. -/
def BdsIn (w : World) (A : Option Addr) (f : List Bd) : Prop :=
  0 < f.length → ∃ b off, A = some ⟨b, off, none⟩ ∧ b < w.heap.size ∧ ∀ k (h : k < f.length), w.cell? ⟨b, off + k * 4, none⟩ = some (.int .i64 f[k].lot) ∧ w.cell? ⟨b, off + k * 4 + 1, none⟩ = some (.int .i64 f[k].hit) ∧ w.cell? ⟨b, off + k * 4 + 2, none⟩ = some (.int .i64 f[k].loa) ∧ w.cell? ⟨b, off + k * 4 + 3, none⟩ = some (.int .i64 f[k].hia)
theorem BdsIn.below {w w' : World} {B : Nat} {A : Option Addr} {f : List Bd} (h : BdsIn w A f) (hb : Below B w w') (hB : w.heap.size ≤ B) : BdsIn w' A f := by
  intro hn
  obtain ⟨b, off, rfl, h2, h3⟩ := h hn
  refine ⟨b, off, rfl, Nat.lt_of_lt_of_le h2 hb.size, fun k hk => ?_⟩
  rw [hb.cell (by show b < B; omega), hb.cell (by show b < B; omega), hb.cell (by show b < B; omega), hb.cell (by show b < B; omega)]
  exact h3 k hk
theorem Own.bds {w : World} {b : Nat} {t : TypeId} {f : List Bd} (h : Own w b t (flatBd f)) : BdsIn w (some ⟨b, 0, none⟩) f := fun _ =>
  ⟨b, 0, rfl, h.lt, fun k hk => by
    have hg := flatBd_get f k hk
    simp only [Nat.zero_add, h.cell]
    exact hg⟩
/-- Block b is a box that holds s. -/
def BdAt (w : World) (b : Nat) (t : TypeId) (s : Bd) : Prop := w.heap[b]? = some (.cells #[.int .i64 s.lot, .int .i64 s.hit, .int .i64 s.loa, .int .i64 s.hia] t (0, 0))
theorem BdAt.lt {w : World} {b : Nat} {t : TypeId} {s : Bd} (h : BdAt w b t s) : b < w.heap.size := lt_of_heap h
theorem BdAt.below {w w' : World} {b B : Nat} {t : TypeId} {s : Bd} (h : BdAt w b t s) (hb : Below B w w') (hB : b < B) : BdAt w' b t s := (hb.block b hB).trans h
theorem BdAt.next {w w' : World} {b : Nat} {t : TypeId} {s : Bd} (h : BdAt w b t s) (hb : Below w.heap.size w w') : BdAt w' b t s := h.below hb h.lt
theorem BdAt.cells {w : World} {b : Nat} {t : TypeId} {s : Bd} (h : BdAt w b t s) : w.cell? ⟨b, 0, none⟩ = some (.int .i64 s.lot) ∧ w.cell? ⟨b, 1, none⟩ = some (.int .i64 s.hit) ∧ w.cell? ⟨b, 2, none⟩ = some (.int .i64 s.loa) ∧ w.cell? ⟨b, 3, none⟩ = some (.int .i64 s.hia) := by
  refine ⟨?_, ?_, ?_, ?_⟩ <;> (rw [cell_of_heap h]; rfl)
theorem BdAt.free {w : World} {b : Nat} {t : TypeId} {s : Bd} (h : BdAt w b t s) (i : Nat) : w.frozen? ⟨b, i, none⟩ = false := free_of_heap h i
theorem BdAt.new (w : World) (t : TypeId) (s : Bd) : BdAt (w.alloc (.cells #[.int .i64 s.lot, .int .i64 s.hit, .int .i64 s.loa, .int .i64 s.hia] t)) w.heap.size t s := heap_new _ _
theorem BdAt.alloc {w : World} {b : Nat} {t : TypeId} {s : Bd} (h : BdAt w b t s) (o : Obj) : BdAt (w.alloc o) b t s := h.next ((Below.refl _ _).alloc (Nat.le_refl _) _)
theorem BdAt.kept {w : World} {b B : Nat} {t : TypeId} {s : Bd} (h : BdAt w b t s) (hB : b < B) : (∀ x : KeptW B w, x.at_.cell? ⟨b, 0, none⟩ = some (.int .i64 s.lot)) ∧ (∀ x : KeptW B w, x.at_.cell? ⟨b, 1, none⟩ = some (.int .i64 s.hit)) ∧ (∀ x : KeptW B w, x.at_.cell? ⟨b, 2, none⟩ = some (.int .i64 s.loa)) ∧ (∀ x : KeptW B w, x.at_.cell? ⟨b, 3, none⟩ = some (.int .i64 s.hia)) :=
  ⟨KeptW.cell h.cells.1 hB, KeptW.cell h.cells.2.1 hB, KeptW.cell h.cells.2.2.1 hB, KeptW.cell h.cells.2.2.2 hB⟩
theorem toBlend_any (s : Bd) (w : World) :
    Calls Tryd.prog 14 #[.agg #[.int .i64 s.lot, .int .i64 s.hit, .int .i64 s.loa, .int .i64 s.hia]] w fun e w' => e = .returned (.agg #[.int .i64 s.lot, .int .i64 s.hit, .int .i64 s.loa, .int .i64 s.hia]) ∧ Below w.heap.size w w' := by
  go_enter Tryd.func14, Tryd.ntmps14
  go_wp2
  refine bodyPost_ret (v := .agg #[.int .i64 s.lot, .int .i64 s.hit, .int .i64 s.loa, .int .i64 s.hia]) (by simp [results, Tryd.results14, go_sem]) rfl ⟨rfl, ?_⟩
  exact (((Below.refl _ _).alloc (Nat.le_refl _) _).alloc (by simp) _).alloc (by simp; omega) _

theorem infoBd : (Tryd.prog.info? 25).map (fun i => (i.zero, i.size, i.bytes)) = some (some (.agg #[.int .i64 0, .int .i64 0, .int .i64 0, .int .i64 0]), 4, 32) := by kernel_rfl
end Go.Proofs.YtebbgdihifihnaaDoor

/-
  The struct type Entry: its words, and the contracts of the laws' own helpers on it (to, sz, eq, mark): each answers what the plain words here say. (The text is made by a program of mine.)
-/
import Derived.Test.YteagclokobkigaaInts
namespace Go.Proofs.Yteagclokobkigaa
open Go.RowKit
set_option linter.unusedVariables false

structure En where
  col : Int
  spa : Int
  wid : Int
deriving DecidableEq, Inhabited

def En.zs (s : En) : List Int := [s.col, s.spa, s.wid]
def flatEn (f : List En) : List Value := f.flatMap fun s => intsZ s.zs
theorem flatEn_len (f : List En) : (flatEn f).length = 3 * f.length := by
  induction f with
  | nil => rfl
  | cons x r ih => simp [flatEn, intsZ, En.zs] at ih ⊢; omega
theorem flatEn_snoc (f : List En) (s : En) : flatEn (f ++ [s]) = flatEn f ++ [.int .i64 s.col, .int .i64 s.spa, .int .i64 s.wid] := by simp [flatEn, intsZ, En.zs]
theorem flatEn_get : ∀ (f : List En) (k : Nat) (h : k < f.length), (flatEn f)[k * 3]? = some (.int .i64 f[k].col) ∧ (flatEn f)[k * 3 + 1]? = some (.int .i64 f[k].spa) ∧ (flatEn f)[k * 3 + 2]? = some (.int .i64 f[k].wid)
  | x :: r, 0, _ => ⟨rfl, rfl, rfl⟩
  | x :: r, k + 1, h => by
    have ih := flatEn_get r k (by simpa using h)
    have e : flatEn (x :: r) = .int .i64 x.col :: .int .i64 x.spa :: .int .i64 x.wid :: flatEn r := rfl
    rw [e, show (k + 1) * 3 = k * 3 + 1 + 1 + 1 from by omega]
    simpa using ih
/-- A slice of them at A reads as f. -/
def EnsIn (w : World) (A : Option Addr) (f : List En) : Prop :=
  0 < f.length → ∃ b off, A = some ⟨b, off, none⟩ ∧ b < w.heap.size ∧ ∀ k (h : k < f.length), w.cell? ⟨b, off + k * 3, none⟩ = some (.int .i64 f[k].col) ∧ w.cell? ⟨b, off + k * 3 + 1, none⟩ = some (.int .i64 f[k].spa) ∧ w.cell? ⟨b, off + k * 3 + 2, none⟩ = some (.int .i64 f[k].wid)
theorem EnsIn.below {w w' : World} {B : Nat} {A : Option Addr} {f : List En} (h : EnsIn w A f) (hb : Below B w w') (hB : w.heap.size ≤ B) : EnsIn w' A f := by
  intro hn
  obtain ⟨b, off, rfl, h2, h3⟩ := h hn
  refine ⟨b, off, rfl, Nat.lt_of_lt_of_le h2 hb.size, fun k hk => ?_⟩
  rw [hb.cell (by show b < B; omega), hb.cell (by show b < B; omega), hb.cell (by show b < B; omega)]
  exact h3 k hk
theorem Own.ens {w : World} {b : Nat} {t : TypeId} {f : List En} (h : Own w b t (flatEn f)) : EnsIn w (some ⟨b, 0, none⟩) f := fun _ =>
  ⟨b, 0, rfl, h.lt, fun k hk => by
    have hg := flatEn_get f k hk
    simp only [Nat.zero_add, h.cell]
    exact hg⟩
/-- Block b is a box that holds s. -/
def EnAt (w : World) (b : Nat) (t : TypeId) (s : En) : Prop := w.heap[b]? = some (.cells #[.int .i64 s.col, .int .i64 s.spa, .int .i64 s.wid] t (0, 0))
theorem EnAt.lt {w : World} {b : Nat} {t : TypeId} {s : En} (h : EnAt w b t s) : b < w.heap.size := lt_of_heap h
theorem EnAt.below {w w' : World} {b B : Nat} {t : TypeId} {s : En} (h : EnAt w b t s) (hb : Below B w w') (hB : b < B) : EnAt w' b t s := (hb.block b hB).trans h
theorem EnAt.next {w w' : World} {b : Nat} {t : TypeId} {s : En} (h : EnAt w b t s) (hb : Below w.heap.size w w') : EnAt w' b t s := h.below hb h.lt
theorem EnAt.cells {w : World} {b : Nat} {t : TypeId} {s : En} (h : EnAt w b t s) : w.cell? ⟨b, 0, none⟩ = some (.int .i64 s.col) ∧ w.cell? ⟨b, 1, none⟩ = some (.int .i64 s.spa) ∧ w.cell? ⟨b, 2, none⟩ = some (.int .i64 s.wid) := by
  refine ⟨?_, ?_, ?_⟩ <;> (rw [cell_of_heap h]; rfl)
theorem EnAt.free {w : World} {b : Nat} {t : TypeId} {s : En} (h : EnAt w b t s) (i : Nat) : w.frozen? ⟨b, i, none⟩ = false := free_of_heap h i
theorem EnAt.new (w : World) (t : TypeId) (s : En) : EnAt (w.alloc (.cells #[.int .i64 s.col, .int .i64 s.spa, .int .i64 s.wid] t)) w.heap.size t s := heap_new _ _
theorem EnAt.alloc {w : World} {b : Nat} {t : TypeId} {s : En} (h : EnAt w b t s) (o : Obj) : EnAt (w.alloc o) b t s := h.next ((Below.refl _ _).alloc (Nat.le_refl _) _)
theorem EnAt.kept {w : World} {b B : Nat} {t : TypeId} {s : En} (h : EnAt w b t s) (hB : b < B) : (∀ x : KeptW B w, x.at_.cell? ⟨b, 0, none⟩ = some (.int .i64 s.col)) ∧ (∀ x : KeptW B w, x.at_.cell? ⟨b, 1, none⟩ = some (.int .i64 s.spa)) ∧ (∀ x : KeptW B w, x.at_.cell? ⟨b, 2, none⟩ = some (.int .i64 s.wid)) :=
  ⟨KeptW.cell h.cells.1 hB, KeptW.cell h.cells.2.1 hB, KeptW.cell h.cells.2.2 hB⟩
theorem infoEn : (Try.prog.info? 36).map (fun i => (i.zero, i.size, i.bytes)) = some (some (.agg #[.int .i64 0, .int .i64 0, .int .i64 0]), 3, 24) := by kernel_rfl
theorem run_makeEn (n : Nat) (hn : n ≤ 1048576) (w : World) :
    (Instr.makeSlice 24 (.int .i64 (n : Int)) (.int .i64 (n : Int))).run Try.prog w = .ok (.slice (some ⟨w.heap.size, 0, none⟩) n n) (w.alloc (.cells (madeCells #[.int .i64 0, .int .i64 0, .int .i64 0] (n * 3)) 36)) := by
  obtain ⟨i0, hi, hz0, hz1, hz2⟩ := info_parts infoEn
  have h := run_make (P := Try.prog) w 24 36 i0 _ Try.underlying24 hi hz0 .i64 .i64 (n : Int) (n : Int) (by omega) (Int.le_refl _) (by rw [hz2]; omega) (by omega)
  rw [hz1, Int.toNat_natCast] at h
  exact h

end Go.Proofs.Yteagclokobkigaa

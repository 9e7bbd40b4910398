/-
  The struct type Machine: its words, and the contracts of the laws' own helpers on it (to, sz, eq, mark): each answers what the plain words here say. (The text is made by a program of mine.)
-/
import Derived.Test.YtpocghcdfpcedaaInts
namespace Go.Proofs.Ytpocghcdfpcedaa
open Go.RowKit
set_option linter.unusedVariables false

structure Mc where
  bod : Int
  hou : Int
  cha : Int
deriving DecidableEq, Inhabited

def Mc.zs (s : Mc) : List Int := [s.bod, s.hou, s.cha]
def flatMc (f : List Mc) : List Value := f.flatMap fun s => intsZ s.zs
theorem flatMc_len (f : List Mc) : (flatMc f).length = 3 * f.length := by
  induction f with
  | nil => rfl
  | cons x r ih => simp [flatMc, intsZ, Mc.zs] at ih ⊢; omega
theorem flatMc_snoc (f : List Mc) (s : Mc) : flatMc (f ++ [s]) = flatMc f ++ [.int .i64 s.bod, .int .i64 s.hou, .int .i64 s.cha] := by simp [flatMc, intsZ, Mc.zs]
theorem flatMc_get : ∀ (f : List Mc) (k : Nat) (h : k < f.length), (flatMc f)[k * 3]? = some (.int .i64 f[k].bod) ∧ (flatMc f)[k * 3 + 1]? = some (.int .i64 f[k].hou) ∧ (flatMc f)[k * 3 + 2]? = some (.int .i64 f[k].cha)
  | x :: r, 0, _ => ⟨rfl, rfl, rfl⟩
  | x :: r, k + 1, h => by
    have ih := flatMc_get r k (by simpa using h)
    have e : flatMc (x :: r) = .int .i64 x.bod :: .int .i64 x.hou :: .int .i64 x.cha :: flatMc r := rfl
    rw [e, show (k + 1) * 3 = k * 3 + 1 + 1 + 1 from by omega]
    simpa using ih
/-- A slice of them at A reads as f. -/
def McsIn (w : World) (A : Option Addr) (f : List Mc) : Prop :=
  0 < f.length → ∃ b off, A = some ⟨b, off, none⟩ ∧ b < w.heap.size ∧ ∀ k (h : k < f.length), w.cell? ⟨b, off + k * 3, none⟩ = some (.int .i64 f[k].bod) ∧ w.cell? ⟨b, off + k * 3 + 1, none⟩ = some (.int .i64 f[k].hou) ∧ w.cell? ⟨b, off + k * 3 + 2, none⟩ = some (.int .i64 f[k].cha)
theorem McsIn.below {w w' : World} {B : Nat} {A : Option Addr} {f : List Mc} (h : McsIn w A f) (hb : Below B w w') (hB : w.heap.size ≤ B) : McsIn w' A f := by
  intro hn
  obtain ⟨b, off, rfl, h2, h3⟩ := h hn
  refine ⟨b, off, rfl, Nat.lt_of_lt_of_le h2 hb.size, fun k hk => ?_⟩
  rw [hb.cell (by show b < B; omega), hb.cell (by show b < B; omega), hb.cell (by show b < B; omega)]
  exact h3 k hk
theorem Own.mcs {w : World} {b : Nat} {t : TypeId} {f : List Mc} (h : Own w b t (flatMc f)) : McsIn w (some ⟨b, 0, none⟩) f := fun _ =>
  ⟨b, 0, rfl, h.lt, fun k hk => by
    have hg := flatMc_get f k hk
    simp only [Nat.zero_add, h.cell]
    exact hg⟩
/-- Block b is a box that holds s. -/
def McAt (w : World) (b : Nat) (t : TypeId) (s : Mc) : Prop := w.heap[b]? = some (.cells #[.int .i64 s.bod, .int .i64 s.hou, .int .i64 s.cha] t (0, 0))
theorem McAt.lt {w : World} {b : Nat} {t : TypeId} {s : Mc} (h : McAt w b t s) : b < w.heap.size := lt_of_heap h
theorem McAt.below {w w' : World} {b B : Nat} {t : TypeId} {s : Mc} (h : McAt w b t s) (hb : Below B w w') (hB : b < B) : McAt w' b t s := (hb.block b hB).trans h
theorem McAt.next {w w' : World} {b : Nat} {t : TypeId} {s : Mc} (h : McAt w b t s) (hb : Below w.heap.size w w') : McAt w' b t s := h.below hb h.lt
theorem McAt.cells {w : World} {b : Nat} {t : TypeId} {s : Mc} (h : McAt w b t s) : w.cell? ⟨b, 0, none⟩ = some (.int .i64 s.bod) ∧ w.cell? ⟨b, 1, none⟩ = some (.int .i64 s.hou) ∧ w.cell? ⟨b, 2, none⟩ = some (.int .i64 s.cha) := by
  refine ⟨?_, ?_, ?_⟩ <;> (rw [cell_of_heap h]; rfl)
theorem McAt.free {w : World} {b : Nat} {t : TypeId} {s : Mc} (h : McAt w b t s) (i : Nat) : w.frozen? ⟨b, i, none⟩ = false := free_of_heap h i
theorem McAt.new (w : World) (t : TypeId) (s : Mc) : McAt (w.alloc (.cells #[.int .i64 s.bod, .int .i64 s.hou, .int .i64 s.cha] t)) w.heap.size t s := heap_new _ _
theorem McAt.alloc {w : World} {b : Nat} {t : TypeId} {s : Mc} (h : McAt w b t s) (o : Obj) : McAt (w.alloc o) b t s := h.next ((Below.refl _ _).alloc (Nat.le_refl _) _)
theorem McAt.kept {w : World} {b B : Nat} {t : TypeId} {s : Mc} (h : McAt w b t s) (hB : b < B) : (∀ x : KeptW B w, x.at_.cell? ⟨b, 0, none⟩ = some (.int .i64 s.bod)) ∧ (∀ x : KeptW B w, x.at_.cell? ⟨b, 1, none⟩ = some (.int .i64 s.hou)) ∧ (∀ x : KeptW B w, x.at_.cell? ⟨b, 2, none⟩ = some (.int .i64 s.cha)) :=
  ⟨KeptW.cell h.cells.1 hB, KeptW.cell h.cells.2.1 hB, KeptW.cell h.cells.2.2 hB⟩
theorem toMachine_any (s : Mc) (w : World) :
    Calls Try.prog 20 #[.agg #[.int .i64 s.bod, .int .i64 s.hou, .int .i64 s.cha]] w fun e w' => e = .returned (.agg #[.int .i64 s.bod, .int .i64 s.hou, .int .i64 s.cha]) ∧ Below w.heap.size w w' := by
  go_enter Try.func20, Try.ntmps20
  go_wp2
  refine bodyPost_ret (v := .agg #[.int .i64 s.bod, .int .i64 s.hou, .int .i64 s.cha]) (by simp [results, Try.results20, go_sem]) rfl ⟨rfl, ?_⟩
  exact (((Below.refl _ _).alloc (Nat.le_refl _) _).alloc (by simp) _).alloc (by simp; omega) _

theorem infoMc : (Try.prog.info? 32).map (fun i => (i.zero, i.size, i.bytes)) = some (some (.agg #[.int .i64 0, .int .i64 0, .int .i64 0]), 3, 24) := by kernel_rfl
end Go.Proofs.Ytpocghcdfpcedaa

/-
  The struct type Melt: its words, and the contracts of the laws' own helpers on it (to, sz, eq, mark): each answers what the plain words here say. (The text is made by a program of mine.)
-/
import Derived.Test.YtebbgdihifihnaaDoorInts
namespace Go.Proofs.YtebbgdihifihnaaDoor
open Go.RowKit
set_option linter.unusedVariables false

structure Me where
  lea : Int
  tin : Int
  ant : Int
deriving DecidableEq, Inhabited

def Me.zs (s : Me) : List Int := [s.lea, s.tin, s.ant]
def flatMe (f : List Me) : List Value := f.flatMap fun s => intsZ s.zs
theorem flatMe_len (f : List Me) : (flatMe f).length = 3 * f.length := by
  induction f with
  | nil => rfl
  | cons x r ih => simp [flatMe, intsZ, Me.zs] at ih ⊢; omega
theorem flatMe_snoc (f : List Me) (s : Me) : flatMe (f ++ [s]) = flatMe f ++ [.int .i64 s.lea, .int .i64 s.tin, .int .i64 s.ant] := by simp [flatMe, intsZ, Me.zs]
theorem flatMe_get : ∀ (f : List Me) (k : Nat) (h : k < f.length), (flatMe f)[k * 3]? = some (.int .i64 f[k].lea) ∧ (flatMe f)[k * 3 + 1]? = some (.int .i64 f[k].tin) ∧ (flatMe f)[k * 3 + 2]? = some (.int .i64 f[k].ant)
  | x :: r, 0, _ => ⟨rfl, rfl, rfl⟩
  | x :: r, k + 1, h => by
    have ih := flatMe_get r k (by simpa using h)
    have e : flatMe (x :: r) = .int .i64 x.lea :: .int .i64 x.tin :: .int .i64 x.ant :: flatMe r := rfl
    rw [e, show (k + 1) * 3 = k * 3 + 1 + 1 + 1 from by omega]
    simpa using ih
/-- A slice of them at A reads as f. -/
def MesIn (w : World) (A : Option Addr) (f : List Me) : Prop :=
  0 < f.length → ∃ b off, A = some ⟨b, off, none⟩ ∧ b < w.heap.size ∧ ∀ k (h : k < f.length), w.cell? ⟨b, off + k * 3, none⟩ = some (.int .i64 f[k].lea) ∧ w.cell? ⟨b, off + k * 3 + 1, none⟩ = some (.int .i64 f[k].tin) ∧ w.cell? ⟨b, off + k * 3 + 2, none⟩ = some (.int .i64 f[k].ant)
theorem MesIn.below {w w' : World} {B : Nat} {A : Option Addr} {f : List Me} (h : MesIn w A f) (hb : Below B w w') (hB : w.heap.size ≤ B) : MesIn w' A f := by
  intro hn
  obtain ⟨b, off, rfl, h2, h3⟩ := h hn
  refine ⟨b, off, rfl, Nat.lt_of_lt_of_le h2 hb.size, fun k hk => ?_⟩
  rw [hb.cell (by show b < B; omega), hb.cell (by show b < B; omega), hb.cell (by show b < B; omega)]
  exact h3 k hk
theorem Own.mes {w : World} {b : Nat} {t : TypeId} {f : List Me} (h : Own w b t (flatMe f)) : MesIn w (some ⟨b, 0, none⟩) f := fun _ =>
  ⟨b, 0, rfl, h.lt, fun k hk => by
    have hg := flatMe_get f k hk
    simp only [Nat.zero_add, h.cell]
    exact hg⟩
/-- Block b is a box that holds s. -/
def MeAt (w : World) (b : Nat) (t : TypeId) (s : Me) : Prop := w.heap[b]? = some (.cells #[.int .i64 s.lea, .int .i64 s.tin, .int .i64 s.ant] t (0, 0))
theorem MeAt.lt {w : World} {b : Nat} {t : TypeId} {s : Me} (h : MeAt w b t s) : b < w.heap.size := lt_of_heap h
theorem MeAt.below {w w' : World} {b B : Nat} {t : TypeId} {s : Me} (h : MeAt w b t s) (hb : Below B w w') (hB : b < B) : MeAt w' b t s := (hb.block b hB).trans h
theorem MeAt.next {w w' : World} {b : Nat} {t : TypeId} {s : Me} (h : MeAt w b t s) (hb : Below w.heap.size w w') : MeAt w' b t s := h.below hb h.lt
theorem MeAt.cells {w : World} {b : Nat} {t : TypeId} {s : Me} (h : MeAt w b t s) : w.cell? ⟨b, 0, none⟩ = some (.int .i64 s.lea) ∧ w.cell? ⟨b, 1, none⟩ = some (.int .i64 s.tin) ∧ w.cell? ⟨b, 2, none⟩ = some (.int .i64 s.ant) := by
  refine ⟨?_, ?_, ?_⟩ <;> (rw [cell_of_heap h]; rfl)
theorem MeAt.free {w : World} {b : Nat} {t : TypeId} {s : Me} (h : MeAt w b t s) (i : Nat) : w.frozen? ⟨b, i, none⟩ = false := free_of_heap h i
theorem MeAt.new (w : World) (t : TypeId) (s : Me) : MeAt (w.alloc (.cells #[.int .i64 s.lea, .int .i64 s.tin, .int .i64 s.ant] t)) w.heap.size t s := heap_new _ _
theorem MeAt.alloc {w : World} {b : Nat} {t : TypeId} {s : Me} (h : MeAt w b t s) (o : Obj) : MeAt (w.alloc o) b t s := h.next ((Below.refl _ _).alloc (Nat.le_refl _) _)
theorem MeAt.kept {w : World} {b B : Nat} {t : TypeId} {s : Me} (h : MeAt w b t s) (hB : b < B) : (∀ x : KeptW B w, x.at_.cell? ⟨b, 0, none⟩ = some (.int .i64 s.lea)) ∧ (∀ x : KeptW B w, x.at_.cell? ⟨b, 1, none⟩ = some (.int .i64 s.tin)) ∧ (∀ x : KeptW B w, x.at_.cell? ⟨b, 2, none⟩ = some (.int .i64 s.ant)) :=
  ⟨KeptW.cell h.cells.1 hB, KeptW.cell h.cells.2.1 hB, KeptW.cell h.cells.2.2 hB⟩
theorem toMelt_any (s : Me) (w : World) :
    Calls Tryd.prog 17 #[.agg #[.int .i64 s.lea, .int .i64 s.tin, .int .i64 s.ant]] w fun e w' => e = .returned (.agg #[.int .i64 s.lea, .int .i64 s.tin, .int .i64 s.ant]) ∧ Below w.heap.size w w' := by
  go_enter Tryd.func17, Tryd.ntmps17
  go_wp2
  refine bodyPost_ret (v := .agg #[.int .i64 s.lea, .int .i64 s.tin, .int .i64 s.ant]) (by simp [results, Tryd.results17, go_sem]) rfl ⟨rfl, ?_⟩
  exact (((Below.refl _ _).alloc (Nat.le_refl _) _).alloc (by simp) _).alloc (by simp; omega) _

theorem eqMelt_any (s t : Me) (w : World) :
    Calls Tryd.prog 21 #[.agg #[.int .i64 s.lea, .int .i64 s.tin, .int .i64 s.ant], .agg #[.int .i64 t.lea, .int .i64 t.tin, .int .i64 t.ant]] w fun e w' => e = .returned (.bool (decide (s = t))) ∧ Below w.heap.size w w' := by
  obtain ⟨a0, a1, a2⟩ := s; obtain ⟨b0, b1, b2⟩ := t
  show Calls Tryd.prog 21 #[.agg #[.int .i64 a0, .int .i64 a1, .int .i64 a2], .agg #[.int .i64 b0, .int .i64 b1, .int .i64 b2]] w _
  have hb : Below w.heap.size w ((w.alloc (.cells #[.int .i64 a0, .int .i64 a1, .int .i64 a2] 32)).alloc (.cells #[.int .i64 b0, .int .i64 b1, .int .i64 b2] 32)) := ((Below.refl _ _).alloc (Nat.le_refl _) _).alloc (by simp) _
  by_cases h0 : a0 = b0
  · subst h0
    by_cases h1 : a1 = b1
    · subst h1
      by_cases h2 : a2 = b2
      · subst h2
        go_enter Tryd.func21, Tryd.ntmps21
        go_wp2
        go_ret
        exact ⟨by simp, hb⟩
      · have g2 : (a2 != b2) = true := by simp [h2]
        have H2 := Lib.hid h2; clear h2
        go_enter Tryd.func21, Tryd.ntmps21
        go_wp2
        go_ret
        exact ⟨by simp [H2.out], hb⟩
    · have g1 : (a1 != b1) = true := by simp [h1]
      have H2 := Lib.hid h1; clear h1
      go_enter Tryd.func21, Tryd.ntmps21
      go_wp2
      go_ret
      exact ⟨by simp [H2.out], hb⟩
  · have g0 : (a0 != b0) = true := by simp [h0]
    have H2 := Lib.hid h0; clear h0
    go_enter Tryd.func21, Tryd.ntmps21
    go_wp2
    go_ret
    exact ⟨by simp [H2.out], hb⟩

theorem infoMe : (Tryd.prog.info? 32).map (fun i => (i.zero, i.size, i.bytes)) = some (some (.agg #[.int .i64 0, .int .i64 0, .int .i64 0]), 3, 24) := by kernel_rfl
theorem run_makeMe (n : Nat) (hn : n ≤ 1048576) (w : World) :
    (Instr.makeSlice 75 (.int .i64 (n : Int)) (.int .i64 (n : Int))).run Tryd.prog w = .ok (.slice (some ⟨w.heap.size, 0, none⟩) n n) (w.alloc (.cells (madeCells #[.int .i64 0, .int .i64 0, .int .i64 0] (n * 3)) 32)) := by
  obtain ⟨i0, hi, hz0, hz1, hz2⟩ := info_parts infoMe
  have h := run_make (P := Tryd.prog) w 75 32 i0 _ Tryd.underlying75 hi hz0 .i64 .i64 (n : Int) (n : Int) (by omega) (Int.le_refl _) (by rw [hz2]; omega) (by omega)
  rw [hz1, Int.toNat_natCast] at h
  exact h

end Go.Proofs.YtebbgdihifihnaaDoor

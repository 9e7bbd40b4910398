/-
  The struct type Strike: its words, and the contracts of the laws' own helpers on it (to, sz, eq, mark): each answers what the plain words here say. (The text is made by a program of mine.)
-/
import Derived.Test.YtdomccamkiplcaaDoorBase
namespace Go.Proofs.YtdomccamkiplcaaDoor
open Go.RowKit
set_option linter.unusedVariables false

structure Sk where
  dep : Int
  lef : Int
  fac : Int
  rig : Int
  foo : Int
deriving DecidableEq, Inhabited

def Sk.zs (s : Sk) : List Int := [s.dep, s.lef, s.fac, s.rig, s.foo]
def flatSk (f : List Sk) : List Value := f.flatMap fun s => intsZ s.zs
theorem flatSk_len (f : List Sk) : (flatSk f).length = 5 * f.length := by
  induction f with
  | nil => rfl
  | cons x r ih => simp [flatSk, intsZ, Sk.zs] at ih ⊢; omega
theorem flatSk_snoc (f : List Sk) (s : Sk) : flatSk (f ++ [s]) = flatSk f ++ [.int .i64 s.dep, .int .i64 s.lef, .int .i64 s.fac, .int .i64 s.rig, .int .i64 s.foo] := by simp [flatSk, intsZ, Sk.zs]
theorem flatSk_get : ∀ (f : List Sk) (k : Nat) (h : k < f.length), (flatSk f)[k * 5]? = some (.int .i64 f[k].dep) ∧ (flatSk f)[k * 5 + 1]? = some (.int .i64 f[k].lef) ∧ (flatSk f)[k * 5 + 2]? = some (.int .i64 f[k].fac) ∧ (flatSk f)[k * 5 + 3]? = some (.int .i64 f[k].rig) ∧ (flatSk f)[k * 5 + 4]? = some (.int .i64 f[k].foo)
  | x :: r, 0, _ => ⟨rfl, rfl, rfl, rfl, rfl⟩
  | x :: r, k + 1, h => by
    have ih := flatSk_get r k (by simpa using h)
    have e : flatSk (x :: r) = .int .i64 x.dep :: .int .i64 x.lef :: .int .i64 x.fac :: .int .i64 x.rig :: .int .i64 x.foo :: flatSk r := rfl
    rw [e, show (k + 1) * 5 = k * 5 + 1 + 1 + 1 + 1 + 1 from by omega]
    simpa using ih
/-- A slice of them at A reads as f. -/
def SksIn (w : World) (A : Option Addr) (f : List Sk) : Prop :=
  0 < f.length → ∃ b off, A = some ⟨b, off, none⟩ ∧ b < w.heap.size ∧ ∀ k (h : k < f.length), w.cell? ⟨b, off + k * 5, none⟩ = some (.int .i64 f[k].dep) ∧ w.cell? ⟨b, off + k * 5 + 1, none⟩ = some (.int .i64 f[k].lef) ∧ w.cell? ⟨b, off + k * 5 + 2, none⟩ = some (.int .i64 f[k].fac) ∧ w.cell? ⟨b, off + k * 5 + 3, none⟩ = some (.int .i64 f[k].rig) ∧ w.cell? ⟨b, off + k * 5 + 4, none⟩ = some (.int .i64 f[k].foo)
theorem SksIn.below {w w' : World} {B : Nat} {A : Option Addr} {f : List Sk} (h : SksIn w A f) (hb : Below B w w') (hB : w.heap.size ≤ B) : SksIn w' A f := by
  intro hn
  obtain ⟨b, off, rfl, h2, h3⟩ := h hn
  refine ⟨b, off, rfl, Nat.lt_of_lt_of_le h2 hb.size, fun k hk => ?_⟩
  rw [hb.cell (by show b < B; omega), hb.cell (by show b < B; omega), hb.cell (by show b < B; omega), hb.cell (by show b < B; omega), hb.cell (by show b < B; omega)]
  exact h3 k hk
theorem Own.sks {w : World} {b : Nat} {t : TypeId} {f : List Sk} (h : Own w b t (flatSk f)) : SksIn w (some ⟨b, 0, none⟩) f := fun _ =>
  ⟨b, 0, rfl, h.lt, fun k hk => by
    have hg := flatSk_get f k hk
    simp only [Nat.zero_add, h.cell]
    exact hg⟩
/-- Block b is a box that holds s. -/
def SkAt (w : World) (b : Nat) (t : TypeId) (s : Sk) : Prop := w.heap[b]? = some (.cells #[.int .i64 s.dep, .int .i64 s.lef, .int .i64 s.fac, .int .i64 s.rig, .int .i64 s.foo] t (0, 0))
theorem SkAt.lt {w : World} {b : Nat} {t : TypeId} {s : Sk} (h : SkAt w b t s) : b < w.heap.size := lt_of_heap h
theorem SkAt.below {w w' : World} {b B : Nat} {t : TypeId} {s : Sk} (h : SkAt w b t s) (hb : Below B w w') (hB : b < B) : SkAt w' b t s := (hb.block b hB).trans h
theorem SkAt.next {w w' : World} {b : Nat} {t : TypeId} {s : Sk} (h : SkAt w b t s) (hb : Below w.heap.size w w') : SkAt w' b t s := h.below hb h.lt
theorem SkAt.cells {w : World} {b : Nat} {t : TypeId} {s : Sk} (h : SkAt w b t s) : w.cell? ⟨b, 0, none⟩ = some (.int .i64 s.dep) ∧ w.cell? ⟨b, 1, none⟩ = some (.int .i64 s.lef) ∧ w.cell? ⟨b, 2, none⟩ = some (.int .i64 s.fac) ∧ w.cell? ⟨b, 3, none⟩ = some (.int .i64 s.rig) ∧ w.cell? ⟨b, 4, none⟩ = some (.int .i64 s.foo) := by
  refine ⟨?_, ?_, ?_, ?_, ?_⟩ <;> (rw [cell_of_heap h]; rfl)
theorem SkAt.free {w : World} {b : Nat} {t : TypeId} {s : Sk} (h : SkAt w b t s) (i : Nat) : w.frozen? ⟨b, i, none⟩ = false := free_of_heap h i
theorem SkAt.new (w : World) (t : TypeId) (s : Sk) : SkAt (w.alloc (.cells #[.int .i64 s.dep, .int .i64 s.lef, .int .i64 s.fac, .int .i64 s.rig, .int .i64 s.foo] t)) w.heap.size t s := heap_new _ _
theorem SkAt.alloc {w : World} {b : Nat} {t : TypeId} {s : Sk} (h : SkAt w b t s) (o : Obj) : SkAt (w.alloc o) b t s := h.next ((Below.refl _ _).alloc (Nat.le_refl _) _)
theorem SkAt.kept {w : World} {b B : Nat} {t : TypeId} {s : Sk} (h : SkAt w b t s) (hB : b < B) : (∀ x : KeptW B w, x.at_.cell? ⟨b, 0, none⟩ = some (.int .i64 s.dep)) ∧ (∀ x : KeptW B w, x.at_.cell? ⟨b, 1, none⟩ = some (.int .i64 s.lef)) ∧ (∀ x : KeptW B w, x.at_.cell? ⟨b, 2, none⟩ = some (.int .i64 s.fac)) ∧ (∀ x : KeptW B w, x.at_.cell? ⟨b, 3, none⟩ = some (.int .i64 s.rig)) ∧ (∀ x : KeptW B w, x.at_.cell? ⟨b, 4, none⟩ = some (.int .i64 s.foo)) :=
  ⟨KeptW.cell h.cells.1 hB, KeptW.cell h.cells.2.1 hB, KeptW.cell h.cells.2.2.1 hB, KeptW.cell h.cells.2.2.2.1 hB, KeptW.cell h.cells.2.2.2.2 hB⟩
theorem eqStrike_any (s t : Sk) (w : World) :
    Calls Tryd.prog 15 #[.agg #[.int .i64 s.dep, .int .i64 s.lef, .int .i64 s.fac, .int .i64 s.rig, .int .i64 s.foo], .agg #[.int .i64 t.dep, .int .i64 t.lef, .int .i64 t.fac, .int .i64 t.rig, .int .i64 t.foo]] w fun e w' => e = .returned (.bool (decide (s = t))) ∧ Below w.heap.size w w' := by
  obtain ⟨a0, a1, a2, a3, a4⟩ := s; obtain ⟨b0, b1, b2, b3, b4⟩ := t
  show Calls Tryd.prog 15 #[.agg #[.int .i64 a0, .int .i64 a1, .int .i64 a2, .int .i64 a3, .int .i64 a4], .agg #[.int .i64 b0, .int .i64 b1, .int .i64 b2, .int .i64 b3, .int .i64 b4]] w _
  have hb : Below w.heap.size w ((w.alloc (.cells #[.int .i64 a0, .int .i64 a1, .int .i64 a2, .int .i64 a3, .int .i64 a4] 34)).alloc (.cells #[.int .i64 b0, .int .i64 b1, .int .i64 b2, .int .i64 b3, .int .i64 b4] 34)) := ((Below.refl _ _).alloc (Nat.le_refl _) _).alloc (by simp) _
  by_cases h0 : a0 = b0
  · subst h0
    by_cases h1 : a1 = b1
    · subst h1
      by_cases h2 : a2 = b2
      · subst h2
        by_cases h3 : a3 = b3
        · subst h3
          by_cases h4 : a4 = b4
          · subst h4
            go_enter Tryd.func15, Tryd.ntmps15
            go_wp2
            go_ret
            exact ⟨by simp, hb⟩
          · have g4 : (a4 != b4) = true := by simp [h4]
            have H2 := Lib.hid h4; clear h4
            go_enter Tryd.func15, Tryd.ntmps15
            go_wp2
            go_ret
            exact ⟨by simp [H2.out], hb⟩
        · have g3 : (a3 != b3) = true := by simp [h3]
          have H2 := Lib.hid h3; clear h3
          go_enter Tryd.func15, Tryd.ntmps15
          go_wp2
          go_ret
          exact ⟨by simp [H2.out], hb⟩
      · have g2 : (a2 != b2) = true := by simp [h2]
        have H2 := Lib.hid h2; clear h2
        go_enter Tryd.func15, Tryd.ntmps15
        go_wp2
        go_ret
        exact ⟨by simp [H2.out], hb⟩
    · have g1 : (a1 != b1) = true := by simp [h1]
      have H2 := Lib.hid h1; clear h1
      go_enter Tryd.func15, Tryd.ntmps15
      go_wp2
      go_ret
      exact ⟨by simp [H2.out], hb⟩
  · have g0 : (a0 != b0) = true := by simp [h0]
    have H2 := Lib.hid h0; clear h0
    go_enter Tryd.func15, Tryd.ntmps15
    go_wp2
    go_ret
    exact ⟨by simp [H2.out], hb⟩

end Go.Proofs.YtdomccamkiplcaaDoor

/-
  The struct type Strike: its words, and the contracts of the laws' own helpers on it (to, sz, eq, mark): each answers what the plain words here say. (The text is made by a program of mine.)
-/
import Derived.Test.YtbbaphhkdhdelaaInts
namespace Go.Proofs.Ytbbaphhkdhdelaa
open Go.RowKit
set_option linter.unusedVariables false

structure Sk where
  dep : Int
  lef : Int
  fac : Int
  rig : Int
  foo : Int
deriving DecidableEq, Inhabited

def Sk.zs (s : Sk) : List Int := [s.dep, s.lef, s.fac, s.rig, s.foo]
def flatSk (f : List Sk) : List Value := f.flatMap fun s => intsZ s.zs
theorem flatSk_len (f : List Sk) : (flatSk f).length = 5 * f.length := by
  induction f with
  | nil => rfl
  | cons x r ih => simp [flatSk, intsZ, Sk.zs] at ih ⊢; omega
theorem flatSk_snoc (f : List Sk) (s : Sk) : flatSk (f ++ [s]) = flatSk f ++ [.int .i64 s.dep, .int .i64 s.lef, .int .i64 s.fac, .int .i64 s.rig, .int .i64 s.foo] := by simp [flatSk, intsZ, Sk.zs]
theorem flatSk_get : ∀ (f : List Sk) (k : Nat) (h : k < f.length), (flatSk f)[k * 5]? = some (.int .i64 f[k].dep) ∧ (flatSk f)[k * 5 + 1]? = some (.int .i64 f[k].lef) ∧ (flatSk f)[k * 5 + 2]? = some (.int .i64 f[k].fac) ∧ (flatSk f)[k * 5 + 3]? = some (.int .i64 f[k].rig) ∧ (flatSk f)[k * 5 + 4]? = some (.int .i64 f[k].foo)
  | x :: r, 0, _ => ⟨rfl, rfl, rfl, rfl, rfl⟩
  | x :: r, k + 1, h => by
    have ih := flatSk_get r k (by simpa using h)
    have e : flatSk (x :: r) = .int .i64 x.dep :: .int .i64 x.lef :: .int .i64 x.fac :: .int .i64 x.rig :: .int .i64 x.foo :: flatSk r := rfl
    rw [e, show (k + 1) * 5 = k * 5 + 1 + 1 + 1 + 1 + 1 from by omega]
    simpa using ih
/-- A slice of them at A reads as f. -/
def SksIn (w : World) (A : Option Addr) (f : List Sk) : Prop :=
  0 < f.length → ∃ b off, A = some ⟨b, off, none⟩ ∧ b < w.heap.size ∧ ∀ k (h : k < f.length), w.cell? ⟨b, off + k * 5, none⟩ = some (.int .i64 f[k].dep) ∧ w.cell? ⟨b, off + k * 5 + 1, none⟩ = some (.int .i64 f[k].lef) ∧ w.cell? ⟨b, off + k * 5 + 2, none⟩ = some (.int .i64 f[k].fac) ∧ w.cell? ⟨b, off + k * 5 + 3, none⟩ = some (.int .i64 f[k].rig) ∧ w.cell? ⟨b, off + k * 5 + 4, none⟩ = some (.int .i64 f[k].foo)
theorem SksIn.below {w w' : World} {B : Nat} {A : Option Addr} {f : List Sk} (h : SksIn w A f) (hb : Below B w w') (hB : w.heap.size ≤ B) : SksIn w' A f := by
  intro hn
  obtain ⟨b, off, rfl, h2, h3⟩ := h hn
  refine ⟨b, off, rfl, Nat.lt_of_lt_of_le h2 hb.size, fun k hk => ?_⟩
  rw [hb.cell (by show b < B; omega), hb.cell (by show b < B; omega), hb.cell (by show b < B; omega), hb.cell (by show b < B; omega), hb.cell (by show b < B; omega)]
  exact h3 k hk
theorem Own.sks {w : World} {b : Nat} {t : TypeId} {f : List Sk} (h : Own w b t (flatSk f)) : SksIn w (some ⟨b, 0, none⟩) f := fun _ =>
  ⟨b, 0, rfl, h.lt, fun k hk => by
    have hg := flatSk_get f k hk
    simp only [Nat.zero_add, h.cell]
    exact hg⟩
/-- Block b is a box that holds s. -/
def SkAt (w : World) (b : Nat) (t : TypeId) (s : Sk) : Prop := w.heap[b]? = some (.cells #[.int .i64 s.dep, .int .i64 s.lef, .int .i64 s.fac, .int .i64 s.rig, .int .i64 s.foo] t (0, 0))
theorem SkAt.lt {w : World} {b : Nat} {t : TypeId} {s : Sk} (h : SkAt w b t s) : b < w.heap.size := lt_of_heap h
theorem SkAt.below {w w' : World} {b B : Nat} {t : TypeId} {s : Sk} (h : SkAt w b t s) (hb : Below B w w') (hB : b < B) : SkAt w' b t s := (hb.block b hB).trans h
theorem SkAt.next {w w' : World} {b : Nat} {t : TypeId} {s : Sk} (h : SkAt w b t s) (hb : Below w.heap.size w w') : SkAt w' b t s := h.below hb h.lt
theorem SkAt.cells {w : World} {b : Nat} {t : TypeId} {s : Sk} (h : SkAt w b t s) : w.cell? ⟨b, 0, none⟩ = some (.int .i64 s.dep) ∧ w.cell? ⟨b, 1, none⟩ = some (.int .i64 s.lef) ∧ w.cell? ⟨b, 2, none⟩ = some (.int .i64 s.fac) ∧ w.cell? ⟨b, 3, none⟩ = some (.int .i64 s.rig) ∧ w.cell? ⟨b, 4, none⟩ = some (.int .i64 s.foo) := by
  refine ⟨?_, ?_, ?_, ?_, ?_⟩ <;> (rw [cell_of_heap h]; rfl)
theorem SkAt.free {w : World} {b : Nat} {t : TypeId} {s : Sk} (h : SkAt w b t s) (i : Nat) : w.frozen? ⟨b, i, none⟩ = false := free_of_heap h i
theorem SkAt.new (w : World) (t : TypeId) (s : Sk) : SkAt (w.alloc (.cells #[.int .i64 s.dep, .int .i64 s.lef, .int .i64 s.fac, .int .i64 s.rig, .int .i64 s.foo] t)) w.heap.size t s := heap_new _ _
theorem SkAt.alloc {w : World} {b : Nat} {t : TypeId} {s : Sk} (h : SkAt w b t s) (o : Obj) : SkAt (w.alloc o) b t s := h.next ((Below.refl _ _).alloc (Nat.le_refl _) _)
theorem SkAt.kept {w : World} {b B : Nat} {t : TypeId} {s : Sk} (h : SkAt w b t s) (hB : b < B) : (∀ x : KeptW B w, x.at_.cell? ⟨b, 0, none⟩ = some (.int .i64 s.dep)) ∧ (∀ x : KeptW B w, x.at_.cell? ⟨b, 1, none⟩ = some (.int .i64 s.lef)) ∧ (∀ x : KeptW B w, x.at_.cell? ⟨b, 2, none⟩ = some (.int .i64 s.fac)) ∧ (∀ x : KeptW B w, x.at_.cell? ⟨b, 3, none⟩ = some (.int .i64 s.rig)) ∧ (∀ x : KeptW B w, x.at_.cell? ⟨b, 4, none⟩ = some (.int .i64 s.foo)) :=
  ⟨KeptW.cell h.cells.1 hB, KeptW.cell h.cells.2.1 hB, KeptW.cell h.cells.2.2.1 hB, KeptW.cell h.cells.2.2.2.1 hB, KeptW.cell h.cells.2.2.2.2 hB⟩
theorem toStrike_any (s : Sk) (w : World) :
    Calls Try.prog 15 #[.agg #[.int .i64 s.dep, .int .i64 s.lef, .int .i64 s.fac, .int .i64 s.rig, .int .i64 s.foo]] w fun e w' => e = .returned (.agg #[.int .i64 s.dep, .int .i64 s.lef, .int .i64 s.fac, .int .i64 s.rig, .int .i64 s.foo]) ∧ Below w.heap.size w w' := by
  go_enter Try.func15, Try.ntmps15
  go_wp2
  refine bodyPost_ret (v := .agg #[.int .i64 s.dep, .int .i64 s.lef, .int .i64 s.fac, .int .i64 s.rig, .int .i64 s.foo]) (by simp [results, Try.results15, go_sem]) rfl ⟨rfl, ?_⟩
  exact (((Below.refl _ _).alloc (Nat.le_refl _) _).alloc (by simp) _).alloc (by simp; omega) _

theorem eqStrike_any (s t : Sk) (w : World) :
    Calls Try.prog 30 #[.agg #[.int .i64 s.dep, .int .i64 s.lef, .int .i64 s.fac, .int .i64 s.rig, .int .i64 s.foo], .agg #[.int .i64 t.dep, .int .i64 t.lef, .int .i64 t.fac, .int .i64 t.rig, .int .i64 t.foo]] w fun e w' => e = .returned (.bool (decide (s = t))) ∧ Below w.heap.size w w' := by
  obtain ⟨a0, a1, a2, a3, a4⟩ := s; obtain ⟨b0, b1, b2, b3, b4⟩ := t
  show Calls Try.prog 30 #[.agg #[.int .i64 a0, .int .i64 a1, .int .i64 a2, .int .i64 a3, .int .i64 a4], .agg #[.int .i64 b0, .int .i64 b1, .int .i64 b2, .int .i64 b3, .int .i64 b4]] w _
  have hb : Below w.heap.size w ((w.alloc (.cells #[.int .i64 a0, .int .i64 a1, .int .i64 a2, .int .i64 a3, .int .i64 a4] 25)).alloc (.cells #[.int .i64 b0, .int .i64 b1, .int .i64 b2, .int .i64 b3, .int .i64 b4] 25)) := ((Below.refl _ _).alloc (Nat.le_refl _) _).alloc (by simp) _
  by_cases h0 : a0 = b0
  · subst h0
    by_cases h1 : a1 = b1
    · subst h1
      by_cases h2 : a2 = b2
      · subst h2
        by_cases h3 : a3 = b3
        · subst h3
          by_cases h4 : a4 = b4
          · subst h4
            go_enter Try.func30, Try.ntmps30
            go_wp2
            go_ret
            exact ⟨by simp, hb⟩
          · have g4 : (a4 != b4) = true := by simp [h4]
            have H2 := Lib.hid h4; clear h4
            go_enter Try.func30, Try.ntmps30
            go_wp2
            go_ret
            exact ⟨by simp [H2.out], hb⟩
        · have g3 : (a3 != b3) = true := by simp [h3]
          have H2 := Lib.hid h3; clear h3
          go_enter Try.func30, Try.ntmps30
          go_wp2
          go_ret
          exact ⟨by simp [H2.out], hb⟩
      · have g2 : (a2 != b2) = true := by simp [h2]
        have H2 := Lib.hid h2; clear h2
        go_enter Try.func30, Try.ntmps30
        go_wp2
        go_ret
        exact ⟨by simp [H2.out], hb⟩
    · have g1 : (a1 != b1) = true := by simp [h1]
      have H2 := Lib.hid h1; clear h1
      go_enter Try.func30, Try.ntmps30
      go_wp2
      go_ret
      exact ⟨by simp [H2.out], hb⟩
  · have g0 : (a0 != b0) = true := by simp [h0]
    have H2 := Lib.hid h0; clear h0
    go_enter Try.func30, Try.ntmps30
    go_wp2
    go_ret
    exact ⟨by simp [H2.out], hb⟩

theorem szStrikeS_any (f : List Sk) (A : Option Addr) (c : Nat) (l : Int) (w : World) (hn : f.length ≤ maxLen) (h1 : 0 ≤ l) (h2 : l ≤ 1048576) :
    Calls Try.prog 26 #[.slice A f.length c, .int .i64 l] w fun e w' => e = .returned (.int .i64 (if l < f.length then -1 else l - f.length)) ∧ w = w' := by
  unfold maxLen at hn
  by_cases h : l < f.length
  · have h' : l - (f.length : Int) < 0 := by omega
    go_enter Try.func26, Try.ntmps26
    go_wp2
    go_ret
    exact ⟨rfl, rfl⟩
  · have h' : ¬ l - (f.length : Int) < 0 := by omega
    go_enter Try.func26, Try.ntmps26
    go_wp2
    go_ret
    exact ⟨rfl, rfl⟩

theorem infoSk : (Try.prog.info? 25).map (fun i => (i.zero, i.size, i.bytes)) = some (some (.agg #[.int .i64 0, .int .i64 0, .int .i64 0, .int .i64 0, .int .i64 0]), 5, 40) := by kernel_rfl
theorem run_makeSk (n : Nat) (hn : n ≤ 1048576) (w : World) :
    (Instr.makeSlice 42 (.int .i64 (n : Int)) (.int .i64 (n : Int))).run Try.prog w = .ok (.slice (some ⟨w.heap.size, 0, none⟩) n n) (w.alloc (.cells (madeCells #[.int .i64 0, .int .i64 0, .int .i64 0, .int .i64 0, .int .i64 0] (n * 5)) 25)) := by
  obtain ⟨i0, hi, hz0, hz1, hz2⟩ := info_parts infoSk
  have h := run_make (P := Try.prog) w 42 25 i0 _ Try.underlying42 hi hz0 .i64 .i64 (n : Int) (n : Int) (by omega) (Int.le_refl _) (by rw [hz2]; omega) (by omega)
  rw [hz1, Int.toNat_natCast] at h
  exact h

set_option maxRecDepth 100000 in
theorem toStrikeS_any (f : List Sk) (A : Option Addr) (c : Nat) (w : World) (hf : SksIn w A f) (hn : f.length ≤ 1048576) :
    Calls Try.prog 28 #[.slice A f.length c] w fun e w' => e = .returned (.slice (some ⟨w.heap.size, 0, none⟩) f.length f.length) ∧ Below w.heap.size w w' ∧ Own w' w.heap.size 25 (flatSk f) := by
  have HF := Lib.hid hf; clear hf
  have hmk := run_makeSk f.length hn
  have hst : Marked (w.alloc (.cells (madeCells #[.int .i64 0, .int .i64 0, .int .i64 0, .int .i64 0, .int .i64 0] (f.length * 5)) 25)) w.heap.size 25 (f.length * 5) (flatSk (f.take 0)) := ⟨_, heap_new _ _, size_madeCells _ _, by simp [flatSk]⟩
  generalize hz : madeCells #[.int .i64 0, .int .i64 0, .int .i64 0, .int .i64 0, .int .i64 0] (f.length * 5) = cs0 at *
  go_enter Try.func28, Try.ntmps28
  have HST := Lib.hid hst; clear hst hz
  go_wp2
  go_loopw [4] (fun i wr => ∃ (k : Nat), k ≤ f.length ∧ i = .int .i64 k ∧ Marked wr w.heap.size 25 (f.length * 5) (flatSk (f.take k)) ∧ Below w.heap.size w wr) (fun i _ => f.length - (intOf i).toNat)
  case atStart => exact ⟨0, Nat.zero_le _, rfl, HST.out, (Below.refl _ _).alloc (Nat.le_refl _) _⟩
  case round =>
    obtain ⟨k, hk, rfl, hp, hb⟩ := hrel
    clear hmk
    by_cases hlt : k < f.length
    · obtain ⟨b, off, rfl, hbl, hc⟩ := HF.out (by omega)
      obtain ⟨hc0, hc1, hc2, hc3, hc4⟩ := hc k hlt
      clear hc
      rw [← hb.cell (p := ⟨b, off + k * 5, none⟩) hbl] at hc0
      rw [← hb.cell (p := ⟨b, off + k * 5 + 1, none⟩) hbl] at hc1
      rw [← hb.cell (p := ⟨b, off + k * 5 + 2, none⟩) hbl] at hc2
      rw [← hb.cell (p := ⟨b, off + k * 5 + 3, none⟩) hbl] at hc3
      rw [← hb.cell (p := ⟨b, off + k * 5 + 4, none⟩) hbl] at hc4
      go_wp2_with fail
      refine (toStrike_any f[k] _).mono ?_
      rintro e w1 ⟨rfl, hb1⟩
      have hp1 := hp.below (hb1.mono (Nat.le_refl _))
      have hb' : Below w.heap.size w w1 := hb.trans (hb1.mono hb.size)
      have hl : (flatSk (f.take k)).length = k * 5 := by rw [flatSk_len, List.length_take]; omega
      obtain ⟨⟨u0, hu0⟩, hz0⟩ := hp1.at_ (j := k * 5) (by omega)
      obtain ⟨⟨u1, hu1⟩, hz1⟩ := hp1.at_ (j := k * 5 + 1) (by omega)
      obtain ⟨⟨u2, hu2⟩, hz2⟩ := hp1.at_ (j := k * 5 + 2) (by omega)
      obtain ⟨⟨u3, hu3⟩, hz3⟩ := hp1.at_ (j := k * 5 + 3) (by omega)
      obtain ⟨⟨u4, hu4⟩, hz4⟩ := hp1.at_ (j := k * 5 + 4) (by omega)
      have m0 : Marked (w1.setCell ⟨w.heap.size, k * 5, none⟩ (.int .i64 f[k].dep)) w.heap.size 25 (f.length * 5) ((flatSk (f.take k)) ++ [.int .i64 f[k].dep]) := hp1.stepAt (k * 5) (by simp only [List.length_append, List.length_cons, List.length_nil, hl]) (by omega) _
      have m1 : Marked ((w1.setCell ⟨w.heap.size, k * 5, none⟩ (.int .i64 f[k].dep)).setCell ⟨w.heap.size, k * 5 + 1, none⟩ (.int .i64 f[k].lef)) w.heap.size 25 (f.length * 5) ((flatSk (f.take k) ++ [.int .i64 f[k].dep]) ++ [.int .i64 f[k].lef]) := m0.stepAt (k * 5 + 1) (by simp only [List.length_append, List.length_cons, List.length_nil, hl]) (by omega) _
      have m2 : Marked (((w1.setCell ⟨w.heap.size, k * 5, none⟩ (.int .i64 f[k].dep)).setCell ⟨w.heap.size, k * 5 + 1, none⟩ (.int .i64 f[k].lef)).setCell ⟨w.heap.size, k * 5 + 2, none⟩ (.int .i64 f[k].fac)) w.heap.size 25 (f.length * 5) ((flatSk (f.take k) ++ [.int .i64 f[k].dep] ++ [.int .i64 f[k].lef]) ++ [.int .i64 f[k].fac]) := m1.stepAt (k * 5 + 2) (by simp only [List.length_append, List.length_cons, List.length_nil, hl]) (by omega) _
      have m3 : Marked ((((w1.setCell ⟨w.heap.size, k * 5, none⟩ (.int .i64 f[k].dep)).setCell ⟨w.heap.size, k * 5 + 1, none⟩ (.int .i64 f[k].lef)).setCell ⟨w.heap.size, k * 5 + 2, none⟩ (.int .i64 f[k].fac)).setCell ⟨w.heap.size, k * 5 + 3, none⟩ (.int .i64 f[k].rig)) w.heap.size 25 (f.length * 5) ((flatSk (f.take k) ++ [.int .i64 f[k].dep] ++ [.int .i64 f[k].lef] ++ [.int .i64 f[k].fac]) ++ [.int .i64 f[k].rig]) := m2.stepAt (k * 5 + 3) (by simp only [List.length_append, List.length_cons, List.length_nil, hl]) (by omega) _
      have m4 : Marked (((((w1.setCell ⟨w.heap.size, k * 5, none⟩ (.int .i64 f[k].dep)).setCell ⟨w.heap.size, k * 5 + 1, none⟩ (.int .i64 f[k].lef)).setCell ⟨w.heap.size, k * 5 + 2, none⟩ (.int .i64 f[k].fac)).setCell ⟨w.heap.size, k * 5 + 3, none⟩ (.int .i64 f[k].rig)).setCell ⟨w.heap.size, k * 5 + 4, none⟩ (.int .i64 f[k].foo)) w.heap.size 25 (f.length * 5) ((flatSk (f.take k) ++ [.int .i64 f[k].dep] ++ [.int .i64 f[k].lef] ++ [.int .i64 f[k].fac] ++ [.int .i64 f[k].rig]) ++ [.int .i64 f[k].foo]) := m3.stepAt (k * 5 + 4) (by simp only [List.length_append, List.length_cons, List.length_nil, hl]) (by omega) _
      have HP : Hid (Marked (((((w1.setCell ⟨w.heap.size, k * 5, none⟩ (.int .i64 f[k].dep)).setCell ⟨w.heap.size, k * 5 + 1, none⟩ (.int .i64 f[k].lef)).setCell ⟨w.heap.size, k * 5 + 2, none⟩ (.int .i64 f[k].fac)).setCell ⟨w.heap.size, k * 5 + 3, none⟩ (.int .i64 f[k].rig)).setCell ⟨w.heap.size, k * 5 + 4, none⟩ (.int .i64 f[k].foo)) w.heap.size 25 (f.length * 5) (flatSk (f.take (k + 1)))) := by
        show Marked _ _ _ _ _
        rw [List.take_succ_eq_append_getElem hlt, flatSk_snoc]
        simpa only [List.append_assoc, List.cons_append, List.nil_append] using m4
      have HB := Lib.hid (((((hb'.setCell (p := ⟨w.heap.size, k * 5, none⟩) (Nat.le_refl _) (.int .i64 f[k].dep)).setCell (p := ⟨w.heap.size, k * 5 + 1, none⟩) (Nat.le_refl _) (.int .i64 f[k].lef)).setCell (p := ⟨w.heap.size, k * 5 + 2, none⟩) (Nat.le_refl _) (.int .i64 f[k].fac)).setCell (p := ⟨w.heap.size, k * 5 + 3, none⟩) (Nat.le_refl _) (.int .i64 f[k].rig)).setCell (p := ⟨w.heap.size, k * 5 + 4, none⟩) (Nat.le_refl _) (.int .i64 f[k].foo))
      clear hb hb1 hc0 hc1 hc2 hc3 hc4 hp hp1 hb' hl m0 m1 m2 m3 m4
      go_wp2
      go_roundw
      case rel => exact ⟨k + 1, by omega, by go_num, HP.out, HB.out⟩
      case measure => simp [intOf]; omega
    · obtain rfl : k = f.length := by omega
      rw [List.take_length, show f.length * 5 = (flatSk f).length from by rw [flatSk_len]; omega] at hp
      have hd := Lib.hid hp.done
      clear hp
      go_wp2
      go_ret
      exact ⟨rfl, hb, hd.out⟩

set_option maxRecDepth 100000 in
theorem eqStrikeS_any (f g : List Sk) (A B : Option Addr) (c d : Nat) (w : World) (hf : SksIn w A f) (hg : SksIn w B g) (hn : f.length ≤ maxLen) (hm : g.length ≤ maxLen) :
    Calls Try.prog 31 #[.slice A f.length c, .slice B g.length d] w fun e w' => e = .returned (.bool (decide (f = g))) ∧ Below w.heap.size w w' := by
  unfold maxLen at hn hm
  have HF := Lib.hid hf; clear hf
  have HG := Lib.hid hg; clear hg
  by_cases h : f.length = g.length
  · have HL := Lib.hid h
    have h' : ((f.length : Int) != (g.length : Int)) = false := by simp [h]
    clear h
    go_enter Try.func31, Try.ntmps31
    go_wp2
    go_loopw [5] (fun i wr => ∃ (k : Nat), k ≤ f.length ∧ i = .int .i64 k ∧ f.take k = g.take k ∧ Below w.heap.size w wr) (fun i _ => f.length - (intOf i).toNat)
    case atStart => exact ⟨0, Nat.zero_le _, rfl, rfl, Below.refl _ _⟩
    case round =>
      obtain ⟨k, hk, rfl, hs, hb⟩ := hrel
      have HS := Lib.hid hs; clear hs
      by_cases hlt : k < f.length
      · have hkg : k < g.length := by have := HL.out; omega
        obtain ⟨b, off, rfl, hbl, hc⟩ := HF.out (by omega)
        obtain ⟨hc0, hc1, hc2, hc3, hc4⟩ := hc k hlt
        clear hc
        rw [← hb.cell (p := ⟨b, off + k * 5, none⟩) hbl] at hc0
        rw [← hb.cell (p := ⟨b, off + k * 5 + 1, none⟩) hbl] at hc1
        rw [← hb.cell (p := ⟨b, off + k * 5 + 2, none⟩) hbl] at hc2
        rw [← hb.cell (p := ⟨b, off + k * 5 + 3, none⟩) hbl] at hc3
        rw [← hb.cell (p := ⟨b, off + k * 5 + 4, none⟩) hbl] at hc4
        obtain ⟨b', off', rfl, hbl', hd⟩ := HG.out (by omega)
        obtain ⟨hd0, hd1, hd2, hd3, hd4⟩ := hd k hkg
        clear hd
        rw [← hb.cell (p := ⟨b', off' + k * 5, none⟩) hbl'] at hd0
        rw [← hb.cell (p := ⟨b', off' + k * 5 + 1, none⟩) hbl'] at hd1
        rw [← hb.cell (p := ⟨b', off' + k * 5 + 2, none⟩) hbl'] at hd2
        rw [← hb.cell (p := ⟨b', off' + k * 5 + 3, none⟩) hbl'] at hd3
        rw [← hb.cell (p := ⟨b', off' + k * 5 + 4, none⟩) hbl'] at hd4
        go_wp2_with fail
        go_still_tail 8, (by kernel_rfl)
        change wpList _ _ _ _ _ wr.drew
        go_wp2_with fail
        refine (eqStrike_any f[k] g[k] _).mono ?_
        rintro e w1 ⟨rfl, hb1⟩
        have hb' : Below w.heap.size w w1 := (hb.drew).trans (hb1.mono hb.size)
        clear hb hb1 hc0 hc1 hc2 hc3 hc4 hd0 hd1 hd2 hd3 hd4
        by_cases hl : f[k] = g[k]
        · rw [show decide (f[k] = g[k]) = true from decide_eq_true hl]
          have HE := Lib.hid hl; clear hl
          go_wp2
          go_roundw
          case rel => exact ⟨k + 1, by omega, by go_num, by rw [List.take_succ_eq_append_getElem hlt, List.take_succ_eq_append_getElem hkg, HS.out, HE.out], hb'⟩
          case measure => simp [intOf]; omega
        · rw [show decide (f[k] = g[k]) = false from decide_eq_false hl]
          have HE := Lib.hid hl; clear hl
          go_wp2
          go_ret
          exact ⟨ret_bool (by
            symm; apply decide_eq_false; intro he; apply HE.out; subst he; rfl), hb'⟩
      · obtain rfl : k = f.length := by omega
        go_wp2
        go_ret
        exact ⟨ret_bool (by
          symm; apply decide_eq_true
          have e := HS.out
          rw [List.take_length, HL.out, List.take_length] at e
          exact e), hb⟩
  · have H := Lib.hid h
    have h' : ((f.length : Int) != (g.length : Int)) = true := by simp; omega
    clear h
    go_enter Try.func31, Try.ntmps31
    go_wp2
    go_ret
    exact ⟨ret_bool (by symm; apply decide_eq_false; intro he; apply H.out; rw [he]), Below.refl _ _⟩

end Go.Proofs.Ytbbaphhkdhdelaa

/-
  The struct type Entry: its words, and the contracts of the laws' own helpers on it (to, sz, eq, mark): each answers what the plain words here say. (The text is made by a program of mine.)
-/
import Derived.Test.YtfginbjilpaghaaInts
namespace Go.Proofs.Ytfginbjilpaghaa
open Go.RowKit
set_option linter.unusedVariables false

structure En where
  col : Int
  spa : Int
  wid : Int
deriving DecidableEq, Inhabited

def En.zs (s : En) : List Int := [s.col, s.spa, s.wid]
def flatEn (f : List En) : List Value := f.flatMap fun s => intsZ s.zs
theorem flatEn_len (f : List En) : (flatEn f).length = 3 * f.length := by
  induction f with
  | nil => rfl
  | cons x r ih => simp [flatEn, intsZ, En.zs] at ih ⊢; omega
theorem flatEn_snoc (f : List En) (s : En) : flatEn (f ++ [s]) = flatEn f ++ [.int .i64 s.col, .int .i64 s.spa, .int .i64 s.wid] := by simp [flatEn, intsZ, En.zs]
theorem flatEn_get : ∀ (f : List En) (k : Nat) (h : k < f.length), (flatEn f)[k * 3]? = some (.int .i64 f[k].col) ∧ (flatEn f)[k * 3 + 1]? = some (.int .i64 f[k].spa) ∧ (flatEn f)[k * 3 + 2]? = some (.int .i64 f[k].wid)
  | x :: r, 0, _ => ⟨rfl, rfl, rfl⟩
  | x :: r, k + 1, h => by
    have ih := flatEn_get r k (by simpa using h)
    have e : flatEn (x :: r) = .int .i64 x.col :: .int .i64 x.spa :: .int .i64 x.wid :: flatEn r := rfl
    rw [e, show (k + 1) * 3 = k * 3 + 1 + 1 + 1 from by omega]
    simpa using ih
/-- A slice of them at A reads as f. -/
def EnsIn (w : World) (A : Option Addr) (f : List En) : Prop :=
  0 < f.length → ∃ b off, A = some ⟨b, off, none⟩ ∧ b < w.heap.size ∧ ∀ k (h : k < f.length), w.cell? ⟨b, off + k * 3, none⟩ = some (.int .i64 f[k].col) ∧ w.cell? ⟨b, off + k * 3 + 1, none⟩ = some (.int .i64 f[k].spa) ∧ w.cell? ⟨b, off + k * 3 + 2, none⟩ = some (.int .i64 f[k].wid)
theorem EnsIn.below {w w' : World} {B : Nat} {A : Option Addr} {f : List En} (h : EnsIn w A f) (hb : Below B w w') (hB : w.heap.size ≤ B) : EnsIn w' A f := by
  intro hn
  obtain ⟨b, off, rfl, h2, h3⟩ := h hn
  refine ⟨b, off, rfl, Nat.lt_of_lt_of_le h2 hb.size, fun k hk => ?_⟩
  rw [hb.cell (by show b < B; omega), hb.cell (by show b < B; omega), hb.cell (by show b < B; omega)]
  exact h3 k hk
theorem Own.ens {w : World} {b : Nat} {t : TypeId} {f : List En} (h : Own w b t (flatEn f)) : EnsIn w (some ⟨b, 0, none⟩) f := fun _ =>
  ⟨b, 0, rfl, h.lt, fun k hk => by
    have hg := flatEn_get f k hk
    simp only [Nat.zero_add, h.cell]
    exact hg⟩
/-- Block b is a box that holds s. -/
def EnAt (w : World) (b : Nat) (t : TypeId) (s : En) : Prop := w.heap[b]? = some (.cells #[.int .i64 s.col, .int .i64 s.spa, .int .i64 s.wid] t (0, 0))
theorem EnAt.lt {w : World} {b : Nat} {t : TypeId} {s : En} (h : EnAt w b t s) : b < w.heap.size := lt_of_heap h
theorem EnAt.below {w w' : World} {b B : Nat} {t : TypeId} {s : En} (h : EnAt w b t s) (hb : Below B w w') (hB : b < B) : EnAt w' b t s := (hb.block b hB).trans h
theorem EnAt.next {w w' : World} {b : Nat} {t : TypeId} {s : En} (h : EnAt w b t s) (hb : Below w.heap.size w w') : EnAt w' b t s := h.below hb h.lt
theorem EnAt.cells {w : World} {b : Nat} {t : TypeId} {s : En} (h : EnAt w b t s) : w.cell? ⟨b, 0, none⟩ = some (.int .i64 s.col) ∧ w.cell? ⟨b, 1, none⟩ = some (.int .i64 s.spa) ∧ w.cell? ⟨b, 2, none⟩ = some (.int .i64 s.wid) := by
  refine ⟨?_, ?_, ?_⟩ <;> (rw [cell_of_heap h]; rfl)
theorem EnAt.free {w : World} {b : Nat} {t : TypeId} {s : En} (h : EnAt w b t s) (i : Nat) : w.frozen? ⟨b, i, none⟩ = false := free_of_heap h i
theorem EnAt.new (w : World) (t : TypeId) (s : En) : EnAt (w.alloc (.cells #[.int .i64 s.col, .int .i64 s.spa, .int .i64 s.wid] t)) w.heap.size t s := heap_new _ _
theorem EnAt.alloc {w : World} {b : Nat} {t : TypeId} {s : En} (h : EnAt w b t s) (o : Obj) : EnAt (w.alloc o) b t s := h.next ((Below.refl _ _).alloc (Nat.le_refl _) _)
theorem EnAt.kept {w : World} {b B : Nat} {t : TypeId} {s : En} (h : EnAt w b t s) (hB : b < B) : (∀ x : KeptW B w, x.at_.cell? ⟨b, 0, none⟩ = some (.int .i64 s.col)) ∧ (∀ x : KeptW B w, x.at_.cell? ⟨b, 1, none⟩ = some (.int .i64 s.spa)) ∧ (∀ x : KeptW B w, x.at_.cell? ⟨b, 2, none⟩ = some (.int .i64 s.wid)) :=
  ⟨KeptW.cell h.cells.1 hB, KeptW.cell h.cells.2.1 hB, KeptW.cell h.cells.2.2 hB⟩
theorem toEntry_any (s : En) (w : World) :
    Calls Try.prog 38 #[.agg #[.int .i64 s.col, .int .i64 s.spa, .int .i64 s.wid]] w fun e w' => e = .returned (.agg #[.int .i64 s.col, .int .i64 s.spa, .int .i64 s.wid]) ∧ Below w.heap.size w w' := by
  go_enter Try.func38, Try.ntmps38
  go_wp2
  refine bodyPost_ret (v := .agg #[.int .i64 s.col, .int .i64 s.spa, .int .i64 s.wid]) (by simp [results, Try.results38, go_sem]) rfl ⟨rfl, ?_⟩
  exact (((Below.refl _ _).alloc (Nat.le_refl _) _).alloc (by simp) _).alloc (by simp; omega) _

theorem eqEntry_any (s t : En) (w : World) :
    Calls Try.prog 47 #[.agg #[.int .i64 s.col, .int .i64 s.spa, .int .i64 s.wid], .agg #[.int .i64 t.col, .int .i64 t.spa, .int .i64 t.wid]] w fun e w' => e = .returned (.bool (decide (s = t))) ∧ Below w.heap.size w w' := by
  obtain ⟨a0, a1, a2⟩ := s; obtain ⟨b0, b1, b2⟩ := t
  show Calls Try.prog 47 #[.agg #[.int .i64 a0, .int .i64 a1, .int .i64 a2], .agg #[.int .i64 b0, .int .i64 b1, .int .i64 b2]] w _
  have hb : Below w.heap.size w ((w.alloc (.cells #[.int .i64 a0, .int .i64 a1, .int .i64 a2] 45)).alloc (.cells #[.int .i64 b0, .int .i64 b1, .int .i64 b2] 45)) := ((Below.refl _ _).alloc (Nat.le_refl _) _).alloc (by simp) _
  by_cases h0 : a0 = b0
  · subst h0
    by_cases h1 : a1 = b1
    · subst h1
      by_cases h2 : a2 = b2
      · subst h2
        go_enter Try.func47, Try.ntmps47
        go_wp2
        go_ret
        exact ⟨by simp, hb⟩
      · have g2 : (a2 != b2) = true := by simp [h2]
        have H2 := Lib.hid h2; clear h2
        go_enter Try.func47, Try.ntmps47
        go_wp2
        go_ret
        exact ⟨by simp [H2.out], hb⟩
    · have g1 : (a1 != b1) = true := by simp [h1]
      have H2 := Lib.hid h1; clear h1
      go_enter Try.func47, Try.ntmps47
      go_wp2
      go_ret
      exact ⟨by simp [H2.out], hb⟩
  · have g0 : (a0 != b0) = true := by simp [h0]
    have H2 := Lib.hid h0; clear h0
    go_enter Try.func47, Try.ntmps47
    go_wp2
    go_ret
    exact ⟨by simp [H2.out], hb⟩

theorem szEntryS_any (f : List En) (A : Option Addr) (c : Nat) (l : Int) (w : World) (hn : f.length ≤ maxLen) (h1 : 0 ≤ l) (h2 : l ≤ 1048576) :
    Calls Try.prog 14 #[.slice A f.length c, .int .i64 l] w fun e w' => e = .returned (.int .i64 (if l < f.length then -1 else l - f.length)) ∧ w = w' := by
  unfold maxLen at hn
  by_cases h : l < f.length
  · have h' : l - (f.length : Int) < 0 := by omega
    go_enter Try.func14, Try.ntmps14
    go_wp2
    go_ret
    exact ⟨rfl, rfl⟩
  · have h' : ¬ l - (f.length : Int) < 0 := by omega
    go_enter Try.func14, Try.ntmps14
    go_wp2
    go_ret
    exact ⟨rfl, rfl⟩

theorem infoEn : (Try.prog.info? 45).map (fun i => (i.zero, i.size, i.bytes)) = some (some (.agg #[.int .i64 0, .int .i64 0, .int .i64 0]), 3, 24) := by kernel_rfl
theorem run_makeEn (n : Nat) (hn : n ≤ 1048576) (w : World) :
    (Instr.makeSlice 25 (.int .i64 (n : Int)) (.int .i64 (n : Int))).run Try.prog w = .ok (.slice (some ⟨w.heap.size, 0, none⟩) n n) (w.alloc (.cells (madeCells #[.int .i64 0, .int .i64 0, .int .i64 0] (n * 3)) 45)) := by
  obtain ⟨i0, hi, hz0, hz1, hz2⟩ := info_parts infoEn
  have h := run_make (P := Try.prog) w 25 45 i0 _ Try.underlying25 hi hz0 .i64 .i64 (n : Int) (n : Int) (by omega) (Int.le_refl _) (by rw [hz2]; omega) (by omega)
  rw [hz1, Int.toNat_natCast] at h
  exact h

set_option maxRecDepth 100000 in
theorem toEntryS_any (f : List En) (A : Option Addr) (c : Nat) (w : World) (hf : EnsIn w A f) (hn : f.length ≤ 1048576) :
    Calls Try.prog 16 #[.slice A f.length c] w fun e w' => e = .returned (.slice (some ⟨w.heap.size, 0, none⟩) f.length f.length) ∧ Below w.heap.size w w' ∧ Own w' w.heap.size 45 (flatEn f) := by
  have HF := Lib.hid hf; clear hf
  have hmk := run_makeEn f.length hn
  have hst : Marked (w.alloc (.cells (madeCells #[.int .i64 0, .int .i64 0, .int .i64 0] (f.length * 3)) 45)) w.heap.size 45 (f.length * 3) (flatEn (f.take 0)) := ⟨_, heap_new _ _, size_madeCells _ _, by simp [flatEn]⟩
  generalize hz : madeCells #[.int .i64 0, .int .i64 0, .int .i64 0] (f.length * 3) = cs0 at *
  go_enter Try.func16, Try.ntmps16
  have HST := Lib.hid hst; clear hst hz
  go_wp2
  go_loopw [4] (fun i wr => ∃ (k : Nat), k ≤ f.length ∧ i = .int .i64 k ∧ Marked wr w.heap.size 45 (f.length * 3) (flatEn (f.take k)) ∧ Below w.heap.size w wr) (fun i _ => f.length - (intOf i).toNat)
  case atStart => exact ⟨0, Nat.zero_le _, rfl, HST.out, (Below.refl _ _).alloc (Nat.le_refl _) _⟩
  case round =>
    obtain ⟨k, hk, rfl, hp, hb⟩ := hrel
    clear hmk
    by_cases hlt : k < f.length
    · obtain ⟨b, off, rfl, hbl, hc⟩ := HF.out (by omega)
      obtain ⟨hc0, hc1, hc2⟩ := hc k hlt
      clear hc
      rw [← hb.cell (p := ⟨b, off + k * 3, none⟩) hbl] at hc0
      rw [← hb.cell (p := ⟨b, off + k * 3 + 1, none⟩) hbl] at hc1
      rw [← hb.cell (p := ⟨b, off + k * 3 + 2, none⟩) hbl] at hc2
      go_wp2_with fail
      refine (toEntry_any f[k] _).mono ?_
      rintro e w1 ⟨rfl, hb1⟩
      have hp1 := hp.below (hb1.mono (Nat.le_refl _))
      have hb' : Below w.heap.size w w1 := hb.trans (hb1.mono hb.size)
      have hl : (flatEn (f.take k)).length = k * 3 := by rw [flatEn_len, List.length_take]; omega
      obtain ⟨⟨u0, hu0⟩, hz0⟩ := hp1.at_ (j := k * 3) (by omega)
      obtain ⟨⟨u1, hu1⟩, hz1⟩ := hp1.at_ (j := k * 3 + 1) (by omega)
      obtain ⟨⟨u2, hu2⟩, hz2⟩ := hp1.at_ (j := k * 3 + 2) (by omega)
      have m0 : Marked (w1.setCell ⟨w.heap.size, k * 3, none⟩ (.int .i64 f[k].col)) w.heap.size 45 (f.length * 3) ((flatEn (f.take k)) ++ [.int .i64 f[k].col]) := hp1.stepAt (k * 3) (by simp only [List.length_append, List.length_cons, List.length_nil, hl]) (by omega) _
      have m1 : Marked ((w1.setCell ⟨w.heap.size, k * 3, none⟩ (.int .i64 f[k].col)).setCell ⟨w.heap.size, k * 3 + 1, none⟩ (.int .i64 f[k].spa)) w.heap.size 45 (f.length * 3) ((flatEn (f.take k) ++ [.int .i64 f[k].col]) ++ [.int .i64 f[k].spa]) := m0.stepAt (k * 3 + 1) (by simp only [List.length_append, List.length_cons, List.length_nil, hl]) (by omega) _
      have m2 : Marked (((w1.setCell ⟨w.heap.size, k * 3, none⟩ (.int .i64 f[k].col)).setCell ⟨w.heap.size, k * 3 + 1, none⟩ (.int .i64 f[k].spa)).setCell ⟨w.heap.size, k * 3 + 2, none⟩ (.int .i64 f[k].wid)) w.heap.size 45 (f.length * 3) ((flatEn (f.take k) ++ [.int .i64 f[k].col] ++ [.int .i64 f[k].spa]) ++ [.int .i64 f[k].wid]) := m1.stepAt (k * 3 + 2) (by simp only [List.length_append, List.length_cons, List.length_nil, hl]) (by omega) _
      have HP : Hid (Marked (((w1.setCell ⟨w.heap.size, k * 3, none⟩ (.int .i64 f[k].col)).setCell ⟨w.heap.size, k * 3 + 1, none⟩ (.int .i64 f[k].spa)).setCell ⟨w.heap.size, k * 3 + 2, none⟩ (.int .i64 f[k].wid)) w.heap.size 45 (f.length * 3) (flatEn (f.take (k + 1)))) := by
        show Marked _ _ _ _ _
        rw [List.take_succ_eq_append_getElem hlt, flatEn_snoc]
        simpa only [List.append_assoc, List.cons_append, List.nil_append] using m2
      have HB := Lib.hid (((hb'.setCell (p := ⟨w.heap.size, k * 3, none⟩) (Nat.le_refl _) (.int .i64 f[k].col)).setCell (p := ⟨w.heap.size, k * 3 + 1, none⟩) (Nat.le_refl _) (.int .i64 f[k].spa)).setCell (p := ⟨w.heap.size, k * 3 + 2, none⟩) (Nat.le_refl _) (.int .i64 f[k].wid))
      clear hb hb1 hc0 hc1 hc2 hp hp1 hb' hl m0 m1 m2
      go_wp2
      go_roundw
      case rel => exact ⟨k + 1, by omega, by go_num, HP.out, HB.out⟩
      case measure => simp [intOf]; omega
    · obtain rfl : k = f.length := by omega
      rw [List.take_length, show f.length * 3 = (flatEn f).length from by rw [flatEn_len]; omega] at hp
      have hd := Lib.hid hp.done
      clear hp
      go_wp2
      go_ret
      exact ⟨rfl, hb, hd.out⟩

set_option maxRecDepth 100000 in
theorem eqEntryS_any (f g : List En) (A B : Option Addr) (c d : Nat) (w : World) (hf : EnsIn w A f) (hg : EnsIn w B g) (hn : f.length ≤ maxLen) (hm : g.length ≤ maxLen) :
    Calls Try.prog 18 #[.slice A f.length c, .slice B g.length d] w fun e w' => e = .returned (.bool (decide (f = g))) ∧ Below w.heap.size w w' := by
  unfold maxLen at hn hm
  have HF := Lib.hid hf; clear hf
  have HG := Lib.hid hg; clear hg
  by_cases h : f.length = g.length
  · have HL := Lib.hid h
    have h' : ((f.length : Int) != (g.length : Int)) = false := by simp [h]
    clear h
    go_enter Try.func18, Try.ntmps18
    go_wp2
    go_loopw [5] (fun i wr => ∃ (k : Nat), k ≤ f.length ∧ i = .int .i64 k ∧ f.take k = g.take k ∧ Below w.heap.size w wr) (fun i _ => f.length - (intOf i).toNat)
    case atStart => exact ⟨0, Nat.zero_le _, rfl, rfl, Below.refl _ _⟩
    case round =>
      obtain ⟨k, hk, rfl, hs, hb⟩ := hrel
      have HS := Lib.hid hs; clear hs
      by_cases hlt : k < f.length
      · have hkg : k < g.length := by have := HL.out; omega
        obtain ⟨b, off, rfl, hbl, hc⟩ := HF.out (by omega)
        obtain ⟨hc0, hc1, hc2⟩ := hc k hlt
        clear hc
        rw [← hb.cell (p := ⟨b, off + k * 3, none⟩) hbl] at hc0
        rw [← hb.cell (p := ⟨b, off + k * 3 + 1, none⟩) hbl] at hc1
        rw [← hb.cell (p := ⟨b, off + k * 3 + 2, none⟩) hbl] at hc2
        obtain ⟨b', off', rfl, hbl', hd⟩ := HG.out (by omega)
        obtain ⟨hd0, hd1, hd2⟩ := hd k hkg
        clear hd
        rw [← hb.cell (p := ⟨b', off' + k * 3, none⟩) hbl'] at hd0
        rw [← hb.cell (p := ⟨b', off' + k * 3 + 1, none⟩) hbl'] at hd1
        rw [← hb.cell (p := ⟨b', off' + k * 3 + 2, none⟩) hbl'] at hd2
        go_wp2_with fail
        go_still_tail 8, (by kernel_rfl)
        change wpList _ _ _ _ _ wr.drew
        go_wp2_with fail
        refine (eqEntry_any f[k] g[k] _).mono ?_
        rintro e w1 ⟨rfl, hb1⟩
        have hb' : Below w.heap.size w w1 := (hb.drew).trans (hb1.mono hb.size)
        clear hb hb1 hc0 hc1 hc2 hd0 hd1 hd2
        by_cases hl : f[k] = g[k]
        · rw [show decide (f[k] = g[k]) = true from decide_eq_true hl]
          have HE := Lib.hid hl; clear hl
          go_wp2
          go_roundw
          case rel => exact ⟨k + 1, by omega, by go_num, by rw [List.take_succ_eq_append_getElem hlt, List.take_succ_eq_append_getElem hkg, HS.out, HE.out], hb'⟩
          case measure => simp [intOf]; omega
        · rw [show decide (f[k] = g[k]) = false from decide_eq_false hl]
          have HE := Lib.hid hl; clear hl
          go_wp2
          go_ret
          exact ⟨ret_bool (by
            symm; apply decide_eq_false; intro he; apply HE.out; subst he; rfl), hb'⟩
      · obtain rfl : k = f.length := by omega
        go_wp2
        go_ret
        exact ⟨ret_bool (by
          symm; apply decide_eq_true
          have e := HS.out
          rw [List.take_length, HL.out, List.take_length] at e
          exact e), hb⟩
  · have H := Lib.hid h
    have h' : ((f.length : Int) != (g.length : Int)) = true := by simp; omega
    clear h
    go_enter Try.func18, Try.ntmps18
    go_wp2
    go_ret
    exact ⟨ret_bool (by symm; apply decide_eq_false; intro he; apply H.out; rw [he]), Below.refl _ _⟩

end Go.Proofs.Ytfginbjilpaghaa

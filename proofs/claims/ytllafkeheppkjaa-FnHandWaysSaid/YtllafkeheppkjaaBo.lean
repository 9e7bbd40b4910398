/-
  The struct type Box: its words, and the contracts of the laws' own helpers on it (to, sz, eq, mark, held): each answers what the plain words here say. (The text is made by a program of mine.)
-/
import Derived.Test.YtllafkeheppkjaaHeld
import Derived.Test.YtllafkeheppkjaaWds
import Derived.Test.YtllafkeheppkjaaTos
namespace Go.Proofs.Ytllafkeheppkjaa
open Go.RowKit
set_option linter.unusedVariables false

structure Bx where
  cod : ByteArray
  row : Int
  col : Int
  cnt : Int
deriving DecidableEq, Inhabited

def Bx.vals (s : Bx) : List Value := [.string s.cod, .int .i64 s.row, .int .i64 s.col, .int .i64 s.cnt]
def flatBx (f : List Bx) : List Value := f.flatMap fun s => s.vals
theorem flatBx_len (f : List Bx) : (flatBx f).length = 4 * f.length := by
  induction f with
  | nil => rfl
  | cons x r ih => simp [flatBx, Bx.vals] at ih ⊢; omega
theorem flatBx_snoc (f : List Bx) (s : Bx) : flatBx (f ++ [s]) = flatBx f ++ [.string s.cod, .int .i64 s.row, .int .i64 s.col, .int .i64 s.cnt] := by simp [flatBx, Bx.vals]
theorem flatBx_get : ∀ (f : List Bx) (k : Nat) (h : k < f.length), (flatBx f)[k * 4]? = some (.string f[k].cod) ∧ (flatBx f)[k * 4 + 1]? = some (.int .i64 f[k].row) ∧ (flatBx f)[k * 4 + 2]? = some (.int .i64 f[k].col) ∧ (flatBx f)[k * 4 + 3]? = some (.int .i64 f[k].cnt)
  | x :: r, 0, _ => ⟨rfl, rfl, rfl, rfl⟩
  | x :: r, k + 1, h => by
    have ih := flatBx_get r k (by simpa using h)
    have e : flatBx (x :: r) = .string x.cod :: .int .i64 x.row :: .int .i64 x.col :: .int .i64 x.cnt :: flatBx r := rfl
    rw [e, show (k + 1) * 4 = k * 4 + 1 + 1 + 1 + 1 from by omega]
    simpa using ih
/-- A slice of them at A reads as f. -/
def BxsIn (w : World) (A : Option Addr) (f : List Bx) : Prop :=
  0 < f.length → ∃ b off, A = some ⟨b, off, none⟩ ∧ b < w.heap.size ∧ ∀ k (h : k < f.length), w.cell? ⟨b, off + k * 4, none⟩ = some (.string f[k].cod) ∧ w.cell? ⟨b, off + k * 4 + 1, none⟩ = some (.int .i64 f[k].row) ∧ w.cell? ⟨b, off + k * 4 + 2, none⟩ = some (.int .i64 f[k].col) ∧ w.cell? ⟨b, off + k * 4 + 3, none⟩ = some (.int .i64 f[k].cnt)
theorem BxsIn.below {w w' : World} {B : Nat} {A : Option Addr} {f : List Bx} (h : BxsIn w A f) (hb : Below B w w') (hB : w.heap.size ≤ B) : BxsIn w' A f := by
  intro hn
  obtain ⟨b, off, rfl, h2, h3⟩ := h hn
  refine ⟨b, off, rfl, Nat.lt_of_lt_of_le h2 hb.size, fun k hk => ?_⟩
  rw [hb.cell (by show b < B; omega), hb.cell (by show b < B; omega), hb.cell (by show b < B; omega), hb.cell (by show b < B; omega)]
  exact h3 k hk
theorem BxsIn.next {w w' : World} {A : Option Addr} {f : List Bx} (h : BxsIn w A f) (hb : Below w.heap.size w w') : BxsIn w' A f := h.below hb (Nat.le_refl _)
/-- Each text is no longer than a text can be. -/
def BxOk (s : Bx) : Prop := s.cod.size ≤ maxLen
def BxsOk (f : List Bx) : Prop := ∀ k (h : k < f.length), BxOk f[k]
theorem own_bx {w : World} {base n : Nat} {e : TypeId} {v : Value} {l : List Bx} (h : w.ownsRow base e 4 v n (flatBx l)) : ∃ A c, v = .slice A l.length c ∧ n = l.length ∧ BxsIn w A l := by
  have hn : n = l.length := by have := h.1; rw [flatBx_len] at this; omega
  subst hn
  rcases h.2 with ⟨rfl, h0⟩ | ⟨g, cap, cur, rfl, hg, hh, h1, h2, h3, h4⟩
  · exact ⟨none, 0, by rw [h0], rfl, fun h => absurd h (by omega)⟩
  · refine ⟨_, _, rfl, rfl, fun _ => ⟨g, 0, rfl, lt_of_heap hh, fun k hk => ?_⟩⟩
    have hgt := flatBx_get l k hk
    rw [Nat.zero_add, h.cellAt (k * 4) (by omega), h.cellAt (k * 4 + 1) (by omega), h.cellAt (k * 4 + 2) (by omega), h.cellAt (k * 4 + 3) (by omega)]
    exact hgt
theorem own_form_bx {w : World} {base n : Nat} {e : TypeId} {v : Value} {l : List Bx} (h : w.ownsRow base e 4 v n (flatBx l)) : ∃ A c, v = .slice A l.length c := by
  obtain ⟨A, c, hv, _, _⟩ := own_bx h
  exact ⟨A, c, hv⟩
theorem own_in_bx {w : World} {base n m c : Nat} {e : TypeId} {A : Option Addr} {l : List Bx} (h : w.ownsRow base e 4 (.slice A m c) n (flatBx l)) : BxsIn w A l := by
  obtain ⟨A', c', hv, _, hi⟩ := own_bx h
  injection hv with h1
  subst h1
  exact hi
theorem Marked.own_bx {w : World} {b m base : Nat} {e : TypeId} {l : List Bx} (h : Marked w b e m (flatBx l)) (hm : m = l.length * 4) (hb : base ≤ b) (hn : l.length ≤ maxLen) : w.ownsRow base e 4 (.slice (some ⟨b, 0, none⟩) l.length l.length) l.length (flatBx l) := by
  obtain ⟨cur, h1, h2, h3⟩ := h
  exact ⟨by rw [flatBx_len]; omega, .inr ⟨b, l.length, cur, rfl, hb, h1, Nat.le_refl _, hn, by rw [h2, hm], by rw [show l.length * 4 = (flatBx l).length from by rw [flatBx_len]; omega]; exact h3⟩⟩
theorem Marked.stepAt {w : World} {g cap : Nat} {e : TypeId} {l : List Value} (h : Marked w g e cap l) (j : Nat) (hl : l.length = j) (hj : j < cap) (u : Value) : Marked (w.setCell ⟨g, j, none⟩ u) g e cap (l ++ [u]) := by
  subst hl
  exact h.step hj u

theorem toBox_any (s : Bx) (w : World) :
    Calls Try.prog 17 #[.agg #[.string s.cod, .int .i64 s.row, .int .i64 s.col, .int .i64 s.cnt]] w fun e w' => e = .returned (.agg #[.string s.cod, .int .i64 s.row, .int .i64 s.col, .int .i64 s.cnt]) ∧ Below w.heap.size w w' := by
  go_enter Try.func17, Try.ntmps17
  go_wp2
  refine bodyPost_ret (v := .agg #[.string s.cod, .int .i64 s.row, .int .i64 s.col, .int .i64 s.cnt]) (by simp [results, Try.results17, go_sem]) rfl ⟨rfl, ?_⟩
  exact (((Below.refl _ _).alloc (Nat.le_refl _) _).alloc (by simp) _).alloc (by simp; omega) _

theorem eqBox_any (s t : Bx) (w : World) :
    Calls Try.prog 59 #[.agg #[.string s.cod, .int .i64 s.row, .int .i64 s.col, .int .i64 s.cnt], .agg #[.string t.cod, .int .i64 t.row, .int .i64 t.col, .int .i64 t.cnt]] w fun e w' => e = .returned (.bool (decide (s = t))) ∧ Below w.heap.size w w' := by
  obtain ⟨a0, a1, a2, a3⟩ := s; obtain ⟨b0, b1, b2, b3⟩ := t
  show Calls Try.prog 59 #[.agg #[.string a0, .int .i64 a1, .int .i64 a2, .int .i64 a3], .agg #[.string b0, .int .i64 b1, .int .i64 b2, .int .i64 b3]] w _
  have hb : Below w.heap.size w ((w.alloc (.cells #[.string a0, .int .i64 a1, .int .i64 a2, .int .i64 a3] 26)).alloc (.cells #[.string b0, .int .i64 b1, .int .i64 b2, .int .i64 b3] 26)) := ((Below.refl _ _).alloc (Nat.le_refl _) _).alloc (by simp) _
  by_cases h0 : a0 = b0
  · subst h0
    by_cases h1 : a1 = b1
    · subst h1
      by_cases h2 : a2 = b2
      · subst h2
        by_cases h3 : a3 = b3
        · subst h3
          go_enter Try.func59, Try.ntmps59
          go_wp2
          go_ret
          exact ⟨by simp, hb⟩
        · have g3 : (a3 != b3) = true := by simp [h3]
          have H2 := Lib.hid h3; clear h3
          go_enter Try.func59, Try.ntmps59
          go_wp2
          go_ret
          exact ⟨by simp [H2.out], hb⟩
      · have g2 : (a2 != b2) = true := by simp [h2]
        have H2 := Lib.hid h2; clear h2
        go_enter Try.func59, Try.ntmps59
        go_wp2
        go_ret
        exact ⟨by simp [H2.out], hb⟩
    · have g1 : (a1 != b1) = true := by simp [h1]
      have H2 := Lib.hid h1; clear h1
      go_enter Try.func59, Try.ntmps59
      go_wp2
      go_ret
      exact ⟨by simp [H2.out], hb⟩
  · have g0 : (!a0.toList == b0.toList) = true := str_ne h0
    have H2 := Lib.hid h0; clear h0
    go_enter Try.func59, Try.ntmps59
    go_wp2
    go_ret
    exact ⟨by simp [H2.out], hb⟩

theorem szBox_any (s : Bx) (l : Int) (w : World) (hs : s.cod.size ≤ maxLen) (h1 : 0 ≤ l) (h2 : l ≤ 1048576) :
    Calls Try.prog 15 #[.agg #[.string s.cod, .int .i64 s.row, .int .i64 s.col, .int .i64 s.cnt], .int .i64 l] w fun e w' => e = .returned (.int .i64 (if l < s.cod.size then -1 else l - s.cod.size)) ∧ Below w.heap.size w w' := by
  unfold maxLen at hs
  by_cases h : l < s.cod.size
  · go_enter Try.func15, Try.ntmps15
    have h' : l - (s.cod.size : Int) < 0 := by omega
    go_wp2
    go_ret
    exact ⟨by simp [h], (Below.refl _ _).alloc (Nat.le_refl _) _⟩
  · go_enter Try.func15, Try.ntmps15
    have h' : ¬ l - (s.cod.size : Int) < 0 := by omega
    go_wp2
    go_ret
    exact ⟨by simp [h], (Below.refl _ _).alloc (Nat.le_refl _) _⟩
def szBxF : List Bx → Int → Int
  | [], l => l
  | x :: r, l => if l < x.cod.size then -1 else szBxF r (l - x.cod.size)
def szBxS (f : List Bx) (l : Int) : Int := if l < f.length then -1 else szBxF f (l - f.length)
theorem szBxF_drop (f : List Bx) (k : Nat) (h : k < f.length) (l : Int) : szBxF (f.drop k) l = if l < f[k].cod.size then -1 else szBxF (f.drop (k + 1)) (l - f[k].cod.size) := by
  rw [List.drop_eq_getElem_cons h]; rfl
theorem szBx_len (f : List Bx) (l : Int) (hl : l ≤ 1048576) (h : 0 ≤ szBxS f l) : f.length ≤ 1048576 := by
  unfold szBxS at h
  split at h <;> omega
theorem szBxF_range : ∀ (f : List Bx) (l : Int), 0 ≤ l → szBxF f l ≤ l
  | [], l, _ => Int.le_refl l
  | x :: r, l, h => by
    unfold szBxF
    split
    · omega
    · have := szBxF_range r (l - x.cod.size) (by omega)
      omega
theorem szBx_range (f : List Bx) (l : Int) (h : 0 ≤ l) : szBxS f l ≤ l := by
  unfold szBxS
  split
  · omega
  · have := szBxF_range f (l - f.length) (by omega)
    omega

theorem szBoxS_any (f : List Bx) (A : Option Addr) (c : Nat) (l : Int) (w : World) (hf : BxsIn w A f) (ho : BxsOk f) (hn : f.length ≤ maxLen) (h1 : 0 ≤ l) (h2 : l ≤ 1048576) :
    Calls Try.prog 19 #[.slice A f.length c, .int .i64 l] w fun e w' => e = .returned (.int .i64 (szBxS f l)) ∧ Below w.heap.size w w' := by
  unfold maxLen at hn
  have HO := Lib.hid ho; clear ho
  have HF := Lib.hid hf; clear hf
  by_cases h : l < f.length
  · go_enter Try.func19, Try.ntmps19
    have h' : l - (f.length : Int) < 0 := by omega
    go_wp2
    go_ret
    exact ⟨ret_int (by unfold szBxS; rw [if_pos h]), Below.refl _ _⟩
  · have hd : szBxS f l = szBxF (f.drop 0) (l - f.length) := by unfold szBxS; rw [if_neg h]; rfl
    have HD := Lib.hid hd; clear hd
    go_enter Try.func19, Try.ntmps19
    have h' : ¬ l - (f.length : Int) < 0 := by omega
    go_wp2
    go_loopw [1, 5] (fun t i wr => ∃ (k : Nat) (L : Int), k ≤ f.length ∧ i = .int .i64 k ∧ t = .int .i64 L ∧ 0 ≤ L ∧ L ≤ 1048576 ∧ szBxS f l = szBxF (f.drop k) L ∧ Below w.heap.size w wr) (fun _ i _ => f.length - (intOf i).toNat)
    case atStart => exact ⟨0, _, Nat.zero_le _, rfl, rfl, by omega, by omega, HD.out, Below.refl _ _⟩
    case round =>
      obtain ⟨k, L, hk, rfl, rfl, hL1, hL2, hs, hb⟩ := hrel
      have HS := Lib.hid hs; clear hs
      by_cases hlt : k < f.length
      · obtain ⟨b, off, rfl, hbl, hc⟩ := HF.out (by omega)
        obtain ⟨hc0, hc1, hc2, hc3⟩ := hc k hlt
        clear hc
        rw [← hb.cell (p := ⟨b, off + k * 4, none⟩) hbl] at hc0
        rw [← hb.cell (p := ⟨b, off + k * 4 + 1, none⟩) hbl] at hc1
        rw [← hb.cell (p := ⟨b, off + k * 4 + 2, none⟩) hbl] at hc2
        rw [← hb.cell (p := ⟨b, off + k * 4 + 3, none⟩) hbl] at hc3
        have hsz := szBxF_drop f k hlt L
        have HZ := Lib.hid hsz; clear hsz
        have hok := HO.out k hlt
        go_wp2_with fail
        refine (szBox_any f[k] _ _ hok hL1 hL2).mono ?_
        rintro e w1 ⟨rfl, hb1⟩
        have hb' : Below w.heap.size w w1 := hb.trans (hb1.mono hb.size)
        clear hb hb1 hc0 hc1 hc2 hc3 hok
        by_cases hl : L < (f[k].cod.size : Int)
        · rw [if_pos hl]
          go_wp2
          go_ret
          exact ⟨ret_int (by rw [HS.out, HZ.out, if_pos hl]), hb'⟩
        · rw [if_neg hl]
          have hl' : ¬ L - (f[k].cod.size : Int) < 0 := by omega
          go_wp2
          go_roundw
          case rel => exact ⟨k + 1, _, by omega, by go_num, rfl, by omega, by omega, by rw [HS.out, HZ.out, if_neg (by omega)], hb'⟩
          case measure => simp [intOf]; omega
      · obtain rfl : k = f.length := by omega
        go_wp2
        go_ret
        exact ⟨ret_int (by rw [HS.out, List.drop_length]; rfl), hb⟩

theorem infoBx : (Try.prog.info? 26).map (fun i => (i.zero, i.size, i.bytes)) = some (some (.agg #[.string .empty, .int .i64 0, .int .i64 0, .int .i64 0]), 4, 40) := by kernel_rfl
theorem run_makeBx (n : Nat) (hn : n ≤ 1048576) (w : World) :
    (Instr.makeSlice 32 (.int .i64 (n : Int)) (.int .i64 (n : Int))).run Try.prog w = .ok (.slice (some ⟨w.heap.size, 0, none⟩) n n) (w.alloc (.cells (madeCells #[.string .empty, .int .i64 0, .int .i64 0, .int .i64 0] (n * 4)) 26)) := by
  obtain ⟨i0, hi, hz0, hz1, hz2⟩ := info_parts infoBx
  have h := run_make (P := Try.prog) w 32 26 i0 _ Try.underlying32 hi hz0 .i64 .i64 (n : Int) (n : Int) (by omega) (Int.le_refl _) (by rw [hz2]; omega) (by omega)
  rw [hz1, Int.toNat_natCast] at h
  exact h

set_option maxRecDepth 100000 in
theorem toBoxS_any (f : List Bx) (A : Option Addr) (c : Nat) (w : World) (hf : BxsIn w A f) (hn : f.length ≤ 1048576) :
    Calls Try.prog 21 #[.slice A f.length c] w fun e w' => e = .returned (.slice (some ⟨w.heap.size, 0, none⟩) f.length f.length) ∧ Below w.heap.size w w' ∧ w'.ownsRow 0 26 4 (.slice (some ⟨w.heap.size, 0, none⟩) f.length f.length) f.length (flatBx f) := by
  have HF := Lib.hid hf; clear hf
  have hmk := run_makeBx f.length hn
  have hst : Marked (w.alloc (.cells (madeCells #[.string .empty, .int .i64 0, .int .i64 0, .int .i64 0] (f.length * 4)) 26)) w.heap.size 26 (f.length * 4) (flatBx (f.take 0)) := ⟨_, heap_new _ _, size_madeCells _ _, by simp [flatBx]⟩
  generalize hz : madeCells #[.string .empty, .int .i64 0, .int .i64 0, .int .i64 0] (f.length * 4) = cs0 at *
  go_enter Try.func21, Try.ntmps21
  have HST := Lib.hid hst; clear hst hz
  go_wp2
  go_loopw [4] (fun i wr => ∃ (k : Nat), k ≤ f.length ∧ i = .int .i64 k ∧ Marked wr w.heap.size 26 (f.length * 4) (flatBx (f.take k)) ∧ Below w.heap.size w wr) (fun i _ => f.length - (intOf i).toNat)
  case atStart => exact ⟨0, Nat.zero_le _, rfl, HST.out, (Below.refl _ _).alloc (Nat.le_refl _) _⟩
  case round =>
    obtain ⟨k, hk, rfl, hp, hb⟩ := hrel
    clear hmk
    by_cases hlt : k < f.length
    · obtain ⟨b, off, rfl, hbl, hc⟩ := HF.out (by omega)
      obtain ⟨hc0, hc1, hc2, hc3⟩ := hc k hlt
      clear hc
      rw [← hb.cell (p := ⟨b, off + k * 4, none⟩) hbl] at hc0
      rw [← hb.cell (p := ⟨b, off + k * 4 + 1, none⟩) hbl] at hc1
      rw [← hb.cell (p := ⟨b, off + k * 4 + 2, none⟩) hbl] at hc2
      rw [← hb.cell (p := ⟨b, off + k * 4 + 3, none⟩) hbl] at hc3
      go_wp2_with fail
      refine (toBox_any f[k] _).mono ?_
      rintro e w1 ⟨rfl, hb1⟩
      have hp1 := hp.below (hb1.mono (Nat.le_refl _))
      have hb' : Below w.heap.size w w1 := hb.trans (hb1.mono hb.size)
      have hl : (flatBx (f.take k)).length = k * 4 := by rw [flatBx_len, List.length_take]; omega
      obtain ⟨⟨u0, hu0⟩, hz0⟩ := hp1.at_ (j := k * 4) (by omega)
      obtain ⟨⟨u1, hu1⟩, hz1⟩ := hp1.at_ (j := k * 4 + 1) (by omega)
      obtain ⟨⟨u2, hu2⟩, hz2⟩ := hp1.at_ (j := k * 4 + 2) (by omega)
      obtain ⟨⟨u3, hu3⟩, hz3⟩ := hp1.at_ (j := k * 4 + 3) (by omega)
      have m0 : Marked (w1.setCell ⟨w.heap.size, k * 4, none⟩ (.string f[k].cod)) w.heap.size 26 (f.length * 4) ((flatBx (f.take k)) ++ [.string f[k].cod]) := hp1.stepAt (k * 4) (by simp only [List.length_append, List.length_cons, List.length_nil, hl]) (by omega) _
      have m1 : Marked ((w1.setCell ⟨w.heap.size, k * 4, none⟩ (.string f[k].cod)).setCell ⟨w.heap.size, k * 4 + 1, none⟩ (.int .i64 f[k].row)) w.heap.size 26 (f.length * 4) ((flatBx (f.take k) ++ [.string f[k].cod]) ++ [.int .i64 f[k].row]) := m0.stepAt (k * 4 + 1) (by simp only [List.length_append, List.length_cons, List.length_nil, hl]) (by omega) _
      have m2 : Marked (((w1.setCell ⟨w.heap.size, k * 4, none⟩ (.string f[k].cod)).setCell ⟨w.heap.size, k * 4 + 1, none⟩ (.int .i64 f[k].row)).setCell ⟨w.heap.size, k * 4 + 2, none⟩ (.int .i64 f[k].col)) w.heap.size 26 (f.length * 4) ((flatBx (f.take k) ++ [.string f[k].cod] ++ [.int .i64 f[k].row]) ++ [.int .i64 f[k].col]) := m1.stepAt (k * 4 + 2) (by simp only [List.length_append, List.length_cons, List.length_nil, hl]) (by omega) _
      have m3 : Marked ((((w1.setCell ⟨w.heap.size, k * 4, none⟩ (.string f[k].cod)).setCell ⟨w.heap.size, k * 4 + 1, none⟩ (.int .i64 f[k].row)).setCell ⟨w.heap.size, k * 4 + 2, none⟩ (.int .i64 f[k].col)).setCell ⟨w.heap.size, k * 4 + 3, none⟩ (.int .i64 f[k].cnt)) w.heap.size 26 (f.length * 4) ((flatBx (f.take k) ++ [.string f[k].cod] ++ [.int .i64 f[k].row] ++ [.int .i64 f[k].col]) ++ [.int .i64 f[k].cnt]) := m2.stepAt (k * 4 + 3) (by simp only [List.length_append, List.length_cons, List.length_nil, hl]) (by omega) _
      have HP : Hid (Marked ((((w1.setCell ⟨w.heap.size, k * 4, none⟩ (.string f[k].cod)).setCell ⟨w.heap.size, k * 4 + 1, none⟩ (.int .i64 f[k].row)).setCell ⟨w.heap.size, k * 4 + 2, none⟩ (.int .i64 f[k].col)).setCell ⟨w.heap.size, k * 4 + 3, none⟩ (.int .i64 f[k].cnt)) w.heap.size 26 (f.length * 4) (flatBx (f.take (k + 1)))) := by
        show Marked _ _ _ _ _
        rw [List.take_succ_eq_append_getElem hlt, flatBx_snoc]
        simpa only [List.append_assoc, List.cons_append, List.nil_append] using m3
      have HB := Lib.hid ((((hb'.setCell (p := ⟨w.heap.size, k * 4, none⟩) (Nat.le_refl _) (.string f[k].cod)).setCell (p := ⟨w.heap.size, k * 4 + 1, none⟩) (Nat.le_refl _) (.int .i64 f[k].row)).setCell (p := ⟨w.heap.size, k * 4 + 2, none⟩) (Nat.le_refl _) (.int .i64 f[k].col)).setCell (p := ⟨w.heap.size, k * 4 + 3, none⟩) (Nat.le_refl _) (.int .i64 f[k].cnt))
      clear hb hb1 hc0 hc1 hc2 hc3 hp hp1 hb' hl m0 m1 m2 m3
      go_wp2
      go_roundw
      case rel => exact ⟨k + 1, by omega, by go_num, HP.out, HB.out⟩
      case measure => simp [intOf]; omega
    · obtain rfl : k = f.length := by omega
      rw [List.take_length] at hp
      have hd := Lib.hid (hp.own_bx (base := 0) rfl (Nat.zero_le _) (by unfold maxLen; omega))
      clear hp
      go_wp2
      go_ret
      exact ⟨rfl, hb, hd.out⟩

set_option maxRecDepth 100000 in
theorem eqBoxS_any (f g : List Bx) (A B : Option Addr) (c d : Nat) (w : World) (hf : BxsIn w A f) (hg : BxsIn w B g) (hn : f.length ≤ maxLen) (hm : g.length ≤ maxLen) :
    Calls Try.prog 23 #[.slice A f.length c, .slice B g.length d] w fun e w' => e = .returned (.bool (decide (f = g))) ∧ Below w.heap.size w w' := by
  unfold maxLen at hn hm
  have HF := Lib.hid hf; clear hf
  have HG := Lib.hid hg; clear hg
  by_cases h : f.length = g.length
  · have HL := Lib.hid h
    have h' : ((f.length : Int) != (g.length : Int)) = false := by simp [h]
    clear h
    go_enter Try.func23, Try.ntmps23
    go_wp2
    go_loopw [5] (fun i wr => ∃ (k : Nat), k ≤ f.length ∧ i = .int .i64 k ∧ f.take k = g.take k ∧ Below w.heap.size w wr) (fun i _ => f.length - (intOf i).toNat)
    case atStart => exact ⟨0, Nat.zero_le _, rfl, rfl, Below.refl _ _⟩
    case round =>
      obtain ⟨k, hk, rfl, hs, hb⟩ := hrel
      have HS := Lib.hid hs; clear hs
      by_cases hlt : k < f.length
      · have hkg : k < g.length := by have := HL.out; omega
        obtain ⟨b, off, rfl, hbl, hc⟩ := HF.out (by omega)
        obtain ⟨hc0, hc1, hc2, hc3⟩ := hc k hlt
        clear hc
        rw [← hb.cell (p := ⟨b, off + k * 4, none⟩) hbl] at hc0
        rw [← hb.cell (p := ⟨b, off + k * 4 + 1, none⟩) hbl] at hc1
        rw [← hb.cell (p := ⟨b, off + k * 4 + 2, none⟩) hbl] at hc2
        rw [← hb.cell (p := ⟨b, off + k * 4 + 3, none⟩) hbl] at hc3
        obtain ⟨b', off', rfl, hbl', hd⟩ := HG.out (by omega)
        obtain ⟨hd0, hd1, hd2, hd3⟩ := hd k hkg
        clear hd
        rw [← hb.cell (p := ⟨b', off' + k * 4, none⟩) hbl'] at hd0
        rw [← hb.cell (p := ⟨b', off' + k * 4 + 1, none⟩) hbl'] at hd1
        rw [← hb.cell (p := ⟨b', off' + k * 4 + 2, none⟩) hbl'] at hd2
        rw [← hb.cell (p := ⟨b', off' + k * 4 + 3, none⟩) hbl'] at hd3
        go_wp2_with fail
        go_still_tail 8, (by kernel_rfl)
        change wpList _ _ _ _ _ wr.drew
        go_wp2_with fail
        refine (eqBox_any f[k] g[k] _).mono ?_
        rintro e w1 ⟨rfl, hb1⟩
        have hb' : Below w.heap.size w w1 := (hb.drew).trans (hb1.mono hb.size)
        clear hb hb1 hc0 hc1 hc2 hc3 hd0 hd1 hd2 hd3
        by_cases hl : f[k] = g[k]
        · rw [show decide (f[k] = g[k]) = true from decide_eq_true hl]
          have HE := Lib.hid hl; clear hl
          go_wp2
          go_roundw
          case rel => exact ⟨k + 1, by omega, by go_num, by rw [List.take_succ_eq_append_getElem hlt, List.take_succ_eq_append_getElem hkg, HS.out, HE.out], hb'⟩
          case measure => simp [intOf]; omega
        · rw [show decide (f[k] = g[k]) = false from decide_eq_false hl]
          have HE := Lib.hid hl; clear hl
          go_wp2
          go_ret
          exact ⟨ret_bool (by
            symm; apply decide_eq_false; intro he; apply HE.out; subst he; rfl), hb'⟩
      · obtain rfl : k = f.length := by omega
        go_wp2
        go_ret
        exact ⟨ret_bool (by
          symm; apply decide_eq_true
          have e := HS.out
          rw [List.take_length, HL.out, List.take_length] at e
          exact e), hb⟩
  · have H := Lib.hid h
    have h' : ((f.length : Int) != (g.length : Int)) = true := by simp; omega
    clear h
    go_enter Try.func23, Try.ntmps23
    go_wp2
    go_ret
    exact ⟨ret_bool (by symm; apply decide_eq_false; intro he; apply H.out; rw [he]), Below.refl _ _⟩

/-- Marked ones from k on. -/
def markBx (k n : Nat) : List Bx := (List.range n).map fun i => ⟨markT (k + 4 * i), ((k + 4 * i + 1 : Nat) : Int), ((k + 4 * i + 2 : Nat) : Int), ((k + 4 * i + 3 : Nat) : Int)⟩
theorem markBx_len (k n : Nat) : (markBx k n).length = n := by simp [markBx]
theorem markBx_get (k n i : Nat) (h : i < (markBx k n).length) : (markBx k n)[i] = ⟨markT (k + 4 * i), ((k + 4 * i + 1 : Nat) : Int), ((k + 4 * i + 2 : Nat) : Int), ((k + 4 * i + 3 : Nat) : Int)⟩ := by simp [markBx]
theorem markBx_succ (k j : Nat) : markBx k (j + 1) = markBx k j ++ [⟨markT (k + 4 * j), ((k + 4 * j + 1 : Nat) : Int), ((k + 4 * j + 2 : Nat) : Int), ((k + 4 * j + 3 : Nat) : Int)⟩] := by simp [markBx, List.range_succ]

set_option maxRecDepth 100000 in
set_option maxHeartbeats 1000000 in
theorem markBoxS_any (k n base : Nat) (v : Value) (xs : List Value) (w : World) (hown : w.ownsRow base 26 4 v n xs) (h0 : 1 ≤ k) (hn : k + 4 * n ≤ 16777216) :
    Calls Try.prog 33 #[v, .int .i64 k] w fun e w' => e = .returned (.int .i64 ((k + 4 * n : Nat) : Int)) ∧ w.grownBy w' v.ownBlock ∧ w'.ownsRow base 26 4 v n (flatBx (markBx k n)) := by
  rcases hown.2 with ⟨rfl, rfl⟩ | ⟨g, cap, cur, rfl, hg, hh, h1, h2, h3, h4⟩
  · go_enter Try.func33, Try.ntmps33
    go_wp2
    go_loop [1, 5] (fun q i => i = .int .i64 0 ∧ q = .int .i64 k) (fun _ i => 0)
    case atStart => exact ⟨rfl, rfl⟩
    case round =>
      obtain ⟨rfl, rfl⟩ := hrel
      go_wp2
      go_ret
      exact ⟨ret_int (by simp), World.grownBy.refl _ _, own_nil _ _ _ _⟩
  · have hst : Marked w g 26 (cap * 4) (flatBx (markBx k 0)) := ⟨cur, hh, by simpa using h3, by simp [markBx, flatBx]⟩
    have HST := Lib.hid hst
    clear hst hh h3 h4 hown
    go_enter Try.func33, Try.ntmps33
    go_wp2
    go_loopw [1, 5] (fun q i wr => ∃ (j q0 : Nat), j ≤ n ∧ i = .int .i64 j ∧ q = .int .i64 q0 ∧ q0 = k + 4 * j ∧ Marked wr g 26 (cap * 4) (flatBx (markBx k j)) ∧ w.grownBy wr (some g)) (fun _ i _ => n - (intOf i).toNat)
    case atStart => exact ⟨0, k, Nat.zero_le _, rfl, rfl, rfl, HST.out, World.grownBy.refl _ _⟩
    case round =>
      obtain ⟨j, q0, hj, rfl, rfl, hq, hm, hgr⟩ := hrel
      have HQ := Lib.hid hq
      by_cases hlt : j < n
      · have hq1 : q0 + 4 ≤ 16777216 := by omega
        have hq2 : 1 ≤ q0 := by omega
        clear hq
        go_wp2_with fail
        refine (markText_any q0 _ hq2 (by omega)).mono ?_
        rintro e w1 ⟨rfl, hb1⟩
        have hm1 := hm.below hb1
        have hg1 := grown_below hgr hb1
        clear hm hgr hb1
        have hl : (flatBx (markBx k j)).length = j * 4 := by rw [flatBx_len, markBx_len]; omega
        obtain ⟨⟨u0, hu0⟩, hfz0⟩ := hm1.at_ (j := j * 4) (by omega)
        have m0 : Marked (w1.setCell ⟨g, j * 4, none⟩ (.string (markT q0))) g 26 (cap * 4) ((flatBx (markBx k j)) ++ [.string (markT q0)]) := hm1.stepAt (j * 4) (by simp only [List.length_append, List.length_cons, List.length_nil, hl]) (by omega) _
        obtain ⟨⟨u1, hu1⟩, hfz1⟩ := m0.at_ (j := j * 4 + 1) (by omega)
        have m1 : Marked ((w1.setCell ⟨g, j * 4, none⟩ (.string (markT q0))).setCell ⟨g, j * 4 + 1, none⟩ (.int .i64 ((q0 : Int) + 1))) g 26 (cap * 4) ((flatBx (markBx k j) ++ [.string (markT q0)]) ++ [.int .i64 ((q0 : Int) + 1)]) := m0.stepAt (j * 4 + 1) (by simp only [List.length_append, List.length_cons, List.length_nil, hl]) (by omega) _
        obtain ⟨⟨u2, hu2⟩, hfz2⟩ := m1.at_ (j := j * 4 + 2) (by omega)
        have m2 : Marked (((w1.setCell ⟨g, j * 4, none⟩ (.string (markT q0))).setCell ⟨g, j * 4 + 1, none⟩ (.int .i64 ((q0 : Int) + 1))).setCell ⟨g, j * 4 + 2, none⟩ (.int .i64 ((q0 : Int) + 1 + 1))) g 26 (cap * 4) ((flatBx (markBx k j) ++ [.string (markT q0)] ++ [.int .i64 ((q0 : Int) + 1)]) ++ [.int .i64 ((q0 : Int) + 1 + 1)]) := m1.stepAt (j * 4 + 2) (by simp only [List.length_append, List.length_cons, List.length_nil, hl]) (by omega) _
        obtain ⟨⟨u3, hu3⟩, hfz3⟩ := m2.at_ (j := j * 4 + 3) (by omega)
        have m3 : Marked ((((w1.setCell ⟨g, j * 4, none⟩ (.string (markT q0))).setCell ⟨g, j * 4 + 1, none⟩ (.int .i64 ((q0 : Int) + 1))).setCell ⟨g, j * 4 + 2, none⟩ (.int .i64 ((q0 : Int) + 1 + 1))).setCell ⟨g, j * 4 + 3, none⟩ (.int .i64 ((q0 : Int) + 1 + 1 + 1))) g 26 (cap * 4) ((flatBx (markBx k j) ++ [.string (markT q0)] ++ [.int .i64 ((q0 : Int) + 1)] ++ [.int .i64 ((q0 : Int) + 1 + 1)]) ++ [.int .i64 ((q0 : Int) + 1 + 1 + 1)]) := m2.stepAt (j * 4 + 3) (by simp only [List.length_append, List.length_cons, List.length_nil, hl]) (by omega) _
        have HM : Hid (Marked ((((w1.setCell ⟨g, j * 4, none⟩ (.string (markT q0))).setCell ⟨g, j * 4 + 1, none⟩ (.int .i64 ((q0 : Int) + 1))).setCell ⟨g, j * 4 + 2, none⟩ (.int .i64 ((q0 : Int) + 1 + 1))).setCell ⟨g, j * 4 + 3, none⟩ (.int .i64 ((q0 : Int) + 1 + 1 + 1))) g 26 (cap * 4) (flatBx (markBx k (j + 1)))) := by
          show Marked _ _ _ _ _
          have hq := HQ.out
          rw [markBx_succ, flatBx_snoc]
          simp only [← hq]
          rw [show ((q0 + 1 : Nat) : Int) = (q0 : Int) + 1 from by omega, show ((q0 + 2 : Nat) : Int) = (q0 : Int) + 1 + 1 from by omega, show ((q0 + 3 : Nat) : Int) = (q0 : Int) + 1 + 1 + 1 from by omega]
          simpa only [List.append_assoc, List.cons_append, List.nil_append] using m3
        have HG := Lib.hid (grown_set (grown_set (grown_set (grown_set hg1 (j * 4) (.string (markT q0))) (j * 4 + 1) (.int .i64 ((q0 : Int) + 1))) (j * 4 + 2) (.int .i64 ((q0 : Int) + 1 + 1))) (j * 4 + 3) (.int .i64 ((q0 : Int) + 1 + 1 + 1)))
        clear hm1 m0 m1 m2 m3 hl hg1
        go_wp2
        go_roundw
        case rel => exact ⟨j + 1, q0 + 4, by omega, by go_num, by go_num, by have := HQ.out; omega, HM.out, HG.out⟩
        case measure => simp [intOf]; omega
      · obtain rfl : j = n := by omega
        subst hq
        go_wp2
        go_ret
        refine ⟨rfl, hgr, by rw [flatBx_len, markBx_len]; omega, .inr ?_⟩
        obtain ⟨cur', g1, g2, g3⟩ := hm
        exact ⟨g, cap, cur', rfl, hg, g1, h1, h2, by simpa using g2, by rw [flatBx_len, markBx_len, Nat.mul_comm] at g3; exact g3⟩

set_option maxRecDepth 100000 in
theorem heldBoxS_any (k n : Nat) (A : Option Addr) (c : Nat) (w : World) (hf : BxsIn w A (markBx k n)) (h0 : 1 ≤ k) (hn : k + 4 * n ≤ 16777216) :
    Calls Try.prog 34 #[.slice A n c, .int .i64 k] w fun e w' => e = .returned (.int .i64 ((k + 4 * n : Nat) : Int)) ∧ Below w.heap.size w w' := by
  have HF := Lib.hid hf; clear hf
  go_enter Try.func34, Try.ntmps34
  go_wp2
  go_loopw [1, 5] (fun q i wr => ∃ (j q0 : Nat), j ≤ n ∧ i = .int .i64 j ∧ q = .int .i64 q0 ∧ q0 = k + 4 * j ∧ Below w.heap.size w wr) (fun _ i _ => n - (intOf i).toNat)
  case atStart => exact ⟨0, k, Nat.zero_le _, rfl, rfl, rfl, Below.refl _ _⟩
  case round =>
    obtain ⟨j, q0, hj, rfl, rfl, hq, hb⟩ := hrel
    by_cases hlt : j < n
    · obtain ⟨b, off, rfl, hbl, hc⟩ := HF.out (by rw [markBx_len]; omega)
      obtain ⟨hc0, hc1, hc2, hc3⟩ := hc j (by rw [markBx_len]; exact hlt)
      rw [markBx_get] at hc0
      rw [← hb.cell (p := ⟨b, off + j * 4, none⟩) hbl] at hc0
      simp only [← hq] at hc0
      rw [markBx_get] at hc1
      rw [← hb.cell (p := ⟨b, off + j * 4 + 1, none⟩) hbl] at hc1
      simp only [← hq] at hc1
      rw [show ((q0 + 1 : Nat) : Int) = (q0 : Int) + 1 from by omega] at hc1
      rw [markBx_get] at hc2
      rw [← hb.cell (p := ⟨b, off + j * 4 + 2, none⟩) hbl] at hc2
      simp only [← hq] at hc2
      rw [show ((q0 + 2 : Nat) : Int) = (q0 : Int) + 1 + 1 from by omega] at hc2
      rw [markBx_get] at hc3
      rw [← hb.cell (p := ⟨b, off + j * 4 + 3, none⟩) hbl] at hc3
      simp only [← hq] at hc3
      rw [show ((q0 + 3 : Nat) : Int) = (q0 : Int) + 1 + 1 + 1 from by omega] at hc3
      have hbw : b < wr.heap.size := Nat.lt_of_lt_of_le hbl hb.size
      have hx := KeptW.cell hc0 hbw
      have hq1 : 1 ≤ q0 := by omega
      have hq2 : q0 + 4 ≤ 16777216 := by omega
      have HQ := Lib.hid hq
      have hj1 : (j : Int) < (n : Int) := by omega
      have hj0 : (0 : Int) ≤ (j : Int) := by omega
      have HC1 := Lib.hid hc1
      have HC2 := Lib.hid hc2
      have HC3 := Lib.hid hc3
      have ht : (!(markT q0).toList == (markT q0).toList) = false := by simp
      clear hc hc0 hc1 hc2 hc3 hq
      go_wp2_with fail
      refine region_kept wr.heap.size (by kernel_rfl) (by kernel_rfl) ?_
      repeat (go_big_quiet_step ((go_at_call 72; exact kept_call _ (Nat.le_refl _) (markText_any _ _ hq1 (by omega)))))
      refine wpQuiet_nil ?_
      intro w1 hb1
      have hb' : Below w.heap.size w w1 := hb.trans (hb1.mono hb.size)
      have hc1 := (hb1.cell (p := ⟨b, off + j * 4 + 1, none⟩) hbw).trans HC1.out
      have hc2 := (hb1.cell (p := ⟨b, off + j * 4 + 2, none⟩) hbw).trans HC2.out
      have hc3 := (hb1.cell (p := ⟨b, off + j * 4 + 3, none⟩) hbw).trans HC3.out
      have hn1 : ((q0 : Int) + 1 != (q0 : Int) + 1) = false := by simp
      have hn2 : ((q0 : Int) + 1 + 1 != (q0 : Int) + 1 + 1) = false := by simp
      have hn3 : ((q0 : Int) + 1 + 1 + 1 != (q0 : Int) + 1 + 1 + 1) = false := by simp
      clear hb hb1 hx
      go_wp2
      go_roundw
      case rel => exact ⟨j + 1, q0 + 4, by omega, by go_num, by go_num, by have := HQ.out; omega, hb'⟩
      case measure => simp [intOf]; omega
    · obtain rfl : j = n := by omega
      subst hq
      go_wp2
      go_ret
      exact ⟨rfl, hb⟩

end Go.Proofs.Ytllafkeheppkjaa

/-
  The struct type Box: its words, and the contracts of the laws' own helpers on it (to, sz, eq, mark, held): each answers what the plain words here say. (The text is made by a program of mine.)
-/
import Derived.Test.YtllafkeheppkjaaDoorHeld
import Derived.Test.YtllafkeheppkjaaDoorWds
import Derived.Test.YtllafkeheppkjaaDoorTos
namespace Go.Proofs.YtllafkeheppkjaaDoor
open Go.RowKit
set_option linter.unusedVariables false

structure Bx where
  cod : ByteArray
  row : Int
  col : Int
  cnt : Int
deriving DecidableEq, Inhabited

def Bx.vals (s : Bx) : List Value := [.string s.cod, .int .i64 s.row, .int .i64 s.col, .int .i64 s.cnt]
def flatBx (f : List Bx) : List Value := f.flatMap fun s => s.vals
theorem flatBx_len (f : List Bx) : (flatBx f).length = 4 * f.length := by
  induction f with
  | nil => rfl
  | cons x r ih => simp [flatBx, Bx.vals] at ih ⊢; omega
theorem flatBx_snoc (f : List Bx) (s : Bx) : flatBx (f ++ [s]) = flatBx f ++ [.string s.cod, .int .i64 s.row, .int .i64 s.col, .int .i64 s.cnt] := by simp [flatBx, Bx.vals]
theorem flatBx_get : ∀ (f : List Bx) (k : Nat) (h : k < f.length), (flatBx f)[k * 4]? = some (.string f[k].cod) ∧ (flatBx f)[k * 4 + 1]? = some (.int .i64 f[k].row) ∧ (flatBx f)[k * 4 + 2]? = some (.int .i64 f[k].col) ∧ (flatBx f)[k * 4 + 3]? = some (.int .i64 f[k].cnt)
  | x :: r, 0, _ => ⟨rfl, rfl, rfl, rfl⟩
  | x :: r, k + 1, h => by
    have ih := flatBx_get r k (by simpa using h)
    have e : flatBx (x :: r) = .string x.cod :: .int .i64 x.row :: .int .i64 x.col :: .int .i64 x.cnt :: flatBx r := rfl
    rw [e, show (k + 1) * 4 = k * 4 + 1 + 1 + 1 + 1 from by omega]
    simpa using ih
/-- A slice of them at A reads as f. -/
def BxsIn (w : World) (A : Option Addr) (f : List Bx) : Prop :=
  0 < f.length → ∃ b off, A = some ⟨b, off, none⟩ ∧ b < w.heap.size ∧ ∀ k (h : k < f.length), w.cell? ⟨b, off + k * 4, none⟩ = some (.string f[k].cod) ∧ w.cell? ⟨b, off + k * 4 + 1, none⟩ = some (.int .i64 f[k].row) ∧ w.cell? ⟨b, off + k * 4 + 2, none⟩ = some (.int .i64 f[k].col) ∧ w.cell? ⟨b, off + k * 4 + 3, none⟩ = some (.int .i64 f[k].cnt)
theorem BxsIn.below {w w' : World} {B : Nat} {A : Option Addr} {f : List Bx} (h : BxsIn w A f) (hb : Below B w w') (hB : w.heap.size ≤ B) : BxsIn w' A f := by
  intro hn
  obtain ⟨b, off, rfl, h2, h3⟩ := h hn
  refine ⟨b, off, rfl, Nat.lt_of_lt_of_le h2 hb.size, fun k hk => ?_⟩
  rw [hb.cell (by show b < B; omega), hb.cell (by show b < B; omega), hb.cell (by show b < B; omega), hb.cell (by show b < B; omega)]
  exact h3 k hk
theorem BxsIn.next {w w' : World} {A : Option Addr} {f : List Bx} (h : BxsIn w A f) (hb : Below w.heap.size w w') : BxsIn w' A f := h.below hb (Nat.le_refl _)
/-- Each text is no longer than a text can be. -/
def BxOk (s : Bx) : Prop := s.cod.size ≤ maxLen
def BxsOk (f : List Bx) : Prop := ∀ k (h : k < f.length), BxOk f[k]
theorem own_bx {w : World} {base n : Nat} {e : TypeId} {v : Value} {l : List Bx} (h : w.ownsRow base e 4 v n (flatBx l)) : ∃ A c, v = .slice A l.length c ∧ n = l.length ∧ BxsIn w A l := by
  have hn : n = l.length := by have := h.1; rw [flatBx_len] at this; omega
  subst hn
  rcases h.2 with ⟨rfl, h0⟩ | ⟨g, cap, cur, rfl, hg, hh, h1, h2, h3, h4⟩
  · exact ⟨none, 0, by rw [h0], rfl, fun h => absurd h (by omega)⟩
  · refine ⟨_, _, rfl, rfl, fun _ => ⟨g, 0, rfl, lt_of_heap hh, fun k hk => ?_⟩⟩
    have hgt := flatBx_get l k hk
    rw [Nat.zero_add, h.cellAt (k * 4) (by omega), h.cellAt (k * 4 + 1) (by omega), h.cellAt (k * 4 + 2) (by omega), h.cellAt (k * 4 + 3) (by omega)]
    exact hgt
theorem own_form_bx {w : World} {base n : Nat} {e : TypeId} {v : Value} {l : List Bx} (h : w.ownsRow base e 4 v n (flatBx l)) : ∃ A c, v = .slice A l.length c := by
  obtain ⟨A, c, hv, _, _⟩ := own_bx h
  exact ⟨A, c, hv⟩
theorem own_in_bx {w : World} {base n m c : Nat} {e : TypeId} {A : Option Addr} {l : List Bx} (h : w.ownsRow base e 4 (.slice A m c) n (flatBx l)) : BxsIn w A l := by
  obtain ⟨A', c', hv, _, hi⟩ := own_bx h
  injection hv with h1
  subst h1
  exact hi
theorem Marked.own_bx {w : World} {b m base : Nat} {e : TypeId} {l : List Bx} (h : Marked w b e m (flatBx l)) (hm : m = l.length * 4) (hb : base ≤ b) (hn : l.length ≤ maxLen) : w.ownsRow base e 4 (.slice (some ⟨b, 0, none⟩) l.length l.length) l.length (flatBx l) := by
  obtain ⟨cur, h1, h2, h3⟩ := h
  exact ⟨by rw [flatBx_len]; omega, .inr ⟨b, l.length, cur, rfl, hb, h1, Nat.le_refl _, hn, by rw [h2, hm], by rw [show l.length * 4 = (flatBx l).length from by rw [flatBx_len]; omega]; exact h3⟩⟩
theorem Marked.stepAt {w : World} {g cap : Nat} {e : TypeId} {l : List Value} (h : Marked w g e cap l) (j : Nat) (hl : l.length = j) (hj : j < cap) (u : Value) : Marked (w.setCell ⟨g, j, none⟩ u) g e cap (l ++ [u]) := by
  subst hl
  exact h.step hj u

theorem toBox_any (s : Bx) (w : World) :
    Calls Tryd.prog 32 #[.agg #[.string s.cod, .int .i64 s.row, .int .i64 s.col, .int .i64 s.cnt]] w fun e w' => e = .returned (.agg #[.string s.cod, .int .i64 s.row, .int .i64 s.col, .int .i64 s.cnt]) ∧ Below w.heap.size w w' := by
  go_enter Tryd.func32, Tryd.ntmps32
  go_wp2
  refine bodyPost_ret (v := .agg #[.string s.cod, .int .i64 s.row, .int .i64 s.col, .int .i64 s.cnt]) (by simp [results, Tryd.results32, go_sem]) rfl ⟨rfl, ?_⟩
  exact (((Below.refl _ _).alloc (Nat.le_refl _) _).alloc (by simp) _).alloc (by simp; omega) _

theorem eqBox_any (s t : Bx) (w : World) :
    Calls Tryd.prog 37 #[.agg #[.string s.cod, .int .i64 s.row, .int .i64 s.col, .int .i64 s.cnt], .agg #[.string t.cod, .int .i64 t.row, .int .i64 t.col, .int .i64 t.cnt]] w fun e w' => e = .returned (.bool (decide (s = t))) ∧ Below w.heap.size w w' := by
  obtain ⟨a0, a1, a2, a3⟩ := s; obtain ⟨b0, b1, b2, b3⟩ := t
  show Calls Tryd.prog 37 #[.agg #[.string a0, .int .i64 a1, .int .i64 a2, .int .i64 a3], .agg #[.string b0, .int .i64 b1, .int .i64 b2, .int .i64 b3]] w _
  have hb : Below w.heap.size w ((w.alloc (.cells #[.string a0, .int .i64 a1, .int .i64 a2, .int .i64 a3] 40)).alloc (.cells #[.string b0, .int .i64 b1, .int .i64 b2, .int .i64 b3] 40)) := ((Below.refl _ _).alloc (Nat.le_refl _) _).alloc (by simp) _
  by_cases h0 : a0 = b0
  · subst h0
    by_cases h1 : a1 = b1
    · subst h1
      by_cases h2 : a2 = b2
      · subst h2
        by_cases h3 : a3 = b3
        · subst h3
          go_enter Tryd.func37, Tryd.ntmps37
          go_wp2
          go_ret
          exact ⟨by simp, hb⟩
        · have g3 : (a3 != b3) = true := by simp [h3]
          have H2 := Lib.hid h3; clear h3
          go_enter Tryd.func37, Tryd.ntmps37
          go_wp2
          go_ret
          exact ⟨by simp [H2.out], hb⟩
      · have g2 : (a2 != b2) = true := by simp [h2]
        have H2 := Lib.hid h2; clear h2
        go_enter Tryd.func37, Tryd.ntmps37
        go_wp2
        go_ret
        exact ⟨by simp [H2.out], hb⟩
    · have g1 : (a1 != b1) = true := by simp [h1]
      have H2 := Lib.hid h1; clear h1
      go_enter Tryd.func37, Tryd.ntmps37
      go_wp2
      go_ret
      exact ⟨by simp [H2.out], hb⟩
  · have g0 : (!a0.toList == b0.toList) = true := str_ne h0
    have H2 := Lib.hid h0; clear h0
    go_enter Tryd.func37, Tryd.ntmps37
    go_wp2
    go_ret
    exact ⟨by simp [H2.out], hb⟩

theorem szBox_any (s : Bx) (l : Int) (w : World) (hs : s.cod.size ≤ maxLen) (h1 : 0 ≤ l) (h2 : l ≤ 1048576) :
    Calls Tryd.prog 29 #[.agg #[.string s.cod, .int .i64 s.row, .int .i64 s.col, .int .i64 s.cnt], .int .i64 l] w fun e w' => e = .returned (.int .i64 (if l < s.cod.size then -1 else l - s.cod.size)) ∧ Below w.heap.size w w' := by
  unfold maxLen at hs
  by_cases h : l < s.cod.size
  · go_enter Tryd.func29, Tryd.ntmps29
    have h' : l - (s.cod.size : Int) < 0 := by omega
    go_wp2
    go_ret
    exact ⟨by simp [h], (Below.refl _ _).alloc (Nat.le_refl _) _⟩
  · go_enter Tryd.func29, Tryd.ntmps29
    have h' : ¬ l - (s.cod.size : Int) < 0 := by omega
    go_wp2
    go_ret
    exact ⟨by simp [h], (Below.refl _ _).alloc (Nat.le_refl _) _⟩
def szBxF : List Bx → Int → Int
  | [], l => l
  | x :: r, l => if l < x.cod.size then -1 else szBxF r (l - x.cod.size)
def szBxS (f : List Bx) (l : Int) : Int := if l < f.length then -1 else szBxF f (l - f.length)
theorem szBxF_drop (f : List Bx) (k : Nat) (h : k < f.length) (l : Int) : szBxF (f.drop k) l = if l < f[k].cod.size then -1 else szBxF (f.drop (k + 1)) (l - f[k].cod.size) := by
  rw [List.drop_eq_getElem_cons h]; rfl
theorem szBx_len (f : List Bx) (l : Int) (hl : l ≤ 1048576) (h : 0 ≤ szBxS f l) : f.length ≤ 1048576 := by
  unfold szBxS at h
  split at h <;> omega
theorem szBxF_range : ∀ (f : List Bx) (l : Int), 0 ≤ l → szBxF f l ≤ l
  | [], l, _ => Int.le_refl l
  | x :: r, l, h => by
    unfold szBxF
    split
    · omega
    · have := szBxF_range r (l - x.cod.size) (by omega)
      omega
theorem szBx_range (f : List Bx) (l : Int) (h : 0 ≤ l) : szBxS f l ≤ l := by
  unfold szBxS
  split
  · omega
  · have := szBxF_range f (l - f.length) (by omega)
    omega

theorem szBoxS_any (f : List Bx) (A : Option Addr) (c : Nat) (l : Int) (w : World) (hf : BxsIn w A f) (ho : BxsOk f) (hn : f.length ≤ maxLen) (h1 : 0 ≤ l) (h2 : l ≤ 1048576) :
    Calls Tryd.prog 5 #[.slice A f.length c, .int .i64 l] w fun e w' => e = .returned (.int .i64 (szBxS f l)) ∧ Below w.heap.size w w' := by
  unfold maxLen at hn
  have HO := Lib.hid ho; clear ho
  have HF := Lib.hid hf; clear hf
  by_cases h : l < f.length
  · go_enter Tryd.func5, Tryd.ntmps5
    have h' : l - (f.length : Int) < 0 := by omega
    go_wp2
    go_ret
    exact ⟨ret_int (by unfold szBxS; rw [if_pos h]), Below.refl _ _⟩
  · have hd : szBxS f l = szBxF (f.drop 0) (l - f.length) := by unfold szBxS; rw [if_neg h]; rfl
    have HD := Lib.hid hd; clear hd
    go_enter Tryd.func5, Tryd.ntmps5
    have h' : ¬ l - (f.length : Int) < 0 := by omega
    go_wp2
    go_loopw [1, 5] (fun t i wr => ∃ (k : Nat) (L : Int), k ≤ f.length ∧ i = .int .i64 k ∧ t = .int .i64 L ∧ 0 ≤ L ∧ L ≤ 1048576 ∧ szBxS f l = szBxF (f.drop k) L ∧ Below w.heap.size w wr) (fun _ i _ => f.length - (intOf i).toNat)
    case atStart => exact ⟨0, _, Nat.zero_le _, rfl, rfl, by omega, by omega, HD.out, Below.refl _ _⟩
    case round =>
      obtain ⟨k, L, hk, rfl, rfl, hL1, hL2, hs, hb⟩ := hrel
      have HS := Lib.hid hs; clear hs
      by_cases hlt : k < f.length
      · obtain ⟨b, off, rfl, hbl, hc⟩ := HF.out (by omega)
        obtain ⟨hc0, hc1, hc2, hc3⟩ := hc k hlt
        clear hc
        rw [← hb.cell (p := ⟨b, off + k * 4, none⟩) hbl] at hc0
        rw [← hb.cell (p := ⟨b, off + k * 4 + 1, none⟩) hbl] at hc1
        rw [← hb.cell (p := ⟨b, off + k * 4 + 2, none⟩) hbl] at hc2
        rw [← hb.cell (p := ⟨b, off + k * 4 + 3, none⟩) hbl] at hc3
        have hsz := szBxF_drop f k hlt L
        have HZ := Lib.hid hsz; clear hsz
        have hok := HO.out k hlt
        go_wp2_with fail
        refine (szBox_any f[k] _ _ hok hL1 hL2).mono ?_
        rintro e w1 ⟨rfl, hb1⟩
        have hb' : Below w.heap.size w w1 := hb.trans (hb1.mono hb.size)
        clear hb hb1 hc0 hc1 hc2 hc3 hok
        by_cases hl : L < (f[k].cod.size : Int)
        · rw [if_pos hl]
          go_wp2
          go_ret
          exact ⟨ret_int (by rw [HS.out, HZ.out, if_pos hl]), hb'⟩
        · rw [if_neg hl]
          have hl' : ¬ L - (f[k].cod.size : Int) < 0 := by omega
          go_wp2
          go_roundw
          case rel => exact ⟨k + 1, _, by omega, by go_num, rfl, by omega, by omega, by rw [HS.out, HZ.out, if_neg (by omega)], hb'⟩
          case measure => simp [intOf]; omega
      · obtain rfl : k = f.length := by omega
        go_wp2
        go_ret
        exact ⟨ret_int (by rw [HS.out, List.drop_length]; rfl), hb⟩

theorem infoBx : (Tryd.prog.info? 40).map (fun i => (i.zero, i.size, i.bytes)) = some (some (.agg #[.string .empty, .int .i64 0, .int .i64 0, .int .i64 0]), 4, 40) := by kernel_rfl
theorem run_makeBx (n : Nat) (hn : n ≤ 1048576) (w : World) :
    (Instr.makeSlice 26 (.int .i64 (n : Int)) (.int .i64 (n : Int))).run Tryd.prog w = .ok (.slice (some ⟨w.heap.size, 0, none⟩) n n) (w.alloc (.cells (madeCells #[.string .empty, .int .i64 0, .int .i64 0, .int .i64 0] (n * 4)) 40)) := by
  obtain ⟨i0, hi, hz0, hz1, hz2⟩ := info_parts infoBx
  have h := run_make (P := Tryd.prog) w 26 40 i0 _ Tryd.underlying26 hi hz0 .i64 .i64 (n : Int) (n : Int) (by omega) (Int.le_refl _) (by rw [hz2]; omega) (by omega)
  rw [hz1, Int.toNat_natCast] at h
  exact h

set_option maxRecDepth 100000 in
theorem toBoxS_any (f : List Bx) (A : Option Addr) (c : Nat) (w : World) (hf : BxsIn w A f) (hn : f.length ≤ 1048576) :
    Calls Tryd.prog 7 #[.slice A f.length c] w fun e w' => e = .returned (.slice (some ⟨w.heap.size, 0, none⟩) f.length f.length) ∧ Below w.heap.size w w' ∧ w'.ownsRow 0 40 4 (.slice (some ⟨w.heap.size, 0, none⟩) f.length f.length) f.length (flatBx f) := by
  have HF := Lib.hid hf; clear hf
  have hmk := run_makeBx f.length hn
  have hst : Marked (w.alloc (.cells (madeCells #[.string .empty, .int .i64 0, .int .i64 0, .int .i64 0] (f.length * 4)) 40)) w.heap.size 40 (f.length * 4) (flatBx (f.take 0)) := ⟨_, heap_new _ _, size_madeCells _ _, by simp [flatBx]⟩
  generalize hz : madeCells #[.string .empty, .int .i64 0, .int .i64 0, .int .i64 0] (f.length * 4) = cs0 at *
  go_enter Tryd.func7, Tryd.ntmps7
  have HST := Lib.hid hst; clear hst hz
  go_wp2
  go_loopw [4] (fun i wr => ∃ (k : Nat), k ≤ f.length ∧ i = .int .i64 k ∧ Marked wr w.heap.size 40 (f.length * 4) (flatBx (f.take k)) ∧ Below w.heap.size w wr) (fun i _ => f.length - (intOf i).toNat)
  case atStart => exact ⟨0, Nat.zero_le _, rfl, HST.out, (Below.refl _ _).alloc (Nat.le_refl _) _⟩
  case round =>
    obtain ⟨k, hk, rfl, hp, hb⟩ := hrel
    clear hmk
    by_cases hlt : k < f.length
    · obtain ⟨b, off, rfl, hbl, hc⟩ := HF.out (by omega)
      obtain ⟨hc0, hc1, hc2, hc3⟩ := hc k hlt
      clear hc
      rw [← hb.cell (p := ⟨b, off + k * 4, none⟩) hbl] at hc0
      rw [← hb.cell (p := ⟨b, off + k * 4 + 1, none⟩) hbl] at hc1
      rw [← hb.cell (p := ⟨b, off + k * 4 + 2, none⟩) hbl] at hc2
      rw [← hb.cell (p := ⟨b, off + k * 4 + 3, none⟩) hbl] at hc3
      go_wp2_with fail
      refine (toBox_any f[k] _).mono ?_
      rintro e w1 ⟨rfl, hb1⟩
      have hp1 := hp.below (hb1.mono (Nat.le_refl _))
      have hb' : Below w.heap.size w w1 := hb.trans (hb1.mono hb.size)
      have hl : (flatBx (f.take k)).length = k * 4 := by rw [flatBx_len, List.length_take]; omega
      obtain ⟨⟨u0, hu0⟩, hz0⟩ := hp1.at_ (j := k * 4) (by omega)
      obtain ⟨⟨u1, hu1⟩, hz1⟩ := hp1.at_ (j := k * 4 + 1) (by omega)
      obtain ⟨⟨u2, hu2⟩, hz2⟩ := hp1.at_ (j := k * 4 + 2) (by omega)
      obtain ⟨⟨u3, hu3⟩, hz3⟩ := hp1.at_ (j := k * 4 + 3) (by omega)
      have m0 : Marked (w1.setCell ⟨w.heap.size, k * 4, none⟩ (.string f[k].cod)) w.heap.size 40 (f.length * 4) ((flatBx (f.take k)) ++ [.string f[k].cod]) := hp1.stepAt (k * 4) (by simp only [List.length_append, List.length_cons, List.length_nil, hl]) (by omega) _
      have m1 : Marked ((w1.setCell ⟨w.heap.size, k * 4, none⟩ (.string f[k].cod)).setCell ⟨w.heap.size, k * 4 + 1, none⟩ (.int .i64 f[k].row)) w.heap.size 40 (f.length * 4) ((flatBx (f.take k) ++ [.string f[k].cod]) ++ [.int .i64 f[k].row]) := m0.stepAt (k * 4 + 1) (by simp only [List.length_append, List.length_cons, List.length_nil, hl]) (by omega) _
      have m2 : Marked (((w1.setCell ⟨w.heap.size, k * 4, none⟩ (.string f[k].cod)).setCell ⟨w.heap.size, k * 4 + 1, none⟩ (.int .i64 f[k].row)).setCell ⟨w.heap.size, k * 4 + 2, none⟩ (.int .i64 f[k].col)) w.heap.size 40 (f.length * 4) ((flatBx (f.take k) ++ [.string f[k].cod] ++ [.int .i64 f[k].row]) ++ [.int .i64 f[k].col]) := m1.stepAt (k * 4 + 2) (by simp only [List.length_append, List.length_cons, List.length_nil, hl]) (by omega) _
      have m3 : Marked ((((w1.setCell ⟨w.heap.size, k * 4, none⟩ (.string f[k].cod)).setCell ⟨w.heap.size, k * 4 + 1, none⟩ (.int .i64 f[k].row)).setCell ⟨w.heap.size, k * 4 + 2, none⟩ (.int .i64 f[k].col)).setCell ⟨w.heap.size, k * 4 + 3, none⟩ (.int .i64 f[k].cnt)) w.heap.size 40 (f.length * 4) ((flatBx (f.take k) ++ [.string f[k].cod] ++ [.int .i64 f[k].row] ++ [.int .i64 f[k].col]) ++ [.int .i64 f[k].cnt]) := m2.stepAt (k * 4 + 3) (by simp only [List.length_append, List.length_cons, List.length_nil, hl]) (by omega) _
      have HP : Hid (Marked ((((w1.setCell ⟨w.heap.size, k * 4, none⟩ (.string f[k].cod)).setCell ⟨w.heap.size, k * 4 + 1, none⟩ (.int .i64 f[k].row)).setCell ⟨w.heap.size, k * 4 + 2, none⟩ (.int .i64 f[k].col)).setCell ⟨w.heap.size, k * 4 + 3, none⟩ (.int .i64 f[k].cnt)) w.heap.size 40 (f.length * 4) (flatBx (f.take (k + 1)))) := by
        show Marked _ _ _ _ _
        rw [List.take_succ_eq_append_getElem hlt, flatBx_snoc]
        simpa only [List.append_assoc, List.cons_append, List.nil_append] using m3
      have HB := Lib.hid ((((hb'.setCell (p := ⟨w.heap.size, k * 4, none⟩) (Nat.le_refl _) (.string f[k].cod)).setCell (p := ⟨w.heap.size, k * 4 + 1, none⟩) (Nat.le_refl _) (.int .i64 f[k].row)).setCell (p := ⟨w.heap.size, k * 4 + 2, none⟩) (Nat.le_refl _) (.int .i64 f[k].col)).setCell (p := ⟨w.heap.size, k * 4 + 3, none⟩) (Nat.le_refl _) (.int .i64 f[k].cnt))
      clear hb hb1 hc0 hc1 hc2 hc3 hp hp1 hb' hl m0 m1 m2 m3
      go_wp2
      go_roundw
      case rel => exact ⟨k + 1, by omega, by go_num, HP.out, HB.out⟩
      case measure => simp [intOf]; omega
    · obtain rfl : k = f.length := by omega
      rw [List.take_length] at hp
      have hd := Lib.hid (hp.own_bx (base := 0) rfl (Nat.zero_le _) (by unfold maxLen; omega))
      clear hp
      go_wp2
      go_ret
      exact ⟨rfl, hb, hd.out⟩

set_option maxRecDepth 100000 in
theorem eqBoxS_any (f g : List Bx) (A B : Option Addr) (c d : Nat) (w : World) (hf : BxsIn w A f) (hg : BxsIn w B g) (hn : f.length ≤ maxLen) (hm : g.length ≤ maxLen) :
    Calls Tryd.prog 9 #[.slice A f.length c, .slice B g.length d] w fun e w' => e = .returned (.bool (decide (f = g))) ∧ Below w.heap.size w w' := by
  unfold maxLen at hn hm
  have HF := Lib.hid hf; clear hf
  have HG := Lib.hid hg; clear hg
  by_cases h : f.length = g.length
  · have HL := Lib.hid h
    have h' : ((f.length : Int) != (g.length : Int)) = false := by simp [h]
    clear h
    go_enter Tryd.func9, Tryd.ntmps9
    go_wp2
    go_loopw [5] (fun i wr => ∃ (k : Nat), k ≤ f.length ∧ i = .int .i64 k ∧ f.take k = g.take k ∧ Below w.heap.size w wr) (fun i _ => f.length - (intOf i).toNat)
    case atStart => exact ⟨0, Nat.zero_le _, rfl, rfl, Below.refl _ _⟩
    case round =>
      obtain ⟨k, hk, rfl, hs, hb⟩ := hrel
      have HS := Lib.hid hs; clear hs
      by_cases hlt : k < f.length
      · have hkg : k < g.length := by have := HL.out; omega
        obtain ⟨b, off, rfl, hbl, hc⟩ := HF.out (by omega)
        obtain ⟨hc0, hc1, hc2, hc3⟩ := hc k hlt
        clear hc
        rw [← hb.cell (p := ⟨b, off + k * 4, none⟩) hbl] at hc0
        rw [← hb.cell (p := ⟨b, off + k * 4 + 1, none⟩) hbl] at hc1
        rw [← hb.cell (p := ⟨b, off + k * 4 + 2, none⟩) hbl] at hc2
        rw [← hb.cell (p := ⟨b, off + k * 4 + 3, none⟩) hbl] at hc3
        obtain ⟨b', off', rfl, hbl', hd⟩ := HG.out (by omega)
        obtain ⟨hd0, hd1, hd2, hd3⟩ := hd k hkg
        clear hd
        rw [← hb.cell (p := ⟨b', off' + k * 4, none⟩) hbl'] at hd0
        rw [← hb.cell (p := ⟨b', off' + k * 4 + 1, none⟩) hbl'] at hd1
        rw [← hb.cell (p := ⟨b', off' + k * 4 + 2, none⟩) hbl'] at hd2
        rw [← hb.cell (p := ⟨b', off' + k * 4 + 3, none⟩) hbl'] at hd3
        go_wp2_with fail
        go_still_tail 8, (by kernel_rfl)
        change wpList _ _ _ _ _ wr.drew
        go_wp2_with fail
        refine (eqBox_any f[k] g[k] _).mono ?_
        rintro e w1 ⟨rfl, hb1⟩
        have hb' : Below w.heap.size w w1 := (hb.drew).trans (hb1.mono hb.size)
        clear hb hb1 hc0 hc1 hc2 hc3 hd0 hd1 hd2 hd3
        by_cases hl : f[k] = g[k]
        · rw [show decide (f[k] = g[k]) = true from decide_eq_true hl]
          have HE := Lib.hid hl; clear hl
          go_wp2
          go_roundw
          case rel => exact ⟨k + 1, by omega, by go_num, by rw [List.take_succ_eq_append_getElem hlt, List.take_succ_eq_append_getElem hkg, HS.out, HE.out], hb'⟩
          case measure => simp [intOf]; omega
        · rw [show decide (f[k] = g[k]) = false from decide_eq_false hl]
          have HE := Lib.hid hl; clear hl
          go_wp2
          go_ret
          exact ⟨ret_bool (by
            symm; apply decide_eq_false; intro he; apply HE.out; subst he; rfl), hb'⟩
      · obtain rfl : k = f.length := by omega
        go_wp2
        go_ret
        exact ⟨ret_bool (by
          symm; apply decide_eq_true
          have e := HS.out
          rw [List.take_length, HL.out, List.take_length] at e
          exact e), hb⟩
  · have H := Lib.hid h
    have h' : ((f.length : Int) != (g.length : Int)) = true := by simp; omega
    clear h
    go_enter Tryd.func9, Tryd.ntmps9
    go_wp2
    go_ret
    exact ⟨ret_bool (by symm; apply decide_eq_false; intro he; apply H.out; rw [he]), Below.refl _ _⟩

/-- Marked ones from k on. -/
def markBx (k n : Nat) : List Bx := (List.range n).map fun i => ⟨markT (k + 4 * i), ((k + 4 * i + 1 : Nat) : Int), ((k + 4 * i + 2 : Nat) : Int), ((k + 4 * i + 3 : Nat) : Int)⟩
theorem markBx_len (k n : Nat) : (markBx k n).length = n := by simp [markBx]
theorem markBx_get (k n i : Nat) (h : i < (markBx k n).length) : (markBx k n)[i] = ⟨markT (k + 4 * i), ((k + 4 * i + 1 : Nat) : Int), ((k + 4 * i + 2 : Nat) : Int), ((k + 4 * i + 3 : Nat) : Int)⟩ := by simp [markBx]
theorem markBx_succ (k j : Nat) : markBx k (j + 1) = markBx k j ++ [⟨markT (k + 4 * j), ((k + 4 * j + 1 : Nat) : Int), ((k + 4 * j + 2 : Nat) : Int), ((k + 4 * j + 3 : Nat) : Int)⟩] := by simp [markBx, List.range_succ]

end Go.Proofs.YtllafkeheppkjaaDoor

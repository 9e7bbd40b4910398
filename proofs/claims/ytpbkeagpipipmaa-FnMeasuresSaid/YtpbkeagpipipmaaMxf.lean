import Derived.Test.YtpbkeagpipipmaaSow
import Derived.Test.YtpbkeagpipipmaaKept
/-
  The contracts of the laws' own helpers on slices of integers and of sorts: laws.eqIntS, laws.markIntS, laws.heldIntS, laws.markText, laws.markSortS.
-/
namespace Go.Proofs.Ytpbkeagpipipmaa.S1
open Go.RowKit
set_option linter.unusedVariables false

def intsZ (l : List Int) : List Value := l.map fun i => .int .i64 i
theorem ints_Z (l : List Nat) : ints l = intsZ (l.map fun i : Nat => (i : Int)) := by simp [ints, intsZ]
/-- A slice of ints at A reads as l. -/
def IntsIn (w : World) (A : Option Addr) (l : List Int) : Prop :=
  0 < l.length → ∃ b off, A = some ⟨b, off, none⟩ ∧ b < w.heap.size ∧ ∀ k (h : k < l.length), w.cell? ⟨b, off + k, none⟩ = some (.int .i64 l[k])
theorem IntsIn.below {w w' : World} {B : Nat} {A : Option Addr} {l : List Int} (h : IntsIn w A l) (hb : Below B w w') (hB : w.heap.size ≤ B) : IntsIn w' A l := by
  intro hn
  obtain ⟨b, off, rfl, h2, h3⟩ := h hn
  refine ⟨b, off, rfl, Nat.lt_of_lt_of_le h2 hb.size, fun k hk => ?_⟩
  rw [hb.cell (by show b < B; omega)]
  exact h3 k hk
theorem own_ints {w : World} {base n : Nat} {e : TypeId} {v : Value} {l : List Int} (h : w.ownsRow base e 1 v n (intsZ l)) : ∃ A c, v = .slice A l.length c ∧ n = l.length ∧ IntsIn w A l := by
  have hn : n = l.length := by have := h.1; simp [intsZ] at this; omega
  subst hn
  rcases h.2 with ⟨rfl, h0⟩ | ⟨g, cap, cur, rfl, hg, hh, h1, h2, h3, h4⟩
  · exact ⟨none, 0, by rw [h0], rfl, fun h => absurd h (by omega)⟩
  · refine ⟨_, _, rfl, rfl, fun _ => ⟨g, 0, rfl, lt_of_heap hh, fun k hk => ?_⟩⟩
    rw [h.cellAt (0 + k) (by omega)]
    simp [intsZ, hk]

set_option maxRecDepth 100000 in
theorem eqIntS_any (l m : List Int) (A B : Option Addr) (c d : Nat) (w : World) (hf : IntsIn w A l) (hg : IntsIn w B m) (hn : l.length ≤ maxLen) (hm : m.length ≤ maxLen) :
    Calls Try.prog 42 #[.slice A l.length c, .slice B m.length d] w fun e w' => e = .returned (.bool (decide (l = m))) ∧ Below w.heap.size w w' := by
  unfold maxLen at hn hm
  have HF := Lib.hid hf; clear hf
  have HG := Lib.hid hg; clear hg
  by_cases h : l.length = m.length
  · have HL := Lib.hid h
    have h' : ((l.length : Int) != (m.length : Int)) = false := by simp [h]
    clear h
    go_enter Try.func42, Try.ntmps42
    go_wp2
    go_loopw [5] (fun i wr => ∃ (k : Nat), k ≤ l.length ∧ i = .int .i64 k ∧ l.take k = m.take k ∧ Below w.heap.size w wr) (fun i _ => l.length - (intOf i).toNat)
    case atStart => exact ⟨0, Nat.zero_le _, rfl, rfl, Below.refl _ _⟩
    case round =>
      obtain ⟨k, hk, rfl, hs, hb⟩ := hrel
      have HS := Lib.hid hs; clear hs
      by_cases hlt : k < l.length
      · have hkg : k < m.length := by have := HL.out; omega
        obtain ⟨b, off, rfl, hbl, hc⟩ := HF.out (by omega)
        have hc0 := hc k hlt
        clear hc
        obtain ⟨b', off', rfl, hbl', hd⟩ := HG.out (by omega)
        have hd0 := hd k hkg
        clear hd
        rw [← hb.cell (p := ⟨b, off + k, none⟩) hbl] at hc0
        rw [← hb.cell (p := ⟨b', off' + k, none⟩) hbl'] at hd0
        have hx := KeptW.cell hc0 (Nat.lt_of_lt_of_le hbl hb.size)
        have hy := KeptW.cell hd0 (Nat.lt_of_lt_of_le hbl' hb.size)
        clear hc0 hd0
        have hk1 : (k : Int) < (l.length : Int) := by omega
        have hk2 : (k : Int) < (m.length : Int) := by omega
        have hk0 : (0 : Int) ≤ (k : Int) := by omega
        go_wp2_with fail
        refine region_kept wr.heap.size (by kernel_rfl) (by kernel_rfl) ?_
        repeat (go_big_quiet_step (fail))
        refine wpQuiet_nil ?_
        intro w1 hb1
        have hb' : Below w.heap.size w w1 := hb.trans (hb1.mono hb.size)
        clear hb hb1 hx hy
        by_cases hl : l[k] = m[k]
        · have ht : (l[k] != m[k]) = false := by simp [hl]
          have HE := Lib.hid hl; clear hl
          go_wp2
          go_roundw
          case rel => exact ⟨k + 1, by omega, by go_num, by rw [List.take_succ_eq_append_getElem hlt, List.take_succ_eq_append_getElem hkg, HS.out, HE.out], hb'⟩
          case measure => simp [intOf]; omega
        · have ht : (l[k] != m[k]) = true := by simp [hl]
          have HE := Lib.hid hl; clear hl
          go_wp2
          go_ret
          exact ⟨ret_bool (by symm; apply decide_eq_false; intro he; apply HE.out; subst he; rfl), hb'⟩
      · obtain rfl : k = l.length := by omega
        go_wp2
        go_ret
        exact ⟨ret_bool (by
          symm; apply decide_eq_true
          have e := HS.out
          rw [List.take_length, HL.out, List.take_length] at e
          exact e), hb⟩
  · have H := Lib.hid h
    have h' : ((l.length : Int) != (m.length : Int)) = true := by simp; omega
    clear h
    go_enter Try.func42, Try.ntmps42
    go_wp2
    go_ret
    exact ⟨ret_bool (by symm; apply decide_eq_false; intro he; apply H.out; rw [he]), Below.refl _ _⟩

/-- The marks k, k+1, .. -/
def marks (k : Int) (n : Nat) : List Int := (List.range n).map fun i : Nat => k + (i : Int)
theorem marks_len (k : Int) (n : Nat) : (marks k n).length = n := by simp [marks]
theorem marks_get (k : Int) (n i : Nat) (h : i < (marks k n).length) : (marks k n)[i] = k + (i : Int) := by simp [marks]

theorem heldIntS_any (k : Int) (n : Nat) (A : Option Addr) (c : Nat) (w : World) (hf : IntsIn w A (marks k n)) (h0 : 0 ≤ k) (hn : k + (n : Int) ≤ 16777216) :
    Calls Try.prog 44 #[.slice A n c, .int .i64 k] w fun e w' => e = .returned (.int .i64 (k + (n : Int))) ∧ w = w' := by
  have HF := Lib.hid hf; clear hf
  go_enter Try.func44, Try.ntmps44
  go_wp2
  go_loop [1, 5] (fun q i => ∃ (j : Nat), j ≤ n ∧ i = .int .i64 j ∧ q = .int .i64 (k + (j : Int))) (fun _ i => n - (intOf i).toNat)
  case atStart => exact ⟨0, Nat.zero_le _, rfl, by simp⟩
  case round =>
    obtain ⟨j, hj, rfl, rfl⟩ := hrel
    by_cases hlt : j < n
    · obtain ⟨b, off, rfl, hbl, hc⟩ := HF.out (by rw [marks_len]; omega)
      have hc0 := hc j (by rw [marks_len]; exact hlt)
      rw [marks_get] at hc0
      clear hc
      have ht : (k + (j : Int) != k + (j : Int)) = false := by simp
      go_wp2
      go_round
      case rel => exact ⟨j + 1, by omega, by go_num, by rw [show k + ((j + 1 : Nat) : Int) = k + (j : Int) + 1 from by omega]⟩
      case measure => simp [intOf]; omega
    · obtain rfl : j = n := by omega
      go_wp2
      go_ret
      exact ⟨rfl, rfl⟩

theorem grown_set {w w' : World} {g : Nat} (h : w.grownBy w' (some g)) (j : Nat) (u : Value) : w.grownBy (w'.setCell ⟨g, j, none⟩ u) (some g) :=
  ⟨h.os, h.tape, h.output, by simpa [World.setCell] using h.size, fun i hi hne => (Below.heap_setCell w' _ u i (by rintro rfl; exact hne rfl)).trans (h.block i hi hne)⟩
theorem grown_below {w w1 w' : World} {row : Option Nat} (h : w.grownBy w1 row) (hb : Below w1.heap.size w1 w') : w.grownBy w' row :=
  ⟨hb.os.trans h.os, hb.tape.trans h.tape, hb.output.trans h.output, Nat.le_trans h.size hb.size, fun i hi hne => (hb.block i (Nat.lt_of_lt_of_le hi h.size)).trans (h.block i hi hne)⟩

/-- The first j cells of block g hold the marks. -/
def Marked (w : World) (g : Nat) (e : TypeId) (cap : Nat) (l : List Value) : Prop := ∃ cur : Array Value, w.heap[g]? = some (.cells cur e (0, 0)) ∧ cur.size = cap ∧ cur.toList.take l.length = l
theorem Marked.at_ {w : World} {g cap j : Nat} {e : TypeId} {l : List Value} (h : Marked w g e cap l) (hj : j < cap) : (∃ u, w.cell? ⟨g, j, none⟩ = some u) ∧ w.frozen? ⟨g, j, none⟩ = false := by
  obtain ⟨cur, h1, h2, _⟩ := h
  exact ⟨⟨_, (cell_of_heap h1 j).trans (Array.getElem?_eq_getElem (by omega))⟩, free_of_heap h1 j⟩
theorem Marked.step {w : World} {g cap : Nat} {e : TypeId} {l : List Value} (h : Marked w g e cap l) (hj : l.length < cap) (u : Value) : Marked (w.setCell ⟨g, l.length, none⟩ u) g e cap (l ++ [u]) := by
  obtain ⟨cur, h1, h2, h3⟩ := h
  refine ⟨_, heap_set h1 u, by simpa using h2, ?_⟩
  rw [List.length_append, Array.toList_setIfInBounds, show l.length + [u].length = l.length + 1 from rfl, List.take_succ_eq_append_getElem (by simp; omega), List.take_set_of_le (Nat.le_refl _), h3]
  simp
theorem Marked.below {w w' : World} {g cap : Nat} {e : TypeId} {l : List Value} (h : Marked w g e cap l) (hb : Below w.heap.size w w') : Marked w' g e cap l := by
  obtain ⟨cur, h1, h2⟩ := h
  exact ⟨cur, (hb.block g (lt_of_heap h1)).trans h1, h2⟩
theorem marks_succ (k : Int) (j : Nat) : marks k (j + 1) = marks k j ++ [k + (j : Int)] := by simp [marks, List.range_succ]

theorem markIntS_any (k : Int) (n base : Nat) (v : Value) (xs : List Value) (w : World) (hown : w.ownsRow base 3 1 v n xs) (h0 : 0 ≤ k) (hn : k + (n : Int) ≤ 16777216) :
    Calls Try.prog 43 #[v, .int .i64 k] w fun e w' => e = .returned (.int .i64 (k + (n : Int))) ∧ w.grownBy w' v.ownBlock ∧ w'.ownsRow base 3 1 v n (intsZ (marks k n)) := by
  rcases hown.2 with ⟨rfl, rfl⟩ | ⟨g, cap, cur, rfl, hg, hh, h1, h2, h3, h4⟩
  · go_enter Try.func43, Try.ntmps43
    go_wp2
    go_loop [1, 5] (fun q i => i = .int .i64 0 ∧ q = .int .i64 k) (fun _ i => 0)
    case atStart => exact ⟨rfl, rfl⟩
    case round =>
      obtain ⟨rfl, rfl⟩ := hrel
      go_wp2
      go_ret
      exact ⟨ret_int (by simp), World.grownBy.refl _ _, own_nil _ _ _ _⟩
  · have hst : Marked w g 3 cap (intsZ (marks k 0)) := ⟨cur, hh, by simpa using h3, by simp [marks, intsZ]⟩
    have HST := Lib.hid hst
    clear hst hh h3 h4 hown
    go_enter Try.func43, Try.ntmps43
    go_wp2
    go_loopw [1, 5] (fun q i wr => ∃ (j : Nat), j ≤ n ∧ i = .int .i64 j ∧ q = .int .i64 (k + (j : Int)) ∧ Marked wr g 3 cap (intsZ (marks k j)) ∧ w.grownBy wr (some g)) (fun _ i _ => n - (intOf i).toNat)
    case atStart => exact ⟨0, Nat.zero_le _, rfl, by simp, HST.out, World.grownBy.refl _ _⟩
    case round =>
      obtain ⟨j, hj, rfl, rfl, hm, hgr⟩ := hrel
      by_cases hlt : j < n
      · obtain ⟨⟨u, hu⟩, hfz⟩ := hm.at_ (j := j) (by omega)
        have hl : (intsZ (marks k j)).length = j := by simp [intsZ, marks_len]
        have hst := hm.step (by rw [hl]; omega) (.int .i64 (k + (j : Int)))
        rw [hl] at hst
        have HM : Hid (Marked (wr.setCell ⟨g, j, none⟩ (.int .i64 (k + (j : Int)))) g 3 cap (intsZ (marks k (j + 1)))) := by rw [marks_succ]; show Marked _ _ _ _ (List.map _ _); rw [List.map_append]; exact hst
        have HG := Lib.hid (grown_set hgr j (.int .i64 (k + (j : Int))))
        clear hm hl hst hgr
        go_wp2
        go_roundw
        case rel => exact ⟨j + 1, by omega, by go_num, by rw [show k + ((j + 1 : Nat) : Int) = k + (j : Int) + 1 from by omega], HM.out, HG.out⟩
        case measure => simp [intOf]; omega
      · obtain rfl : j = n := by omega
        go_wp2
        go_ret
        refine ⟨rfl, hgr, by simp [intsZ, marks_len], .inr ?_⟩
        obtain ⟨cur', g1, g2, g3⟩ := hm
        exact ⟨g, cap, cur', rfl, hg, g1, h1, h2, by simpa using g2, by simpa [intsZ, marks_len] using g3⟩
end Go.Proofs.Ytpbkeagpipipmaa.S1

/-
  The contracts of laws.markText and laws.markSortS: a mark's text is a function of its number; marking a slice of sorts of the call's own writes into that slice alone.
-/
namespace Go.Proofs.Ytpbkeagpipipmaa.S1
open Go.RowKit
set_option linter.unusedVariables false

def digB (j : Nat) : UInt8 := UInt8.ofNat (48 + j % 10)
theorem digB_int (j : Nat) : ((digB j).toNat : Int) = 48 + (j : Int) % 10 := by
  unfold digB
  rw [UInt8.toNat_ofNat', Nat.mod_eq_of_lt (by omega)]; omega
def digs : Nat → Nat → List UInt8 → List UInt8
  | 0, _, acc => acc
  | n + 1, k, acc => if k = 0 then acc else digs n (k / 10) (digB k :: acc)
theorem digs_step {n j : Nat} (acc : List UInt8) (h : j ≤ n) (hj : 0 < j) : ∃ m, j / 10 ≤ m ∧ digs n j acc = digs m (j / 10) (digB j :: acc) := by
  cases n with
  | zero => omega
  | succ n => exact ⟨n, by omega, by simp only [digs]; rw [if_neg (by omega)]⟩
theorem digs_end (n : Nat) (acc : List UInt8) : digs n 0 acc = acc := by cases n <;> simp [digs]
def markT (k : Nat) : ByteArray := ⟨((109 : UInt8) :: digs k k []).toArray⟩
theorem bytes_cons (a : UInt8) (b : List UInt8) : (⟨#[a]⟩ : ByteArray) ++ ⟨b.toArray⟩ = ⟨(a :: b).toArray⟩ := by
  apply ByteArray.ext
  apply Array.ext'
  simp
theorem ret_str {a b : ByteArray} (h : a = b) : Ending.returned (.string a) = .returned (.string b) := by rw [h]

set_option maxRecDepth 100000 in
theorem markText_any (k : Nat) (w : World) (h0 : 1 ≤ k) (hk : k ≤ 16777216) :
    Calls Try.prog 80 #[.int .i64 k] w fun e w' => e = .returned (.string (markT k)) ∧ Below w.heap.size w w' := by
  have h1 : ¬ (k : Int) ≤ 0 := by omega
  go_enter Try.func80, Try.ntmps80
  go_wp2
  go_loopw [0, 3] (fun q o wr => ∃ (n j : Nat) (acc : List UInt8), j ≤ n ∧ acc.length + j ≤ 16777216 ∧ q = .int .i64 j ∧ o = .string ⟨acc.toArray⟩ ∧ digs k k [] = digs n j acc ∧ Below w.heap.size w wr) (fun q _ _ => (intOf q).toNat)
  case atStart => exact ⟨k, k, [], Nat.le_refl _, by simpa using hk, rfl, rfl, rfl, Below.refl _ _⟩
  case round =>
    obtain ⟨n, j, acc, hj, hjb, rfl, rfl, hd, hb⟩ := hrel
    have HD := Lib.hid hd; clear hd
    by_cases hlt : 0 < j
    · have h2 : 0 < (j : Int) := by omega
      have hbyte := digB_int j
      obtain ⟨m, hm, hst⟩ := digs_step acc hj hlt
      have HM := Lib.hid hst
      have HBY := Lib.hid hbyte
      have hcv : ∀ W : World, W.cell? ⟨wr.heap.size, 0, none⟩ = some (.int .u8 (48 + (j : Int) % 10)) → (convert 22 9 (.slice (some ⟨wr.heap.size, 0, none⟩) 1 1)).run Try.prog W = .ok (.string ⟨([digB j] : List UInt8).toArray⟩) W := fun W hW =>
        run_convert_bytes_back (P := Try.prog) W 22 9 5 ⟨wr.heap.size, 0, none⟩ 1 [digB j] Try.underlying22 Try.underlying5 Try.underlying9 (fun i hi => by
          obtain rfl : i = 0 := by simp at hi; omega
          rw [show ([digB j] : List UInt8)[0] = digB j from rfl, HBY.out]
          exact hW)
      have hlen : ¬ (9223372036854775807 : Nat) < 1 + acc.length := by omega
      have HB := Lib.hid (hb.alloc hb.size (.cells #[.int .u8 (48 + (j : Int) % 10)] 5))
      clear hbyte hst hb
      go_wp2
      go_roundw
      case rel => exact ⟨m, j / 10, digB j :: acc, hm, by simp; omega, by go_num, congrArg Value.string (bytes_cons _ _), by rw [HD.out, HM.out], HB.out⟩
      case measure => simp [intOf]; omega
    · obtain rfl : j = 0 := by omega
      have hfin : Hid (markT k = ⟨((109 : UInt8) :: acc).toArray⟩) := by show markT k = _; unfold markT; rw [HD.out, digs_end]
      have hlen : ¬ (9223372036854775807 : Nat) < 1 + acc.length := by omega
      go_wp2
      go_ret
      exact ⟨ret_str ((bytes_cons _ _).trans hfin.out.symm), hb⟩

/-- The cells of marked sorts from k on. -/
def markF : Nat → Nat → List (ByteArray × Int)
  | _, 0 => []
  | k, n + 1 => (markT k, (k : Int) + 1) :: markF (k + 2) n
theorem markF_succ : ∀ (n k : Nat), markF k (n + 1) = markF k n ++ [(markT (k + 2 * n), (k : Int) + 2 * (n : Int) + 1)]
  | 0, k => by simp [markF]
  | n + 1, k => by
    rw [markF, markF_succ n (k + 2)]
    simp only [markF, List.cons_append]
    rw [show k + 2 + 2 * n = k + 2 * (n + 1) from by omega, show ((k + 2 : Nat) : Int) + 2 * (n : Int) + 1 = (k : Int) + 2 * ((n + 1 : Nat) : Int) + 1 from by omega]
theorem markF_len (k n : Nat) : (markF k n).length = n := by induction n generalizing k with
  | zero => rfl
  | succ n ih => simp [markF, ih]

theorem markSortS_any (k n base : Nat) (v : Value) (xs : List Value) (w : World) (hown : w.ownsRow base 91 2 v n xs) (h0 : 1 ≤ k) (hn : k + 2 * n ≤ 16777216) :
    Calls Try.prog 51 #[v, .int .i64 k] w fun e w' => e = .returned (.int .i64 ((k + 2 * n : Nat) : Int)) ∧ w.grownBy w' v.ownBlock ∧ w'.ownsRow base 91 2 v n (flat (markF k n)) := by
  rcases hown.2 with ⟨rfl, rfl⟩ | ⟨g, cap, cur, rfl, hg, hh, h1, h2, h3, h4⟩
  · go_enter Try.func51, Try.ntmps51
    go_wp2
    go_loop [1, 5] (fun q i => i = .int .i64 0 ∧ q = .int .i64 k) (fun _ i => 0)
    case atStart => exact ⟨rfl, rfl⟩
    case round =>
      obtain ⟨rfl, rfl⟩ := hrel
      go_wp2
      go_ret
      exact ⟨ret_int (by simp), World.grownBy.refl _ _, own_nil _ _ _ _⟩
  · have hst : Marked w g 91 (cap * 2) (flat (markF k 0)) := ⟨cur, hh, by simpa using h3, by simp [markF, flat]⟩
    have HST := Lib.hid hst
    clear hst hh h3 h4 hown
    go_enter Try.func51, Try.ntmps51
    go_wp2
    go_loopw [1, 5] (fun q i wr => ∃ (j q0 : Nat), j ≤ n ∧ i = .int .i64 j ∧ q = .int .i64 q0 ∧ q0 = k + 2 * j ∧ Marked wr g 91 (cap * 2) (flat (markF k j)) ∧ w.grownBy wr (some g)) (fun _ i _ => n - (intOf i).toNat)
    case atStart => exact ⟨0, k, Nat.zero_le _, rfl, rfl, rfl, HST.out, World.grownBy.refl _ _⟩
    case round =>
      obtain ⟨j, q0, hj, rfl, rfl, hq, hm, hgr⟩ := hrel
      have HQ := Lib.hid hq
      by_cases hlt : j < n
      · have hq1 : q0 + 2 ≤ 16777216 := by omega
        have hq2 : 1 ≤ q0 := by omega
        clear hq
        go_wp2_with fail
        refine (markText_any q0 _ hq2 (by omega)).mono ?_
        rintro e w1 ⟨rfl, hb1⟩
        have hm1 := hm.below hb1
        have hg1 := grown_below hgr hb1
        clear hm hgr hb1
        obtain ⟨⟨u, hu⟩, hfz⟩ := hm1.at_ (j := j * 2) (by omega)
        have hl : (flat (markF k j)).length = j * 2 := by rw [flat_len, markF_len]; omega
        have hst := hm1.step (by rw [hl]; omega) (.string (markT q0))
        rw [hl] at hst
        obtain ⟨⟨u1, hu1⟩, hfz1⟩ := hst.at_ (j := j * 2 + 1) (by omega)
        have hst2 := hst.step (by rw [List.length_append, hl]; show j * 2 + 1 < _; omega) (.int .i64 ((q0 : Int) + 1))
        have HM : Hid (Marked ((w1.setCell ⟨g, j * 2, none⟩ (.string (markT q0))).setCell ⟨g, j * 2 + 1, none⟩ (.int .i64 ((q0 : Int) + 1))) g 91 (cap * 2) (flat (markF k (j + 1)))) := by
          rw [markF_succ, flat_snoc]
          have hq := HQ.out
          rw [show markT (k + 2 * j) = markT q0 from by rw [hq], show (k : Int) + 2 * (j : Int) + 1 = (q0 : Int) + 1 from by omega]
          rw [List.length_append, hl] at hst2
          rw [List.append_assoc] at hst2
          exact hst2
        have HG := Lib.hid (grown_set (grown_set hg1 (j * 2) (.string (markT q0))) (j * 2 + 1) (.int .i64 ((q0 : Int) + 1)))
        clear hm1 hst hst2 hl hg1
        go_wp2
        go_roundw
        case rel => exact ⟨j + 1, q0 + 2, by omega, by go_num, by go_num, by have := HQ.out; omega, HM.out, HG.out⟩
        case measure => simp [intOf]; omega
      · obtain rfl : j = n := by omega
        subst hq
        go_wp2
        go_ret
        refine ⟨rfl, hgr, by rw [flat_len, markF_len]; omega, .inr ?_⟩
        obtain ⟨cur', g1, g2, g3⟩ := hm
        exact ⟨g, cap, cur', rfl, hg, g1, h1, h2, by simpa using g2, by rw [flat_len, markF_len, Nat.mul_comm] at g3; exact g3⟩
end Go.Proofs.Ytpbkeagpipipmaa.S1

/-
  Plain facts on rows of the call's own, for the walks of the laws: where a row lies, and that it stays while another row is written.
-/
namespace Go.Proofs.Ytpbkeagpipipmaa.S1
open Go.RowKit
set_option linter.unusedVariables false

def intL (l : List Nat) : List Int := l.map fun i : Nat => (i : Int)
theorem intL_len (l : List Nat) : (intL l).length = l.length := by simp [intL]
theorem SetsTo.get {w w' : World} {e : Ending} {r : Option (List Nat)} (h : SetsTo w w' e r) :
    ∃ v, e = .returned (.tuple #[v, .bool r.isSome]) ∧ Below w.heap.size w w' ∧ w'.ownsRow w.heap.size 3 1 v (intL (r.getD [])).length (intsZ (intL (r.getD []))) := by
  cases r with
  | none =>
    obtain ⟨hb, rfl⟩ := h
    exact ⟨_, rfl, hb, own_nil _ _ _ _⟩
  | some l =>
    obtain ⟨hb, v, rfl, ho⟩ := h
    refine ⟨v, rfl, hb, ?_⟩
    rw [ints_Z] at ho
    show _ ∧ _
    rw [show (intL ((some l).getD [])).length = l.length from intL_len l]
    exact ho
theorem own_up {w : World} {base size n : Nat} {e : TypeId} {v : Value} {xs : List Value} (h : w.ownsRow base e size v n xs) : w.ownsRow 0 e size v n xs :=
  ⟨h.1, h.2.imp id fun ⟨g, cap, cur, a, _, c⟩ => ⟨g, cap, cur, a, Nat.zero_le _, c⟩⟩
/-- A row lies below the heap's end. -/
theorem own_bound {w : World} {base size n : Nat} {e : TypeId} {v : Value} {xs : List Value} (h : w.ownsRow base e size v n xs) : ∀ k, v.ownBlock = some k → k < w.heap.size := fun k hk => (h.lt k hk).2
theorem own_from {w : World} {base size n X : Nat} {e : TypeId} {v : Value} {xs : List Value} (h : w.ownsRow base e size v n xs) (hX : X < base) : ∀ k, v.ownBlock = some k → X < k := fun k hk => Nat.lt_of_lt_of_le hX (h.lt k hk).1
theorem own_block_lt {w : World} {base size n X : Nat} {e : TypeId} {v : Value} {xs : List Value} (h : w.ownsRow base e size v n xs) (hX : v.ownBlock = some X) : X < w.heap.size := (h.lt X hX).2
theorem own_grown {w w' : World} {base size n : Nat} {e : TypeId} {v : Value} {xs : List Value} {row : Option Nat} (h : w.ownsRow base e size v n xs) (hg : w.grownBy w' row) (hne : ∀ k, v.ownBlock = some k → row ≠ some k) : w'.ownsRow base e size v n xs :=
  h.kept hg (by
    cases hv : v.ownBlock with
    | none => exact .inl rfl
    | some k => exact .inr fun e => hne k hv e.symm)
theorem Fresh.own {w : World} {b : Nat} {f : List (ByteArray × Int)} (h : Fresh w b f) (hn : f.length ≤ maxLen) : w.ownsRow 0 91 2 (.slice (some ⟨b, 0, none⟩) f.length f.length) f.length (flat f) :=
  ⟨by rw [flat_len]; omega, .inr ⟨b, f.length, _, rfl, Nat.zero_le _, h, Nat.le_refl _, hn, by simp [flat_len]; omega, List.take_of_length_le (by simp [flat_len]; omega)⟩⟩
theorem own_form {w : World} {base n : Nat} {e : TypeId} {v : Value} {l : List Int} (h : w.ownsRow base e 1 v n (intsZ l)) : ∃ A c, v = .slice A l.length c := by
  obtain ⟨A, c, hv, _, _⟩ := own_ints h
  exact ⟨A, c, hv⟩
theorem own_in {w : World} {base n m c : Nat} {e : TypeId} {A : Option Addr} {l : List Int} (h : w.ownsRow base e 1 (.slice A m c) n (intsZ l)) : IntsIn w A l := by
  obtain ⟨A', c', hv, _, hi⟩ := own_ints h
  injection hv with h1
  subst h1
  exact hi
theorem setF_len {f : List (ByteArray × Int)} {s : ByteArray} : ∀ {n p : Nat} {l : List Nat}, setF f s n p = some l → l.length ≤ n
  | 0, p, l, h => by
    simp only [setF] at h
    split at h
    · simp at h; subst h; simp
    · cases h
  | n + 1, p, l, h => by
    simp only [setF] at h
    split at h
    · simp at h; subst h; simp
    · split at h
      · cases h
      · rename_i i _
        cases hr : setF f s n (p + (codeAt f i).length) with
        | none => rw [hr] at h; cases h
        | some m =>
          rw [hr] at h
          simp at h
          subst h
          have := setF_len hr
          simp; omega
theorem sow_len (f : List (ByteArray × Int)) (s : ByteArray) : (intL ((sowF f s).getD [])).length ≤ 16 := by
  rw [intL_len]
  unfold sowF
  split
  · rename_i h
    simp only [Bool.and_eq_true] at h
    have := isWord_len h.2
    cases hr : setW f s with
    | none => simp
    | some l =>
      have := setF_len hr
      simp; omega
  · simp
end Go.Proofs.Ytpbkeagpipipmaa.S1

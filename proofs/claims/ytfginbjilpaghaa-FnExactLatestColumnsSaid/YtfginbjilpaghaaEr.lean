/-
  What the laws hand over, as rows of the call's own: copies of slices of entries; the marks of entries.
-/
import Derived.Test.YtfginbjilpaghaaVr
import Derived.Test.YtfginbjilpaghaaVb
namespace Go.Proofs.Ytfginbjilpaghaa
open Go.RowKit
set_option linter.unusedVariables false

theorem own_en {w : World} {base n : Nat} {e : TypeId} {v : Value} {l : List En} (h : w.ownsRow base e 3 v n (flatEn l)) : ∃ A c, v = .slice A l.length c ∧ n = l.length ∧ EnsIn w A l := by
  have hn : n = l.length := by have := h.1; rw [flatEn_len] at this; omega
  subst hn
  rcases h.2 with ⟨rfl, h0⟩ | ⟨g, cap, cur, rfl, hg, hh, h1, h2, h3, h4⟩
  · exact ⟨none, 0, by rw [h0], rfl, fun h => absurd h (by omega)⟩
  · refine ⟨_, _, rfl, rfl, fun _ => ⟨g, 0, rfl, lt_of_heap hh, fun k hk => ?_⟩⟩
    have hgt := flatEn_get l k hk
    rw [Nat.zero_add, h.cellAt (k * 3) (by omega), h.cellAt (k * 3 + 1) (by omega), h.cellAt (k * 3 + 2) (by omega)]
    exact hgt
theorem own_in_en {w : World} {base n m c : Nat} {e : TypeId} {A : Option Addr} {l : List En} (h : w.ownsRow base e 3 (.slice A m c) n (flatEn l)) : EnsIn w A l := by
  obtain ⟨A', c', hv, _, hi⟩ := own_en h
  injection hv with h1
  subst h1
  exact hi
theorem own_form_en {w : World} {base n : Nat} {e : TypeId} {v : Value} {l : List En} (h : w.ownsRow base e 3 v n (flatEn l)) : ∃ A c, v = .slice A l.length c := by
  obtain ⟨A, c, h1, _⟩ := own_en h
  exact ⟨A, c, h1⟩
theorem toEnOwn_any (f : List En) (A : Option Addr) (c : Nat) (w : World) (hf : EnsIn w A f) (hn : f.length ≤ 1048576) :
    Calls Try.prog 16 #[.slice A f.length c] w fun e w' => e = .returned (.slice (some ⟨w.heap.size, 0, none⟩) f.length f.length) ∧ Below w.heap.size w w' ∧ w'.ownsRow 0 45 3 (.slice (some ⟨w.heap.size, 0, none⟩) f.length f.length) f.length (flatEn f) :=
  (toEntryS_any f A c w hf hn).mono fun _ _ ⟨h1, h2, h3⟩ => ⟨h1, h2, h3.ownsRow (by rw [flatEn_len]; omega) (by unfold maxLen; omega)⟩
/-- Block b has n cells, none of them frozen. -/
def HasRow (w : World) (b : Nat) (t : TypeId) (n : Nat) : Prop := ∃ cur : Array Value, w.heap[b]? = some (.cells cur t (0, 0)) ∧ cur.size = n
theorem HasRow.at_ {w : World} {b n j : Nat} {t : TypeId} (h : HasRow w b t n) (hj : j < n) : (∃ u, w.cell? ⟨b, j, none⟩ = some u) ∧ w.frozen? ⟨b, j, none⟩ = false := by
  obtain ⟨cur, h1, h2⟩ := h
  exact ⟨⟨_, (cell_of_heap h1 j).trans (Array.getElem?_eq_getElem (by omega))⟩, free_of_heap h1 j⟩
theorem HasRow.set {w : World} {b n : Nat} {t : TypeId} (h : HasRow w b t n) (j : Nat) (u : Value) : HasRow (w.setCell ⟨b, j, none⟩ u) b t n := by
  obtain ⟨cur, h1, h2⟩ := h
  exact ⟨_, heap_set h1 u, by simpa using h2⟩

set_option maxRecDepth 100000 in
set_option maxHeartbeats 1000000 in
theorem markEnRow_any (k : Int) (n b c m : Nat) (w : World) (h : HasRow w b 45 m) (hm : n * 3 ≤ m) (h0 : 0 ≤ k) (hn : k + 3 * (n : Int) ≤ 16777216) :
    Calls Try.prog 22 #[.slice (some ⟨b, 0, none⟩) n c, .int .i64 k] w fun e w' => e = .returned (.int .i64 (k + 3 * (n : Int))) ∧ w.grownBy w' (some b) := by
  have HH := Lib.hid h; clear h
  go_enter Try.func22, Try.ntmps22
  go_wp2
  go_loopw [1, 5] (fun q i wr => ∃ (j : Nat) (q0 : Int), j ≤ n ∧ i = .int .i64 j ∧ q = .int .i64 q0 ∧ q0 = k + 3 * (j : Int) ∧ HasRow wr b 45 m ∧ w.grownBy wr (some b)) (fun _ i _ => n - (intOf i).toNat)
  case atStart => exact ⟨0, k, Nat.zero_le _, rfl, rfl, by simp, HH.out, World.grownBy.refl _ _⟩
  case round =>
    obtain ⟨j, q0, hj, rfl, rfl, hq, hr, hg⟩ := hrel
    have HQ := Lib.hid hq
    by_cases hlt : j < n
    · have hq1 : q0 + 3 ≤ 16777216 := by omega
      have hq2 : 0 ≤ q0 := by omega
      obtain ⟨⟨u0, e0⟩, f0⟩ := hr.at_ (j := j * 3) (by omega)
      obtain ⟨⟨u1, e1⟩, f1⟩ := hr.at_ (j := j * 3 + 1) (by omega)
      obtain ⟨⟨u2, e2⟩, f2⟩ := hr.at_ (j := j * 3 + 2) (by omega)
      have HG := Lib.hid (grown_set (grown_set (grown_set hg (j * 3) (.int .i64 q0)) (j * 3 + 1) (.int .i64 (q0 + 1))) (j * 3 + 2) (.int .i64 (q0 + 1 + 1)))
      have HR := Lib.hid (((hr.set (j * 3) (.int .i64 q0)).set (j * 3 + 1) (.int .i64 (q0 + 1))).set (j * 3 + 2) (.int .i64 (q0 + 1 + 1)))
      clear hr hg hq
      go_wp2
      go_roundw
      case rel => exact ⟨j + 1, _, by omega, by go_num, rfl, by have := HQ.out; omega, HR.out, HG.out⟩
      case measure => simp [intOf]; omega
    · obtain rfl : j = n := by omega
      subst hq
      go_wp2
      go_ret
      exact ⟨rfl, hg⟩
theorem markEnOwn_any (k : Nat) (n base : Nat) (b : Nat) (xs : List Value) (w : World) (hown : w.ownsRow base 45 3 (.slice (some ⟨b, 0, none⟩) n n) n xs) (hn : k + 3 * n ≤ 16777216) :
    Calls Try.prog 22 #[.slice (some ⟨b, 0, none⟩) n n, .int .i64 (k : Int)] w fun e w' => e = .returned (.int .i64 ((k + 3 * n : Nat) : Int)) ∧ w.grownBy w' (Value.slice (some ⟨b, 0, none⟩) n n).ownBlock := by
  rcases hown.2 with ⟨h, _⟩ | ⟨g, cap, cur, hv, hg, hh, h1, h2, h3, h4⟩
  · cases h
  · injection hv with e1 e2 e3
    have e4 := Option.some.inj e1
    rw [Addr.mk.injEq] at e4
    obtain ⟨rfl, _, _⟩ := e4
    exact (markEnRow_any k n b n _ w ⟨cur, hh, h3⟩ (Nat.mul_le_mul_right _ h1) (by omega) (by omega)).mono fun e w' ⟨h5, h6⟩ => ⟨by rw [h5]; congr 2, h6⟩
/-- Marked entries from k on. -/
def markEn (k n : Nat) : List En := (List.range n).map fun i => ⟨((k + 3 * i : Nat) : Int), ((k + 3 * i + 1 : Nat) : Int), ((k + 3 * i + 2 : Nat) : Int)⟩
theorem markEn_len (k n : Nat) : (markEn k n).length = n := by simp [markEn]
theorem markEn_get (k n i : Nat) (h : i < (markEn k n).length) : (markEn k n)[i] = ⟨((k + 3 * i : Nat) : Int), ((k + 3 * i + 1 : Nat) : Int), ((k + 3 * i + 2 : Nat) : Int)⟩ := by simp [markEn]
theorem markEn_succ (k j : Nat) : markEn k (j + 1) = markEn k j ++ [⟨((k + 3 * j : Nat) : Int), ((k + 3 * j + 1 : Nat) : Int), ((k + 3 * j + 2 : Nat) : Int)⟩] := by simp [markEn, List.range_succ]
set_option maxRecDepth 100000 in
set_option maxHeartbeats 1000000 in
theorem markEntryS_any (k n base : Nat) (E : TypeId) (v : Value) (xs : List Value) (w : World) (hown : w.ownsRow base E 3 v n xs) (h0 : 1 ≤ k) (hn : k + 3 * n ≤ 16777216) :
    Calls Try.prog 22 #[v, .int .i64 k] w fun e w' => e = .returned (.int .i64 ((k + 3 * n : Nat) : Int)) ∧ w.grownBy w' v.ownBlock ∧ w'.ownsRow base E 3 v n (flatEn (markEn k n)) := by
  rcases hown.2 with ⟨rfl, rfl⟩ | ⟨g, cap, cur, rfl, hg, hh, h1, h2, h3, h4⟩
  · go_enter Try.func22, Try.ntmps22
    go_wp2
    go_loop [1, 5] (fun q i => i = .int .i64 0 ∧ q = .int .i64 k) (fun _ i => 0)
    case atStart => exact ⟨rfl, rfl⟩
    case round =>
      obtain ⟨rfl, rfl⟩ := hrel
      go_wp2
      go_ret
      exact ⟨ret_int (by simp), World.grownBy.refl _ _, own_nil _ _ _ _⟩
  · have hst : Marked w g E (cap * 3) (flatEn (markEn k 0)) := ⟨cur, hh, by simpa using h3, by simp [markEn, flatEn]⟩
    have HST := Lib.hid hst
    clear hst hh h3 h4 hown
    go_enter Try.func22, Try.ntmps22
    go_wp2
    go_loopw [1, 5] (fun q i wr => ∃ (j q0 : Nat), j ≤ n ∧ i = .int .i64 j ∧ q = .int .i64 q0 ∧ q0 = k + 3 * j ∧ Marked wr g E (cap * 3) (flatEn (markEn k j)) ∧ w.grownBy wr (some g)) (fun _ i _ => n - (intOf i).toNat)
    case atStart => exact ⟨0, k, Nat.zero_le _, rfl, rfl, rfl, HST.out, World.grownBy.refl _ _⟩
    case round =>
      obtain ⟨j, q0, hj, rfl, rfl, hq, hm, hgr⟩ := hrel
      have HQ := Lib.hid hq
      by_cases hlt : j < n
      · have hq1 : q0 + 3 ≤ 16777216 := by omega
        have hq2 : 1 ≤ q0 := by omega
        clear hq
        have hl : (flatEn (markEn k j)).length = j * 3 := by rw [flatEn_len, markEn_len]; omega
        obtain ⟨⟨u0, hu0⟩, hfz0⟩ := hm.at_ (j := j * 3) (by omega)
        have m0 : Marked (wr.setCell ⟨g, j * 3, none⟩ (.int .i64 (q0 : Int))) g E (cap * 3) (flatEn (markEn k j) ++ [.int .i64 (q0 : Int)]) := hm.stepAt (j * 3) (by simp only [hl]) (by omega) _
        obtain ⟨⟨u1, hu1⟩, hfz1⟩ := m0.at_ (j := j * 3 + 1) (by omega)
        have m1 : Marked ((wr.setCell ⟨g, j * 3, none⟩ (.int .i64 (q0 : Int))).setCell ⟨g, j * 3 + 1, none⟩ (.int .i64 ((q0 : Int) + 1))) g E (cap * 3) (flatEn (markEn k j) ++ [.int .i64 (q0 : Int)] ++ [.int .i64 ((q0 : Int) + 1)]) := m0.stepAt (j * 3 + 1) (by simp only [List.length_append, List.length_cons, List.length_nil, hl]) (by omega) _
        obtain ⟨⟨u2, hu2⟩, hfz2⟩ := m1.at_ (j := j * 3 + 2) (by omega)
        have m2 : Marked (((wr.setCell ⟨g, j * 3, none⟩ (.int .i64 (q0 : Int))).setCell ⟨g, j * 3 + 1, none⟩ (.int .i64 ((q0 : Int) + 1))).setCell ⟨g, j * 3 + 2, none⟩ (.int .i64 ((q0 : Int) + 1 + 1))) g E (cap * 3) (flatEn (markEn k j) ++ [.int .i64 (q0 : Int)] ++ [.int .i64 ((q0 : Int) + 1)] ++ [.int .i64 ((q0 : Int) + 1 + 1)]) := m1.stepAt (j * 3 + 2) (by simp only [List.length_append, List.length_cons, List.length_nil, hl]) (by omega) _
        have HM : Hid (Marked (((wr.setCell ⟨g, j * 3, none⟩ (.int .i64 (q0 : Int))).setCell ⟨g, j * 3 + 1, none⟩ (.int .i64 ((q0 : Int) + 1))).setCell ⟨g, j * 3 + 2, none⟩ (.int .i64 ((q0 : Int) + 1 + 1))) g E (cap * 3) (flatEn (markEn k (j + 1)))) := by
          show Marked _ _ _ _ _
          have hq := HQ.out
          rw [markEn_succ, flatEn_snoc]
          simp only [← hq]
          rw [show ((q0 + 1 : Nat) : Int) = (q0 : Int) + 1 from by omega, show ((q0 + 2 : Nat) : Int) = (q0 : Int) + 1 + 1 from by omega]
          simpa only [List.append_assoc, List.cons_append, List.nil_append] using m2
        have HG := Lib.hid (grown_set (grown_set (grown_set hgr (j * 3) (.int .i64 (q0 : Int))) (j * 3 + 1) (.int .i64 ((q0 : Int) + 1))) (j * 3 + 2) (.int .i64 ((q0 : Int) + 1 + 1)))
        clear hm m0 m1 m2 hl hgr
        go_wp2
        go_roundw
        case rel => exact ⟨j + 1, q0 + 3, by omega, by go_num, by go_num, by have := HQ.out; omega, HM.out, HG.out⟩
        case measure => simp [intOf]; omega
      · obtain rfl : j = n := by omega
        subst hq
        go_wp2
        go_ret
        refine ⟨rfl, hgr, by rw [flatEn_len, markEn_len]; omega, .inr ?_⟩
        obtain ⟨cur', g1, g2, g3⟩ := hm
        exact ⟨g, cap, cur', rfl, hg, g1, h1, h2, by simpa using g2, by rw [flatEn_len, markEn_len, Nat.mul_comm] at g3; exact g3⟩
set_option maxRecDepth 100000 in
theorem heldEntryS_any (k n : Nat) (A : Option Addr) (c : Nat) (w : World) (hf : EnsIn w A (markEn k n)) (h0 : 1 ≤ k) (hn : k + 3 * n ≤ 16777216) :
    Calls Try.prog 40 #[.slice A n c, .int .i64 k] w fun e w' => e = .returned (.int .i64 ((k + 3 * n : Nat) : Int)) ∧ w = w' := by
  have HF := Lib.hid hf; clear hf
  go_enter Try.func40, Try.ntmps40
  go_wp2
  go_loop [1, 5] (fun q i => ∃ (j q0 : Nat), j ≤ n ∧ i = .int .i64 j ∧ q = .int .i64 q0 ∧ q0 = k + 3 * j) (fun _ i => n - (intOf i).toNat)
  case atStart => exact ⟨0, k, Nat.zero_le _, rfl, rfl, rfl⟩
  case round =>
    obtain ⟨j, q0, hj, rfl, rfl, hq⟩ := hrel
    by_cases hlt : j < n
    · obtain ⟨b, off, rfl, hbl, hc⟩ := HF.out (by rw [markEn_len]; omega)
      obtain ⟨hc0, hc1, hc2⟩ := hc j (by rw [markEn_len]; exact hlt)
      rw [markEn_get] at hc0 hc1 hc2
      simp only [← hq] at hc0 hc1 hc2
      rw [show ((q0 + 1 : Nat) : Int) = (q0 : Int) + 1 from by omega] at hc1
      rw [show ((q0 + 2 : Nat) : Int) = (q0 : Int) + 1 + 1 from by omega] at hc2
      have hq1 : 1 ≤ q0 := by omega
      have hq2 : q0 + 3 ≤ 16777216 := by omega
      have HQ := Lib.hid hq
      have hn0 : ((q0 : Int) != (q0 : Int)) = false := by simp
      have hn1 : ((q0 : Int) + 1 != (q0 : Int) + 1) = false := by simp
      have hn2 : ((q0 : Int) + 1 + 1 != (q0 : Int) + 1 + 1) = false := by simp
      clear hc hq
      go_wp2
      go_round
      case rel => exact ⟨j + 1, q0 + 3, by omega, by go_num, by go_num, by have := HQ.out; omega⟩
      case measure => simp [intOf]; omega
    · obtain rfl : j = n := by omega
      subst hq
      go_wp2
      go_ret
      exact ⟨rfl, rfl⟩
end Go.Proofs.Ytfginbjilpaghaa

/-
  What the laws hand over, as rows of the call's own: copies of slices of slips; the marks of slips.
-/
import Derived.Test.YtljakcfdjcjdbaaVr
namespace Go.Proofs.Ytljakcfdjcjdbaa
open Go.RowKit
set_option linter.unusedVariables false

theorem own_sl {w : World} {base n : Nat} {e : TypeId} {v : Value} {l : List Sl} (h : w.ownsRow base e 2 v n (flatSl l)) : ∃ A c, v = .slice A l.length c ∧ n = l.length ∧ SlsIn w A l := by
  have hn : n = l.length := by have := h.1; rw [flatSl_len] at this; omega
  subst hn
  rcases h.2 with ⟨rfl, h0⟩ | ⟨g, cap, cur, rfl, hg, hh, h1, h2, h3, h4⟩
  · exact ⟨none, 0, by rw [h0], rfl, fun h => absurd h (by omega)⟩
  · refine ⟨_, _, rfl, rfl, fun _ => ⟨g, 0, rfl, lt_of_heap hh, fun k hk => ?_⟩⟩
    have hgt := flatSl_get l k hk
    rw [Nat.zero_add, h.cellAt (k * 2) (by omega), h.cellAt (k * 2 + 1) (by omega)]
    exact hgt
theorem own_in_sl {w : World} {base n m c : Nat} {e : TypeId} {A : Option Addr} {l : List Sl} (h : w.ownsRow base e 2 (.slice A m c) n (flatSl l)) : SlsIn w A l := by
  obtain ⟨A', c', hv, _, hi⟩ := own_sl h
  injection hv with h1
  subst h1
  exact hi
theorem toSlOwn_any (f : List Sl) (A : Option Addr) (c : Nat) (w : World) (hf : SlsIn w A f) (hn : f.length ≤ 1048576) :
    Calls Try.prog 16 #[.slice A f.length c] w fun e w' => e = .returned (.slice (some ⟨w.heap.size, 0, none⟩) f.length f.length) ∧ Below w.heap.size w w' ∧ w'.ownsRow 0 57 2 (.slice (some ⟨w.heap.size, 0, none⟩) f.length f.length) f.length (flatSl f) :=
  (toSlipS_any f A c w hf hn).mono fun _ _ ⟨h1, h2, h3⟩ => ⟨h1, h2, h3.ownsRow (by rw [flatSl_len]; omega) (by unfold maxLen; omega)⟩
/-- Block b has n cells, none of them frozen. -/
def HasRow (w : World) (b : Nat) (t : TypeId) (n : Nat) : Prop := ∃ cur : Array Value, w.heap[b]? = some (.cells cur t (0, 0)) ∧ cur.size = n
theorem HasRow.at_ {w : World} {b n j : Nat} {t : TypeId} (h : HasRow w b t n) (hj : j < n) : (∃ u, w.cell? ⟨b, j, none⟩ = some u) ∧ w.frozen? ⟨b, j, none⟩ = false := by
  obtain ⟨cur, h1, h2⟩ := h
  exact ⟨⟨_, (cell_of_heap h1 j).trans (Array.getElem?_eq_getElem (by omega))⟩, free_of_heap h1 j⟩
theorem HasRow.set {w : World} {b n : Nat} {t : TypeId} (h : HasRow w b t n) (j : Nat) (u : Value) : HasRow (w.setCell ⟨b, j, none⟩ u) b t n := by
  obtain ⟨cur, h1, h2⟩ := h
  exact ⟨_, heap_set h1 u, by simpa using h2⟩

set_option maxRecDepth 100000 in
set_option maxHeartbeats 1000000 in
theorem markSlRow_any (k : Int) (n b c m : Nat) (w : World) (h : HasRow w b 57 m) (hm : n * 2 ≤ m) (h0 : 0 ≤ k) (hn : k + 2 * (n : Int) ≤ 16777216) :
    Calls Try.prog 24 #[.slice (some ⟨b, 0, none⟩) n c, .int .i64 k] w fun e w' => e = .returned (.int .i64 (k + 2 * (n : Int))) ∧ w.grownBy w' (some b) := by
  have HH := Lib.hid h; clear h
  go_enter Try.func24, Try.ntmps24
  go_wp2
  go_loopw [1, 5] (fun q i wr => ∃ (j : Nat) (q0 : Int), j ≤ n ∧ i = .int .i64 j ∧ q = .int .i64 q0 ∧ q0 = k + 2 * (j : Int) ∧ HasRow wr b 57 m ∧ w.grownBy wr (some b)) (fun _ i _ => n - (intOf i).toNat)
  case atStart => exact ⟨0, k, Nat.zero_le _, rfl, rfl, by simp, HH.out, World.grownBy.refl _ _⟩
  case round =>
    obtain ⟨j, q0, hj, rfl, rfl, hq, hr, hg⟩ := hrel
    have HQ := Lib.hid hq
    by_cases hlt : j < n
    · have hq1 : q0 + 2 ≤ 16777216 := by omega
      have hq2 : 0 ≤ q0 := by omega
      obtain ⟨⟨u0, e0⟩, f0⟩ := hr.at_ (j := j * 2) (by omega)
      obtain ⟨⟨u1, e1⟩, f1⟩ := hr.at_ (j := j * 2 + 1) (by omega)
      have HG := Lib.hid (grown_set (grown_set hg (j * 2) (.int .i64 q0)) (j * 2 + 1) (.int .i64 (q0 + 1)))
      have HR := Lib.hid ((hr.set (j * 2) (.int .i64 q0)).set (j * 2 + 1) (.int .i64 (q0 + 1)))
      clear hr hg hq
      go_wp2
      go_roundw
      case rel => exact ⟨j + 1, _, by omega, by go_num, rfl, by have := HQ.out; omega, HR.out, HG.out⟩
      case measure => simp [intOf]; omega
    · obtain rfl : j = n := by omega
      subst hq
      go_wp2
      go_ret
      exact ⟨rfl, hg⟩
theorem markSlOwn_any (k : Nat) (n base : Nat) (b : Nat) (xs : List Value) (w : World) (hown : w.ownsRow base 57 2 (.slice (some ⟨b, 0, none⟩) n n) n xs) (hn : k + 2 * n ≤ 16777216) :
    Calls Try.prog 24 #[.slice (some ⟨b, 0, none⟩) n n, .int .i64 (k : Int)] w fun e w' => e = .returned (.int .i64 ((k + 2 * n : Nat) : Int)) ∧ w.grownBy w' (Value.slice (some ⟨b, 0, none⟩) n n).ownBlock := by
  rcases hown.2 with ⟨h, _⟩ | ⟨g, cap, cur, hv, hg, hh, h1, h2, h3, h4⟩
  · cases h
  · injection hv with e1 e2 e3
    have e4 := Option.some.inj e1
    rw [Addr.mk.injEq] at e4
    obtain ⟨rfl, _, _⟩ := e4
    exact (markSlRow_any k n b n _ w ⟨cur, hh, h3⟩ (Nat.mul_le_mul_right _ h1) (by omega) (by omega)).mono fun e w' ⟨h5, h6⟩ => ⟨by rw [h5]; congr 2, h6⟩
end Go.Proofs.Ytljakcfdjcjdbaa

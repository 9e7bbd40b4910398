/-
  The contract of impl.isCastOrder: it answers what the plain words here say and changes nothing that was there.
-/
import Derived.Test.YtpocghcdfpcedaaKf
namespace Go.Proofs.Ytpocghcdfpcedaa
open Go.RowKit
set_option linter.unusedVariables false

/-- Which indices are among l. -/
def dnCells (l : List Int) : List Value := (List.range 8).map fun j : Nat => .bool (hasB l (j : Int))
theorem dnCells_len (l : List Int) : (dnCells l).length = 8 := by simp [dnCells]
theorem dnCells_at (l : List Int) {j : Nat} (h : j < 8) : (dnCells l)[j]? = some (.bool (hasB l (j : Int))) := by simp [dnCells, h]
theorem dnCells_set (l : List Int) {j : Nat} (h : j < 8) (hno : hasB l (j : Int) = false) : (dnCells l).set j (.bool true) = dnCells (l ++ [(j : Int)]) := by
  apply List.ext_getElem
  · simp [dnCells]
  · intro i h1 h2
    have hi : i < 8 := by simpa [dnCells] using h2
    rw [List.getElem_set]
    simp only [dnCells, List.getElem_map, List.getElem_range, hasB_snoc]
    by_cases e : j = i
    · subst e; simp
    · rw [if_neg e]
      have : ((j : Int) == (i : Int)) = false := by simp; omega
      rw [this, Bool.or_false]
theorem Own.put {w : World} {b : Nat} {t : TypeId} {cs : List Value} (h : Own w b t cs) (j : Nat) (u : Value) : Own (w.setCell ⟨b, j, none⟩ u) b t (cs.set j u) := by
  unfold Own at *
  rw [heap_set h]
  simp
theorem allB_off {f : List Ca} {o : List Int} {k : Nat} (h : k < o.length) (hx : o[k] < 0 ∨ (f.length : Int) ≤ o[k]) : ordB f o = false := by
  unfold ordB
  rw [allB_no h (by simp [inB]; omega)]; rfl
theorem dist_off {f : List Ca} {o : List Int} {k : Nat} (h : k < o.length) (hx : hasB (o.take k) o[k] = true) : ordB f o = false := by
  unfold ordB
  rw [distTo_no h hx]; simp
theorem ordB_full {f : List Ca} {o : List Int} (h1 : ∀ k (h : k < o.length), 0 ≤ o[k] ∧ o[k] < (f.length : Int)) (h2 : distTo o o.length = true) : ordB f o = true := by
  unfold ordB
  rw [show distB o = true from h2, Bool.and_true]
  unfold allB
  rw [List.all_eq_true]
  intro x hx
  obtain ⟨k, hk, rfl⟩ := List.getElem_of_mem hx
  have := h1 k hk
  simp [inB]; omega

set_option maxRecDepth 100000 in
set_option maxHeartbeats 1000000 in
theorem isCastOrder_any (f : List Ca) (A : Option Addr) (c : Nat) (o : List Int) (B : Option Addr) (d : Nat) (w : World) (hn : f.length ≤ 8) (hs : IntsIn w B o) (hk : o.length ≤ 1048576) :
    Calls Try.prog 57 #[.slice A f.length c, .slice B o.length d] w fun e w' => e = .returned (.bool (ordB f o)) ∧ Below w.heap.size w w' := by
  have HS := Lib.hid hs; clear hs
  go_enter Try.func57, Try.ntmps57
  go_wp2
  go_loopw [10] (fun i wr => ∃ k : Nat, k ≤ o.length ∧ i = .int .i64 k ∧ (∀ q (h : q < o.length), q < k → 0 ≤ o[q] ∧ o[q] < (f.length : Int)) ∧ distTo o k = true ∧ Own wr w.heap.size 83 (dnCells (o.take k)) ∧ Below w.heap.size w wr) (fun i _ => o.length - (intOf i).toNat)
  case atStart => exact ⟨0, Nat.zero_le _, rfl, fun q _ h => absurd h (Nat.not_lt_zero _), rfl, heap_new _ _, (Below.refl _ _).alloc (Nat.le_refl _) _⟩
  case round =>
    obtain ⟨k, hkk, rfl, hr, hd, ho, hb⟩ := hrel
    have HR := Lib.hid hr; have HD := Lib.hid hd; have HO := Lib.hid ho; have HB := Lib.hid hb
    clear hr hd ho hb
    by_cases hlt : k < o.length
    · obtain ⟨b, off, rfl, hbl, hc⟩ := HS.out (by omega)
      have hc0 := (HB.out.cell (p := ⟨b, off + k, none⟩) hbl).trans (hc k hlt)
      clear hc
      by_cases hx : o[k] < 0 ∨ (f.length : Int) ≤ o[k]
      · have HV := Lib.hid (allB_off (f := f) hlt hx)
        generalize o[k] = x at *
        rcases (by omega : x < 0 ∨ (0 ≤ x ∧ (f.length : Int) ≤ x)) with h | ⟨h, h2⟩
        · clear hx
          go_wp2
          go_ret
          exact ⟨ret_bool HV.out.symm, HB.out⟩
        · clear hx
          go_wp2
          go_ret
          exact ⟨ret_bool HV.out.symm, HB.out⟩
      · obtain ⟨j, hj, hjl⟩ : ∃ j : Nat, o[k] = (j : Int) ∧ j < f.length := ⟨o[k].toNat, by omega, by omega⟩
        have HST := Lib.hid (distTo_succ hlt)
        have HV : Hid (hasB (o.take k) o[k] = true → ordB f o = false) := Lib.hid (fun h => dist_off (f := f) hlt h)
        have HTK := Lib.hid (List.take_succ_eq_append_getElem hlt)
        rw [hj] at HST HV HTK hc0
        have HJ := Lib.hid hj
        clear hx hj
        have hj8 : j < 8 := by omega
        have hjl1 : (j : Int) < (f.length : Int) := by omega
        have hjl2 : ¬ (f.length : Int) ≤ (j : Int) := by omega
        have hjl3 : (j : Int) < 8 := by omega
        have hjl0 : (0 : Int) ≤ (j : Int) := by omega
        have hjl4 : ¬ (j : Int) < 0 := by omega
        have hd0 := (HO.out.cell j).trans (dnCells_at (o.take k) hj8)
        have hfr : wr.frozen? ⟨w.heap.size, j, none⟩ = false := free_of_heap HO.out j
        cases hh : hasB (o.take k) (j : Int)
        · rw [hh] at hd0
          have HO2 : Hid (Own (wr.setCell ⟨w.heap.size, j, none⟩ (.bool true)) w.heap.size 83 (dnCells (o.take (k + 1)))) := Lib.hid (by
            rw [HTK.out, ← dnCells_set _ hj8 hh]; exact HO.out.put j _)
          have HB2 := Lib.hid (HB.out.setCell (p := ⟨w.heap.size, j, none⟩) (Nat.le_refl _) (.bool true))
          have HH := Lib.hid hh; clear hh
          go_wp2
          go_roundw
          case rel => exact ⟨k + 1, by omega, by go_num, fun q hq hqk => by
            rcases Nat.lt_or_ge q k with h | h
            · exact HR.out q hq h
            · obtain rfl : q = k := by omega
              rw [HJ.out]; exact ⟨by omega, by omega⟩, by rw [HST.out, HD.out, HH.out]; rfl, HO2.out, HB2.out⟩
          case measure => simp [intOf]; omega
        · rw [hh] at hd0
          have HH := Lib.hid hh; clear hh
          go_wp2
          go_ret
          exact ⟨ret_bool (HV.out HH.out).symm, HB.out⟩
    · obtain rfl : k = o.length := by omega
      go_wp2
      go_ret
      exact ⟨ret_bool (ordB_full (fun q h => HR.out q h h) HD.out).symm, HB.out⟩
end Go.Proofs.Ytpocghcdfpcedaa

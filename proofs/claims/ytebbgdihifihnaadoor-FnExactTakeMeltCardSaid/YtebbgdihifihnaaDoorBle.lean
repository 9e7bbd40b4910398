/-
  Blends: the contracts of spec.meBlend, IsBlend, meAsked, meFits, DoesFit and impl.boundsOf, IsBlend, isFitting, DoesFit (those of impl where the table of the blended metals is as the program lays it): each answers what the plain words here say and changes nothing that was there.
-/
import Derived.Test.YtebbgdihifihnaaDoorMdr
import Derived.Test.YtebbgdihifihnaaDoorBd
import Derived.Lib.LaidTab
import Derived.Deep.QuietTactic
namespace Go.Proofs.YtebbgdihifihnaaDoor
open Go.RowKit
set_option linter.unusedVariables false

def goodBd (b : Bd) : Bool := inB 0 1000 b.lot && inB b.lot 1000 b.hit && inB 0 1000 b.loa && inB b.loa 1000 b.hia
theorem goodBd_bounds {b : Bd} (h : goodBd b = true) : (0 ≤ b.lot ∧ b.lot ≤ 1000) ∧ (b.lot ≤ b.hit ∧ b.hit ≤ 1000) ∧ (0 ≤ b.loa ∧ b.loa ≤ 1000) ∧ (b.loa ≤ b.hia ∧ b.hia ≤ 1000) := by
  unfold goodBd at h
  simp only [Bool.and_eq_true] at h
  obtain ⟨⟨⟨h1, h2⟩, h3⟩, h4⟩ := h
  simp [inB] at h1 h2 h3 h4
  exact ⟨h1, h2, h3, h4⟩
theorem goodBd_iff (b : Bd) : goodBd b = decide ((0 ≤ b.lot ∧ b.lot ≤ 1000) ∧ (b.lot ≤ b.hit ∧ b.hit ≤ 1000) ∧ (0 ≤ b.loa ∧ b.loa ≤ 1000) ∧ (b.loa ≤ b.hia ∧ b.hia ≤ 1000)) := by
  rw [Bool.eq_iff_iff]
  simp [goodBd, inB]
  omega
/-- The table of the blended metals is as the program lays it. -/
def TabM (w : World) : Prop := Lib.TabIs Tryd.prog w "loop.example/g01054/impl.blended" .i64 [1, 2]
theorem gBl : Tryd.prog.globalNamed "loop.example/g01054/impl.blended" = some 0 := by kernel_rfl
theorem TabM.next {w w' : World} (h : TabM w) (hb : Below w.heap.size w w') : TabM w' := Joins.tab_stays gBl h hb (Nat.le_refl _)
theorem TabM.cells {w : World} (h : TabM w) : w.cell? ⟨0, 0, none⟩ = some (.int .i64 1) ∧ w.cell? ⟨0, 1, none⟩ = some (.int .i64 2) :=
  ⟨Lib.TabIs.cell h gBl 0 (by decide), Lib.TabIs.cell h gBl 1 (by decide)⟩

theorem lt_of_cell {w : World} {a : Addr} {v : Value} (h : w.cell? a = some v) : a.block < w.heap.size := by
  rcases Nat.lt_or_ge a.block w.heap.size with h1 | h1
  · exact h1
  · exfalso; unfold World.cell? at h; rw [Array.getElem?_eq_none h1] at h; simp at h
theorem TabM.lt {w : World} (h : TabM w) : 0 < w.heap.size := lt_of_cell h.cells.1
theorem meBlend_any (b : Bd) (w : World) :
    Calls Tryd.prog 39 #[.agg #[.int .i64 b.lot, .int .i64 b.hit, .int .i64 b.loa, .int .i64 b.hia]] w fun e w' => e = .returned (.bool (goodBd b)) ∧ Below w.heap.size w w' := by
  have HU : Hid (goodBd b = (inB 0 1000 b.lot && inB b.lot 1000 b.hit && inB 0 1000 b.loa && inB b.loa 1000 b.hia)) := Lib.hid rfl
  have HA : Hid (Below w.heap.size w (w.alloc (.cells #[.int .i64 b.lot, .int .i64 b.hit, .int .i64 b.loa, .int .i64 b.hia] 25))) := Lib.hid ((Below.refl _ _).alloc (Nat.le_refl _) _)
  go_enter Tryd.func39, Tryd.ntmps39
  go_wp2_with fail
  refine (l1In_any _ _ _ _).mono ?_
  rintro e w1 ⟨rfl, rfl⟩
  cases h1 : inB 0 1000 b.lot
  · have HH := Lib.hid h1; clear h1
    go_wp2
    go_ret
    exact ⟨ret_bool (by rw [HU.out, HH.out]; rfl), HA.out⟩
  have H1 := Lib.hid h1; clear h1
  go_wp2_with fail
  refine (l1In_any _ _ _ _).mono ?_
  rintro e w1 ⟨rfl, rfl⟩
  cases h1 : inB b.lot 1000 b.hit
  · have HH := Lib.hid h1; clear h1
    go_wp2
    go_ret
    exact ⟨ret_bool (by rw [HU.out, H1.out, HH.out]; rfl), HA.out⟩
  have H2 := Lib.hid h1; clear h1
  go_wp2_with fail
  refine (l1In_any _ _ _ _).mono ?_
  rintro e w1 ⟨rfl, rfl⟩
  cases h1 : inB 0 1000 b.loa
  · have HH := Lib.hid h1; clear h1
    go_wp2
    go_ret
    exact ⟨ret_bool (by rw [HU.out, H1.out, H2.out, HH.out]; rfl), HA.out⟩
  have H3 := Lib.hid h1; clear h1
  go_wp2_with fail
  refine (l1In_any _ _ _ _).mono ?_
  rintro e w1 ⟨rfl, rfl⟩
  cases h1 : inB b.loa 1000 b.hia
  · have HH := Lib.hid h1; clear h1
    go_wp2
    go_ret
    exact ⟨ret_bool (by rw [HU.out, H1.out, H2.out, H3.out, HH.out]; rfl), HA.out⟩
  have H4 := Lib.hid h1; clear h1
  go_wp2
  go_ret
  exact ⟨ret_bool (by rw [HU.out, H1.out, H2.out, H3.out, H4.out]; rfl), HA.out⟩
theorem specIsBlend_any (b : Bd) (w : World) :
    Calls Tryd.prog 13 #[.agg #[.int .i64 b.lot, .int .i64 b.hit, .int .i64 b.loa, .int .i64 b.hia]] w fun e w' => e = .returned (.bool (goodBd b)) ∧ Below w.heap.size w w' := by
  go_enter Tryd.func13, Tryd.ntmps13
  go_wp2_with fail
  refine (meBlend_any b _).mono ?_
  rintro e w1 ⟨rfl, hb⟩
  go_wp2
  go_ret
  exact ⟨rfl, ((Below.refl _ _).alloc (Nat.le_refl _) _).trans (hb.mono (by simp))⟩

theorem boundsOf_any (b : Bd) (w : World) :
    Calls Tryd.prog 40 #[.agg #[.int .i64 b.lot, .int .i64 b.hit, .int .i64 b.loa, .int .i64 b.hia]] w fun e w' => e = .returned (.agg #[.int .i64 0, .int .i64 0, .int .i64 b.lot, .int .i64 b.hit, .int .i64 b.loa, .int .i64 b.hia]) ∧ Below w.heap.size w w' := by
  go_enter Tryd.func40, Tryd.ntmps40
  go_wp2
  refine bodyPost_ret (v := .agg #[.int .i64 0, .int .i64 0, .int .i64 b.lot, .int .i64 b.hit, .int .i64 b.loa, .int .i64 b.hia]) (by simp [results, Tryd.results40, go_sem]) rfl ⟨rfl, ?_⟩
  repeat (first | (with_reducible exact Below.refl _ _) | (refine Below.setCell ?_ (by first | (simp; done) | (simp; omega)) _) | (refine Below.alloc ?_ (by first | (simp; done) | (simp; omega)) _))

theorem run_indexB0 (w : World) : (Instr.index 59 (.agg #[.int .i64 1, .int .i64 2]) (.int .i64 0)).run Tryd.prog w = .ok (.int .i64 1) w := by
  simp [Instr.index, asIntOf, run_underlying (P := Tryd.prog) Tryd.underlying59, part, Sem.run_bind]
theorem run_indexB1 (w : World) : (Instr.index 59 (.agg #[.int .i64 1, .int .i64 2]) (.int .i64 1)).run Tryd.prog w = .ok (.int .i64 2) w := by
  simp [Instr.index, asIntOf, run_underlying (P := Tryd.prog) Tryd.underlying59, part, Sem.run_bind]

theorem drewN_below {B : Nat} {a w : World} (h : Below B a w) (n : Nat) : Below B a (w.drewN n) := ⟨h.1, h.2, h.3, h.4, h.5⟩
/-- The first k bounds are good. -/
def bdK (b : Bd) : Nat → Bool
  | 0 => true
  | 1 => decide (0 ≤ b.lot ∧ b.lot ≤ b.hit ∧ b.hit ≤ 1000)
  | _ => goodBd b
set_option maxRecDepth 100000 in
set_option maxHeartbeats 1000000 in
theorem implIsBlend_any (b : Bd) (w : World) (ht : TabM w) :
    Calls Tryd.prog 15 #[.agg #[.int .i64 b.lot, .int .i64 b.hit, .int .i64 b.loa, .int .i64 b.hia]] w fun e w' => e = .returned (.bool (goodBd b)) ∧ Below w.heap.size w w' := by
  have HT := Lib.hid ht; clear ht
  have HA : Hid (Below w.heap.size w (w.alloc (.cells #[.int .i64 b.lot, .int .i64 b.hit, .int .i64 b.loa, .int .i64 b.hia] 25))) := Lib.hid ((Below.refl _ _).alloc (Nat.le_refl _) _)
  have HGI := Lib.hid (goodBd_iff b)
  go_enter Tryd.func15, Tryd.ntmps15
  go_wp2_with fail
  refine (boundsOf_any b _).mono ?_
  rintro e w1 ⟨rfl, hb1⟩
  have HB1 : Hid (Below w.heap.size w w1) := Lib.hid (HA.out.trans (hb1.mono HA.out.size))
  have HT1 : Hid (TabM w1) := Lib.hid (HT.out.next (HB1.out))
  clear hb1 HA HT
  obtain ⟨w2, hw2⟩ : ∃ x : World, x = w1.alloc (.cells #[.int .i64 0, .int .i64 0, .int .i64 b.lot, .int .i64 b.hit, .int .i64 b.loa, .int .i64 b.hia] 56) := ⟨_, rfl⟩
  have hb2 : Below w1.heap.size w1 w2 := by rw [hw2]; exact (Below.refl _ _).alloc (Nat.le_refl _) _
  have HO2 : Hid (w2.heap[w1.heap.size]? = some (.cells #[.int .i64 0, .int .i64 0, .int .i64 b.lot, .int .i64 b.hit, .int .i64 b.loa, .int .i64 b.hia] 56 (0, 0))) := Lib.hid (by rw [hw2]; exact heap_new _ _)
  have HB2 : Hid (Below w.heap.size w w2) := Lib.hid (HB1.out.trans (hb2.mono HB1.out.size))
  have HT2 : Hid (TabM w2) := Lib.hid (HT1.out.next hb2)
  have HW2 := Lib.hid hw2
  obtain ⟨t0, t1⟩ := HT1.out.cells
  have htl := HT1.out.lt
  clear hb2 hw2 HB1
  go_wp2
  rw [← HW2.out]
  clear t0 t1 htl HW2 HT1
  obtain ⟨g, hg⟩ : ∃ g, g = w1.heap.size := ⟨_, rfl⟩
  rw [← hg] at HO2 ⊢
  clear hg
  go_loopw [9] (fun i wr => ∃ (k : Nat), k ≤ 2 ∧ i = .int .i64 k ∧ bdK b k = true ∧ wr.heap[g]? = some (.cells #[.int .i64 0, .int .i64 0, .int .i64 b.lot, .int .i64 b.hit, .int .i64 b.loa, .int .i64 b.hia] 56 (0, 0)) ∧ Below w.heap.size w wr) (fun i _ => 2 - (intOf i).toNat)
  case atStart => exact ⟨0, Nat.zero_le _, rfl, rfl, HO2.out, HB2.out⟩
  case round =>
    obtain ⟨k, hk, rfl, hs, ho, hb⟩ := hrel
    have HS := Lib.hid hs; have HO := Lib.hid ho; have HB := Lib.hid hb
    clear hs ho hb HO2 HB2 HT2
    have c2 := (cell_of_heap HO.out 2); have c3 := (cell_of_heap HO.out 3); have c4 := (cell_of_heap HO.out 4); have c5 := (cell_of_heap HO.out 5)
    simp at c2 c3 c4 c5
    rcases (by omega : k = 0 ∨ k = 1 ∨ k = 2) with rfl | rfl | rfl
    · have hix := run_indexB0
      clear c4 c5
      rcases (by omega : b.lot < 0 ∨ (0 ≤ b.lot ∧ b.hit < b.lot) ∨ (0 ≤ b.lot ∧ b.lot ≤ b.hit ∧ 1000 < b.hit) ∨ (0 ≤ b.lot ∧ b.lot ≤ b.hit ∧ b.hit ≤ 1000)) with h1 | ⟨h1, h2⟩ | ⟨h1, h2, h3⟩ | ⟨h1, h2, h3⟩
      · have HV : Hid (goodBd b = false) := Lib.hid (by rw [HGI.out]; simp; omega)
        go_wp2_with fail
        go_quiet (fail)
        go_wp2
        go_ret
        exact ⟨ret_bool HV.out.symm, drewN_below HB.out _⟩
      · have HV : Hid (goodBd b = false) := Lib.hid (by rw [HGI.out]; simp; omega)
        go_wp2_with fail
        go_quiet (fail)
        go_wp2
        go_ret
        exact ⟨ret_bool HV.out.symm, drewN_below HB.out _⟩
      · have HV : Hid (goodBd b = false) := Lib.hid (by rw [HGI.out]; simp; omega)
        go_wp2_with fail
        go_quiet (fail)
        go_wp2
        go_ret
        exact ⟨ret_bool HV.out.symm, drewN_below HB.out _⟩
      · have HV : Hid (bdK b 1 = true) := Lib.hid (by simp [bdK]; omega)
        go_wp2_with fail
        go_quiet (fail)
        go_wp2
        go_roundw
        case rel => exact ⟨1, by omega, by go_num, HV.out, HO.out, drewN_below HB.out _⟩
        case measure => simp [intOf]
    · have hix := run_indexB1
      clear c2 c3
      have hl : 0 ≤ b.lot ∧ b.lot ≤ b.hit ∧ b.hit ≤ 1000 := by have h := HS.out; simpa [bdK] using h
      have HL := Lib.hid hl; clear hl
      rcases (by omega : b.loa < 0 ∨ (0 ≤ b.loa ∧ b.hia < b.loa) ∨ (0 ≤ b.loa ∧ b.loa ≤ b.hia ∧ 1000 < b.hia) ∨ (0 ≤ b.loa ∧ b.loa ≤ b.hia ∧ b.hia ≤ 1000)) with h1 | ⟨h1, h2⟩ | ⟨h1, h2, h3⟩ | ⟨h1, h2, h3⟩
      · have HV : Hid (goodBd b = false) := Lib.hid (by rw [HGI.out]; simp; omega)
        go_wp2_with fail
        go_quiet (fail)
        go_wp2
        go_ret
        exact ⟨ret_bool HV.out.symm, drewN_below HB.out _⟩
      · have HV : Hid (goodBd b = false) := Lib.hid (by rw [HGI.out]; simp; omega)
        go_wp2_with fail
        go_quiet (fail)
        go_wp2
        go_ret
        exact ⟨ret_bool HV.out.symm, drewN_below HB.out _⟩
      · have HV : Hid (goodBd b = false) := Lib.hid (by rw [HGI.out]; simp; omega)
        go_wp2_with fail
        go_quiet (fail)
        go_wp2
        go_ret
        exact ⟨ret_bool HV.out.symm, drewN_below HB.out _⟩
      · have HV : Hid (bdK b 2 = true) := Lib.hid (by have hl := HL.out; show goodBd b = true; rw [HGI.out]; simp; omega)
        go_wp2_with fail
        go_quiet (fail)
        go_wp2
        go_roundw
        case rel => exact ⟨2, by omega, by go_num, HV.out, HO.out, drewN_below HB.out _⟩
        case measure => simp [intOf]
    · go_wp2
      go_ret
      exact ⟨ret_bool HS.out.symm, HB.out⟩
end Go.Proofs.YtebbgdihifihnaaDoor

/-
  The contract of spec.maOf: five numbers of a row, as a strike; it changes nothing that was there.
-/
import Derived.Test.YtdomccamkiplcaaDoorMa
import Derived.RegionTactic
import Derived.ChangeAlike
import Derived.BigRegion
namespace Go.Proofs.YtdomccamkiplcaaDoor
open Go.RowKit
set_option linter.unusedVariables false

set_option maxRecDepth 100000 in
set_option maxHeartbeats 4000000 in
theorem maOf_any (A : Option Addr) (q : Nat) (s : Sk) (w : World) (h : IntsIn w A s.zs) :
    Calls Tryd.prog 36 #[.slice A 5 q] w fun e w' => e = .returned (.agg #[.int .i64 s.dep, .int .i64 s.lef, .int .i64 s.fac, .int .i64 s.rig, .int .i64 s.foo]) ∧ Below w.heap.size w w' := by
  obtain ⟨b, off, rfl, hbl, hc⟩ := h (by rw [zs_len]; decide)
  obtain ⟨W0, hW0⟩ : ∃ W0 : World, W0 = w.alloc (.cells #[.int .i64 0, .int .i64 0, .int .i64 0, .int .i64 0, .int .i64 0] 34) := ⟨_, rfl⟩
  have HB : Hid (Below w.heap.size w W0) := Lib.hid (by rw [hW0]; exact (Below.refl _ _).alloc (Nat.le_refl _) _)
  have hown : W0.heap[w.heap.size]? = some (.cells #[.int .i64 0, .int .i64 0, .int .i64 0, .int .i64 0, .int .i64 0] 34 (0, 0)) := by rw [hW0]; exact heap_new _ _
  have hlt : w.heap.size < W0.heap.size := lt_of_heap hown
  have c0 : W0.cell? ⟨b, off, none⟩ = some (.int .i64 s.dep) := (HB.out.cell (p := ⟨b, off, none⟩) hbl).trans (hc 0 (by rw [zs_len]; decide))
  have c1 : W0.cell? ⟨b, off + 1, none⟩ = some (.int .i64 s.lef) := (HB.out.cell (p := ⟨b, off + 1, none⟩) hbl).trans (hc 1 (by rw [zs_len]; decide))
  have c2 : W0.cell? ⟨b, off + 2, none⟩ = some (.int .i64 s.fac) := (HB.out.cell (p := ⟨b, off + 2, none⟩) hbl).trans (hc 2 (by rw [zs_len]; decide))
  have c3 : W0.cell? ⟨b, off + 3, none⟩ = some (.int .i64 s.rig) := (HB.out.cell (p := ⟨b, off + 3, none⟩) hbl).trans (hc 3 (by rw [zs_len]; decide))
  have c4 : W0.cell? ⟨b, off + 4, none⟩ = some (.int .i64 s.foo) := (HB.out.cell (p := ⟨b, off + 4, none⟩) hbl).trans (hc 4 (by rw [zs_len]; decide))
  have d0 : W0.cell? ⟨w.heap.size, 0, none⟩ = some (.int .i64 0) := by rw [cell_of_heap hown]; rfl
  have d1 : W0.cell? ⟨w.heap.size, 1, none⟩ = some (.int .i64 0) := by rw [cell_of_heap hown]; rfl
  have d2 : W0.cell? ⟨w.heap.size, 2, none⟩ = some (.int .i64 0) := by rw [cell_of_heap hown]; rfl
  have d3 : W0.cell? ⟨w.heap.size, 3, none⟩ = some (.int .i64 0) := by rw [cell_of_heap hown]; rfl
  have d4 : W0.cell? ⟨w.heap.size, 4, none⟩ = some (.int .i64 0) := by rw [cell_of_heap hown]; rfl
  have f0 := free_of_heap hown 0
  have f1 := free_of_heap hown 1
  have f2 := free_of_heap hown 2
  have f3 := free_of_heap hown 3
  have f4 := free_of_heap hown 4
  have HOWN := Lib.hid hown
  clear hown hc
  obtain ⟨g, hg⟩ : ∃ g, g = w.heap.size := ⟨_, rfl⟩
  have HBG : Hid (Below g w W0) := Lib.hid (hg ▸ HB.out)
  go_enter Tryd.func36, Tryd.ntmps36
  go_wp2_with fail
  rw [← hW0]
  clear hW0
  go_region
  have h1 := heap_set HOWN.out (i := 0) (.int .i64 s.dep)
  have h2 := heap_set h1 (i := 1) (.int .i64 s.lef)
  have h3 := heap_set h2 (i := 2) (.int .i64 s.fac)
  have h4 := heap_set h3 (i := 3) (.int .i64 s.rig)
  have h5 := heap_set h4 (i := 4) (.int .i64 s.foo)
  have e0 := (cell_of_heap h1 0).trans (show _ = some (Value.int .i64 s.dep) from rfl)
  have e1 := (cell_of_heap h2 1).trans (show _ = some (Value.int .i64 s.lef) from rfl)
  have e2 := (cell_of_heap h3 2).trans (show _ = some (Value.int .i64 s.fac) from rfl)
  have e3 := (cell_of_heap h4 3).trans (show _ = some (Value.int .i64 s.rig) from rfl)
  have e4 := (cell_of_heap h5 4).trans (show _ = some (Value.int .i64 s.foo) from rfl)
  all_goals
    go_wp2_with fail
    refine bodyPost_ret (v := .agg #[.int .i64 s.dep, .int .i64 s.lef, .int .i64 s.fac, .int .i64 s.rig, .int .i64 s.foo]) (by simp [results, Tryd.results36, go_sem, e0, e1, e2, e3, e4]) rfl ⟨rfl, ?_⟩
    have hb := HB.out
    exact Below.drew (((((hb.setCell (Nat.le_refl _) _).setCell (Nat.le_refl _) _).setCell (Nat.le_refl _) _).setCell (Nat.le_refl _) _).setCell (Nat.le_refl _) _)
end Go.Proofs.YtdomccamkiplcaaDoor

/-
  The contracts of impl.distance, impl.place's wayTo, impl.wayOver and impl.HandWay.
-/
import Derived.Test.YtllafkeheppkjaaWy
namespace Go.Proofs.Ytllafkeheppkjaa
open Go.RowKit
set_option linter.unusedVariables false

theorem distance_any (a b : Int) (w : World) (h1 : 0 ≤ a ∧ a ≤ 9) (h2 : 0 ≤ b ∧ b ≤ 9) :
    Calls Try.prog 91 #[.int .i64 a, .int .i64 b] w fun e w' => e = .returned (.int .i64 (absI (a - b))) ∧ w = w' := by
  obtain ⟨h1, h1'⟩ := h1; obtain ⟨h2, h2'⟩ := h2
  go_enter Try.func91, Try.ntmps91
  go_wp2
  go_ret
  exact ⟨ret_int (by unfold absI; split <;> omega), rfl⟩
def DistIs (a b z : Int) : Prop := (0 ≤ a ∧ a ≤ 9) ∧ (0 ≤ b ∧ b ≤ 9) ∧ absI (a - b) = z
theorem distance_is (a b z : Int) (w : World) (h : Hid (DistIs a b z)) :
    Calls Try.prog 91 #[.int .i64 a, .int .i64 b] w fun e w' => e = .returned (.int .i64 z) ∧ w = w' := by
  obtain ⟨h1, h2, rfl⟩ := h.out
  exact distance_any a b w h1 h2

set_option maxRecDepth 100000 in
theorem wayTo_is (a b c d x y : Int) (w : World) (hx : Hid (DistIs a c x)) (hy : Hid (DistIs b d y)) (hx1 : 0 ≤ x) (hx2 : x ≤ 9) (hy1 : 0 ≤ y) (hy2 : y ≤ 9) :
    Calls Try.prog 74 #[.agg #[.int .i64 a, .int .i64 b], .agg #[.int .i64 c, .int .i64 d]] w fun e w' => e = .returned (.int .i64 (x + y)) ∧ Below w.heap.size w w' := by
  go_enter Try.func74, Try.ntmps74
  go_wp2_with fail
  obtain ⟨W0, hW0⟩ : ∃ W0 : World, W0 = (w.alloc (.cells #[.int .i64 a, .int .i64 b] 70)).alloc (.cells #[.int .i64 c, .int .i64 d] 70) := ⟨_, rfl⟩
  rw [← hW0]
  have hb0 : Below w.heap.size w W0 := by rw [hW0]; exact ((Below.refl _ _).alloc (Nat.le_refl _) _).alloc (by simp) _
  have hz0 : w.heap.size < W0.heap.size := by rw [hW0]; simp; omega
  have hz1 : w.heap.size + 1 < W0.heap.size := by rw [hW0]; simp
  have x0 := KeptW.cell (show W0.cell? ⟨w.heap.size, 0, none⟩ = some (.int .i64 a) by rw [hW0]; simp) hz0
  have x1 := KeptW.cell (show W0.cell? ⟨w.heap.size, 1, none⟩ = some (.int .i64 b) by rw [hW0]; simp) hz0
  have x2 := KeptW.cell (show W0.cell? ⟨w.heap.size + 1, 0, none⟩ = some (.int .i64 c) by rw [hW0]; simp) hz1
  have x3 := KeptW.cell (show W0.cell? ⟨w.heap.size + 1, 1, none⟩ = some (.int .i64 d) by rw [hW0]; simp) hz1
  clear hW0 hz0 hz1
  refine region_kept W0.heap.size (by kernel_rfl) (by kernel_rfl) ?_
  repeat (go_big_quiet_step ((go_at_call 91; first | with_reducible exact kept_same _ (distance_is a c x _ hx) | with_reducible exact kept_same _ (distance_is b d y _ hy))))
  refine wpQuiet_nil ?_
  intro w1 hb1
  have hb' := hb0.trans (hb1.mono hb0.size)
  clear x0 x1 x2 x3 hb0 hb1
  go_wp2
  go_ret
  exact ⟨rfl, hb'⟩
theorem wayTo_any (p q : Int × Int) (w : World) (hp : InTen p) (hq : InTen q) :
    Calls Try.prog 74 #[.agg #[.int .i64 p.1, .int .i64 p.2], .agg #[.int .i64 q.1, .int .i64 q.2]] w fun e w' => e = .returned (.int .i64 (absI (p.1 - q.1) + absI (p.2 - q.2))) ∧ Below w.heap.size w w' :=
  wayTo_is _ _ _ _ _ _ w (Lib.hid ⟨hp.1, hq.1, rfl⟩) (Lib.hid ⟨hp.2, hq.2, rfl⟩) (absI_range hp.1 hq.1).1 (absI_range hp.1 hq.1).2 (absI_range hp.2 hq.2).1 (absI_range hp.2 hq.2).2
end Go.Proofs.Ytllafkeheppkjaa

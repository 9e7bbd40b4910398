/-
  FnExactIsBox: for every input the law returns true and what it was given reads as before. Conditions: none beyond the given statement's own.
-/
import Derived.Test.YtllafkeheppkjaaRows
import Derived.Test.YtllafkeheppkjaaCb
import Derived.Test.YtllafkeheppkjaaOpenBx
import Derived.ProofKit
import Derived.OpenShut
import Derived.ShutString
import Derived.ChangeOld
import Derived.Lib.SmallJoins
namespace Go.Proofs.Ytllafkeheppkjaa.fnExactIsBox
open Go.ChangeShapes Go.WideShapes Go.ChangeAt Go.RowKit Go.Joins
open Go.ChangeMaps (open_string shut_string)
set_option linter.unusedVariables false

theorem own : ownKnob Try.prog.godebug = none := by kernel_rfl
theorem laidOut : laidOutB Try.prog = true := by kernel_rfl
set_option maxRecDepth 100000 in
set_option maxHeartbeats 1000000 in
theorem walk (b : Bx) (w : World) (hs : b.cod.size ≤ maxLen) :
    Calls Try.prog 3 #[.agg #[.string b.cod, .int .i64 b.row, .int .i64 b.col, .int .i64 b.cnt]] w fun e w' => e = .returned (.bool true) ∧ Below w.heap.size w w' := by
  obtain ⟨w0, hw0⟩ : ∃ w0 : World, w0 = w.alloc (.cells #[.string b.cod, .int .i64 b.row, .int .i64 b.col, .int .i64 b.cnt] 23) := ⟨_, rfl⟩
  have hA : Below w.heap.size w w0 := by rw [hw0]; exact (Below.refl _ _).alloc (Nat.le_refl _) _
  have hz : w.heap.size < w0.heap.size := by rw [hw0]; simp
  have HK : Hid (∀ W : World, Below w0.heap.size w0 W → W.cell? ⟨w.heap.size, 0, none⟩ = some (.string b.cod) ∧ W.cell? ⟨w.heap.size, 1, none⟩ = some (.int .i64 b.row) ∧ W.cell? ⟨w.heap.size, 2, none⟩ = some (.int .i64 b.col) ∧ W.cell? ⟨w.heap.size, 3, none⟩ = some (.int .i64 b.cnt)) := Lib.hid (fun W h => ⟨by rw [h.cell hz, hw0]; simp, by rw [h.cell hz, hw0]; simp, by rw [h.cell hz, hw0]; simp, by rw [h.cell hz, hw0]; simp⟩)
  have HW0 := Lib.hid hw0; clear hw0 hz
  go_enter Try.func3, Try.ntmps3
  go_wp2_with fail
  rw [← HW0.out]
  refine (szBox_any b _ _ hs (by omega) (by omega)).mono ?_
  rintro e w1 ⟨rfl, hb1⟩
  by_cases h : (1048576 : Int) < b.cod.size
  · rw [if_pos h]
    go_wp2
    go_ret
    exact ⟨rfl, hA.trans (hb1.mono hA.size)⟩
  · rw [if_neg h]
    have h' : ¬ (1048576 : Int) - b.cod.size < 0 := by omega
    obtain ⟨c0, c1, c2, c3⟩ := HK.out _ hb1
    go_wp2_with fail
    refine (toBox_any b _).mono ?_
    rintro e w2 ⟨rfl, hb2⟩
    have hB2 := hb1.trans (hb2.mono hb1.size)
    clear c0 c1 c2 c3 hb1 hb2
    go_wp2_with fail
    refine (specIsBox_any b _ hs).mono ?_
    rintro e w3 ⟨rfl, hb3⟩
    have hB3 := hB2.trans (hb3.mono hB2.size)
    obtain ⟨c0, c1, c2, c3⟩ := HK.out _ hB3
    clear hB2 hb3
    go_wp2_with fail
    refine (toBox_any b _).mono ?_
    rintro e w4 ⟨rfl, hb4⟩
    have hB4 := hB3.trans (hb4.mono hB3.size)
    clear c0 c1 c2 c3 hB3 hb4
    go_wp2_with fail
    refine (implIsBox_any b _ hs).mono ?_
    rintro e w5 ⟨rfl, hb5⟩
    have hB5 := hB4.trans (hb5.mono hB4.size)
    have hne : (boxB b != boxB b) = false := by simp
    have hall := hA.trans (hB5.mono hA.size)
    clear hB4 hb5 hB5
    generalize boxB b = v at *
    go_wp2
    go_ret
    exact ⟨rfl, hall⟩

set_option maxRecDepth 100000 in
theorem lifted (os : Os) (started : os.Started) (H : Type) (enc : TypeId × Value → H) :
    ReturnsInHanded {} Try.checked os 3 .any (Rows.fnExactIsBoxSpec.pre6 enc Try.prog Try.f3 Rows.fnExactIsBoxRow.domain false) (Rows.fnExactIsBoxSpec.post enc Try.prog Try.f3 false true false false) := by
  refine returnsInHanded_of_change (C := Try.checked) own started (by kernel_rfl) Try.func3
    (ChangeSpec.witness6 (enc := enc) (C := Try.checked) false ⟨#[], #[.agg #[.string .empty, .int .i64 0, .int .i64 0, .int .i64 0]], []⟩ 8 (by kernel_rfl) (by kernel_rfl) (by kernel_rfl) (by kernel_rfl)) ?_
  intro W base args ds gs before hval0 hW hcnd _
  have hval : ∀ (j : Nat) t v, Try.f3.params[j]? = some t → args[j]? = some v → Value.okWide Try.prog W .any base t v := hval0
  have hW' := hW
  obtain ⟨p, q, hA0, hV, rfl, hfz, hnd⟩ := hW
  have hA : DataW.TrodAll enc Try.prog W 0 (fun _ => true) true Try.f3.params.toList args.toList ds p := hA0
  rw [Try.params3] at hA hval
  obtain ⟨v0, vs0, d0, ds0, p0, q0, hargs, rfl, rfl, h0, r0⟩ := trodAll_cons hA
  obtain ⟨rfl, rfl, rfl⟩ := trodAll_nil r0
  obtain rfl : args = #[v0] := by cases args; simp_all
  obtain ⟨rfl, rfl⟩ := trodVars_none hV
  have k0 := h0
  have lt0 : ∀ x ∈ p0, x.block < W.heap.size := by obtain ⟨m, hm⟩ := k0; exact DataW.trod_lt m _ _ _ hm
  obtain ⟨x, rfl, wa⟩ := open_bx (hval 0 23 v0 rfl rfl) h0
  clear hA0 hval0
  refine (walk x W wa).mono fun e W' ⟨he, bel⟩ => ?_
  subst he
  exact ⟨_, rfl, _, _, _, [], _, [], hW', trodAll_mk1 (shut_bool Try.underlying4 _), (trodAll_cons_mk (Below.trod laidOut (by kernel_rfl) (of_decide_eq_true (by kernel_rfl)) k0 bel lt0) trodAll_mk0), rfl, bel.frame _, fun h => by cases h⟩

theorem over : Rows.fnExactIsBoxRow.holds Try.pinned (OpenSpec.ofChange Rows.fnExactIsBoxSpec) :=
  OpenClaim.holds_of_wide 3 Try.f3 rfl rfl rfl rfl rfl rfl rfl ⟨rfl, rfl, rfl, rfl, rfl⟩ rfl rfl rfl rfl rfl (by kernel_rfl) Try.func3 (by kernel_rfl)
    (of_decide_eq_true (by kernel_rfl)) (by unfold Func.isWrapper; first | (rw [if_pos (by decide +kernel)]; kernel_rfl) | (rw [if_neg (by decide +kernel)]; exact ⟨rfl, rfl⟩))
    (fun os started H enc _ => lifted os started H enc)

theorem proved : Rows.FnExactIsBoxSaid := over
end Go.Proofs.Ytllafkeheppkjaa.fnExactIsBox

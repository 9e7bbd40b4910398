/-
  FnExactJoinMelts: for every input (a slice) the law returns true, and what it was given reads as before. Conditions: none beyond the given statement's own.
-/
import Derived.Test.YtebbgdihifihnaaRows
import Derived.Test.YtebbgdihifihnaaMjo
import Derived.Test.YtebbgdihifihnaaOpenMe
namespace Go.Proofs.Ytebbgdihifihnaa.fnExactJoinMelts
open Go.ChangeShapes Go.WideShapes Go.ChangeAt Go.RowKit Go.Joins
open Go.ChangeMaps (open_string shut_string)
set_option linter.unusedVariables false

theorem own : ownKnob Try.prog.godebug = none := by kernel_rfl
theorem laidOut : laidOutB Try.prog = true := by kernel_rfl

set_option maxRecDepth 100000 in
set_option maxHeartbeats 4000000 in
theorem walk (A : Option Addr) (f : List Me) (cap : Nat) (w : World) (hs : MesIn w A f) (hl : f.length ≤ maxLen) :
    Calls Try.prog 6 #[.slice A f.length cap] w fun e w' => e = .returned (.bool true) ∧ Below w.heap.size w w' := by
  have HS := Lib.hid hs; clear hs
  have A_0 : Hid (Below w.heap.size w w) := Lib.hid (Below.refl w.heap.size w)
  obtain ⟨R, hR⟩ : ∃ R, R = joinV f := ⟨_, rfl⟩
  have HRR := Lib.hid hR; clear hR
  go_enter Try.func6, Try.ntmps6
  go_wp2_with fail
  refine (szMeltS_any f A cap 1048576 _ hl (by omega) (by omega)).mono ?_
  rintro e w' ⟨rfl, hww⟩
  subst hww
  by_cases hlong : (1048576 : Int) < (f.length : Int)
  · rw [if_pos hlong]
    go_wp2
    go_ret
    exact ⟨rfl, A_0.out⟩
  rw [if_neg hlong]
  have hn : f.length ≤ 1048576 := by omega
  have hnn : ¬ (1048576 : Int) - (f.length : Int) < 0 := by omega
  clear hlong
  go_wp2_with fail
  refine (toMeltS_any f A cap _ (HS.out.below A_0.out (Nat.le_refl _)) hn).mono ?_
  rintro e u1 ⟨rfl, hb1, hoS0⟩
  have A_1 : Hid (Below w.heap.size w u1) := Lib.hid ((A_0.out).trans (Below.mono hb1 (A_0.out).size))
  clear A_0
  clear hb1
  have S0_1 : Hid (Own u1 w.heap.size 25 (flatMe f)) := Lib.hid hoS0
  clear hoS0
  go_wp2_with fail
  refine (specJoin_any f _ _ _ S0_1.out.mes hn).mono ?_
  rintro e u2 ⟨rfl, hb2⟩
  have A_2 : Hid (Below w.heap.size w u2) := Lib.hid ((A_1.out).trans (Below.mono hb2 (A_1.out).size))
  have S0_2 : Hid (Own u2 w.heap.size 25 (flatMe f)) := Lib.hid ((S0_1.out.below hb2 S0_1.out.lt))
  clear A_1 S0_1
  clear hb2
  clear S0_2
  rw [← HRR.out]
  obtain ⟨u3, hu3⟩ : ∃ x : World, x = (u2.alloc (.cells #[.int .i64 R.lea, .int .i64 R.tin, .int .i64 R.ant] 25)) := ⟨_, rfl⟩
  have hb3 : Below u2.heap.size u2 u3 := by rw [hu3]; exact ((Below.refl _ _).alloc (by simp) _)
  have hs3 : u2.heap.size < u3.heap.size := by rw [hu3]; simp
  have A_3 : Hid (Below w.heap.size w u3) := Lib.hid ((A_2.out).trans (Below.mono hb3 (A_2.out).size))
  clear A_2
  clear hb3
  have S_3 : Hid (MeAt u3 u2.heap.size 25 R) := Lib.hid (show MeAt u3 u2.heap.size 25 R by rw [hu3]; exact MeAt.new _ _ _)
  have HW3 := Lib.hid hu3; clear hu3
  go_wp2_with fail
  rw [← HW3.out]
  refine (toMeltS_any f A cap _ (HS.out.below A_3.out (Nat.le_refl _)) hn).mono ?_
  rintro e u4 ⟨rfl, hb4, hoX⟩
  have A_4 : Hid (Below w.heap.size w u4) := Lib.hid ((A_3.out).trans (Below.mono hb4 (A_3.out).size))
  have S_4 : Hid (MeAt u4 u2.heap.size 25 R) := Lib.hid (S_3.out.next hb4)
  clear A_3 S_3
  clear hb4
  have X_4 : Hid (Own u4 u3.heap.size 25 (flatMe f)) := Lib.hid hoX
  clear hoX
  go_wp2_with fail
  refine (implJoin_any f _ _ _ X_4.out.mes hn).mono ?_
  rintro e u5 ⟨rfl, hb5⟩
  have A_5 : Hid (Below w.heap.size w u5) := Lib.hid ((A_4.out).trans (Below.mono hb5 (A_4.out).size))
  have S_5 : Hid (MeAt u5 u2.heap.size 25 R) := Lib.hid (S_4.out.next hb5)
  have X_5 : Hid (Own u5 u3.heap.size 25 (flatMe f)) := Lib.hid ((X_4.out.below hb5 X_4.out.lt))
  clear A_4 S_4 X_4
  clear hb5
  rw [← HRR.out]
  obtain ⟨y0, y1, y2⟩ := (S_5.out).cells
  have yl := (S_5.out).lt
  obtain ⟨u6, hu6⟩ : ∃ x : World, x = (u5.alloc (.cells #[.int .i64 R.lea, .int .i64 R.tin, .int .i64 R.ant] 25)) := ⟨_, rfl⟩
  have hb6 : Below u5.heap.size u5 u6 := by rw [hu6]; exact ((Below.refl _ _).alloc (by simp) _)
  have hs6 : u5.heap.size < u6.heap.size := by rw [hu6]; simp
  have A_6 : Hid (Below w.heap.size w u6) := Lib.hid ((A_5.out).trans (Below.mono hb6 (A_5.out).size))
  have S_6 : Hid (MeAt u6 u2.heap.size 25 R) := Lib.hid (S_5.out.next hb6)
  have X_6 : Hid (Own u6 u3.heap.size 25 (flatMe f)) := Lib.hid ((X_5.out.below hb6 X_5.out.lt))
  clear A_5 S_5 X_5
  clear hb6
  have G_6 : Hid (MeAt u6 u5.heap.size 25 R) := Lib.hid (show MeAt u6 u5.heap.size 25 R by rw [hu6]; exact MeAt.new _ _ _)
  have HW6 := Lib.hid hu6; clear hu6
  go_wp2_with fail
  rw [← HW6.out]
  refine (eqMelt_any R R _).mono ?_
  rintro e u7 ⟨rfl, hb7⟩
  have A_7 : Hid (Below w.heap.size w u7) := Lib.hid ((A_6.out).trans (Below.mono hb7 (A_6.out).size))
  have S_7 : Hid (MeAt u7 u2.heap.size 25 R) := Lib.hid (S_6.out.next hb7)
  have X_7 : Hid (Own u7 u3.heap.size 25 (flatMe f)) := Lib.hid ((X_6.out.below hb7 X_6.out.lt))
  have G_7 : Hid (MeAt u7 u5.heap.size 25 R) := Lib.hid (G_6.out.next hb7)
  clear A_6 S_6 X_6 G_6
  clear hb7
  clear y0 y1 y2 yl
  rw [show decide (R = R) = true from decide_eq_true rfl]
  generalize joinB f = g at *
  have hne : (g != g) = false := by simp
  go_wp2_with fail
  refine (toMeltS_any f A cap _ (HS.out.below A_7.out (Nat.le_refl _)) hn).mono ?_
  rintro e u8 ⟨rfl, hb8, hoY⟩
  have A_8 : Hid (Below w.heap.size w u8) := Lib.hid ((A_7.out).trans (Below.mono hb8 (A_7.out).size))
  have S_8 : Hid (MeAt u8 u2.heap.size 25 R) := Lib.hid (S_7.out.next hb8)
  have X_8 : Hid (Own u8 u3.heap.size 25 (flatMe f)) := Lib.hid ((X_7.out.below hb8 X_7.out.lt))
  have G_8 : Hid (MeAt u8 u5.heap.size 25 R) := Lib.hid (G_7.out.next hb8)
  clear A_7 S_7 X_7 G_7
  clear hb8
  have Y_8 : Hid (Own u8 u7.heap.size 25 (flatMe f)) := Lib.hid hoY
  clear hoY
  go_wp2_with fail
  refine (eqMeltS_any f f _ _ _ _ _ X_8.out.mes Y_8.out.mes hl hl).mono ?_
  rintro e u9 ⟨rfl, hb9⟩
  have A_9 : Hid (Below w.heap.size w u9) := Lib.hid ((A_8.out).trans (Below.mono hb9 (A_8.out).size))
  have S_9 : Hid (MeAt u9 u2.heap.size 25 R) := Lib.hid (S_8.out.next hb9)
  have X_9 : Hid (Own u9 u3.heap.size 25 (flatMe f)) := Lib.hid ((X_8.out.below hb9 X_8.out.lt))
  have G_9 : Hid (MeAt u9 u5.heap.size 25 R) := Lib.hid (G_8.out.next hb9)
  have Y_9 : Hid (Own u9 u7.heap.size 25 (flatMe f)) := Lib.hid ((Y_8.out.below hb9 Y_8.out.lt))
  clear A_8 S_8 X_8 G_8 Y_8
  clear hb9
  rw [show decide (f = f) = true from decide_eq_true rfl]
  go_wp2
  go_ret
  exact ⟨rfl, A_9.out⟩

set_option maxRecDepth 100000 in
theorem lifted (os : Os) (started : os.Started) (H : Type) (enc : TypeId × Value → H) :
    ReturnsInHanded {} Try.checked os 6 .any (Rows.fnExactJoinMeltsSpec.pre6 enc Try.prog Try.f6 Rows.fnExactJoinMeltsRow.domain false) (Rows.fnExactJoinMeltsSpec.post enc Try.prog Try.f6 false true false false) := by
  refine returnsInHanded_of_change (C := Try.checked) own started (by kernel_rfl) Try.func6
    (ChangeSpec.witness6 (enc := enc) (C := Try.checked) false ⟨#[], #[.slice none 0 0], []⟩ 8 (by kernel_rfl) (by kernel_rfl) (by kernel_rfl) (by kernel_rfl)) ?_
  intro W base args ds gs before hval0 hW hcnd _
  have hval : ∀ (j : Nat) t v, Try.f6.params[j]? = some t → args[j]? = some v → Value.okWide Try.prog W .any base t v := hval0
  have hW' := hW
  obtain ⟨p, q, hA0, hV, rfl, hfz, hnd⟩ := hW
  have hA : DataW.TrodAll enc Try.prog W 0 (fun _ => true) true Try.f6.params.toList args.toList ds p := hA0
  rw [Try.params6] at hA hval
  obtain ⟨v0, vs0, d0, ds0, p0, q0, hargs, rfl, rfl, h0, r0⟩ := trodAll_cons hA
  obtain ⟨rfl, rfl, rfl⟩ := trodAll_nil r0
  obtain rfl : args = #[v0] := by cases args; simp_all
  obtain ⟨rfl, rfl⟩ := trodVars_none hV
  have k0 := h0
  have lt0 : ∀ x ∈ p0, x.block < W.heap.size := by obtain ⟨m, hm⟩ := k0; exact DataW.trod_lt m _ _ _ hm
  obtain ⟨A0, f0, cap0, rfl, hs0, hl0⟩ := open_mes (hval 0 35 v0 rfl rfl) h0
  clear hA0 hval0
  refine (walk A0 f0 cap0 W hs0 hl0).mono fun e W' ⟨he, bel⟩ => ?_
  subst he
  exact ⟨_, rfl, _, _, _, [], _, [], hW', trodAll_mk1 (shut_bool Try.underlying4 _), (trodAll_cons_mk (Below.trod laidOut (by kernel_rfl) (of_decide_eq_true (by kernel_rfl)) k0 bel lt0) trodAll_mk0), rfl, bel.frame _, fun h => by cases h⟩

theorem over : Rows.fnExactJoinMeltsRow.holds Try.pinned (OpenSpec.ofChange Rows.fnExactJoinMeltsSpec) :=
  OpenClaim.holds_of_wide 6 Try.f6 rfl rfl rfl rfl rfl rfl rfl ⟨rfl, rfl, rfl, rfl, rfl⟩ rfl rfl rfl rfl rfl (by kernel_rfl) Try.func6 (by kernel_rfl)
    (of_decide_eq_true (by kernel_rfl)) (by unfold Func.isWrapper; first | (rw [if_pos (by decide +kernel)]; kernel_rfl) | (rw [if_neg (by decide +kernel)]; exact ⟨rfl, rfl⟩))
    (fun os started H enc _ => lifted os started H enc)

theorem proved : Rows.FnExactJoinMeltsSaid := over
end Go.Proofs.Ytebbgdihifihnaa.fnExactJoinMelts

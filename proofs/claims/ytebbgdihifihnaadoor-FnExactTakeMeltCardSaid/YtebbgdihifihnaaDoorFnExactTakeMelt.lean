/-
  FnExactTakeMelt: for every input (a melt and an int) the law returns true, and what it was given reads as before. The table impl.blended starts as the program's text lays it; the card ties that to the text. Conditions: none beyond the given statement's own.
-/
import Derived.Test.YtebbgdihifihnaaDoorRows
import Derived.Test.YtebbgdihifihnaaDoorCards
import Derived.Test.YtebbgdihifihnaaDoorTie
import Derived.Test.YtebbgdihifihnaaDoorTai
import Derived.Test.YtebbgdihifihnaaDoorOpenMe
import Derived.Lib.LaidTab
import Derived.LaidMore
import Derived.LaidHandle
import Derived.MakeChecks
import Derived.OpenShut
import Derived.OpenVars
import Derived.Stop.Joined
import Derived.Stop.LaidErr
import Derived.SevenTiedAt
namespace Go.Proofs.YtebbgdihifihnaaDoor.fnExactTakeMelt
open Go Go.ChangeShapes Go.WideShapes Go.ChangeAt Go.RowKit Go.Joins
open Go.ChangeMaps (open_string shut_string)
set_option linter.unusedVariables false

theorem own : ownKnob Tryd.prog.godebug = none := by kernel_rfl
theorem laidOut : laidOutB Tryd.prog = true := by kernel_rfl

set_option maxRecDepth 100000 in
set_option maxHeartbeats 2000000 in
theorem walk (a0 : Me) (a1 : Int) (w : World) (r1 : -9223372036854775808 ≤ a1 ∧ a1 ≤ 9223372036854775807) (ht : TabM w) :
    Calls Tryd.prog 5 #[.agg #[.int .i64 a0.lea, .int .i64 a0.tin, .int .i64 a0.ant], .int .i64 a1] w fun e w' => e = .returned (.bool true) ∧ Below w.heap.size w w' := by
  have HT := Lib.hid ht; clear ht
  obtain ⟨w0, hw0⟩ : ∃ w0 : World, w0 = (w.alloc (.cells #[.int .i64 a0.lea, .int .i64 a0.tin, .int .i64 a0.ant] 29)) := ⟨_, rfl⟩
  have A_0 : Hid (Below w.heap.size w w0) := Lib.hid (show Below _ _ _ by rw [hw0]; exact ((Below.refl _ _).alloc (by simp) _))
  have X0_0 : Hid (MeAt w0 (w.heap.size) 29 a0) := Lib.hid (show MeAt _ _ _ _ by rw [hw0]; exact (MeAt.new _ _ _))
  have HW0 := Lib.hid hw0; clear hw0
  have HR1 := Lib.hid r1; clear r1
  obtain ⟨R0, hR0⟩ : ∃ R, R = takV a0 a1 := ⟨_, rfl⟩
  have HRR0 := Lib.hid hR0; clear hR0
  obtain ⟨R1, hR1⟩ : ∃ R, R = takW a0 a1 := ⟨_, rfl⟩
  have HRR1 := Lib.hid hR1; clear hR1
  go_enter Tryd.func5, Tryd.ntmps5
  go_wp2_with fail
  rw [← HW0.out]
  refine (toMelt_any a0 _).mono ?_
  rintro e u1 ⟨rfl, hb1⟩
  have A_1 : Hid (Below w.heap.size w u1) := Lib.hid ((A_0.out).trans (Below.mono hb1 (A_0.out).size))
  have X0_1 : Hid (MeAt u1 (w.heap.size) 29 a0) := Lib.hid ((X0_0.out).next hb1)
  clear A_0 X0_0
  clear hb1
  go_wp2_with fail
  refine (specTake_any a0 a1 _).mono ?_
  rintro e u2 ⟨rfl, hb2⟩
  have A_2 : Hid (Below w.heap.size w u2) := Lib.hid ((A_1.out).trans (Below.mono hb2 (A_1.out).size))
  have X0_2 : Hid (MeAt u2 (w.heap.size) 29 a0) := Lib.hid ((X0_1.out).next hb2)
  clear A_1 X0_1
  clear hb2
  rw [← HRR0.out]
  rw [← HRR1.out]
  obtain ⟨q00, q01, q02⟩ := (X0_2.out).cells
  have q0l := (X0_2.out).lt
  obtain ⟨u3, hu3⟩ : ∃ x : World, x = ((u2.alloc (.cells #[.int .i64 R0.lea, .int .i64 R0.tin, .int .i64 R0.ant] 32)).alloc (.cells #[.int .i64 R1.lea, .int .i64 R1.tin, .int .i64 R1.ant] 32)) := ⟨_, rfl⟩
  have hb3 : Below u2.heap.size u2 u3 := by rw [hu3]; exact (((Below.refl _ _).alloc (by simp) _).alloc (by simp) _)
  have hs3 : u2.heap.size < u3.heap.size := by rw [hu3]; simp; omega
  have A_3 : Hid (Below w.heap.size w u3) := Lib.hid ((A_2.out).trans (Below.mono hb3 (A_2.out).size))
  have X0_3 : Hid (MeAt u3 (w.heap.size) 29 a0) := Lib.hid ((X0_2.out).next hb3)
  clear A_2 X0_2
  clear hb3
  have S0_3 : Hid (MeAt u3 u2.heap.size 32 R0) := Lib.hid (show MeAt u3 u2.heap.size 32 R0 by rw [hu3]; exact (MeAt.new _ _ _).alloc _)
  have S1_3 : Hid (MeAt u3 (u2.heap.size + 1) 32 R1) := Lib.hid (show MeAt u3 (u2.heap.size + 1) 32 R1 by rw [hu3]; exact heap_alloc2_new _ _ _)
  have HW3 := Lib.hid hu3; clear hu3
  go_wp2_with fail
  rw [← HW3.out]
  refine (toMelt_any a0 _).mono ?_
  rintro e u4 ⟨rfl, hb4⟩
  have A_4 : Hid (Below w.heap.size w u4) := Lib.hid ((A_3.out).trans (Below.mono hb4 (A_3.out).size))
  have X0_4 : Hid (MeAt u4 (w.heap.size) 29 a0) := Lib.hid ((X0_3.out).next hb4)
  have S0_4 : Hid (MeAt u4 u2.heap.size 32 R0) := Lib.hid (S0_3.out.next hb4)
  have S1_4 : Hid (MeAt u4 (u2.heap.size + 1) 32 R1) := Lib.hid (S1_3.out.next hb4)
  clear A_3 X0_3 S0_3 S1_3
  clear hb4
  clear q00 q01 q02 q0l
  go_wp2_with fail
  refine (implTake_any a0 a1 _ (HT.out.next A_4.out)).mono ?_
  rintro e u5 ⟨rfl, hb5⟩
  have A_5 : Hid (Below w.heap.size w u5) := Lib.hid ((A_4.out).trans (Below.mono hb5 (A_4.out).size))
  have X0_5 : Hid (MeAt u5 (w.heap.size) 29 a0) := Lib.hid ((X0_4.out).next hb5)
  have S0_5 : Hid (MeAt u5 u2.heap.size 32 R0) := Lib.hid (S0_4.out.next hb5)
  have S1_5 : Hid (MeAt u5 (u2.heap.size + 1) 32 R1) := Lib.hid (S1_4.out.next hb5)
  clear A_4 X0_4 S0_4 S1_4
  clear hb5
  rw [← HRR0.out]
  rw [← HRR1.out]
  obtain ⟨y00, y01, y02⟩ := (S0_5.out).cells
  have y0l := (S0_5.out).lt
  obtain ⟨y10, y11, y12⟩ := (S1_5.out).cells
  have y1l := (S1_5.out).lt
  obtain ⟨u6, hu6⟩ : ∃ x : World, x = ((u5.alloc (.cells #[.int .i64 R0.lea, .int .i64 R0.tin, .int .i64 R0.ant] 32)).alloc (.cells #[.int .i64 R1.lea, .int .i64 R1.tin, .int .i64 R1.ant] 32)) := ⟨_, rfl⟩
  have hb6 : Below u5.heap.size u5 u6 := by rw [hu6]; exact (((Below.refl _ _).alloc (by simp) _).alloc (by simp) _)
  have hs6 : u5.heap.size < u6.heap.size := by rw [hu6]; simp; omega
  have A_6 : Hid (Below w.heap.size w u6) := Lib.hid ((A_5.out).trans (Below.mono hb6 (A_5.out).size))
  have X0_6 : Hid (MeAt u6 (w.heap.size) 29 a0) := Lib.hid ((X0_5.out).next hb6)
  have S0_6 : Hid (MeAt u6 u2.heap.size 32 R0) := Lib.hid (S0_5.out.next hb6)
  have S1_6 : Hid (MeAt u6 (u2.heap.size + 1) 32 R1) := Lib.hid (S1_5.out.next hb6)
  clear A_5 X0_5 S0_5 S1_5
  clear hb6
  have G0_6 : Hid (MeAt u6 u5.heap.size 32 R0) := Lib.hid (show MeAt u6 u5.heap.size 32 R0 by rw [hu6]; exact (MeAt.new _ _ _).alloc _)
  have G1_6 : Hid (MeAt u6 (u5.heap.size + 1) 32 R1) := Lib.hid (show MeAt u6 (u5.heap.size + 1) 32 R1 by rw [hu6]; exact heap_alloc2_new _ _ _)
  have HW6 := Lib.hid hu6; clear hu6
  go_wp2_with fail
  rw [← HW6.out]
  refine (eqMelt_any R0 R0 _).mono ?_
  rintro e u7 ⟨rfl, hb7⟩
  have A_7 : Hid (Below w.heap.size w u7) := Lib.hid ((A_6.out).trans (Below.mono hb7 (A_6.out).size))
  have X0_7 : Hid (MeAt u7 (w.heap.size) 29 a0) := Lib.hid ((X0_6.out).next hb7)
  have S0_7 : Hid (MeAt u7 u2.heap.size 32 R0) := Lib.hid (S0_6.out.next hb7)
  have S1_7 : Hid (MeAt u7 (u2.heap.size + 1) 32 R1) := Lib.hid (S1_6.out.next hb7)
  have G0_7 : Hid (MeAt u7 u5.heap.size 32 R0) := Lib.hid (G0_6.out.next hb7)
  have G1_7 : Hid (MeAt u7 (u5.heap.size + 1) 32 R1) := Lib.hid (G1_6.out.next hb7)
  clear A_6 X0_6 S0_6 S1_6 G0_6 G1_6
  clear hb7
  clear y00 y01 y02 y10 y11 y12 y0l y1l
  rw [show decide (R0 = R0) = true from decide_eq_true rfl]
  obtain ⟨zS10, zS11, zS12⟩ := (S1_7.out).cells
  have zS1l := (S1_7.out).lt
  obtain ⟨zG10, zG11, zG12⟩ := (G1_7.out).cells
  have zG1l := (G1_7.out).lt
  go_wp2_with fail
  refine (eqMelt_any R1 R1 _).mono ?_
  rintro e u8 ⟨rfl, hb8⟩
  have A_8 : Hid (Below w.heap.size w u8) := Lib.hid ((A_7.out).trans (Below.mono hb8 (A_7.out).size))
  have X0_8 : Hid (MeAt u8 (w.heap.size) 29 a0) := Lib.hid ((X0_7.out).next hb8)
  have S0_8 : Hid (MeAt u8 u2.heap.size 32 R0) := Lib.hid (S0_7.out.next hb8)
  have S1_8 : Hid (MeAt u8 (u2.heap.size + 1) 32 R1) := Lib.hid (S1_7.out.next hb8)
  have G0_8 : Hid (MeAt u8 u5.heap.size 32 R0) := Lib.hid (G0_7.out.next hb8)
  have G1_8 : Hid (MeAt u8 (u5.heap.size + 1) 32 R1) := Lib.hid (G1_7.out.next hb8)
  clear A_7 X0_7 S0_7 S1_7 G0_7 G1_7
  clear hb8
  clear zS10 zS11 zS12 zG10 zG11 zG12 zS1l zG1l
  rw [show decide (R1 = R1) = true from decide_eq_true rfl]
  generalize takB a0 a1 = g2 at *
  have hne2 : (g2 != g2) = false := by simp
  go_wp2
  go_ret
  exact ⟨rfl, A_8.out⟩

def laid1 : List (String × DataW Unit) := [("loop.example/g01054/impl.blended", Rows.laid_loop_example_g01054_impl_blended)]
theorem tab_of {W : World} (h : laidMetH Tryd.prog laid1 W) : TabM W := by
  rw [MakeChecks.laidMetH_plain _ _ _ (by kernel_rfl)] at h
  exact Lib.tabIs_of_head (g := 0) (t := 59) (e := 58) (n := 2) (by kernel_rfl) (by kernel_rfl) (by kernel_rfl) (by kernel_rfl) (by kernel_rfl) (by kernel_rfl) h
set_option maxRecDepth 100000 in
theorem door_met (os : Os) (args : Array Value) : laidMetH Tryd.prog laid1 ((World.doorLaid Tryd.prog 400 os).forCall (fun _ _ => 0) ⟨#[], args, []⟩).memory :=
  laidMetH_of_parts3 (fuel := 8) (laidMet_of_run' 8 (by kernel_rfl) (by kernel_rfl)) (by kernel_rfl) (by kernel_rfl)

set_option maxRecDepth 100000 in
theorem lifted (os : Os) (started : os.Started) (H : Type) (enc : TypeId × Value → H) :
    ReturnsInHanded {} Tryd.checked os 5 .any (fun w args => (Rows.fnExactTakeMeltSpec.pre enc Tryd.prog Tryd.f5 [] false w args ∧ laidMetH Tryd.prog laid1 w) ∧ sizedMet enc Tryd.prog Tryd.f5 (OpenSpec.ofChange Rows.fnExactTakeMeltSpec) false w args)
      (Rows.fnExactTakeMeltSpec.post enc Tryd.prog Tryd.f5 false true false false) := by
  refine returnsInHanded_of_change_and (C := Tryd.checked) (X := fun w _ => laidMetH Tryd.prog laid1 w) (fun _ _ _ hh h => h.of_heap hh) own started (by kernel_rfl) Tryd.func5
    (ChangeSpec.witness_shaped (enc := enc) (C := Tryd.checked) (os := os) (X := fun w _ => laidMetH Tryd.prog laid1 w) false (World.doorLaid Tryd.prog 400 os) #[.agg #[.int .i64 0, .int .i64 0, .int .i64 0], .int .i64 0] 8 rfl (World.shaped_of_RefB (by kernel_rfl) (by kernel_rfl)) (by kernel_rfl) (by kernel_rfl) (by kernel_rfl) (door_met os _)) ?_
  intro W base args ds gs before hval0 hW _ _ hL _
  have hval : ∀ (j : Nat) t v, Tryd.f5.params[j]? = some t → args[j]? = some v → Value.okWide Tryd.prog W .any base t v := hval0
  have hW' := hW
  obtain ⟨p, q, hA0, hV, rfl, hfz, hnd⟩ := hW
  have hA : DataW.TrodAll enc Tryd.prog W 0 (fun _ => true) true Tryd.f5.params.toList args.toList ds p := hA0
  rw [Tryd.params5] at hA hval
  obtain ⟨v0, vs0, d0, ds0, p0, q0, hargs, rfl, rfl, h0, r0⟩ := trodAll_cons hA
  obtain ⟨v1, vs1, d1, ds1, p1, q1, rfl, rfl, rfl, h1, r1⟩ := trodAll_cons r0
  obtain ⟨rfl, rfl, rfl⟩ := trodAll_nil r1
  obtain rfl : args = #[v0, v1] := by cases args; simp_all
  have hV2 := hV
  obtain ⟨gg, tt, csv, fuv, dv, pv, rfl, _, _, _, _, _⟩ := trodVars_one hV
  have k0 := h0
  have lt0 : ∀ x ∈ p0, x.block < W.heap.size := by obtain ⟨m, hm⟩ := k0; exact DataW.trod_lt m _ _ _ hm
  have k1 := h1
  have lt1 : ∀ x ∈ p1, x.block < W.heap.size := by obtain ⟨m, hm⟩ := k1; exact DataW.trod_lt m _ _ _ hm
  obtain ⟨a0, rfl, wa0⟩ := open_me (hval 0 29 v0 rfl rfl) h0
  obtain ⟨a1, rfl, rfl, rfl, wa1⟩ := open_int Tryd.underlying3 (hval 1 3 v1 rfl rfl) h1
  clear hA0 hval0
  refine (walk a0 a1 W (wf_range wa1) (tab_of hL)).mono fun e W' ⟨he, bel⟩ => ?_
  subst he
  exact ⟨_, rfl, _, _, _, [], _, _, hW', trodAll_mk1 (shut_bool Tryd.underlying4 _), (trodAll_cons_mk (Below.trod laidOut (by kernel_rfl) (of_decide_eq_true (by kernel_rfl)) k0 bel lt0) (trodAll_cons_mk (Below.trod laidOut (by kernel_rfl) (of_decide_eq_true (by kernel_rfl)) k1 bel lt1) trodAll_mk0)), Below.trodVars laidOut bel (by kernel_rfl) hV2, bel.frame _, fun h => by cases h⟩

theorem over : Rows.FnExactTakeMeltSaid :=
  OpenClaim.holds_of_wide 5 Tryd.f5 rfl rfl rfl rfl rfl rfl rfl ⟨rfl, rfl, rfl, rfl, rfl⟩ rfl rfl rfl rfl rfl (by kernel_rfl) Tryd.func5 (by kernel_rfl)
    (of_decide_eq_true (by kernel_rfl)) (by unfold Func.isWrapper; first | (rw [if_pos (by decide +kernel)]; kernel_rfl) | (rw [if_neg (by decide +kernel)]; exact ⟨rfl, rfl⟩))
    (fun os started H enc _ => lifted os started H enc)

theorem proved : Rows.FnExactTakeMeltCardSaid :=
  Claim7.holds_tied_plain_at .later [] [.data] true (true, "fa3bce40a6e5a6b9e23211b0d1e5c99bc66486357f85b885e94caca56b2c16cb") true
    over (fun _ h => by cases h) (by kernel_rfl) (fun _ h => by cases h) fnExactTakeMelt_row_tie rfl ⟨rfl, rfl⟩ (by kernel_rfl) rfl
    (fun f fn hf hfn => by
      obtain rfl : f = 5 := Option.some.inj ((show Tryd.prog.funcNamed "loop.example/g01054/laws.FnExactTakeMelt" = some 5 by kernel_rfl).symm.trans hf) |>.symm
      obtain rfl : fn = Tryd.f5 := (Option.some.inj (Tryd.func5.symm.trans hfn)).symm
      exact ⟨by kernel_rfl, fun j t ht => by
        rw [Tryd.params5] at ht
        have hm : t ∈ [29, 3] := by simpa using Array.mem_of_getElem? ht
        have hall : ([29, 3].all fun u => !Tryd.prog.wantsStandIn u) = true := by kernel_rfl
        exact (show Tryd.prog.wantsStandIn t = false by simpa using List.all_eq_true.1 hall t hm)⟩)
    (by kernel_rfl)
end Go.Proofs.YtebbgdihifihnaaDoor.fnExactTakeMelt

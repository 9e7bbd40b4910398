/-
  FnExactLeadToAdd: for every input (a melt and a blend) the law returns true, and what it was given reads as before. The table impl.blended starts as the program's text lays it; the card ties that to the text. Conditions: none beyond the given statement's own.
-/
import Derived.Test.YtebbgdihifihnaaDoorRows
import Derived.Test.YtebbgdihifihnaaDoorCards
import Derived.Test.YtebbgdihifihnaaDoorTie
import Derived.Test.YtebbgdihifihnaaDoorLed
import Derived.Test.YtebbgdihifihnaaDoorOpenMe
import Derived.Test.YtebbgdihifihnaaDoorOpenBd
import Derived.Lib.LaidTab
import Derived.LaidMore
import Derived.LaidHandle
import Derived.MakeChecks
import Derived.OpenShut
import Derived.OpenVars
import Derived.Stop.Joined
import Derived.Stop.LaidErr
import Derived.SevenTiedAt
namespace Go.Proofs.YtebbgdihifihnaaDoor.fnExactLeadToAdd
open Go Go.ChangeShapes Go.WideShapes Go.ChangeAt Go.RowKit Go.Joins
open Go.ChangeMaps (open_string shut_string)
set_option linter.unusedVariables false

theorem own : ownKnob Tryd.prog.godebug = none := by kernel_rfl
theorem laidOut : laidOutB Tryd.prog = true := by kernel_rfl

set_option maxRecDepth 100000 in
set_option maxHeartbeats 2000000 in
theorem walk (a0 : Me) (a1 : Bd) (w : World)  (ht : TabM w) :
    Calls Tryd.prog 8 #[.agg #[.int .i64 a0.lea, .int .i64 a0.tin, .int .i64 a0.ant], .agg #[.int .i64 a1.lot, .int .i64 a1.hit, .int .i64 a1.loa, .int .i64 a1.hia]] w fun e w' => e = .returned (.bool true) ∧ Below w.heap.size w w' := by
  have HT := Lib.hid ht; clear ht
  obtain ⟨w0, hw0⟩ : ∃ w0 : World, w0 = ((w.alloc (.cells #[.int .i64 a0.lea, .int .i64 a0.tin, .int .i64 a0.ant] 29)).alloc (.cells #[.int .i64 a1.lot, .int .i64 a1.hit, .int .i64 a1.loa, .int .i64 a1.hia] 23)) := ⟨_, rfl⟩
  have A_0 : Hid (Below w.heap.size w w0) := Lib.hid (show Below _ _ _ by rw [hw0]; exact (((Below.refl _ _).alloc (by simp) _).alloc (by simp) _))
  have X0_0 : Hid (MeAt w0 (w.heap.size) 29 a0) := Lib.hid (show MeAt _ _ _ _ by rw [hw0]; exact MeAt.alloc ((MeAt.new _ _ _)) _)
  have X1_0 : Hid (BdAt w0 (w.heap.size + 1) 23 a1) := Lib.hid (show BdAt _ _ _ _ by rw [hw0]; exact heap_alloc2_new _ _ _)
  have HW0 := Lib.hid hw0; clear hw0
  go_enter Tryd.func8, Tryd.ntmps8
  obtain ⟨q00, q01, q02⟩ := (X0_0.out).kept (B := w0.heap.size) (X0_0.out).lt
  obtain ⟨q10, q11, q12, q13⟩ := (X1_0.out).kept (B := w0.heap.size) (X1_0.out).lt
  go_wp2_with fail
  rw [← HW0.out]
  refine region_mid w0.heap.size 4 (by kernel_rfl) (by kernel_rfl) rfl ?_
  simp only [List.take_succ_cons, List.take_zero]
  repeat (go_big_quiet_step (fail))
  go_big_quiet_step ((go_at_call 17; exact kept_call _ (Nat.le_refl _) (toMelt_any a0 _)))
  repeat (go_big_quiet_step (fail))
  go_big_quiet_step ((go_at_call 14; exact kept_call _ (Nat.le_refl _) (toBlend_any a1 _)))
  repeat (go_big_quiet_step (fail))
  refine wpQuiet_nil ?_
  intro u1 hb1 K hK
  clear q00 q01 q02 q10 q11 q12 q13
  have A_1 : Hid (Below w.heap.size w u1) := Lib.hid ((A_0.out).trans (Below.mono hb1 (A_0.out).size))
  have X0_1 : Hid (MeAt u1 (w.heap.size) 29 a0) := Lib.hid ((X0_0.out).next hb1)
  have X1_1 : Hid (BdAt u1 (w.heap.size + 1) 23 a1) := Lib.hid ((X1_0.out).next hb1)
  clear A_0 X0_0 X1_0
  clear hb1
  go_simp
  go_at_call 26
  refine (specLead_any a0 a1 _).mono ?_
  rintro e u2 ⟨rfl, hb2⟩
  have A_2 : Hid (Below w.heap.size w u2) := Lib.hid ((A_1.out).trans (Below.mono hb2 (A_1.out).size))
  have X0_2 : Hid (MeAt u2 (w.heap.size) 29 a0) := Lib.hid ((X0_1.out).next hb2)
  have X1_2 : Hid (BdAt u2 (w.heap.size + 1) 23 a1) := Lib.hid ((X1_1.out).next hb2)
  clear A_1 X0_1 X1_1
  clear hb2
  refine hK _ _ ?_
  clear hK
  simp only [List.drop_succ_cons, List.drop_zero]
  repeat (go_big_quiet_step (fail))
  refine wpQuiet_nil ?_
  obtain ⟨q00, q01, q02⟩ := (X0_2.out).kept (B := u2.heap.size) (X0_2.out).lt
  obtain ⟨q10, q11, q12, q13⟩ := (X1_2.out).kept (B := u2.heap.size) (X1_2.out).lt
  go_wp2_with fail
  refine region_mid u2.heap.size 4 (by kernel_rfl) (by kernel_rfl) rfl ?_
  simp only [List.take_succ_cons, List.take_zero]
  repeat (go_big_quiet_step (fail))
  go_big_quiet_step ((go_at_call 17; exact kept_call _ (Nat.le_refl _) (toMelt_any a0 _)))
  repeat (go_big_quiet_step (fail))
  go_big_quiet_step ((go_at_call 14; exact kept_call _ (Nat.le_refl _) (toBlend_any a1 _)))
  repeat (go_big_quiet_step (fail))
  refine wpQuiet_nil ?_
  intro u3 hb3 K hK
  clear q00 q01 q02 q10 q11 q12 q13
  have A_3 : Hid (Below w.heap.size w u3) := Lib.hid ((A_2.out).trans (Below.mono hb3 (A_2.out).size))
  have X0_3 : Hid (MeAt u3 (w.heap.size) 29 a0) := Lib.hid ((X0_2.out).next hb3)
  have X1_3 : Hid (BdAt u3 (w.heap.size + 1) 23 a1) := Lib.hid ((X1_2.out).next hb3)
  clear A_2 X0_2 X1_2
  clear hb3
  go_simp
  go_at_call 27
  refine (implLead_any a0 a1 _ (HT.out.next A_3.out)).mono ?_
  rintro e u4 ⟨rfl, hb4⟩
  have A_4 : Hid (Below w.heap.size w u4) := Lib.hid ((A_3.out).trans (Below.mono hb4 (A_3.out).size))
  have X0_4 : Hid (MeAt u4 (w.heap.size) 29 a0) := Lib.hid ((X0_3.out).next hb4)
  have X1_4 : Hid (BdAt u4 (w.heap.size + 1) 23 a1) := Lib.hid ((X1_3.out).next hb4)
  clear A_3 X0_3 X1_3
  clear hb4
  refine hK _ _ ?_
  clear hK
  simp only [List.drop_succ_cons, List.drop_zero]
  repeat (go_big_quiet_step (fail))
  refine wpQuiet_nil ?_
  generalize (ledR a0 a1).getD 0 = g0 at *
  have hne0 : (g0 != g0) = false := by simp
  generalize (ledR a0 a1).isSome = g1 at *
  have hne1 : (g1 != g1) = false := by simp
  go_wp2
  go_ret
  exact ⟨rfl, A_4.out⟩

def laid1 : List (String × DataW Unit) := [("loop.example/g01054/impl.blended", Rows.laid_loop_example_g01054_impl_blended)]
theorem tab_of {W : World} (h : laidMetH Tryd.prog laid1 W) : TabM W := by
  rw [MakeChecks.laidMetH_plain _ _ _ (by kernel_rfl)] at h
  exact Lib.tabIs_of_head (g := 0) (t := 59) (e := 58) (n := 2) (by kernel_rfl) (by kernel_rfl) (by kernel_rfl) (by kernel_rfl) (by kernel_rfl) (by kernel_rfl) h
set_option maxRecDepth 100000 in
theorem door_met (os : Os) (args : Array Value) : laidMetH Tryd.prog laid1 ((World.doorLaid Tryd.prog 400 os).forCall (fun _ _ => 0) ⟨#[], args, []⟩).memory :=
  laidMetH_of_parts3 (fuel := 8) (laidMet_of_run' 8 (by kernel_rfl) (by kernel_rfl)) (by kernel_rfl) (by kernel_rfl)

set_option maxRecDepth 100000 in
theorem lifted (os : Os) (started : os.Started) (H : Type) (enc : TypeId × Value → H) :
    ReturnsInHanded {} Tryd.checked os 8 .any (fun w args => (Rows.fnExactLeadToAddSpec.pre enc Tryd.prog Tryd.f8 [] false w args ∧ laidMetH Tryd.prog laid1 w) ∧ sizedMet enc Tryd.prog Tryd.f8 (OpenSpec.ofChange Rows.fnExactLeadToAddSpec) false w args)
      (Rows.fnExactLeadToAddSpec.post enc Tryd.prog Tryd.f8 false true false false) := by
  refine returnsInHanded_of_change_and (C := Tryd.checked) (X := fun w _ => laidMetH Tryd.prog laid1 w) (fun _ _ _ hh h => h.of_heap hh) own started (by kernel_rfl) Tryd.func8
    (ChangeSpec.witness_shaped (enc := enc) (C := Tryd.checked) (os := os) (X := fun w _ => laidMetH Tryd.prog laid1 w) false (World.doorLaid Tryd.prog 400 os) #[.agg #[.int .i64 0, .int .i64 0, .int .i64 0], .agg #[.int .i64 0, .int .i64 0, .int .i64 0, .int .i64 0]] 8 rfl (World.shaped_of_RefB (by kernel_rfl) (by kernel_rfl)) (by kernel_rfl) (by kernel_rfl) (by kernel_rfl) (door_met os _)) ?_
  intro W base args ds gs before hval0 hW _ _ hL _
  have hval : ∀ (j : Nat) t v, Tryd.f8.params[j]? = some t → args[j]? = some v → Value.okWide Tryd.prog W .any base t v := hval0
  have hW' := hW
  obtain ⟨p, q, hA0, hV, rfl, hfz, hnd⟩ := hW
  have hA : DataW.TrodAll enc Tryd.prog W 0 (fun _ => true) true Tryd.f8.params.toList args.toList ds p := hA0
  rw [Tryd.params8] at hA hval
  obtain ⟨v0, vs0, d0, ds0, p0, q0, hargs, rfl, rfl, h0, r0⟩ := trodAll_cons hA
  obtain ⟨v1, vs1, d1, ds1, p1, q1, rfl, rfl, rfl, h1, r1⟩ := trodAll_cons r0
  obtain ⟨rfl, rfl, rfl⟩ := trodAll_nil r1
  obtain rfl : args = #[v0, v1] := by cases args; simp_all
  have hV2 := hV
  obtain ⟨gg, tt, csv, fuv, dv, pv, rfl, _, _, _, _, _⟩ := trodVars_one hV
  have k0 := h0
  have lt0 : ∀ x ∈ p0, x.block < W.heap.size := by obtain ⟨m, hm⟩ := k0; exact DataW.trod_lt m _ _ _ hm
  have k1 := h1
  have lt1 : ∀ x ∈ p1, x.block < W.heap.size := by obtain ⟨m, hm⟩ := k1; exact DataW.trod_lt m _ _ _ hm
  obtain ⟨a0, rfl, wa0⟩ := open_me (hval 0 29 v0 rfl rfl) h0
  obtain ⟨a1, rfl, wa1⟩ := open_bd (hval 1 23 v1 rfl rfl) h1
  clear hA0 hval0
  refine (walk a0 a1 W  (tab_of hL)).mono fun e W' ⟨he, bel⟩ => ?_
  subst he
  exact ⟨_, rfl, _, _, _, [], _, _, hW', trodAll_mk1 (shut_bool Tryd.underlying4 _), (trodAll_cons_mk (Below.trod laidOut (by kernel_rfl) (of_decide_eq_true (by kernel_rfl)) k0 bel lt0) (trodAll_cons_mk (Below.trod laidOut (by kernel_rfl) (of_decide_eq_true (by kernel_rfl)) k1 bel lt1) trodAll_mk0)), Below.trodVars laidOut bel (by kernel_rfl) hV2, bel.frame _, fun h => by cases h⟩

theorem over : Rows.FnExactLeadToAddSaid :=
  OpenClaim.holds_of_wide 8 Tryd.f8 rfl rfl rfl rfl rfl rfl rfl ⟨rfl, rfl, rfl, rfl, rfl⟩ rfl rfl rfl rfl rfl (by kernel_rfl) Tryd.func8 (by kernel_rfl)
    (of_decide_eq_true (by kernel_rfl)) (by unfold Func.isWrapper; first | (rw [if_pos (by decide +kernel)]; kernel_rfl) | (rw [if_neg (by decide +kernel)]; exact ⟨rfl, rfl⟩))
    (fun os started H enc _ => lifted os started H enc)

theorem proved : Rows.FnExactLeadToAddCardSaid :=
  Claim7.holds_tied_plain_at .later [] [.data] true (true, "fa3bce40a6e5a6b9e23211b0d1e5c99bc66486357f85b885e94caca56b2c16cb") true
    over (fun _ h => by cases h) (by kernel_rfl) (fun _ h => by cases h) fnExactLeadToAdd_row_tie rfl ⟨rfl, rfl⟩ (by kernel_rfl) rfl
    (fun f fn hf hfn => by
      obtain rfl : f = 8 := Option.some.inj ((show Tryd.prog.funcNamed "loop.example/g01054/laws.FnExactLeadToAdd" = some 8 by kernel_rfl).symm.trans hf) |>.symm
      obtain rfl : fn = Tryd.f8 := (Option.some.inj (Tryd.func8.symm.trans hfn)).symm
      exact ⟨by kernel_rfl, fun j t ht => by
        rw [Tryd.params8] at ht
        have hm : t ∈ [29, 23] := by simpa using Array.mem_of_getElem? ht
        have hall : ([29, 23].all fun u => !Tryd.prog.wantsStandIn u) = true := by kernel_rfl
        exact (show Tryd.prog.wantsStandIn t = false by simpa using List.all_eq_true.1 hall t hm)⟩)
    (by kernel_rfl)
end Go.Proofs.YtebbgdihifihnaaDoor.fnExactLeadToAdd

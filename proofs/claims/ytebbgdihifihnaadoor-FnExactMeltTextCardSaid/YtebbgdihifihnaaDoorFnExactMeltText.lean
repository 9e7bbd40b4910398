/-
  FnExactMeltText: for every input (a melt) the law returns true, and what it was given reads as before, where the library's tables start as the program's text lays them; the card ties that to the text. Conditions: none beyond the given statement's own.
-/
import Derived.Test.YtebbgdihifihnaaDoorRows
import Derived.Test.YtebbgdihifihnaaDoorCards
import Derived.Test.YtebbgdihifihnaaDoorTie
import Derived.Test.YtebbgdihifihnaaDoorMtx
import Derived.Test.YtebbgdihifihnaaDoorOpenMe
import Derived.OpenVars
import Derived.Lib.LaidTab
import Derived.LaidMore
import Derived.LaidHandle
import Derived.MakeChecks
import Derived.OpenShut
import Derived.Stop.Joined
import Derived.Stop.LaidErr
import Derived.SevenTiedAt
namespace Go.Proofs.YtebbgdihifihnaaDoor.fnExactMeltText
open Go Go.ChangeShapes Go.WideShapes Go.ChangeAt Go.RowKit Go.Joins
open Go.ChangeMaps (open_string shut_string)
set_option linter.unusedVariables false

theorem own : ownKnob Tryd.prog.godebug = none := by kernel_rfl
theorem laidOut : laidOutB Tryd.prog = true := by kernel_rfl

set_option maxRecDepth 100000 in
set_option maxHeartbeats 2000000 in
theorem walk (a0 : Me) (w : World) (ht : Tab w) :
    Calls Tryd.prog 10 #[.agg #[.int .i64 a0.lea, .int .i64 a0.tin, .int .i64 a0.ant]] w fun e w' => e = .returned (.bool true) ∧ Below w.heap.size w w' := by
  have HT := Lib.hid ht; clear ht
  obtain ⟨w0, hw0⟩ : ∃ w0 : World, w0 = (w.alloc (.cells #[.int .i64 a0.lea, .int .i64 a0.tin, .int .i64 a0.ant] 29)) := ⟨_, rfl⟩
  have A_0 : Hid (Below w.heap.size w w0) := Lib.hid (show Below _ _ _ by rw [hw0]; exact ((Below.refl _ _).alloc (by simp) _))
  have X0_0 : Hid (MeAt w0 (w.heap.size) 29 a0) := Lib.hid (show MeAt _ _ _ _ by rw [hw0]; exact MeAt.new _ _ _)
  have HW0 := Lib.hid hw0; clear hw0
  go_enter Tryd.func10, Tryd.ntmps10
  go_wp2_with fail
  rw [← HW0.out]
  refine (toMelt_any a0 _).mono ?_
  rintro e u1 ⟨rfl, hb1⟩
  have A_1 : Hid (Below w.heap.size w u1) := Lib.hid ((A_0.out).trans (Below.mono hb1 (A_0.out).size))
  have X0_1 : Hid (MeAt u1 (w.heap.size) 29 a0) := Lib.hid ((X0_0.out).next hb1)
  clear A_0 X0_0
  clear hb1
  go_wp2_with fail
  refine (specText_any a0 _).mono ?_
  rintro e u2 ⟨rfl, hb2⟩
  have A_2 : Hid (Below w.heap.size w u2) := Lib.hid ((A_1.out).trans (Below.mono hb2 (A_1.out).size))
  have X0_2 : Hid (MeAt u2 (w.heap.size) 29 a0) := Lib.hid ((X0_1.out).next hb2)
  clear A_1 X0_1
  clear hb2
  obtain ⟨q00, q01, q02⟩ := (X0_2.out).cells
  have q0l := (X0_2.out).lt
  go_wp2_with fail
  refine (toMelt_any a0 _).mono ?_
  rintro e u3 ⟨rfl, hb3⟩
  have A_3 : Hid (Below w.heap.size w u3) := Lib.hid ((A_2.out).trans (Below.mono hb3 (A_2.out).size))
  clear A_2 X0_2
  clear hb3
  clear q00 q01 q02 q0l
  go_wp2_with fail
  refine (implText_any a0 _ (HT.out.below A_3.out)).mono ?_
  rintro e u4 ⟨rfl, hb4⟩
  have A_4 : Hid (Below w.heap.size w u4) := Lib.hid ((A_3.out).trans (Below.mono hb4 (A_3.out).size))
  clear A_3
  clear hb4
  generalize mtxV a0 = g0 at *
  have hne0 : (!(g0.toList == g0.toList)) = false := by simp
  generalize goodM a0 = g1 at *
  have hne1 : (g1 != g1) = false := by simp
  go_wp2
  go_ret
  exact ⟨rfl, A_4.out⟩

def laid3 : List (String × DataW Unit) := [("math/bits.deBruijn32tab", Rows.laid_math_bits_deBruijn32tab), ("math/bits.deBruijn64tab", Rows.laid_math_bits_deBruijn64tab), ("internal/strconv.uint64pow10", Rows.laid_internal_strconv_uint64pow10)]
noncomputable def gNo : Nat := (Tryd.prog.globalNamed "internal/strconv.uint64pow10").getD 0
set_option maxRecDepth 100000 in
theorem tab_of {W : World} (h : laidMetH Tryd.prog laid3 W) : Tab W := by
  rw [MakeChecks.laidMetH_plain _ _ _ (by kernel_rfl)] at h
  have h3 := h.tail.tail
  exact Lib.tabIs_of_head (g := gNo) (t := (Tryd.prog.globals[gNo]?.map (·.type)).getD 0) (e := 126) (n := 20) (by kernel_rfl) (by kernel_rfl) (by kernel_rfl) (by kernel_rfl) (by kernel_rfl) (by kernel_rfl) h3

set_option maxRecDepth 100000 in
theorem door_met (os : Os) (args : Array Value) : laidMetH Tryd.prog laid3 ((World.doorLaid Tryd.prog 400 os).forCall (fun _ _ => 0) ⟨#[], args, []⟩).memory :=
  laidMetH_of_parts3 (fuel := 8) (laidMet_of_run' 8 (by kernel_rfl) (by kernel_rfl)) (by kernel_rfl) (by kernel_rfl)

set_option maxRecDepth 100000 in
theorem lifted (os : Os) (started : os.Started) (H : Type) (enc : TypeId × Value → H) :
    ReturnsInHanded {} Tryd.checked os 10 .any (fun w args => (Rows.fnExactMeltTextSpec.pre enc Tryd.prog Tryd.f10 [] false w args ∧ laidMetH Tryd.prog laid3 w) ∧ sizedMet enc Tryd.prog Tryd.f10 (OpenSpec.ofChange Rows.fnExactMeltTextSpec) false w args)
      (Rows.fnExactMeltTextSpec.post enc Tryd.prog Tryd.f10 false true false false) := by
  refine returnsInHanded_of_change_and (C := Tryd.checked) (X := fun w _ => laidMetH Tryd.prog laid3 w) (fun _ _ _ hh h => h.of_heap hh) own started (by kernel_rfl) Tryd.func10
    (ChangeSpec.witness_shaped (enc := enc) (C := Tryd.checked) (os := os) (X := fun w _ => laidMetH Tryd.prog laid3 w) false (World.doorLaid Tryd.prog 400 os) #[.agg #[.int .i64 0, .int .i64 0, .int .i64 0]] 8 rfl (World.shaped_of_RefB (by kernel_rfl) (by kernel_rfl)) (by kernel_rfl) (by kernel_rfl) (by kernel_rfl) (door_met os _)) ?_
  intro W base args ds gs before hval0 hW _ _ hL _
  have hval : ∀ (j : Nat) t v, Tryd.f10.params[j]? = some t → args[j]? = some v → Value.okWide Tryd.prog W .any base t v := hval0
  have hW' := hW
  obtain ⟨p, q, hA0, hV, rfl, hfz, hnd⟩ := hW
  have hA : DataW.TrodAll enc Tryd.prog W 0 (fun _ => true) true Tryd.f10.params.toList args.toList ds p := hA0
  rw [Tryd.params10] at hA hval
  obtain ⟨v0, vs0, d0, ds0, p0, q0, hargs, rfl, rfl, h0, r0⟩ := trodAll_cons hA
  obtain ⟨rfl, rfl, rfl⟩ := trodAll_nil r0
  obtain rfl : args = #[v0] := by cases args; simp_all
  obtain ⟨rfl, rfl⟩ := trodVars_none hV
  have k0 := h0
  have lt0 : ∀ x ∈ p0, x.block < W.heap.size := by obtain ⟨m, hm⟩ := k0; exact DataW.trod_lt m _ _ _ hm
  obtain ⟨a0, rfl, wa0⟩ := open_me (hval 0 29 v0 rfl rfl) h0
  clear hA0 hval0
  refine (walk a0 W (tab_of hL)).mono fun e W' ⟨he, bel⟩ => ?_
  subst he
  exact ⟨_, rfl, _, _, _, [], _, [], hW', trodAll_mk1 (shut_bool Tryd.underlying4 _), (trodAll_cons_mk (Below.trod laidOut (by kernel_rfl) (of_decide_eq_true (by kernel_rfl)) k0 bel lt0) trodAll_mk0), rfl, bel.frame _, fun h => by cases h⟩

theorem over : Rows.FnExactMeltTextSaid :=
  OpenClaim.holds_of_wide 10 Tryd.f10 rfl rfl rfl rfl rfl rfl rfl ⟨rfl, rfl, rfl, rfl, rfl⟩ rfl rfl rfl rfl rfl (by kernel_rfl) Tryd.func10 (by kernel_rfl)
    (of_decide_eq_true (by kernel_rfl)) (by unfold Func.isWrapper; first | (rw [if_pos (by decide +kernel)]; kernel_rfl) | (rw [if_neg (by decide +kernel)]; exact ⟨rfl, rfl⟩))
    (fun os started H enc _ => lifted os started H enc)

theorem proved : Rows.FnExactMeltTextCardSaid :=
  Claim7.holds_tied_plain_at .later [] [.data, .data, .data] true (true, "fa3bce40a6e5a6b9e23211b0d1e5c99bc66486357f85b885e94caca56b2c16cb") true
    over (fun _ h => by cases h) (by kernel_rfl) (fun _ h => by cases h) fnExactMeltText_row_tie rfl ⟨rfl, rfl⟩ (by kernel_rfl) rfl
    (fun f fn hf hfn => by
      obtain rfl : f = 10 := Option.some.inj ((show Tryd.prog.funcNamed "loop.example/g01054/laws.FnExactMeltText" = some 10 by kernel_rfl).symm.trans hf) |>.symm
      obtain rfl : fn = Tryd.f10 := (Option.some.inj (Tryd.func10.symm.trans hfn)).symm
      exact ⟨by kernel_rfl, fun j t ht => by
        rw [Tryd.params10] at ht
        have hm : t ∈ [29] := by simpa using Array.mem_of_getElem? ht
        have hall : ([29].all fun u => !Tryd.prog.wantsStandIn u) = true := by kernel_rfl
        exact (show Tryd.prog.wantsStandIn t = false by simpa using List.all_eq_true.1 hall t hm)⟩)
    (by kernel_rfl)
end Go.Proofs.YtebbgdihifihnaaDoor.fnExactMeltText

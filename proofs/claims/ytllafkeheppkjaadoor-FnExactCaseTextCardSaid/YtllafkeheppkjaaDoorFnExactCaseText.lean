/-
  FnExactCaseText: for every input (a slice of Box structs) the law returns true, and what it was given reads as before. Conditions: none beyond the given statement's own.
-/
import Derived.Test.YtllafkeheppkjaaDoorRows
import Derived.Test.YtllafkeheppkjaaDoorCu
import Derived.Test.YtllafkeheppkjaaDoorOpenBx
import Derived.Test.YtllafkeheppkjaaDoorOpenI
import Derived.Test.YtllafkeheppkjaaDoorTos
import Derived.Test.YtllafkeheppkjaaDoorCards
import Derived.Test.YtllafkeheppkjaaDoorTie
import Derived.ProofKit
import Derived.OpenShut
import Derived.ShutString
import Derived.ChangeOld
import Derived.Lib.SmallJoins
import Derived.Lib.LaidTab
import Derived.LaidMore
import Derived.LaidHandle
import Derived.MakeChecks
import Derived.Stop.Joined
import Derived.Stop.LaidErr
import Derived.SevenTiedAt
namespace Go.Proofs.YtllafkeheppkjaaDoor.fnExactCaseText
open Go Go.ChangeShapes Go.WideShapes Go.ChangeAt Go.RowKit Go.Joins
open Go.ChangeMaps (open_string shut_string)
open Go.Proofs.YtllafkeheppkjaaDoor.P
set_option linter.unusedVariables false

theorem own : ownKnob Tryd.prog.godebug = none := by kernel_rfl
theorem laidOut : laidOutB Tryd.prog = true := by kernel_rfl

set_option maxRecDepth 100000 in
set_option maxHeartbeats 1000000 in
theorem walk (A0 : Option Addr) (f0 : List Bx) (c0 : Nat) (w : World) (hs0 : BxsIn w A0 f0) (ho0 : BxsOk f0) (hl0 : f0.length ≤ maxLen) (ht : Tab w) :
    Calls Tryd.prog 3 #[.slice A0 f0.length c0] w fun e w' => e = .returned (.bool true) ∧ Below w.heap.size w w' := by
  have HT := Lib.hid ht; clear ht
  have HS0 := Lib.hid hs0; clear hs0
  have HO0 := Lib.hid ho0; clear ho0
  unfold maxLen at hl0
  have A_0 : Hid (Below w.heap.size w w) := Lib.hid (Below.refl _ _)
  have hle0 : (1048576 : Int) ≤ 1048576 := by omega
  go_enter Tryd.func3, Tryd.ntmps3
  go_wp2_with fail
  have hfin0 := szBx_len f0 1048576 (by omega)
  have hle0 := szBx_range f0 1048576 (by omega)
  refine (szBoxS_any f0 A0 c0 1048576 _ (HS0.out.below A_0.out (Nat.le_refl _)) HO0.out hl0 (by omega) (by omega)).mono ?_
  rintro e u1 ⟨rfl, hb1⟩
  have A_1 : Hid (Below w.heap.size w u1) := Lib.hid ((A_0.out).trans (Below.mono hb1 (A_0.out).size))
  clear A_0
  clear hb1
  generalize szBxS f0 1048576 = z0 at *
  by_cases hz0 : z0 < 0
  · go_wp2
    go_ret
    exact ⟨rfl, A_1.out⟩
  have hn0 : f0.length ≤ 1048576 := hfin0 (by omega)
  clear hfin0
  go_wp2_with fail
  refine (toBoxS_any f0 A0 c0 _ (HS0.out.below A_1.out (Nat.le_refl _)) hn0).mono ?_
  rintro e u2 ⟨rfl, hb2, hr2⟩
  have hB2 : u1.heap.size < u2.heap.size := row_lt hr2
  have A_2 : Hid (Below w.heap.size w u2) := Lib.hid ((A_1.out).trans (Below.mono hb2 (A_1.out).size))
  clear A_1
  clear hb2
  have Z0_2 : Hid (u2.ownsRow 0 40 4 (.slice (some ⟨u1.heap.size, 0, none⟩) f0.length f0.length) f0.length (flatBx f0)) := Lib.hid hr2
  clear hr2
  -- S
  go_wp2_with fail
  refine (P.specCaseText_any f0 _ _ _ (own_in_bx Z0_2.out) hn0 HO0.out (Nat.le_refl _)).mono ?_
  rintro e u3 ⟨rfl, hb3⟩
  have A_3 : Hid (Below w.heap.size w u3) := Lib.hid ((A_2.out).trans (Below.mono hb3 (A_2.out).size))
  have Z0_3 : Hid (u3.ownsRow 0 40 4 (.slice (some ⟨u1.heap.size, 0, none⟩) f0.length f0.length) f0.length (flatBx f0)) := Lib.hid (own_below Z0_2.out hb3)
  clear A_2 Z0_2
  clear hb3
  clear Z0_3
  go_wp2_with fail
  refine (toBoxS_any f0 A0 c0 _ (HS0.out.below A_3.out (Nat.le_refl _)) hn0).mono ?_
  rintro e u4 ⟨rfl, hb4, hr4⟩
  have hB4 : u3.heap.size < u4.heap.size := row_lt hr4
  have A_4 : Hid (Below w.heap.size w u4) := Lib.hid ((A_3.out).trans (Below.mono hb4 (A_3.out).size))
  clear A_3
  clear hb4
  have X0_4 : Hid (u4.ownsRow 0 40 4 (.slice (some ⟨u3.heap.size, 0, none⟩) f0.length f0.length) f0.length (flatBx f0)) := Lib.hid hr4
  clear hr4
  -- G
  go_wp2_with fail
  refine (P.implCaseText_any f0 _ _ _ (own_in_bx X0_4.out) hn0 HO0.out (Nat.le_refl _) (HT.out.below A_4.out)).mono ?_
  rintro e u5 ⟨rfl, hb5⟩
  have A_5 : Hid (Below w.heap.size w u5) := Lib.hid ((A_4.out).trans (Below.mono hb5 (A_4.out).size))
  have X0_5 : Hid (u5.ownsRow 0 40 4 (.slice (some ⟨u3.heap.size, 0, none⟩) f0.length f0.length) f0.length (flatBx f0)) := Lib.hid (own_below X0_4.out hb5)
  clear A_4 X0_4
  clear hb5
  generalize P.ctextB f0 = g0 at *
  have hne0 : (!(g0.toList == g0.toList)) = false := by simp
  generalize caseB f0 = g1 at *
  have hne1 : (g1 != g1) = false := by simp
  -- argument 0 is as it was
  go_wp2_with fail
  refine (toBoxS_any f0 A0 c0 _ (HS0.out.below A_5.out (Nat.le_refl _)) hn0).mono ?_
  rintro e u6 ⟨rfl, hb6, hr6⟩
  have A_6 : Hid (Below w.heap.size w u6) := Lib.hid ((A_5.out).trans (Below.mono hb6 (A_5.out).size))
  have X0_6 : Hid (u6.ownsRow 0 40 4 (.slice (some ⟨u3.heap.size, 0, none⟩) f0.length f0.length) f0.length (flatBx f0)) := Lib.hid (own_below X0_5.out hb6)
  clear A_5 X0_5
  clear hb6
  go_wp2_with fail
  refine (eqBoxS_any f0 f0 _ _ _ _ _ (own_in_bx X0_6.out) (own_in_bx hr6) (by unfold maxLen; omega) (by unfold maxLen; omega)).mono ?_
  rintro e u7 ⟨rfl, hb7⟩
  rw [show decide (f0 = f0) = true from decide_eq_true rfl]
  clear hr6
  have A_7 : Hid (Below w.heap.size w u7) := Lib.hid ((A_6.out).trans (Below.mono hb7 (A_6.out).size))
  have X0_7 : Hid (u7.ownsRow 0 40 4 (.slice (some ⟨u3.heap.size, 0, none⟩) f0.length f0.length) f0.length (flatBx f0)) := Lib.hid (own_below X0_6.out hb7)
  clear A_6 X0_6
  clear hb7
  go_wp2
  go_ret
  exact ⟨rfl, A_7.out⟩

def laid3 : List (String × DataW Unit) := [("math/bits.deBruijn32tab", Rows.laid_math_bits_deBruijn32tab), ("math/bits.deBruijn64tab", Rows.laid_math_bits_deBruijn64tab), ("internal/strconv.uint64pow10", Rows.laid_internal_strconv_uint64pow10)]
noncomputable def gNo : Nat := (Tryd.prog.globalNamed "internal/strconv.uint64pow10").getD 0
set_option maxRecDepth 100000 in
theorem tab_of {W : World} (h : laidMetH Tryd.prog laid3 W) : Tab W := by
  rw [MakeChecks.laidMetH_plain _ _ _ (by kernel_rfl)] at h
  have h3 := h.tail.tail
  exact Lib.tabIs_of_head (g := gNo) (t := (Tryd.prog.globals[gNo]?.map (·.type)).getD 0) (e := 79) (n := 20) (by kernel_rfl) (by kernel_rfl) (by kernel_rfl) (by kernel_rfl) (by kernel_rfl) (by kernel_rfl) h3

set_option maxRecDepth 100000 in
theorem door_met (os : Os) (args : Array Value) : laidMetH Tryd.prog laid3 ((World.doorLaid Tryd.prog 400 os).forCall (fun _ _ => 0) ⟨#[], args, []⟩).memory :=
  laidMetH_of_parts3 (fuel := 8) (laidMet_of_run' 8 (by kernel_rfl) (by kernel_rfl)) (by kernel_rfl) (by kernel_rfl)

set_option maxRecDepth 100000 in
theorem lifted (os : Os) (started : os.Started) (H : Type) (enc : TypeId × Value → H) :
    ReturnsInHanded {} Tryd.checked os 3 .any (fun w args => (Rows.fnExactCaseTextSpec.pre enc Tryd.prog Tryd.f3 [] false w args ∧ laidMetH Tryd.prog laid3 w) ∧ sizedMet enc Tryd.prog Tryd.f3 (OpenSpec.ofChange Rows.fnExactCaseTextSpec) false w args)
      (Rows.fnExactCaseTextSpec.post enc Tryd.prog Tryd.f3 false true false false) := by
  refine returnsInHanded_of_change_and (C := Tryd.checked) (X := fun w _ => laidMetH Tryd.prog laid3 w) (fun _ _ _ hh h => h.of_heap hh) own started (by kernel_rfl) Tryd.func3
    (ChangeSpec.witness_shaped (enc := enc) (C := Tryd.checked) (os := os) (X := fun w _ => laidMetH Tryd.prog laid3 w) false (World.doorLaid Tryd.prog 400 os) #[.slice none 0 0] 8 rfl (World.shaped_of_RefB (by kernel_rfl) (by kernel_rfl)) (by kernel_rfl) (by kernel_rfl) (by kernel_rfl) (door_met os _)) ?_
  intro W base args ds gs before hval0 hW _ _ hL _
  have hval : ∀ (j : Nat) t v, Tryd.f3.params[j]? = some t → args[j]? = some v → Value.okWide Tryd.prog W .any base t v := hval0
  have hW' := hW
  obtain ⟨p, q, hA0, hV, rfl, hfz, hnd⟩ := hW
  have hA : DataW.TrodAll enc Tryd.prog W 0 (fun _ => true) true Tryd.f3.params.toList args.toList ds p := hA0
  rw [Tryd.params3] at hA hval
  obtain ⟨v0, vs0, d0, ds0, p0, q0, hargs, rfl, rfl, h0, r0⟩ := trodAll_cons hA
  obtain ⟨rfl, rfl, rfl⟩ := trodAll_nil r0
  obtain rfl : args = #[v0] := by cases args; simp_all
  obtain ⟨rfl, rfl⟩ := trodVars_none hV
  have k0 := h0
  have lt0 : ∀ x ∈ p0, x.block < W.heap.size := by obtain ⟨m, hm⟩ := k0; exact DataW.trod_lt m _ _ _ hm
  obtain ⟨A0, f0, c0, rfl, hs0, ho0, hl0⟩ := open_bxs (hval 0 22 v0 rfl rfl) h0
  clear hA0 hval0
  refine (walk A0 f0 c0 W hs0 ho0 hl0 (tab_of hL)).mono fun e W' ⟨he, bel⟩ => ?_
  subst he
  exact ⟨_, rfl, _, _, _, [], _, [], hW', trodAll_mk1 (shut_bool Tryd.underlying4 _), (trodAll_cons_mk (Below.trod laidOut (by kernel_rfl) (of_decide_eq_true (by kernel_rfl)) k0 bel lt0) trodAll_mk0), rfl, bel.frame _, fun h => by cases h⟩

theorem over : Rows.FnExactCaseTextSaid :=
  OpenClaim.holds_of_wide 3 Tryd.f3 rfl rfl rfl rfl rfl rfl rfl ⟨rfl, rfl, rfl, rfl, rfl⟩ rfl rfl rfl rfl rfl (by kernel_rfl) Tryd.func3 (by kernel_rfl)
    (of_decide_eq_true (by kernel_rfl)) (by unfold Func.isWrapper; first | (rw [if_pos (by decide +kernel)]; kernel_rfl) | (rw [if_neg (by decide +kernel)]; exact ⟨rfl, rfl⟩))
    (fun os started H enc _ => lifted os started H enc)

theorem proved : Rows.FnExactCaseTextCardSaid :=
  Claim7.holds_tied_plain_at .later [] [.data, .data, .data] true (true, "04a2aa74f8aff198e122f0d63ff1ed5023cf03276ed248cf8691a4df6afe259c") false
    over (fun _ h => by cases h) (by kernel_rfl) (fun _ h => by cases h) fnExactCaseText_row_tie rfl ⟨rfl, rfl⟩ (by kernel_rfl) rfl
    (fun f fn hf hfn => by
      obtain rfl : f = 3 := Option.some.inj ((show Tryd.prog.funcNamed "loop.example/g01054/laws.FnExactCaseText" = some 3 by kernel_rfl).symm.trans hf) |>.symm
      obtain rfl : fn = Tryd.f3 := (Option.some.inj (Tryd.func3.symm.trans hfn)).symm
      exact ⟨by kernel_rfl, fun j t ht => by
        rw [Tryd.params3] at ht
        have hm : t ∈ [22] := by simpa using Array.mem_of_getElem? ht
        have hall : ([22].all fun u => !Tryd.prog.wantsStandIn u) = true := by kernel_rfl
        exact (show Tryd.prog.wantsStandIn t = false by simpa using List.all_eq_true.1 hall t hm)⟩)
    (by kernel_rfl)
end Go.Proofs.YtllafkeheppkjaaDoor.fnExactCaseText

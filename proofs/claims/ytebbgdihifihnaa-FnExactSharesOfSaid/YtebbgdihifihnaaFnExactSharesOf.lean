/-
  FnExactSharesOf: for every input (a melt) the law returns true, and what it was given reads as before. Conditions: none beyond the given statement's own.
-/
import Derived.Test.YtebbgdihifihnaaRows
import Derived.Test.YtebbgdihifihnaaMsh
import Derived.Test.YtebbgdihifihnaaOpenMe
namespace Go.Proofs.Ytebbgdihifihnaa.fnExactSharesOf
open Go.ChangeShapes Go.WideShapes Go.ChangeAt Go.RowKit Go.Joins
open Go.ChangeMaps (open_string shut_string)
set_option linter.unusedVariables false

theorem own : ownKnob Try.prog.godebug = none := by kernel_rfl
theorem laidOut : laidOutB Try.prog = true := by kernel_rfl

set_option maxRecDepth 100000 in
set_option maxHeartbeats 2000000 in
theorem walk (a0 : Me) (w : World)  :
    Calls Try.prog 5 #[.agg #[.int .i64 a0.lea, .int .i64 a0.tin, .int .i64 a0.ant]] w fun e w' => e = .returned (.bool true) ∧ Below w.heap.size w w' := by
  obtain ⟨w0, hw0⟩ : ∃ w0 : World, w0 = (w.alloc (.cells #[.int .i64 a0.lea, .int .i64 a0.tin, .int .i64 a0.ant] 23)) := ⟨_, rfl⟩
  have A_0 : Hid (Below w.heap.size w w0) := Lib.hid (show Below _ _ _ by rw [hw0]; exact ((Below.refl _ _).alloc (by simp) _))
  have X0_0 : Hid (MeAt w0 (w.heap.size) 23 a0) := Lib.hid (show MeAt _ _ _ _ by rw [hw0]; exact (MeAt.new _ _ _))
  have HW0 := Lib.hid hw0; clear hw0
  go_enter Try.func5, Try.ntmps5
  go_wp2_with fail
  rw [← HW0.out]
  refine (toMelt_any a0 _).mono ?_
  rintro e u1 ⟨rfl, hb1⟩
  have A_1 : Hid (Below w.heap.size w u1) := Lib.hid ((A_0.out).trans (Below.mono hb1 (A_0.out).size))
  have X0_1 : Hid (MeAt u1 (w.heap.size) 23 a0) := Lib.hid ((X0_0.out).next hb1)
  clear A_0 X0_0
  clear hb1
  go_wp2_with fail
  refine (specShares_any a0 _).mono ?_
  intro e u2 hto
  obtain ⟨vS, TS, rfl, hb2, hoS⟩ := hto
  obtain ⟨AS, cS, rfl⟩ := own_form hoS
  have A_2 : Hid (Below w.heap.size w u2) := Lib.hid ((A_1.out).trans (Below.mono hb2 (A_1.out).size))
  have X0_2 : Hid (MeAt u2 (w.heap.size) 23 a0) := Lib.hid ((X0_1.out).next hb2)
  clear A_1 X0_1
  have OS_2 : Hid (u2.ownsRow 0 TS 1 (.slice AS (shV a0).length cS) (shV a0).length (intsZ (shV a0))) := Lib.hid (own_up hoS)
  clear hoS hb2
  obtain ⟨q00, q01, q02⟩ := (X0_2.out).cells
  have q0l := (X0_2.out).lt
  go_wp2_with fail
  refine (toMelt_any a0 _).mono ?_
  rintro e u3 ⟨rfl, hb3⟩
  have A_3 : Hid (Below w.heap.size w u3) := Lib.hid ((A_2.out).trans (Below.mono hb3 (A_2.out).size))
  have X0_3 : Hid (MeAt u3 (w.heap.size) 23 a0) := Lib.hid ((X0_2.out).next hb3)
  have OS_3 : Hid (u3.ownsRow 0 TS 1 (.slice AS (shV a0).length cS) (shV a0).length (intsZ (shV a0))) := Lib.hid (own_below OS_2.out hb3)
  clear A_2 X0_2 OS_2
  clear hb3
  clear q00 q01 q02 q0l
  go_wp2_with fail
  have HSZ : Hid (w.heap.size + 0 < u3.heap.size) := Lib.hid (X0_3.out).lt
  have ltS := Lib.hid (own_bound OS_3.out)
  refine (implShares_any a0 _).mono ?_
  intro e u4 hto
  obtain ⟨vG, TG, rfl, hb4, hoG⟩ := hto
  obtain ⟨AG, cG, rfl⟩ := own_form hoG
  have A_4 : Hid (Below w.heap.size w u4) := Lib.hid ((A_3.out).trans (Below.mono hb4 (A_3.out).size))
  have X0_4 : Hid (MeAt u4 (w.heap.size) 23 a0) := Lib.hid ((X0_3.out).next hb4)
  have OS_4 : Hid (u4.ownsRow 0 TS 1 (.slice AS (shV a0).length cS) (shV a0).length (intsZ (shV a0))) := Lib.hid (own_below OS_3.out hb4)
  clear A_3 X0_3 OS_3
  have OG_4 : Hid (u4.ownsRow 0 TG 1 (.slice AG (shV a0).length cG) (shV a0).length (intsZ (shV a0))) := Lib.hid (own_up hoG)
  have fromG : Hid (∀ k, (Value.slice AG (shV a0).length cG).ownBlock = some k → u3.heap.size ≤ k) := Lib.hid (own_lt hoG)
  clear hoG hb4
  have hmx := shV_short a0
  have hto : Hid (∀ W, Calls Try.prog 15 #[.agg #[.int .i64 a0.lea, .int .i64 a0.tin, .int .i64 a0.ant]] W fun e W' => ∃ v T, e = .returned (.tuple #[v, .bool (hasM a0)]) ∧ Below W.heap.size W W' ∧ W'.ownsRow W.heap.size T 1 v (shV a0).length (intsZ (shV a0))) := Lib.hid (fun W => implShares_any a0 W)
  generalize hasM a0 = b at *
  generalize shV a0 = L at *
  have hbb : (b != b) = false := by simp
  have hmx2 : L.length ≤ maxLen := by unfold maxLen; omega
  go_wp2_with fail
  refine (eqIntS_any L L _ _ _ _ _ (own_in OG_4.out) (own_in OS_4.out) hmx2 hmx2).mono ?_
  rintro e u5 ⟨rfl, hb5⟩
  have A_5 : Hid (Below w.heap.size w u5) := Lib.hid ((A_4.out).trans (Below.mono hb5 (A_4.out).size))
  have X0_5 : Hid (MeAt u5 (w.heap.size) 23 a0) := Lib.hid ((X0_4.out).next hb5)
  have OS_5 : Hid (u5.ownsRow 0 TS 1 (.slice AS L.length cS) L.length (intsZ L)) := Lib.hid (own_below OS_4.out hb5)
  have OG_5 : Hid (u5.ownsRow 0 TG 1 (.slice AG L.length cG) L.length (intsZ L)) := Lib.hid (own_below OG_4.out hb5)
  clear A_4 X0_4 OS_4 OG_4
  clear hb5
  rw [show decide (L = L) = true from decide_eq_true rfl]
  go_wp2_with fail
  refine (markIntSE_any 1 L.length 0 _ _ _ _ OG_5.out (by omega) (by omega)).mono ?_
  rintro e u6 ⟨rfl, hg, om⟩
  have hne : ∀ k, (Value.slice AS L.length cS).ownBlock = some k → (Value.slice AG L.length cG).ownBlock ≠ some k := fun k h1 h2 => by have e1 := ltS.out k h1; have e2 := fromG.out k h2; omega
  clear OG_5
  have A_6 : Hid (Below w.heap.size w u6) := Lib.hid ((A_5.out).grown hg (A_5.out).size (fun k hk => by have e1 := fromG.out k hk; have e2 := HSZ.out; omega))
  have X0_6 : Hid (MeAt u6 (w.heap.size) 23 a0) := Lib.hid ((hg.block _ (X0_5.out).lt (fun h => by have e1 := fromG.out _ h.symm; have e2 := HSZ.out; omega)).trans X0_5.out)
  have OS_6 : Hid (u6.ownsRow 0 TS 1 (.slice AS L.length cS) L.length (intsZ L)) := Lib.hid (own_grown OS_5.out hg hne)
  have OM_6 : Hid (u6.ownsRow 0 TG 1 (.slice AG L.length cG) L.length (intsZ (marks 1 L.length))) := Lib.hid om
  have hqm : (1 + (L.length : Int) != 1 + (L.length : Int)) = false := by simp
  clear A_5 X0_5 OS_5 hg om hne
  go_wp2_with fail
  refine (heldIntS_any 1 L.length _ _ _ (own_in OM_6.out) (by omega) (by omega)).mono ?_
  rintro e u7 ⟨rfl, hwu7⟩
  subst hwu7
  -- another call
  obtain ⟨q00, q01, q02⟩ := (X0_6.out).cells
  have q0l := (X0_6.out).lt
  go_wp2_with fail
  refine (toMelt_any a0 _).mono ?_
  rintro e u8 ⟨rfl, hb8⟩
  have A_7 : Hid (Below w.heap.size w u8) := Lib.hid ((A_6.out).trans (Below.mono hb8 (A_6.out).size))
  have X0_7 : Hid (MeAt u8 (w.heap.size) 23 a0) := Lib.hid ((X0_6.out).next hb8)
  have OS_7 : Hid (u8.ownsRow 0 TS 1 (.slice AS L.length cS) L.length (intsZ L)) := Lib.hid (own_below OS_6.out hb8)
  have OM_7 : Hid (u8.ownsRow 0 TG 1 (.slice AG L.length cG) L.length (intsZ (marks 1 L.length))) := Lib.hid (own_below OM_6.out hb8)
  clear A_6 X0_6 OS_6 OM_6
  clear hb8
  clear q00 q01 q02 q0l
  go_wp2_with fail
  refine (hto.out _).mono ?_
  intro e u9 hto
  obtain ⟨vH, TH, rfl, hb9, hoH⟩ := hto
  obtain ⟨AH, cH, rfl⟩ := own_form hoH
  have A_8 : Hid (Below w.heap.size w u9) := Lib.hid ((A_7.out).trans (Below.mono hb9 (A_7.out).size))
  have X0_8 : Hid (MeAt u9 (w.heap.size) 23 a0) := Lib.hid ((X0_7.out).next hb9)
  have OS_8 : Hid (u9.ownsRow 0 TS 1 (.slice AS L.length cS) L.length (intsZ L)) := Lib.hid (own_below OS_7.out hb9)
  have OM_8 : Hid (u9.ownsRow 0 TG 1 (.slice AG L.length cG) L.length (intsZ (marks 1 L.length))) := Lib.hid (own_below OM_7.out hb9)
  clear A_7 X0_7 OS_7 OM_7
  clear hb9
  have OH_8 : Hid (u9.ownsRow 0 TH 1 (.slice AH L.length cH) L.length (intsZ L)) := Lib.hid (own_up hoH)
  clear hoH
  go_wp2_with fail
  refine (eqIntS_any L L _ _ _ _ _ (own_in OH_8.out) (own_in OS_8.out) hmx2 hmx2).mono ?_
  rintro e u10 ⟨rfl, hb10⟩
  have A_9 : Hid (Below w.heap.size w u10) := Lib.hid ((A_8.out).trans (Below.mono hb10 (A_8.out).size))
  have X0_9 : Hid (MeAt u10 (w.heap.size) 23 a0) := Lib.hid ((X0_8.out).next hb10)
  have OS_9 : Hid (u10.ownsRow 0 TS 1 (.slice AS L.length cS) L.length (intsZ L)) := Lib.hid (own_below OS_8.out hb10)
  have OM_9 : Hid (u10.ownsRow 0 TG 1 (.slice AG L.length cG) L.length (intsZ (marks 1 L.length))) := Lib.hid (own_below OM_8.out hb10)
  have OH_9 : Hid (u10.ownsRow 0 TH 1 (.slice AH L.length cH) L.length (intsZ L)) := Lib.hid (own_below OH_8.out hb10)
  clear A_8 X0_8 OS_8 OM_8 OH_8
  clear hb10
  rw [show decide (L = L) = true from decide_eq_true rfl]
  go_wp2_with fail
  refine (heldIntS_any 1 L.length _ _ _ (own_in OM_9.out) (by omega) (by omega)).mono ?_
  rintro e u11 ⟨rfl, hwu11⟩
  subst hwu11
  go_wp2
  go_ret
  exact ⟨rfl, A_9.out⟩

set_option maxRecDepth 100000 in
theorem lifted (os : Os) (started : os.Started) (H : Type) (enc : TypeId × Value → H) :
    ReturnsInHanded {} Try.checked os 5 .any (Rows.fnExactSharesOfSpec.pre6 enc Try.prog Try.f5 Rows.fnExactSharesOfRow.domain false) (Rows.fnExactSharesOfSpec.post enc Try.prog Try.f5 false true false false) := by
  refine returnsInHanded_of_change (C := Try.checked) own started (by kernel_rfl) Try.func5
    (ChangeSpec.witness6 (enc := enc) (C := Try.checked) false ⟨#[], #[.agg #[.int .i64 0, .int .i64 0, .int .i64 0]], []⟩ 8 (by kernel_rfl) (by kernel_rfl) (by kernel_rfl) (by kernel_rfl)) ?_
  intro W base args ds gs before hval0 hW hcnd _
  have hval : ∀ (j : Nat) t v, Try.f5.params[j]? = some t → args[j]? = some v → Value.okWide Try.prog W .any base t v := hval0
  have hW' := hW
  obtain ⟨p, q, hA0, hV, rfl, hfz, hnd⟩ := hW
  have hA : DataW.TrodAll enc Try.prog W 0 (fun _ => true) true Try.f5.params.toList args.toList ds p := hA0
  rw [Try.params5] at hA hval
  obtain ⟨v0, vs0, d0, ds0, p0, q0, hargs, rfl, rfl, h0, r0⟩ := trodAll_cons hA
  obtain ⟨rfl, rfl, rfl⟩ := trodAll_nil r0
  obtain rfl : args = #[v0] := by cases args; simp_all
  obtain ⟨rfl, rfl⟩ := trodVars_none hV
  have k0 := h0
  have lt0 : ∀ x ∈ p0, x.block < W.heap.size := by obtain ⟨m, hm⟩ := k0; exact DataW.trod_lt m _ _ _ hm
  obtain ⟨a0, rfl, wa0⟩ := open_me (hval 0 23 v0 rfl rfl) h0
  clear hA0 hval0
  refine (walk a0 W ).mono fun e W' ⟨he, bel⟩ => ?_
  subst he
  exact ⟨_, rfl, _, _, _, [], _, [], hW', trodAll_mk1 (shut_bool Try.underlying4 _), (trodAll_cons_mk (Below.trod laidOut (by kernel_rfl) (of_decide_eq_true (by kernel_rfl)) k0 bel lt0) trodAll_mk0), rfl, bel.frame _, fun h => by cases h⟩

theorem over : Rows.fnExactSharesOfRow.holds Try.pinned (OpenSpec.ofChange Rows.fnExactSharesOfSpec) :=
  OpenClaim.holds_of_wide 5 Try.f5 rfl rfl rfl rfl rfl rfl rfl ⟨rfl, rfl, rfl, rfl, rfl⟩ rfl rfl rfl rfl rfl (by kernel_rfl) Try.func5 (by kernel_rfl)
    (of_decide_eq_true (by kernel_rfl)) (by unfold Func.isWrapper; first | (rw [if_pos (by decide +kernel)]; kernel_rfl) | (rw [if_neg (by decide +kernel)]; exact ⟨rfl, rfl⟩))
    (fun os started H enc _ => lifted os started H enc)

theorem proved : Rows.FnExactSharesOfSaid := over
end Go.Proofs.Ytebbgdihifihnaa.fnExactSharesOf

/-
  The contracts of spec.meAdd, meThin, TinToAdd, AntimonyToAdd and impl.leastToAdd, toReachLeast, TinToAdd, AntimonyToAdd (those of impl where the table of the blended metals is as the program lays it): each answers what the plain words here say and changes nothing that was there.
-/
import Derived.Test.YtebbgdihifihnaaDoorFit
namespace Go.Proofs.YtebbgdihifihnaaDoor
open Go.RowKit
set_option linter.unusedVariables false

/-- How much must be added so that a lack is made up, if each brings so much. -/
def lackR (lack each : Int) : Option Int := if lack ≤ 0 then some 0 else if each * 1000000 < lack then none else some (upV lack each)
theorem lack_zero {l e : Int} (h : l ≤ 0) : lackR l e = some 0 := by unfold lackR; rw [if_pos h]
theorem lack_none {l e : Int} (h : ¬ l ≤ 0) (g : e * 1000000 < l) : lackR l e = none := by unfold lackR; rw [if_neg h, if_pos g]
theorem lack_some {l e : Int} (h : ¬ l ≤ 0) (g : ¬ e * 1000000 < l) : lackR l e = some (upV l e) := by unfold lackR; rw [if_neg h, if_neg g]
theorem up_great {l e : Int} (he : 0 < e) : (1000000 < upV l e) ↔ e * 1000000 < l := by
  unfold upV
  constructor
  · intro h
    have h1 : 1000001 ≤ (l + e - 1) / e := by omega
    rw [Int.le_ediv_iff_mul_le he] at h1
    have h2 : 1000001 * e = e * 1000000 + e := by omega
    omega
  · intro h
    have h1 : 1000001 ≤ (l + e - 1) / e := by
      rw [Int.le_ediv_iff_mul_le he]
      have h2 : 1000001 * e = e * 1000000 + e := by omega
      omega
    omega
theorem ret_ib2 {a a' : Int} {b b' : Bool} (h1 : a = a') (h2 : b = b') : Ending.returned (.tuple #[.int .i64 a, .bool b]) = .returned (.tuple #[.int .i64 a', .bool b']) := by rw [h1, h2]

theorem leastToAdd_any (l e : Int) (w : World) (h0 : -10000000000 ≤ l) (h1 : l ≤ 10000000000) (he : 0 ≤ e) (he1 : e ≤ 1000) :
    Calls Tryd.prog 55 #[.int .i64 l, .int .i64 e] w fun e' w' => e' = .returned (.tuple #[.int .i64 ((lackR l e).getD 0), .bool (lackR l e).isSome]) ∧ w = w' := by
  by_cases hl : l ≤ 0
  · have HV := Lib.hid (lack_zero (e := e) hl)
    go_enter Tryd.func55, Tryd.ntmps55
    go_wp2
    go_ret2
    exact ⟨by rw [HV.out]; rfl, rfl⟩
  · by_cases hg : e * 1000000 < l
    · have HV := Lib.hid (lack_none hl hg)
      go_enter Tryd.func55, Tryd.ntmps55
      go_wp2
      go_ret2
      exact ⟨by rw [HV.out]; rfl, rfl⟩
    · have HV := Lib.hid (lack_some hl hg)
      have hp : 0 < e := by omega
      go_enter Tryd.func55, Tryd.ntmps55
      go_wp2_with fail
      refine (divideUp_any l e _ (by omega) (by omega) hp (by omega)).mono ?_
      rintro e' w' ⟨rfl, rfl⟩
      generalize upV l e = u at *
      go_wp2
      go_ret2
      exact ⟨by rw [HV.out]; rfl, rfl⟩

theorem meAdd_any (g all sh : Int) (w : World) (hg : 0 ≤ g) (hg1 : g ≤ 1000000) (ha : 0 ≤ all) (ha1 : all ≤ 3000000) (hs : 0 ≤ sh) (hs1 : sh ≤ 1000) :
    Calls Tryd.prog 51 #[.int .i64 g, .int .i64 all, .int .i64 sh] w fun e' w' => e' = .returned (.tuple #[.int .i64 ((lackR (sh * all - 1000 * g) (1000 - sh)).getD 0), .bool (lackR (sh * all - 1000 * g) (1000 - sh)).isSome]) ∧ w = w' := by
  have hpb : 0 ≤ sh * all ∧ sh * all ≤ 3000000000 := mul_in ⟨hs, hs1⟩ ⟨ha, ha1⟩
  obtain ⟨hp0, hp1⟩ := hpb
  by_cases hl : (sh * all - 1000 * g) ≤ 0
  · have HV := Lib.hid (lack_zero (e := (1000 - sh)) hl)
    go_enter Tryd.func51, Tryd.ntmps51
    go_wp2
    go_ret2
    exact ⟨by rw [HV.out]; rfl, rfl⟩
  by_cases he : (1000 - sh) = 0
  · have HV := Lib.hid (lack_none (e := (1000 - sh)) hl (by omega))
    have hse : (sh == 1000) = true := by simp; omega
    clear he
    go_enter Tryd.func51, Tryd.ntmps51
    go_wp2
    go_ret2
    exact ⟨by rw [HV.out]; rfl, rfl⟩
  have hp : 0 < (1000 - sh) := by omega
  have HUG := Lib.hid (up_great (l := (sh * all - 1000 * g)) hp)
  have hne : (sh == 1000) = false := by simp; omega
  clear he
  go_enter Tryd.func51, Tryd.ntmps51
  go_wp2_with fail
  refine (meUp_any ((sh * all - 1000 * g)) ((1000 - sh)) _ (by omega) (by omega) hp (by omega)).mono ?_
  rintro e' w' ⟨rfl, rfl⟩
  by_cases hg : 1000000 < upV ((sh * all - 1000 * g)) ((1000 - sh))
  · have HV := Lib.hid (lack_none (by omega) (HUG.out.1 hg))
    generalize upV ((sh * all - 1000 * g)) ((1000 - sh)) = u at *
    go_wp2
    go_ret2
    exact ⟨by rw [HV.out]; rfl, rfl⟩
  · have HV := Lib.hid (lack_some (by omega) (fun h => hg (HUG.out.2 h)))
    obtain ⟨u, hu⟩ : ∃ u, u = upV ((sh * all - 1000 * g)) ((1000 - sh)) := ⟨_, rfl⟩
    have HU := Lib.hid hu
    rw [← hu] at hg
    rw [← hu]
    clear hu
    go_wp2_with fail
    refine (meUp_any ((sh * all - 1000 * g)) ((1000 - sh)) _ (by omega) (by omega) hp (by omega)).mono ?_
    rintro e' w' ⟨rfl, rfl⟩
    rw [← HU.out]
    go_wp2
    go_ret2
    exact ⟨by rw [HV.out, ← HU.out]; rfl, rfl⟩
theorem meThin_any (g all sh : Int) (w : World) (hg : 0 ≤ g) (hg1 : g ≤ 1000000) (ha : 0 ≤ all) (ha1 : all ≤ 3000000) (hs : 0 ≤ sh) (hs1 : sh ≤ 1000) :
    Calls Tryd.prog 53 #[.int .i64 g, .int .i64 all, .int .i64 sh] w fun e' w' => e' = .returned (.tuple #[.int .i64 ((lackR (1000 * g - sh * all) sh).getD 0), .bool (lackR (1000 * g - sh * all) sh).isSome]) ∧ w = w' := by
  have hpb : 0 ≤ sh * all ∧ sh * all ≤ 3000000000 := mul_in ⟨hs, hs1⟩ ⟨ha, ha1⟩
  obtain ⟨hp0, hp1⟩ := hpb
  by_cases hl : (1000 * g - sh * all) ≤ 0
  · have HV := Lib.hid (lack_zero (e := sh) hl)
    go_enter Tryd.func53, Tryd.ntmps53
    go_wp2
    go_ret2
    exact ⟨by rw [HV.out]; rfl, rfl⟩
  by_cases he : sh = 0
  · have HV := Lib.hid (lack_none (e := sh) hl (by omega))
    have hse : (sh == 0) = true := by simp; omega
    clear he
    go_enter Tryd.func53, Tryd.ntmps53
    go_wp2
    go_ret2
    exact ⟨by rw [HV.out]; rfl, rfl⟩
  have hp : 0 < sh := by omega
  have HUG := Lib.hid (up_great (l := (1000 * g - sh * all)) hp)
  have hne : (sh == 0) = false := by simp; omega
  clear he
  go_enter Tryd.func53, Tryd.ntmps53
  go_wp2_with fail
  refine (meUp_any ((1000 * g - sh * all)) (sh) _ (by omega) (by omega) hp (by omega)).mono ?_
  rintro e' w' ⟨rfl, rfl⟩
  by_cases hg : 1000000 < upV ((1000 * g - sh * all)) (sh)
  · have HV := Lib.hid (lack_none (by omega) (HUG.out.1 hg))
    generalize upV ((1000 * g - sh * all)) (sh) = u at *
    go_wp2
    go_ret2
    exact ⟨by rw [HV.out]; rfl, rfl⟩
  · have HV := Lib.hid (lack_some (by omega) (fun h => hg (HUG.out.2 h)))
    obtain ⟨u, hu⟩ : ∃ u, u = upV ((1000 * g - sh * all)) (sh) := ⟨_, rfl⟩
    have HU := Lib.hid hu
    rw [← hu] at hg
    rw [← hu]
    clear hu
    go_wp2_with fail
    refine (meUp_any ((1000 * g - sh * all)) (sh) _ (by omega) (by omega) hp (by omega)).mono ?_
    rintro e' w' ⟨rfl, rfl⟩
    rw [← HU.out]
    go_wp2
    go_ret2
    exact ⟨by rw [HV.out, ← HU.out]; rfl, rfl⟩

theorem run_idxM1 (s : Me) (w : World) : (Instr.index 66 (.agg #[.int .i64 s.lea, .int .i64 s.tin, .int .i64 s.ant]) (.int .i64 1)).run Tryd.prog w = .ok (.int .i64 s.tin) w := by
  simp [Instr.index, asIntOf, run_underlying (P := Tryd.prog) Tryd.underlying66, part, Sem.run_bind]
theorem run_idxM2 (s : Me) (w : World) : (Instr.index 66 (.agg #[.int .i64 s.lea, .int .i64 s.tin, .int .i64 s.ant]) (.int .i64 2)).run Tryd.prog w = .ok (.int .i64 s.ant) w := by
  simp [Instr.index, asIntOf, run_underlying (P := Tryd.prog) Tryd.underlying66, part, Sem.run_bind]
theorem run_idxS1 (b : Bd) (w : World) : (Instr.index 56 (.agg #[.int .i64 0, .int .i64 0, .int .i64 b.lot, .int .i64 b.hit, .int .i64 b.loa, .int .i64 b.hia]) (.int .i64 1)).run Tryd.prog w = .ok (.agg #[.int .i64 b.lot, .int .i64 b.hit]) w := by kernel_rfl
theorem run_idxS2 (b : Bd) (w : World) : (Instr.index 56 (.agg #[.int .i64 0, .int .i64 0, .int .i64 b.lot, .int .i64 b.hit, .int .i64 b.loa, .int .i64 b.hia]) (.int .i64 2)).run Tryd.prog w = .ok (.agg #[.int .i64 b.loa, .int .i64 b.hia]) w := by kernel_rfl
theorem run_fldS (x y : Int) (w : World) : (Instr.field 55 (.agg #[.int .i64 x, .int .i64 y]) 0).run Tryd.prog w = .ok (.int .i64 x) w := by kernel_rfl

def tinR (m : Me) (b : Bd) : Option Int := if askM m b then lackR (b.lot * grM m - 1000 * m.tin) (1000 - b.lot) else none
def antR (m : Me) (b : Bd) : Option Int := if askM m b then lackR (b.loa * grM m - 1000 * m.ant) (1000 - b.loa) else none
theorem tin_no {m : Me} {b : Bd} (h : askM m b = false) : tinR m b = none := by unfold tinR; rw [h]; rfl
theorem ant_no {m : Me} {b : Bd} (h : askM m b = false) : antR m b = none := by unfold antR; rw [h]; rfl
theorem tin_yes {m : Me} {b : Bd} (h : askM m b = true) : tinR m b = lackR (b.lot * grM m - 1000 * m.tin) (1000 - b.lot) := by unfold tinR; rw [h]; rfl
theorem ant_yes {m : Me} {b : Bd} (h : askM m b = true) : antR m b = lackR (b.loa * grM m - 1000 * m.ant) (1000 - b.loa) := by unfold antR; rw [h]; rfl
set_option maxRecDepth 100000 in
set_option maxHeartbeats 1000000 in
theorem specTin_any (s : Me) (b : Bd) (w : World) :
    Calls Tryd.prog 22 #[.agg #[.int .i64 s.lea, .int .i64 s.tin, .int .i64 s.ant], .agg #[.int .i64 b.lot, .int .i64 b.hit, .int .i64 b.loa, .int .i64 b.hia]] w fun e w' => e = .returned (.tuple #[.int .i64 ((tinR s b).getD 0), .bool (tinR s b).isSome]) ∧ Below w.heap.size w w' := by
  have HX : Hid (MeAt ((w.alloc (.cells #[.int .i64 s.lea, .int .i64 s.tin, .int .i64 s.ant] 32)).alloc (.cells #[.int .i64 b.lot, .int .i64 b.hit, .int .i64 b.loa, .int .i64 b.hia] 25)) w.heap.size 32 s) := Lib.hid ((MeAt.new _ _ _).alloc _)
  have HY : Hid (BdAt ((w.alloc (.cells #[.int .i64 s.lea, .int .i64 s.tin, .int .i64 s.ant] 32)).alloc (.cells #[.int .i64 b.lot, .int .i64 b.hit, .int .i64 b.loa, .int .i64 b.hia] 25)) (w.heap.size + 1) 25 b) := Lib.hid (heap_alloc2_new _ _ _)
  have HA : Hid (Below w.heap.size w ((w.alloc (.cells #[.int .i64 s.lea, .int .i64 s.tin, .int .i64 s.ant] 32)).alloc (.cells #[.int .i64 b.lot, .int .i64 b.hit, .int .i64 b.loa, .int .i64 b.hia] 25))) := Lib.hid (((Below.refl _ _).alloc (Nat.le_refl _) _).alloc (by simp) _)
  go_enter Tryd.func22, Tryd.ntmps22
  go_wp2_with fail
  refine (meAsked_any s b _).mono ?_
  rintro e w1 ⟨rfl, hb1⟩
  have HB1 : Hid (Below w.heap.size w w1) := Lib.hid (HA.out.trans (hb1.mono HA.out.size))
  have HX1 := Lib.hid (HX.out.next hb1); have HY1 := Lib.hid (HY.out.next hb1)
  clear hb1 HX HY HA
  cases hg : askM s b
  · have HV := Lib.hid (tin_no hg); clear hg
    go_wp2
    go_ret2
    exact ⟨by rw [HV.out]; rfl, HB1.out⟩
  have HV := Lib.hid (tin_yes hg)
  have hp := askM_parts hg
  have HG := Lib.hid (hasM_parts hp.1).1
  have HSM := Lib.hid (small_of HG.out)
  obtain ⟨⟨a0, a1⟩, ⟨a2, a3⟩, ⟨a4, a5⟩⟩ := goodM_bounds HG.out
  obtain ⟨⟨b0, b1⟩, ⟨b2, b3⟩, ⟨b4, b5⟩, ⟨b6, b7⟩⟩ := goodBd_bounds hp.2
  obtain ⟨hgl, hgl1⟩ := grM_le HG.out
  clear hg hp
  obtain ⟨x0, x1, x2⟩ := HX1.out.kept (B := w1.heap.size) HX1.out.lt
  obtain ⟨y0, y1, y2, y3⟩ := HY1.out.kept (B := w1.heap.size) HY1.out.lt
  go_wp2_with fail
  refine region_kept w1.heap.size (by kernel_rfl) (by kernel_rfl) ?_
  repeat (go_big_quiet_step (fail))
  go_big_quiet_step ((go_at_call 47; exact kept_call _ (Nat.le_refl _) (meGrams_any s _ HSM.out)))
  repeat (go_big_quiet_step (fail))
  go_big_quiet_step ((go_at_call 51; exact kept_same _ (meAdd_any s.tin (grM s) b.lot _ (by omega) (by omega) hgl hgl1 (by omega) (by omega))))
  repeat (go_big_quiet_step (fail))
  refine wpQuiet_nil ?_
  intro w2 hb2
  have HB2 : Hid (Below w.heap.size w w2) := Lib.hid (HB1.out.trans (hb2.mono HB1.out.size))
  clear hb2 HX1 HY1 HB1 x0 x1 x2 y0 y1 y2 y3
  generalize lackR (b.lot * grM s - 1000 * s.tin) (1000 - b.lot) = r at *
  go_wp2
  go_ret2
  exact ⟨by rw [HV.out]; rfl, HB2.out⟩
set_option maxRecDepth 100000 in
set_option maxHeartbeats 1000000 in
theorem specAnt_any (s : Me) (b : Bd) (w : World) :
    Calls Tryd.prog 24 #[.agg #[.int .i64 s.lea, .int .i64 s.tin, .int .i64 s.ant], .agg #[.int .i64 b.lot, .int .i64 b.hit, .int .i64 b.loa, .int .i64 b.hia]] w fun e w' => e = .returned (.tuple #[.int .i64 ((antR s b).getD 0), .bool (antR s b).isSome]) ∧ Below w.heap.size w w' := by
  have HX : Hid (MeAt ((w.alloc (.cells #[.int .i64 s.lea, .int .i64 s.tin, .int .i64 s.ant] 32)).alloc (.cells #[.int .i64 b.lot, .int .i64 b.hit, .int .i64 b.loa, .int .i64 b.hia] 25)) w.heap.size 32 s) := Lib.hid ((MeAt.new _ _ _).alloc _)
  have HY : Hid (BdAt ((w.alloc (.cells #[.int .i64 s.lea, .int .i64 s.tin, .int .i64 s.ant] 32)).alloc (.cells #[.int .i64 b.lot, .int .i64 b.hit, .int .i64 b.loa, .int .i64 b.hia] 25)) (w.heap.size + 1) 25 b) := Lib.hid (heap_alloc2_new _ _ _)
  have HA : Hid (Below w.heap.size w ((w.alloc (.cells #[.int .i64 s.lea, .int .i64 s.tin, .int .i64 s.ant] 32)).alloc (.cells #[.int .i64 b.lot, .int .i64 b.hit, .int .i64 b.loa, .int .i64 b.hia] 25))) := Lib.hid (((Below.refl _ _).alloc (Nat.le_refl _) _).alloc (by simp) _)
  go_enter Tryd.func24, Tryd.ntmps24
  go_wp2_with fail
  refine (meAsked_any s b _).mono ?_
  rintro e w1 ⟨rfl, hb1⟩
  have HB1 : Hid (Below w.heap.size w w1) := Lib.hid (HA.out.trans (hb1.mono HA.out.size))
  have HX1 := Lib.hid (HX.out.next hb1); have HY1 := Lib.hid (HY.out.next hb1)
  clear hb1 HX HY HA
  cases hg : askM s b
  · have HV := Lib.hid (ant_no hg); clear hg
    go_wp2
    go_ret2
    exact ⟨by rw [HV.out]; rfl, HB1.out⟩
  have HV := Lib.hid (ant_yes hg)
  have hp := askM_parts hg
  have HG := Lib.hid (hasM_parts hp.1).1
  have HSM := Lib.hid (small_of HG.out)
  obtain ⟨⟨a0, a1⟩, ⟨a2, a3⟩, ⟨a4, a5⟩⟩ := goodM_bounds HG.out
  obtain ⟨⟨b0, b1⟩, ⟨b2, b3⟩, ⟨b4, b5⟩, ⟨b6, b7⟩⟩ := goodBd_bounds hp.2
  obtain ⟨hgl, hgl1⟩ := grM_le HG.out
  clear hg hp
  obtain ⟨x0, x1, x2⟩ := HX1.out.kept (B := w1.heap.size) HX1.out.lt
  obtain ⟨y0, y1, y2, y3⟩ := HY1.out.kept (B := w1.heap.size) HY1.out.lt
  go_wp2_with fail
  refine region_kept w1.heap.size (by kernel_rfl) (by kernel_rfl) ?_
  repeat (go_big_quiet_step (fail))
  go_big_quiet_step ((go_at_call 47; exact kept_call _ (Nat.le_refl _) (meGrams_any s _ HSM.out)))
  repeat (go_big_quiet_step (fail))
  go_big_quiet_step ((go_at_call 51; exact kept_same _ (meAdd_any s.ant (grM s) b.loa _ (by omega) (by omega) hgl hgl1 (by omega) (by omega))))
  repeat (go_big_quiet_step (fail))
  refine wpQuiet_nil ?_
  intro w2 hb2
  have HB2 : Hid (Below w.heap.size w w2) := Lib.hid (HB1.out.trans (hb2.mono HB1.out.size))
  clear hb2 HX1 HY1 HB1 x0 x1 x2 y0 y1 y2 y3
  generalize lackR (b.loa * grM s - 1000 * s.ant) (1000 - b.loa) = r at *
  go_wp2
  go_ret2
  exact ⟨by rw [HV.out]; rfl, HB2.out⟩

set_option maxRecDepth 100000 in
set_option maxHeartbeats 1000000 in
theorem reachTin_any (s : Me) (b : Bd) (w : World) (ht : TabM w) :
    Calls Tryd.prog 52 #[.agg #[.int .i64 s.lea, .int .i64 s.tin, .int .i64 s.ant], .agg #[.int .i64 b.lot, .int .i64 b.hit, .int .i64 b.loa, .int .i64 b.hia], .int .i64 1] w fun e w' => e = .returned (.tuple #[.int .i64 ((tinR s b).getD 0), .bool (tinR s b).isSome]) ∧ Below w.heap.size w w' := by
  have HT := Lib.hid ht; clear ht
  have HX : Hid (MeAt ((w.alloc (.cells #[.int .i64 s.lea, .int .i64 s.tin, .int .i64 s.ant] 32)).alloc (.cells #[.int .i64 b.lot, .int .i64 b.hit, .int .i64 b.loa, .int .i64 b.hia] 25)) w.heap.size 32 s) := Lib.hid ((MeAt.new _ _ _).alloc _)
  have HY : Hid (BdAt ((w.alloc (.cells #[.int .i64 s.lea, .int .i64 s.tin, .int .i64 s.ant] 32)).alloc (.cells #[.int .i64 b.lot, .int .i64 b.hit, .int .i64 b.loa, .int .i64 b.hia] 25)) (w.heap.size + 1) 25 b) := Lib.hid (heap_alloc2_new _ _ _)
  have HA : Hid (Below w.heap.size w ((w.alloc (.cells #[.int .i64 s.lea, .int .i64 s.tin, .int .i64 s.ant] 32)).alloc (.cells #[.int .i64 b.lot, .int .i64 b.hit, .int .i64 b.loa, .int .i64 b.hia] 25))) := Lib.hid (((Below.refl _ _).alloc (Nat.le_refl _) _).alloc (by simp) _)
  go_enter Tryd.func52, Tryd.ntmps52
  go_wp2_with fail
  refine (gramsOfMetal_any s _).mono ?_
  rintro e w1 ⟨rfl, hb1⟩
  have HB1 : Hid (Below w.heap.size w w1) := Lib.hid (HA.out.trans (hb1.mono HA.out.size))
  have HX1 := Lib.hid (HX.out.next hb1); have HY1 := Lib.hid (HY.out.next hb1)
  clear hb1 HX HY HA
  cases hm : hasM s
  · have HV := Lib.hid (tin_no (m := s) (b := b) (by unfold askM; rw [hm]; rfl)); clear hm
    generalize gramsV s = z at *
    go_wp2
    go_ret2
    exact ⟨by rw [HV.out]; rfl, HB1.out⟩
  have HG := Lib.hid (hasM_parts hm).1
  have HGV := Lib.hid (gramsV_yes HG.out)
  rw [HGV.out]
  have HM := Lib.hid hm; clear hm
  obtain ⟨y0, y1, y2, y3⟩ := HY1.out.cells
  have hl := HY1.out.lt
  go_wp2_with fail
  refine (implIsBlend_any b _ (HT.out.next HB1.out)).mono ?_
  rintro e w2 ⟨rfl, hb2⟩
  have HB2 : Hid (Below w.heap.size w w2) := Lib.hid (HB1.out.trans (hb2.mono HB1.out.size))
  have HX2 := Lib.hid (HX1.out.next hb2); have HY2 := Lib.hid (HY1.out.next hb2)
  clear hb2 HX1 HY1 HB1 y0 y1 y2 y3 hl
  cases hb : goodBd b
  · have HV := Lib.hid (tin_no (m := s) (b := b) (by unfold askM; rw [hb]; simp)); clear hb
    go_wp2
    go_ret2
    exact ⟨by rw [HV.out]; rfl, HB2.out⟩
  have HV := Lib.hid (tin_yes (m := s) (b := b) (by unfold askM; rw [HM.out, hb]; rfl))
  obtain ⟨⟨a0, a1⟩, ⟨a2, a3⟩, ⟨a4, a5⟩⟩ := goodM_bounds HG.out
  obtain ⟨⟨b0, b1⟩, ⟨b2, b3⟩, ⟨b4, b5⟩, ⟨b6, b7⟩⟩ := goodBd_bounds hb
  obtain ⟨hgl, hgl1⟩ := grM_le HG.out
  obtain ⟨hq, hq1⟩ := mul_in (a := b.lot) (b := grM s) (by omega) ⟨hgl, hgl1⟩
  clear hb
  obtain ⟨y0, y1, y2, y3⟩ := HY2.out.cells
  have hl := HY2.out.lt
  go_wp2_with fail
  refine (boundsOf_any b _).mono ?_
  rintro e w3 ⟨rfl, hb3⟩
  have HB3 : Hid (Below w.heap.size w w3) := Lib.hid (HB2.out.trans (hb3.mono HB2.out.size))
  have HX3 := Lib.hid (HX2.out.next hb3)
  clear hb3 HX2 HY2 HB2 y0 y1 y2 y3 hl
  have ix := run_idxS1 b
  have fx := run_fldS (b.lot) (b.hit)
  obtain ⟨x0, x1, x2⟩ := HX3.out.cells
  have hl := HX3.out.lt
  go_wp2_with fail
  refine (gramsBy_any s _).mono ?_
  rintro e w4 ⟨rfl, hb4⟩
  have HB4 : Hid (Below w.heap.size w w4) := Lib.hid (HB3.out.trans (hb4.mono HB3.out.size))
  clear hb4 HX3 HB3 x0 x1 x2 hl ix fx
  have ix := run_idxM1 s
  go_wp2_with fail
  refine (leastToAdd_any (b.lot * grM s - 1000 * s.tin) (1000 - b.lot) _ (by omega) (by omega) (by omega) (by omega)).mono ?_
  rintro e w5 ⟨rfl, rfl⟩
  generalize lackR (b.lot * grM s - 1000 * s.tin) (1000 - b.lot) = r at *
  go_wp2
  go_ret2
  exact ⟨by rw [HV.out]; rfl, HB4.out⟩
set_option maxRecDepth 100000 in
set_option maxHeartbeats 1000000 in
theorem reachAnt_any (s : Me) (b : Bd) (w : World) (ht : TabM w) :
    Calls Tryd.prog 52 #[.agg #[.int .i64 s.lea, .int .i64 s.tin, .int .i64 s.ant], .agg #[.int .i64 b.lot, .int .i64 b.hit, .int .i64 b.loa, .int .i64 b.hia], .int .i64 2] w fun e w' => e = .returned (.tuple #[.int .i64 ((antR s b).getD 0), .bool (antR s b).isSome]) ∧ Below w.heap.size w w' := by
  have HT := Lib.hid ht; clear ht
  have HX : Hid (MeAt ((w.alloc (.cells #[.int .i64 s.lea, .int .i64 s.tin, .int .i64 s.ant] 32)).alloc (.cells #[.int .i64 b.lot, .int .i64 b.hit, .int .i64 b.loa, .int .i64 b.hia] 25)) w.heap.size 32 s) := Lib.hid ((MeAt.new _ _ _).alloc _)
  have HY : Hid (BdAt ((w.alloc (.cells #[.int .i64 s.lea, .int .i64 s.tin, .int .i64 s.ant] 32)).alloc (.cells #[.int .i64 b.lot, .int .i64 b.hit, .int .i64 b.loa, .int .i64 b.hia] 25)) (w.heap.size + 1) 25 b) := Lib.hid (heap_alloc2_new _ _ _)
  have HA : Hid (Below w.heap.size w ((w.alloc (.cells #[.int .i64 s.lea, .int .i64 s.tin, .int .i64 s.ant] 32)).alloc (.cells #[.int .i64 b.lot, .int .i64 b.hit, .int .i64 b.loa, .int .i64 b.hia] 25))) := Lib.hid (((Below.refl _ _).alloc (Nat.le_refl _) _).alloc (by simp) _)
  go_enter Tryd.func52, Tryd.ntmps52
  go_wp2_with fail
  refine (gramsOfMetal_any s _).mono ?_
  rintro e w1 ⟨rfl, hb1⟩
  have HB1 : Hid (Below w.heap.size w w1) := Lib.hid (HA.out.trans (hb1.mono HA.out.size))
  have HX1 := Lib.hid (HX.out.next hb1); have HY1 := Lib.hid (HY.out.next hb1)
  clear hb1 HX HY HA
  cases hm : hasM s
  · have HV := Lib.hid (ant_no (m := s) (b := b) (by unfold askM; rw [hm]; rfl)); clear hm
    generalize gramsV s = z at *
    go_wp2
    go_ret2
    exact ⟨by rw [HV.out]; rfl, HB1.out⟩
  have HG := Lib.hid (hasM_parts hm).1
  have HGV := Lib.hid (gramsV_yes HG.out)
  rw [HGV.out]
  have HM := Lib.hid hm; clear hm
  obtain ⟨y0, y1, y2, y3⟩ := HY1.out.cells
  have hl := HY1.out.lt
  go_wp2_with fail
  refine (implIsBlend_any b _ (HT.out.next HB1.out)).mono ?_
  rintro e w2 ⟨rfl, hb2⟩
  have HB2 : Hid (Below w.heap.size w w2) := Lib.hid (HB1.out.trans (hb2.mono HB1.out.size))
  have HX2 := Lib.hid (HX1.out.next hb2); have HY2 := Lib.hid (HY1.out.next hb2)
  clear hb2 HX1 HY1 HB1 y0 y1 y2 y3 hl
  cases hb : goodBd b
  · have HV := Lib.hid (ant_no (m := s) (b := b) (by unfold askM; rw [hb]; simp)); clear hb
    go_wp2
    go_ret2
    exact ⟨by rw [HV.out]; rfl, HB2.out⟩
  have HV := Lib.hid (ant_yes (m := s) (b := b) (by unfold askM; rw [HM.out, hb]; rfl))
  obtain ⟨⟨a0, a1⟩, ⟨a2, a3⟩, ⟨a4, a5⟩⟩ := goodM_bounds HG.out
  obtain ⟨⟨b0, b1⟩, ⟨b2, b3⟩, ⟨b4, b5⟩, ⟨b6, b7⟩⟩ := goodBd_bounds hb
  obtain ⟨hgl, hgl1⟩ := grM_le HG.out
  obtain ⟨hq, hq1⟩ := mul_in (a := b.loa) (b := grM s) (by omega) ⟨hgl, hgl1⟩
  clear hb
  obtain ⟨y0, y1, y2, y3⟩ := HY2.out.cells
  have hl := HY2.out.lt
  go_wp2_with fail
  refine (boundsOf_any b _).mono ?_
  rintro e w3 ⟨rfl, hb3⟩
  have HB3 : Hid (Below w.heap.size w w3) := Lib.hid (HB2.out.trans (hb3.mono HB2.out.size))
  have HX3 := Lib.hid (HX2.out.next hb3)
  clear hb3 HX2 HY2 HB2 y0 y1 y2 y3 hl
  have ix := run_idxS2 b
  have fx := run_fldS (b.loa) (b.hia)
  obtain ⟨x0, x1, x2⟩ := HX3.out.cells
  have hl := HX3.out.lt
  go_wp2_with fail
  refine (gramsBy_any s _).mono ?_
  rintro e w4 ⟨rfl, hb4⟩
  have HB4 : Hid (Below w.heap.size w w4) := Lib.hid (HB3.out.trans (hb4.mono HB3.out.size))
  clear hb4 HX3 HB3 x0 x1 x2 hl ix fx
  have ix := run_idxM2 s
  go_wp2_with fail
  refine (leastToAdd_any (b.loa * grM s - 1000 * s.ant) (1000 - b.loa) _ (by omega) (by omega) (by omega) (by omega)).mono ?_
  rintro e w5 ⟨rfl, rfl⟩
  generalize lackR (b.loa * grM s - 1000 * s.ant) (1000 - b.loa) = r at *
  go_wp2
  go_ret2
  exact ⟨by rw [HV.out]; rfl, HB4.out⟩
theorem implTin_any (s : Me) (b : Bd) (w : World) (ht : TabM w) :
    Calls Tryd.prog 23 #[.agg #[.int .i64 s.lea, .int .i64 s.tin, .int .i64 s.ant], .agg #[.int .i64 b.lot, .int .i64 b.hit, .int .i64 b.loa, .int .i64 b.hia]] w fun e w' => e = .returned (.tuple #[.int .i64 ((tinR s b).getD 0), .bool (tinR s b).isSome]) ∧ Below w.heap.size w w' := by
  have HT := Lib.hid ht; clear ht
  have HX : Hid (MeAt ((w.alloc (.cells #[.int .i64 s.lea, .int .i64 s.tin, .int .i64 s.ant] 32)).alloc (.cells #[.int .i64 b.lot, .int .i64 b.hit, .int .i64 b.loa, .int .i64 b.hia] 25)) w.heap.size 32 s) := Lib.hid ((MeAt.new _ _ _).alloc _)
  have HY : Hid (BdAt ((w.alloc (.cells #[.int .i64 s.lea, .int .i64 s.tin, .int .i64 s.ant] 32)).alloc (.cells #[.int .i64 b.lot, .int .i64 b.hit, .int .i64 b.loa, .int .i64 b.hia] 25)) (w.heap.size + 1) 25 b) := Lib.hid (heap_alloc2_new _ _ _)
  have HA : Hid (Below w.heap.size w ((w.alloc (.cells #[.int .i64 s.lea, .int .i64 s.tin, .int .i64 s.ant] 32)).alloc (.cells #[.int .i64 b.lot, .int .i64 b.hit, .int .i64 b.loa, .int .i64 b.hia] 25))) := Lib.hid (((Below.refl _ _).alloc (Nat.le_refl _) _).alloc (by simp) _)
  go_enter Tryd.func23, Tryd.ntmps23
  go_wp2_with fail
  refine (reachTin_any s b _ (HT.out.next HA.out)).mono ?_
  rintro e w1 ⟨rfl, hb1⟩
  have HB1 : Hid (Below w.heap.size w w1) := Lib.hid (HA.out.trans (hb1.mono HA.out.size))
  clear hb1 HX HY HA
  obtain ⟨r, hr⟩ : ∃ r, r = tinR s b := ⟨_, rfl⟩
  rw [← hr]
  have HR := Lib.hid hr; clear hr
  go_wp2
  go_ret2
  exact ⟨by rw [← HR.out]; rfl, HB1.out⟩
theorem implAnt_any (s : Me) (b : Bd) (w : World) (ht : TabM w) :
    Calls Tryd.prog 25 #[.agg #[.int .i64 s.lea, .int .i64 s.tin, .int .i64 s.ant], .agg #[.int .i64 b.lot, .int .i64 b.hit, .int .i64 b.loa, .int .i64 b.hia]] w fun e w' => e = .returned (.tuple #[.int .i64 ((antR s b).getD 0), .bool (antR s b).isSome]) ∧ Below w.heap.size w w' := by
  have HT := Lib.hid ht; clear ht
  have HX : Hid (MeAt ((w.alloc (.cells #[.int .i64 s.lea, .int .i64 s.tin, .int .i64 s.ant] 32)).alloc (.cells #[.int .i64 b.lot, .int .i64 b.hit, .int .i64 b.loa, .int .i64 b.hia] 25)) w.heap.size 32 s) := Lib.hid ((MeAt.new _ _ _).alloc _)
  have HY : Hid (BdAt ((w.alloc (.cells #[.int .i64 s.lea, .int .i64 s.tin, .int .i64 s.ant] 32)).alloc (.cells #[.int .i64 b.lot, .int .i64 b.hit, .int .i64 b.loa, .int .i64 b.hia] 25)) (w.heap.size + 1) 25 b) := Lib.hid (heap_alloc2_new _ _ _)
  have HA : Hid (Below w.heap.size w ((w.alloc (.cells #[.int .i64 s.lea, .int .i64 s.tin, .int .i64 s.ant] 32)).alloc (.cells #[.int .i64 b.lot, .int .i64 b.hit, .int .i64 b.loa, .int .i64 b.hia] 25))) := Lib.hid (((Below.refl _ _).alloc (Nat.le_refl _) _).alloc (by simp) _)
  go_enter Tryd.func25, Tryd.ntmps25
  go_wp2_with fail
  refine (reachAnt_any s b _ (HT.out.next HA.out)).mono ?_
  rintro e w1 ⟨rfl, hb1⟩
  have HB1 : Hid (Below w.heap.size w w1) := Lib.hid (HA.out.trans (hb1.mono HA.out.size))
  clear hb1 HX HY HA
  obtain ⟨r, hr⟩ : ∃ r, r = antR s b := ⟨_, rfl⟩
  rw [← hr]
  have HR := Lib.hid hr; clear hr
  go_wp2
  go_ret2
  exact ⟨by rw [← HR.out]; rfl, HB1.out⟩
end Go.Proofs.YtebbgdihifihnaaDoor

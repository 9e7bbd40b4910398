/-
  The contract of impl.MissingFor.
-/
import Derived.Test.YtljakcfdjcjdbaaPs
namespace Go.Proofs.Ytljakcfdjcjdbaa
open Go.RowKit Go.Shelf
set_option linter.unusedVariables false
attribute [local go_sem] Oper.semAt_some encS

/-- The first sum that is not less. -/
theorem mis_first {f : List Sl} {N x : Nat} (hx : mkB f x = true) (h1 : N ≤ x) (h4 : x ≤ 400) (h : ∀ z, z ∈ sumL (mkB f) x → z.val < N) : nxt (mkB f) N (401 - N) = some x :=
  nxt_some hx h1 (by omega) fun m h2 h3 => by
    cases hm : mkB f m with
    | false => rfl
    | true => have h5 : m < N := h _ (sumL_mem hm (by omega) x h3); omega
theorem mis_never {f : List Sl} {N : Nat} (hN : N ≤ 400) (h : ∀ z, z ∈ sumL (mkB f) (400 + 1) → z.val < N) : nxt (mkB f) N (401 - N) = none :=
  nxt_none fun m h2 h3 => by
    cases hm : mkB f m with
    | false => rfl
    | true => have h5 : m < N := h _ (sumL_mem hm (by omega) 401 (by omega)); omega
set_option maxRecDepth 100000 in
set_option maxHeartbeats 4000000 in
theorem implMissingFor_any (f : List Sl) (A : Option Addr) (c : Nat) (n : Int) (w : World) (hf : SlsIn w A f) (hn : f.length ≤ 1048576) :
    Calls Try.prog 34 #[.slice A f.length c, .int .i64 n] w fun e w' => e = .returned (.tuple #[.int .i64 (misV f n), .bool (misB f n)]) ∧ Below w.heap.size w w' := by
  have HF := Lib.hid hf; clear hf
  cases ha : askL f n
  · have HV := Lib.hid (mis_none (misO_no ha))
    have HA := Lib.hid ha; clear ha
    have HAE : Hid (askL f n = (stkB f && inB 1 400 n)) := Lib.hid rfl
    have HB1 : Hid (Below w.heap.size w (((w.alloc (.cells #[.int .i64 n] 3)).alloc (.cells #[.int .i64 0] 3)).alloc (.cells #[.bool false] 4))) := Lib.hid ((((Below.refl _ _).alloc (Nat.le_refl _) _).alloc (by simp) _).alloc (by simp; omega) _)
    have HX0 : Hid (Boxed (((w.alloc (.cells #[.int .i64 n] 3)).alloc (.cells #[.int .i64 0] 3)).alloc (.cells #[.bool false] 4)) w.heap.size 3 (.int .i64 n)) := Lib.hid (((Boxed.new _ _ _).alloc _).alloc _)
    have HX3 : Hid (Boxed (((w.alloc (.cells #[.int .i64 n] 3)).alloc (.cells #[.int .i64 0] 3)).alloc (.cells #[.bool false] 4)) (w.heap.size + 1) 3 (.int .i64 0)) := Lib.hid (by
      have h := Boxed.new (w.alloc (.cells #[.int .i64 n] 3)) 3 (.int .i64 0)
      rw [World.size_alloc] at h
      exact h.alloc _)
    have HX4 : Hid (Boxed (((w.alloc (.cells #[.int .i64 n] 3)).alloc (.cells #[.int .i64 0] 3)).alloc (.cells #[.bool false] 4)) (w.heap.size + 1 + 1) 4 (.bool false)) := Lib.hid (by
      have h := Boxed.new ((w.alloc (.cells #[.int .i64 n] 3)).alloc (.cells #[.int .i64 0] 3)) 4 (.bool false)
      rw [World.size_alloc, World.size_alloc] at h
      exact h)
    go_enter Try.func34, Try.ntmps34
    go_wp2_with fail
    refine (implIsStock_any f A c _ (HF.out.below HB1.out (Nat.le_refl _)) hn).mono ?_
    rintro e v1 ⟨rfl, hb1⟩
    have HB2 := Lib.hid (HB1.out.trans (hb1.mono HB1.out.size))
    have X0 : Boxed v1 _ _ _ := (hb1.block _ HX0.out.lt).trans HX0.out
    have X3 : Boxed v1 _ _ _ := (hb1.block _ HX3.out.lt).trans HX3.out
    have X4 : Boxed v1 _ _ _ := (hb1.block _ HX4.out.lt).trans HX4.out
    have HZ3 := Lib.hid X3; have HZ4 := Lib.hid X4
    clear hb1 HX0 HX3 HX4
    have c0 := X0.cell; have f3 := X3.frozen; have g3 := X3.cell; have f4 := X4.frozen; have g4 := X4.cell
    have lv := X4.lt
    cases hg : stkB f
    · clear hg
      go_wp2
      have b3 := (HZ3.out.set (.int .i64 0)).kept (grownBy_setCell' _ (w.heap.size + 1 + 1) (.bool false)) (fun e => by have := Option.some.inj e; omega)
      have b4 := (HZ4.out.kept (grownBy_setCell' v1 (w.heap.size + 1) (.int .i64 0)) (fun e => by have := Option.some.inj e; omega)).set (.bool false)
      refine bodyPost_ret (v := .tuple #[.int .i64 0, .bool false]) (by simp [results, Try.results34, go_sem, b3.cell, b4.cell]) rfl ⟨ret_ib HV.out.2.symm HV.out.1.symm, ?_⟩
      exact (HB2.out.setCell (p := ⟨w.heap.size + 1, 0, none⟩) (by show w.heap.size ≤ w.heap.size + 1; omega) _).setCell (p := ⟨w.heap.size + 1 + 1, 0, none⟩) (by show w.heap.size ≤ w.heap.size + 1 + 1; omega) _
    · have hi : inB 1 400 n = false := by have h := HA.out; rw [HAE.out, hg] at h; simpa using h
      clear hg
      go_wp2_with fail
      refine (isRuleLength_any _ _).mono ?_
      rintro e w' ⟨rfl, rfl⟩
      rw [hi]
      clear hi
      go_wp2
      have b3 := (HZ3.out.set (.int .i64 0)).kept (grownBy_setCell' _ (w.heap.size + 1 + 1) (.bool false)) (fun e => by have := Option.some.inj e; omega)
      have b4 := (HZ4.out.kept (grownBy_setCell' v1 (w.heap.size + 1) (.int .i64 0)) (fun e => by have := Option.some.inj e; omega)).set (.bool false)
      refine bodyPost_ret (v := .tuple #[.int .i64 0, .bool false]) (by simp [results, Try.results34, go_sem, b3.cell, b4.cell]) rfl ⟨ret_ib HV.out.2.symm HV.out.1.symm, ?_⟩
      exact (HB2.out.setCell (p := ⟨w.heap.size + 1, 0, none⟩) (by show w.heap.size ≤ w.heap.size + 1; omega) _).setCell (p := ⟨w.heap.size + 1 + 1, 0, none⟩) (by show w.heap.size ≤ w.heap.size + 1 + 1; omega) _
  have HA := Lib.hid ha
  obtain ⟨hgs, h1, h4⟩ := askL_iff.1 ha
  obtain ⟨N, rfl⟩ : ∃ N : Nat, n = (N : Int) := ⟨n.toNat, by omega⟩
  have HO := Lib.hid (misO_yes ha)
  have HG := Lib.hid hgs
  have HGB := Lib.hid (stkB_iff.2 hgs)
  have HI := Lib.hid (inBs_iff.2 ⟨h1, h4⟩)
  have hN1 : 1 ≤ N := by omega
  have hN4 : N ≤ 400 := by omega
  clear hgs ha h1 h4
  obtain ⟨u1, hu1⟩ : ∃ x : World, x = w.alloc (.cells #[.int .i64 (N : Int)] 3) := ⟨_, rfl⟩
  have z1 : u1.heap.size = w.heap.size + 1 := by rw [hu1, World.size_alloc]
  obtain ⟨u2, hu2⟩ : ∃ x : World, x = u1.alloc (.cells #[.int .i64 0] 3) := ⟨_, rfl⟩
  have z2 : u2.heap.size = w.heap.size + 1 + 1 := by rw [hu2, World.size_alloc, z1]
  obtain ⟨u3, hu3⟩ : ∃ x : World, x = u2.alloc (.cells #[.bool false] 4) := ⟨_, rfl⟩
  have z3 : u3.heap.size = w.heap.size + 1 + 1 + 1 := by rw [hu3, World.size_alloc, z2]
  have HX0 : Hid (Boxed u3 w.heap.size 3 (.int .i64 (N : Int))) := Lib.hid (by
    have h : Boxed u1 w.heap.size 3 (.int .i64 (N : Int)) := by rw [hu1]; exact Boxed.new _ _ _
    replace h := h.alloc (.cells #[.int .i64 0] 3)
    rw [← hu2] at h
    replace h := h.alloc (.cells #[.bool false] 4)
    rw [← hu3] at h
    exact h)
  have HX3 : Hid (Boxed u3 (w.heap.size + 1) 3 (.int .i64 0)) := Lib.hid (by
    have h : Boxed u2 u1.heap.size 3 (.int .i64 0) := by rw [hu2]; exact Boxed.new _ _ _
    rw [z1] at h
    replace h := h.alloc (.cells #[.bool false] 4)
    rw [← hu3] at h
    exact h)
  have HX4 : Hid (Boxed u3 (w.heap.size + 1 + 1) 4 (.bool false)) := Lib.hid (by
    have h : Boxed u3 u2.heap.size 4 (.bool false) := by rw [hu3]; exact Boxed.new _ _ _
    rw [z2] at h
    exact h)
  have HB1 : Hid (Below w.heap.size w u3) := Lib.hid (by
    rw [hu3, hu2, hu1]; exact (((Below.refl _ _).alloc (Nat.le_refl _) _).alloc (by simp) _).alloc (by simp; omega) _)
  have HW1 : Hid (u3 = ((w.alloc (.cells #[.int .i64 (N : Int)] 3)).alloc (.cells #[.int .i64 0] 3)).alloc (.cells #[.bool false] 4)) := Lib.hid (by rw [hu3, hu2, hu1])
  clear hu1 hu2 hu3 z1 z2
  have l0 := HX0.out.lt; have l3 := HX3.out.lt; have l4 := HX4.out.lt
  refine (callsIn_wide (n := 6)).1 ?_
  have n6 : 1 ≤ 6 := by omega
  refine callsIn_of_wp_marks Try.func34 rfl trivial ?_ rfl
  simp only [Try.ntmps34, List.size_toArray, List.length_cons, List.length_nil, Nat.reduceAdd, Nat.reduceSub, Array.replicate_succ, Array.replicate_zero, List.push_toArray, List.append_toArray, List.nil_append, List.cons_append]
  refine wpIn_wide.2 ?_
  go_wp2_with fail
  rw [← HW1.out]
  refine (implIsStock_any f A c _ (HF.out.below HB1.out (Nat.le_refl _)) hn).mono ?_
  rintro e v1 ⟨rfl, hb1⟩
  have HB2 := Lib.hid (HB1.out.trans (hb1.mono HB1.out.size))
  have X0 : Boxed v1 _ _ _ := (hb1.block _ l0).trans HX0.out
  have X3 : Boxed v1 _ _ _ := (hb1.block _ l3).trans HX3.out
  have X4 : Boxed v1 _ _ _ := (hb1.block _ l4).trans HX4.out
  clear hb1
  have c0 := X0.cell; have f3 := X3.frozen; have g3 := X3.cell; have f4 := X4.frozen; have g4 := X4.cell
  have HZ0 := Lib.hid X0; have HZ3 := Lib.hid X3; have HZ4 := Lib.hid X4
  rw [HGB.out]
  go_wp2_with fail
  refine (isRuleLength_any _ _).mono ?_
  rintro e w' ⟨rfl, rfl⟩
  rw [HI.out]
  go_wp2_with fail
  rw [show (400 : Int) = ((400 : Nat) : Int) from rfl]
  refine (sumsOfSlips_any f A c 400 v1 (HF.out.below HB2.out (Nat.le_refl _)) hn).mono ?_
  rintro e v2 ⟨bm, bk, bs, g, h, rfl, hbx, hb2⟩
  have HB3 := Lib.hid (HB2.out.trans (hb2.mono HB2.out.size))
  have HBX := Lib.hid hbx
  have m0 : Boxed v2 _ _ _ := (hb2.block _ HZ0.out.lt).trans HZ0.out
  have m3 : Boxed v2 _ _ _ := (hb2.block _ HZ3.out.lt).trans HZ3.out
  have m4 : Boxed v2 _ _ _ := (hb2.block _ HZ4.out.lt).trans HZ4.out
  clear hb2 hbx c0 f3 g3 f4 g4 X0 X3 X4
  have hvs := HB3.out.size
  go_wp2
  refine (wpIn_wide (n := 6)).1 ?_
  refine wpIn_rangeFunc_ownF (F := Fence.wide) (n := 6) rfl n6 (gf := 82) (lb := #[.pointer (some ⟨bm, 0, none⟩), .pointer (some ⟨bk, 0, none⟩), .pointer (some ⟨bs, 0, none⟩)]) rfl trivial (enters_of Try.func82 (by kernel_rfl) rfl)
    (slips_stops HG.out 5 (by omega) bm bk bs g h 400 v2 HBX.out (Nat.le_refl _)) KpB.kt KpB.kb (Below.refl _ _) (fun _ => rfl)
    (fun pre W => (∀ z : Sum4, z ∈ pre → z.val < N) ∧ Below v2.heap.size v2 W)
    (fun cd pre W => ((cd = .ret ∧ ∃ (q : List Sum4) (x : Sum4), pre = q ++ [x] ∧ (∀ z : Sum4, z ∈ q → z.val < N) ∧ N ≤ x.val) ∧ (Boxed W (w.heap.size + 1) 3 (.int .i64 ((lastV pre : Int) - (N : Int))) ∧ Boxed W (w.heap.size + 1 + 1) 4 (.bool true))) ∧ Below w.heap.size w W)
    (OwnFrom.and (_root_.Go.Own.from (pure_own (fun pre => ∀ z : Sum4, z ∈ pre → z.val < N)) _) (ownFrom_below (Nat.le_refl _) (Nat.le_refl _)))
    (fun cd => OwnFrom.and (OwnFrom.and (_root_.Go.Own.from (pure_own (fun pre => cd = .ret ∧ ∃ (q : List Sum4) (x : Sum4), pre = q ++ [x] ∧ (∀ z : Sum4, z ∈ q → z.val < N) ∧ N ≤ x.val)) _) (OwnFrom.and (_root_.Go.Own.from (boxed_own _ _ (fun pre => .int .i64 ((lastV pre : Int) - (N : Int)))) _) (_root_.Go.Own.from (boxed_own _ _ (fun _ => .bool true)) _))) (ownFrom_below (Nat.le_refl _) hvs))
    ⟨(fun z hz => by cases hz), Below.refl _ _⟩ ?act ?assign ?body ?done ?stop
  case assign =>
    intro l x W K hK
    gi_wp2
    exact hK
  case body =>
    rintro lp pre x W ⟨hno, hB⟩ hpl
    have X0 : Boxed W _ _ _ := (hB.block _ m0.lt).trans m0
    have a3 : Boxed W _ _ _ := (hB.block _ m3.lt).trans m3
    have a4 : Boxed W _ _ _ := (hB.block _ m4.lt).trans m4
    have c0 := X0.cell
    have hx4 := x.le
    have HNO := Lib.hid hno; have HB := Lib.hid hB
    have HA3 := Lib.hid a3; have HA4 := Lib.hid a4
    have f3 := a3.frozen; have g3 := a3.cell; have f4 := a4.frozen; have g4 := a4.cell
    have hne1 : ¬ w.heap.size = w.heap.size + 1 := by omega
    have hne2 : ¬ w.heap.size + 1 = w.heap.size := by omega
    clear hno hB X0 a3 a4
    by_cases hq : N ≤ x.val
    · have hd : (x.val : Int) ≥ (N : Int) := by omega
      gi_wp2
      refine ⟨(KeepsOthers.setCell _ _ _).trans (KeepsOthers.setCell _ _ _), ⟨⟨rfl, pre, x, rfl, HNO.out, hq⟩, ?_, ?_⟩, ?_⟩
      · rw [lastV_snoc]
        exact ((HA3.out.set _).kept (grownBy_setCell' _ _ _) (fun e => by have := Option.some.inj e; omega))
      · exact (HA4.out.kept (grownBy_setCell' _ _ _) (fun e => by have := Option.some.inj e; omega)).set _
      · have hb := HB3.out.trans (HB.out.mono hvs)
        exact (hb.setCell (p := ⟨w.heap.size + 1, 0, none⟩) (by show w.heap.size ≤ w.heap.size + 1; omega) _).setCell (p := ⟨w.heap.size + 1 + 1, 0, none⟩) (by show w.heap.size ≤ w.heap.size + 1 + 1; omega) _
    · have hd : ¬ (x.val : Int) ≥ (N : Int) := by omega
      gi_wp2
      exact ⟨KeepsOthers.refl _, KpB.refl _ _, (fun z hz => by
        rcases List.mem_append.1 hz with h | h
        · exact HNO.out z h
        · obtain rfl : z = x := by simpa using h
          omega), HB.out⟩
  case done =>
    rintro D ys W hD rfl ⟨hno, hB⟩ hK
    have HV := Lib.hid (mis_none (f := f) (n := (N : Int)) (by rw [HO.out]; exact mis_never hN4 hno))
    have a3 : Boxed W (w.heap.size + 1) 3 (.int .i64 0) := (hB.block _ m3.lt).trans m3
    have a4 : Boxed W (w.heap.size + 1 + 1) 4 (.bool false) := (hB.block _ m4.lt).trans m4
    have f3 := a3.frozen; have g3 := a3.cell; have f4 := a4.frozen; have g4 := a4.cell
    have HBW := Lib.hid (HB3.out.trans (hB.mono hvs))
    have hDw : w.heap.size ≤ D := by omega
    obtain ⟨W2, hW2⟩ : ∃ x, x = (W.setCell ⟨w.heap.size + 1, 0, none⟩ (.int .i64 0)).setCell ⟨w.heap.size + 1 + 1, 0, none⟩ (.bool false) := ⟨_, rfl⟩
    have hK2 : W2.heap[D]? = some (.deferred (some [])) := by rw [hW2]; exact (KeepsOthers.setCell _ _ _).same D _ ((KeepsOthers.setCell W _ _).same D _ hK rfl) rfl
    have HB2 : Hid (Below w.heap.size w W2) := Lib.hid (by
      rw [hW2]; exact (HBW.out.setCell (p := ⟨w.heap.size + 1, 0, none⟩) (by show w.heap.size ≤ w.heap.size + 1; omega) _).setCell (p := ⟨w.heap.size + 1 + 1, 0, none⟩) (by show w.heap.size ≤ w.heap.size + 1 + 1; omega) _)
    have b3 : Boxed W2 (w.heap.size + 1) 3 (.int .i64 0) := by rw [hW2]; exact ((a3.set _).kept (grownBy_setCell' _ _ _) (fun e => by have := Option.some.inj e; omega))
    have b4 : Boxed W2 (w.heap.size + 1 + 1) 4 (.bool false) := by rw [hW2]; exact (a4.kept (grownBy_setCell' _ _ _) (fun e => by have := Option.some.inj e; omega)).set _
    have HW2 := Lib.hid hW2; have HK2 := Lib.hid hK2; have HC3 := Lib.hid b3; have HC4 := Lib.hid b4
    clear hno hB hK hW2 hK2 a3 a4 b3 b4
    go_wp2
    rw [← HW2.out]
    refine ⟨by simp, .inl ⟨_, _, rfl, run_takeDeferred HK2.out, ?_⟩⟩
    have hc3 := cell_kept HC3.out.cell (grownBy_putObj' _ D (.deferred none)) (fun r e => by cases e; exact ⟨_, HK2.out, rfl⟩)
    have hc4 := cell_kept HC4.out.cell (grownBy_putObj' _ D (.deferred none)) (fun r e => by cases e; exact ⟨_, HK2.out, rfl⟩)
    exact ⟨.tuple #[.int .i64 0, .bool false], by simp [results, Try.f34, go_sem, hc3, hc4], ret_ib HV.out.2.symm HV.out.1.symm, below_put _ HB2.out hDw HK2.out⟩
  case stop =>
    rintro D cd pre W hD hpre ⟨⟨⟨rfl, q, x, hqx, hno, ht⟩, ha3, ha4⟩, hB⟩ hK
    obtain ⟨z, hz1, hz2, hz3⟩ := hpre
    have hqz : q = sumL (mkB f) z.val ∧ x = z := by
      have := List.append_inj' (hqx.symm.trans hz3) rfl
      exact ⟨this.1, by simpa using this.2⟩
    obtain ⟨rfl, rfl⟩ := hqz
    have HV := Lib.hid (mis_some (f := f) (n := (N : Int)) (m := x.val) (by rw [HO.out]; exact mis_first hz2 ht x.le hno))
    rw [hqx, lastV_snoc] at ha3
    have HC3 := Lib.hid ha3; have HC4 := Lib.hid ha4; have HK2 := Lib.hid hK; have HB2 := Lib.hid hB
    have hDw : w.heap.size ≤ D := by omega
    clear hqx hno ht ha3 ha4 hB hK hz1 hz2 hz3
    gi_wp2
    refine ⟨by simp, .inl ⟨_, _, rfl, run_takeDeferred HK2.out, ?_⟩⟩
    have hc3 := cell_kept HC3.out.cell (grownBy_putObj' _ D (.deferred none)) (fun r e => by cases e; exact ⟨_, HK2.out, rfl⟩)
    have hc4 := cell_kept HC4.out.cell (grownBy_putObj' _ D (.deferred none)) (fun r e => by cases e; exact ⟨_, HK2.out, rfl⟩)
    exact ⟨.tuple #[.int .i64 ((x.val : Int) - (N : Int)), .bool true], by simp [results, Try.f34, go_sem, hc3, hc4], ret_ib HV.out.2.symm HV.out.1.symm, below_put _ HB2.out hDw HK2.out⟩
end Go.Proofs.Ytljakcfdjcjdbaa

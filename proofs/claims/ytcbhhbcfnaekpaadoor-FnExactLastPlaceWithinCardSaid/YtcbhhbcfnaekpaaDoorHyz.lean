/-
  The contract of impl.LastPlaceWithin.
-/
import Derived.Test.YtcbhhbcfnaekpaaDoorHyy
namespace Go.Proofs.YtcbhhbcfnaekpaaDoor
open Go.RowKit Go.Shelf
set_option linter.unusedVariables false
attribute [local go_sem] Oper.semAt_some encB BwI.w

/-- The number that came last. -/
def lastB {ks : List Int} (pre : List (BwI ks)) : Int := match pre.getLast? with | none => 0 | some x => x.w
theorem lastB_snoc {ks : List Int} (q : List (BwI ks)) (x : BwI ks) : lastB (q ++ [x]) = x.w := by simp [lastB]
theorem bw_none {P : List Int} {n : Int} (h : ∀ z ∈ bwL P P.length, ¬ z.w ≤ n) : lpL P n = 0 :=
  lpL_none fun j hj => h ⟨j, hj⟩ (bwL_mem hj _ (Nat.le_refl _) (by omega))
theorem bw_hit {P : List Int} {n : Int} {k : Nat} (hk : k < P.length) {q : List (BwI P)} {x : BwI P} (e : bwL P (k + 1) = q ++ [x]) (hx : x.w ≤ n) (hq : ∀ z ∈ q, ¬ z.w ≤ n) : lpL P n = x.w := by
  rw [bwL_succ hk] at e
  have h := List.append_inj' e rfl
  have e2 : (⟨P.length - 1 - k, by omega⟩ : BwI P) = x := by simpa using h.2
  have hi : x.i = P.length - 1 - k := by rw [← e2]
  refine lpL_hit x.lt hx (fun j hj hlt => ?_)
  refine hq ⟨j, hj⟩ ?_
  rw [← h.1]
  exact bwL_mem hj k (by omega) (by omega)
set_option maxRecDepth 100000 in
set_option maxHeartbeats 4000000 in
theorem implLastPlace_any (ps : List ByteArray) (A : Option Addr) (c : Nat) (es : List ByteArray) (B : Option Addr) (d : Nat) (wd : ByteArray) (n : Int) (w : World) (hf : StrsIn w A ps) (ho : StrsLe ps) (hn : ps.length ≤ 1048576) (hf' : StrsIn w B es) (ho' : StrsLe es) (hn' : es.length ≤ 1048576) (hw : wd.size ≤ 1048576) (hy : LayB w) :
    Calls Tryd.prog 25 #[.slice A ps.length c, .slice B es.length d, .string wd, .int .i64 n] w fun e w' => e = .returned (.tuple #[.int .i64 (lwV ps es wd n), .bool (lwB ps es wd n)]) ∧ Below w.heap.size w w' := by
  obtain ⟨u1, hu1⟩ : ∃ x : World, x = w.alloc (.cells #[.int .i64 n] 3) := ⟨_, rfl⟩
  have z1 : u1.heap.size = w.heap.size + 1 := by rw [hu1, World.size_alloc]
  obtain ⟨u2, hu2⟩ : ∃ x : World, x = u1.alloc (.cells #[.int .i64 0] 3) := ⟨_, rfl⟩
  have z2 : u2.heap.size = w.heap.size + 1 + 1 := by rw [hu2, World.size_alloc, z1]
  obtain ⟨u3, hu3⟩ : ∃ x : World, x = u2.alloc (.cells #[.bool false] 4) := ⟨_, rfl⟩
  have z3 : u3.heap.size = w.heap.size + 1 + 1 + 1 := by rw [hu3, World.size_alloc, z2]
  have HX0 : Hid (Boxed u3 w.heap.size 3 (.int .i64 n)) := Lib.hid (by
    have h : Boxed u1 w.heap.size 3 (.int .i64 n) := by rw [hu1]; exact Boxed.new _ _ _
    replace h := h.alloc (.cells #[.int .i64 0] 3)
    rw [← hu2] at h
    replace h := h.alloc (.cells #[.bool false] 4)
    rw [← hu3] at h
    exact h)
  have HX1 : Hid (Boxed u3 (w.heap.size + 1) 3 (.int .i64 0)) := Lib.hid (by
    have h : Boxed u2 u1.heap.size 3 (.int .i64 0) := by rw [hu2]; exact Boxed.new _ _ _
    rw [z1] at h
    replace h := h.alloc (.cells #[.bool false] 4)
    rw [← hu3] at h
    exact h)
  have HX2 : Hid (Boxed u3 (w.heap.size + 1 + 1) 4 (.bool false)) := Lib.hid (by
    have h : Boxed u3 u2.heap.size 4 (.bool false) := by rw [hu3]; exact Boxed.new _ _ _
    rw [z2] at h
    exact h)
  have HB0 : Hid (Below w.heap.size w u3) := Lib.hid (by
    have h0 := Below.refl w.heap.size w
    replace h0 := h0.alloc (by omega) (.cells #[.int .i64 n] 3)
    rw [← hu1] at h0
    replace h0 := h0.alloc (by rw [z1]; omega) (.cells #[.int .i64 0] 3)
    rw [← hu2] at h0
    replace h0 := h0.alloc (by rw [z2]; omega) (.cells #[.bool false] 4)
    rw [← hu3] at h0
    exact h0)
  have HW0 : Hid (u3 = ((w.alloc (.cells #[.int .i64 n] 3)).alloc (.cells #[.int .i64 0] 3)).alloc (.cells #[.bool false] 4)) := Lib.hid (by rw [hu3, hu2, hu1])
  have HC := Lib.hid (implHyphenPlaces_own ps A c es B d wd u3 (hf.below HB0.out (Nat.le_refl _)) ho hn (hf'.below HB0.out (Nat.le_refl _)) ho' hn' hw (hy.below HB0.out))
  have hsh := hp_short ps es wd
  have HZ3 := Lib.hid z3
  have HVV : Hid (ltB n = true → lwV ps es wd n = lpL (hpL ps es wd) n) := Lib.hid (fun h => lw_in h)
  have HVN := Lib.hid (fun h => lw_noask (ps := ps) (es := es) (wd := wd) (n := n) h)
  have HVO := Lib.hid (fun h => lw_out (ps := ps) (es := es) (wd := wd) (n := n) h)
  have HVB : Hid (lwB ps es wd n = decide (0 < lwV ps es wd n)) := Lib.hid rfl
  have HP2 : Hid (∀ x ∈ hpL ps es wd, 2 ≤ x) := Lib.hid (fun x hx => by
    cases ha : askB ps es wd
    · rw [hp_no ha] at hx; simp at hx
    · rw [hp_yes ha] at hx; exact (hyPl_in x hx).1)
  clear hu1 hu2 hu3 z1 z2 z3 hf ho hf' ho' hy
  generalize hpL ps es wd = P at *
  refine (callsIn_wide (n := 6)).1 ?_
  have n6 : 1 ≤ 6 := by omega
  refine callsIn_of_wp_marks Tryd.func25 rfl trivial ?_ rfl
  simp only [Tryd.ntmps25, List.size_toArray, List.length_cons, List.length_nil, Nat.reduceAdd, Nat.reduceSub, Array.replicate_succ, Array.replicate_zero, List.push_toArray, List.append_toArray, List.nil_append, List.cons_append]
  refine wpIn_wide.2 ?_
  go_wp2_with fail
  rw [← HW0.out]
  refine HC.out.mono ?_
  rintro e w1 ⟨v, rfl, hb1, ho1⟩
  obtain ⟨A1, c1, rfl⟩ := own_form ho1
  have HB1 := Lib.hid hb1
  have HI1 := Lib.hid (own_in ho1)
  have HBW := Lib.hid (HB0.out.trans (hb1.mono HB0.out.size))
  have hzz : w1.heap.size ≥ w.heap.size + 1 + 1 + 1 := by have := hb1.size; have := HZ3.out; omega
  have HY0 : Hid (Boxed w1 w.heap.size 3 (.int .i64 n)) := Lib.hid ((hb1.block _ HX0.out.lt).trans HX0.out)
  have HY1 : Hid (Boxed w1 (w.heap.size + 1) 3 (.int .i64 0)) := Lib.hid ((hb1.block _ HX1.out.lt).trans HX1.out)
  have HY2 : Hid (Boxed w1 (w.heap.size + 1 + 1) 4 (.bool false)) := Lib.hid ((hb1.block _ HX2.out.lt).trans HX2.out)
  clear hb1 ho1 HX0 HX1 HX2
  have c0 := HY0.out.cell; have d1 := HY1.out.cell; have d2 := HY2.out.cell
  have f1 := HY1.out.frozen; have f2 := HY2.out.frozen
  cases ha : askB ps es wd
  · have HV := Lib.hid (lw_no (HVN.out ha))
    clear ha
    go_wp2
    have b3 : Boxed ((w1.setCell ⟨w.heap.size + 1, 0, none⟩ (.int .i64 0)).setCell ⟨w.heap.size + 1 + 1, 0, none⟩ (.bool false)) (w.heap.size + 1) 3 (.int .i64 0) := (HY1.out.set _).kept (grownBy_setCell' _ _ _) (fun e => by have := Option.some.inj e; omega)
    have b4 : Boxed ((w1.setCell ⟨w.heap.size + 1, 0, none⟩ (.int .i64 0)).setCell ⟨w.heap.size + 1 + 1, 0, none⟩ (.bool false)) (w.heap.size + 1 + 1) 4 (.bool false) := (HY2.out.kept (grownBy_setCell' _ _ _) (fun e => by have := Option.some.inj e; omega)).set _
    have hc3 := b3.cell; have hc4 := b4.cell
    exact ⟨.tuple #[.int .i64 0, .bool false], by simp [results, Tryd.f25, go_sem, hc3, hc4], ret_ib HV.out.1.symm HV.out.2.symm, (HBW.out.setCell (p := ⟨w.heap.size + 1, 0, none⟩) (by show w.heap.size ≤ w.heap.size + 1; omega) _).setCell (p := ⟨w.heap.size + 1 + 1, 0, none⟩) (by show w.heap.size ≤ w.heap.size + 1 + 1; omega) _⟩
  · cases hl : ltB n
    · have HV := Lib.hid (lw_no (HVO.out hl))
      clear ha
      rcases (by unfold ltB at hl; simp at hl; omega : n < 0 ∨ (¬ n < 0 ∧ 16 < n)) with h0 | ⟨h0, h16⟩
      · have e0 : decide (n < 0) = true := decide_eq_true h0
        clear hl
        go_wp2
        have b3 : Boxed ((w1.setCell ⟨w.heap.size + 1, 0, none⟩ (.int .i64 0)).setCell ⟨w.heap.size + 1 + 1, 0, none⟩ (.bool false)) (w.heap.size + 1) 3 (.int .i64 0) := (HY1.out.set _).kept (grownBy_setCell' _ _ _) (fun e => by have := Option.some.inj e; omega)
        have b4 : Boxed ((w1.setCell ⟨w.heap.size + 1, 0, none⟩ (.int .i64 0)).setCell ⟨w.heap.size + 1 + 1, 0, none⟩ (.bool false)) (w.heap.size + 1 + 1) 4 (.bool false) := (HY2.out.kept (grownBy_setCell' _ _ _) (fun e => by have := Option.some.inj e; omega)).set _
        have hc3 := b3.cell; have hc4 := b4.cell
        exact ⟨.tuple #[.int .i64 0, .bool false], by simp [results, Tryd.f25, go_sem, hc3, hc4], ret_ib HV.out.1.symm HV.out.2.symm, (HBW.out.setCell (p := ⟨w.heap.size + 1, 0, none⟩) (by show w.heap.size ≤ w.heap.size + 1; omega) _).setCell (p := ⟨w.heap.size + 1 + 1, 0, none⟩) (by show w.heap.size ≤ w.heap.size + 1 + 1; omega) _⟩
      · have e0 : decide (n < 0) = false := decide_eq_false h0
        have e16 : decide (16 < n) = true := decide_eq_true h16
        clear hl
        go_wp2
        have b3 : Boxed ((w1.setCell ⟨w.heap.size + 1, 0, none⟩ (.int .i64 0)).setCell ⟨w.heap.size + 1 + 1, 0, none⟩ (.bool false)) (w.heap.size + 1) 3 (.int .i64 0) := (HY1.out.set _).kept (grownBy_setCell' _ _ _) (fun e => by have := Option.some.inj e; omega)
        have b4 : Boxed ((w1.setCell ⟨w.heap.size + 1, 0, none⟩ (.int .i64 0)).setCell ⟨w.heap.size + 1 + 1, 0, none⟩ (.bool false)) (w.heap.size + 1 + 1) 4 (.bool false) := (HY2.out.kept (grownBy_setCell' _ _ _) (fun e => by have := Option.some.inj e; omega)).set _
        have hc3 := b3.cell; have hc4 := b4.cell
        exact ⟨.tuple #[.int .i64 0, .bool false], by simp [results, Tryd.f25, go_sem, hc3, hc4], ret_ib HV.out.1.symm HV.out.2.symm, (HBW.out.setCell (p := ⟨w.heap.size + 1, 0, none⟩) (by show w.heap.size ≤ w.heap.size + 1; omega) _).setCell (p := ⟨w.heap.size + 1 + 1, 0, none⟩) (by show w.heap.size ≤ w.heap.size + 1 + 1; omega) _⟩
    · have HV := Lib.hid (HVV.out hl)
      have hll := hl
      unfold ltB at hll
      have h0 : decide (n < 0) = false := by simp at hll; simp; omega
      have h16 : decide (16 < n) = false := by simp at hll; simp; omega
      clear ha hl hll
      go_wp2_with fail
      refine (backward_any A1 P.length c1 w1).mono ?_
      rintro e w4 ⟨rfl, hw4⟩
      have HBK : Hid (Boxed w4 w1.heap.size 28 (.slice A1 P.length c1)) := Lib.hid (by rw [hw4]; exact Boxed.new _ _ _)
      have hb4 : Below w1.heap.size w1 w4 := by rw [hw4]; exact (Below.refl _ _).alloc (Nat.le_refl _) _
      have HBW4 : Hid (Below w.heap.size w w4) := Lib.hid (HBW.out.trans (hb4.mono HBW.out.size))
      have HI4 := Lib.hid (HI1.out.below hb4 (Nat.le_refl _))
      have HX0 : Hid (Boxed w4 w.heap.size 3 (.int .i64 n)) := Lib.hid ((hb4.block _ HY0.out.lt).trans HY0.out)
      have m3 : Boxed w4 (w.heap.size + 1) 3 (.int .i64 0) := (hb4.block _ HY1.out.lt).trans HY1.out
      have m4 : Boxed w4 (w.heap.size + 1 + 1) 4 (.bool false) := (hb4.block _ HY2.out.lt).trans HY2.out
      have hz4 : w1.heap.size < w4.heap.size := HBK.out.lt
      have HM3 := Lib.hid m3; have HM4 := Lib.hid m4
      clear hw4 hb4 c0 d1 d2 f1 f2 m3 m4 HY0 HY1 HY2
      go_wp2
      refine (wpIn_wide (n := 6)).1 ?_
      refine wpIn_rangeFunc_ownF (F := Fence.wide) (n := 6) rfl n6 (gf := 88) (lb := #[.pointer (some ⟨w1.heap.size, 0, none⟩)]) rfl trivial (enters_of Tryd.func88 (by kernel_rfl) rfl)
        (back_stops 5 (by omega) w1.heap.size A1 P c1 w4 HBK.out HI4.out (by omega)) KpL.t (KpL.kb (fun q hq => by
          rcases hq with rfl | ⟨hp, hq⟩
          · exact HBK.out.lt
          · obtain ⟨b, off, hA, hbl, _⟩ := HI4.out hp
            subst hA
            have := Option.some.inj hq
            dsimp at this
            omega)) (Below.refl _ _) (fun _ => rfl)
        (fun pre W => (∀ z, z ∈ pre → ¬ z.w ≤ n) ∧ Below w4.heap.size w4 W)
        (fun cd pre W => ((cd = .ret ∧ ∃ q x, pre = q ++ [x] ∧ (∀ z, z ∈ q → ¬ z.w ≤ n) ∧ x.w ≤ n) ∧ (Boxed W (w.heap.size + 1) 3 (.int .i64 (lastB pre)) ∧ Boxed W (w.heap.size + 1 + 1) 4 (.bool true))) ∧ Below w.heap.size w W)
        (OwnFrom.and (_root_.Go.Own.from (pure_own (fun (pre : List (BwI P)) => ∀ z, z ∈ pre → ¬ z.w ≤ n)) _) (ownFrom_below (Nat.le_refl _) (Nat.le_refl _)))
        (fun cd => OwnFrom.and (OwnFrom.and (_root_.Go.Own.from (pure_own (fun (pre : List (BwI P)) => cd = .ret ∧ ∃ q x, pre = q ++ [x] ∧ (∀ z, z ∈ q → ¬ z.w ≤ n) ∧ x.w ≤ n)) _) (OwnFrom.and (_root_.Go.Own.from (boxed_own _ _ (fun pre => .int .i64 (lastB pre))) _) (_root_.Go.Own.from (boxed_own _ _ (fun _ => .bool true)) _))) (ownFrom_below (Nat.le_refl _) (by omega)))
        ⟨(fun z hz => by cases hz), Below.refl _ _⟩ ?act ?assign ?body ?done ?stop
      case assign =>
        intro l x W K hK
        gi_wp2
        exact hK
      case body =>
        rintro lp pre x W ⟨hno, hB⟩ hpl
        have wk := HBW4.out.trans (hB.mono HBW4.out.size)
        have X0 : Boxed W w.heap.size 3 (.int .i64 n) := (hB.block _ (by omega)).trans HX0.out
        have k0 := X0.cell
        have HNO := Lib.hid hno; have HB := Lib.hid hB
        have hWl := hB.size
        obtain ⟨y, hy⟩ : ∃ y : Int, x.w = y := ⟨_, rfl⟩
        have HY := Lib.hid hy
        have hy' : P[x.i]'x.lt = y := hy
        clear hno hB wk X0 hy
        have HKO := Lib.hid (KeepsOthers.refl W)
        have HKP : Hid (KpL (BwR w1.heap.size A1 P.length) W W) := Lib.hid (KpL.refl _ _)
        have hB9 := HB.out
        have a3 : Boxed W (w.heap.size + 1) 3 (.int .i64 0) := (hB9.block _ HM3.out.lt).trans HM3.out
        have a4 : Boxed W (w.heap.size + 1 + 1) 4 (.bool false) := (hB9.block _ HM4.out.lt).trans HM4.out
        have HA3 := Lib.hid a3; have HA4 := Lib.hid a4
        have f3 := a3.frozen; have g3 := a3.cell; have f4 := a4.frozen; have g4 := a4.cell
        have HB9 := Lib.hid hB9
        clear hB9 a3 a4
        by_cases hq : y ≤ n
        · have hd2 : decide (y ≤ n) = true := decide_eq_true hq
          have HLE : Hid (x.w ≤ n) := Lib.hid (by rw [HY.out]; exact hq)
          have HLB : Hid (Value.int .i64 (lastB (pre ++ [x])) = .int .i64 y) := Lib.hid (by rw [lastB_snoc, HY.out])
          gi_wp2
          refine ⟨(HKO.out.trans (KeepsOthers.setCell _ _ _)).trans (KeepsOthers.setCell _ _ _), ⟨⟨rfl, pre, x, rfl, HNO.out, HLE.out⟩, ?_, ?_⟩, ?_⟩
          · rw [HLB.out]
            exact ((HA3.out.set _).kept (grownBy_setCell' _ _ _) (fun e => by have := Option.some.inj e; omega))
          · exact (HA4.out.kept (grownBy_setCell' _ _ _) (fun e => by have := Option.some.inj e; omega)).set _
          · have hb := HBW4.out.trans (HB9.out.mono HBW4.out.size)
            exact (hb.setCell (p := ⟨w.heap.size + 1, 0, none⟩) (by show w.heap.size ≤ w.heap.size + 1; omega) _).setCell (p := ⟨w.heap.size + 1 + 1, 0, none⟩) (by show w.heap.size ≤ w.heap.size + 1 + 1; omega) _
        · have hd2 : decide (y ≤ n) = false := decide_eq_false hq
          have HLE : Hid (¬ x.w ≤ n) := Lib.hid (by rw [HY.out]; exact hq)
          gi_wp2
          exact ⟨HKO.out, HKP.out, (fun z hz => by
            rcases List.mem_append.1 hz with h | h
            · exact HNO.out z h
            · obtain rfl : z = x := by simpa using h
              exact HLE.out), HB9.out⟩
      case done =>
        rintro D ys W hD rfl ⟨hno, hB⟩ hK
        have HR := Lib.hid (lw_no (HV.out.trans (bw_none hno)))
        have a3 : Boxed W (w.heap.size + 1) 3 (.int .i64 0) := (hB.block _ HM3.out.lt).trans HM3.out
        have a4 : Boxed W (w.heap.size + 1 + 1) 4 (.bool false) := (hB.block _ HM4.out.lt).trans HM4.out
        have f3 := a3.frozen; have g3 := a3.cell; have f4 := a4.frozen; have g4 := a4.cell
        have HBD := Lib.hid (HBW4.out.trans (hB.mono HBW4.out.size))
        have hDw : w.heap.size ≤ D := by omega
        obtain ⟨W2, hW2⟩ : ∃ x, x = (W.setCell ⟨w.heap.size + 1, 0, none⟩ (.int .i64 0)).setCell ⟨w.heap.size + 1 + 1, 0, none⟩ (.bool false) := ⟨_, rfl⟩
        have hK2 : W2.heap[D]? = some (.deferred (some [])) := by rw [hW2]; exact (KeepsOthers.setCell _ _ _).same D _ ((KeepsOthers.setCell W _ _).same D _ hK rfl) rfl
        have HB2 : Hid (Below w.heap.size w W2) := Lib.hid (by
          rw [hW2]; exact (HBD.out.setCell (p := ⟨w.heap.size + 1, 0, none⟩) (by show w.heap.size ≤ w.heap.size + 1; omega) _).setCell (p := ⟨w.heap.size + 1 + 1, 0, none⟩) (by show w.heap.size ≤ w.heap.size + 1 + 1; omega) _)
        have b3 : Boxed W2 (w.heap.size + 1) 3 (.int .i64 0) := by rw [hW2]; exact ((a3.set _).kept (grownBy_setCell' _ _ _) (fun e => by have := Option.some.inj e; omega))
        have b4 : Boxed W2 (w.heap.size + 1 + 1) 4 (.bool false) := by rw [hW2]; exact (a4.kept (grownBy_setCell' _ _ _) (fun e => by have := Option.some.inj e; omega)).set _
        have HW2 := Lib.hid hW2; have HK2 := Lib.hid hK2; have HC3 := Lib.hid b3; have HC4 := Lib.hid b4
        clear hno hB hK hW2 hK2 a3 a4 b3 b4
        go_wp2
        rw [← HW2.out]
        refine ⟨by simp, .inl ⟨_, _, rfl, run_takeDeferred HK2.out, ?_⟩⟩
        have hc3 := cell_kept HC3.out.cell (grownBy_putObj' _ D (.deferred none)) (fun r e => by cases e; exact ⟨_, HK2.out, rfl⟩)
        have hc4 := cell_kept HC4.out.cell (grownBy_putObj' _ D (.deferred none)) (fun r e => by cases e; exact ⟨_, HK2.out, rfl⟩)
        exact ⟨.tuple #[.int .i64 0, .bool false], by simp [results, Tryd.f25, go_sem, hc3, hc4], ret_ib HR.out.1.symm HR.out.2.symm, below_put _ HB2.out hDw HK2.out⟩
      case stop =>
        rintro D cd pre W hD hpre ⟨⟨⟨rfl, q, x, hqx, hno, ht⟩, ha3, ha4⟩, hB⟩ hK
        obtain ⟨k, hk, hz⟩ := hpre
        have hM := bw_hit hk (hz.symm.trans hqx) ht hno
        have h2 := HP2.out x.w (List.getElem_mem x.lt)
        have HR1 : Hid (lwV ps es wd n = x.w) := Lib.hid (HV.out.trans hM)
        have HR2 : Hid (lwB ps es wd n = true) := Lib.hid (by rw [HVB.out, HR1.out]; exact decide_eq_true (by omega))
        rw [hqx, lastB_snoc] at ha3
        have HC3 := Lib.hid ha3; have HC4 := Lib.hid ha4; have HK2 := Lib.hid hK; have HB2 := Lib.hid hB
        have hDw : w.heap.size ≤ D := by omega
        clear hM hqx hno ht ha3 ha4 hB hK hz h2
        gi_wp2
        refine ⟨by simp, .inl ⟨_, _, rfl, run_takeDeferred HK2.out, ?_⟩⟩
        have hc3 := cell_kept HC3.out.cell (grownBy_putObj' _ D (.deferred none)) (fun r e => by cases e; exact ⟨_, HK2.out, rfl⟩)
        have hc4 := cell_kept HC4.out.cell (grownBy_putObj' _ D (.deferred none)) (fun r e => by cases e; exact ⟨_, HK2.out, rfl⟩)
        exact ⟨.tuple #[.int .i64 x.w, .bool true], by simp [results, Tryd.f25, go_sem, hc3, hc4], ret_ib HR1.out.symm HR2.out.symm, below_put _ HB2.out hDw HK2.out⟩
end Go.Proofs.YtcbhhbcfnaekpaaDoor

/-
  The contract of impl.ThinnestNeeded.
-/
import Derived.Test.YthhmbcgamcbfdaaDoorVj
import Derived.Test.YthhmbcgamcbfdaaDoorVf
import Derived.IntWalk
namespace Go.Proofs.YthhmbcgamcbfdaaDoor
open Go.RowKit Go.Shelf
set_option linter.unusedVariables false
attribute [local go_sem] Oper.semAt_some encS

/-- What stands behind the sums that have come. -/
def thStep (N v : Nat) (s : Int × Bool) (x : Sum4) : Int × Bool := if ((N : Int) - x.val).tmod v = 0 then (((N : Int) - x.val).tdiv v, true) else s
def thF (N v : Nat) (pre : List Sum4) : Int × Bool := pre.foldl (thStep N v) (0, false)
theorem thF_snoc (N v : Nat) (pre : List Sum4) (x : Sum4) : thF N v (pre ++ [x]) = thStep N v (thF N v pre) x := by simp [thF]
theorem thStep_yes {N v : Nat} {s : Int × Bool} {x : Sum4} (h : ((N : Int) - x.val).tmod v = 0) : thStep N v s x = (((N : Int) - x.val).tdiv v, true) := if_pos h
theorem thStep_no {N v : Nat} {s : Int × Bool} {x : Sum4} (h : ¬ ((N : Int) - x.val).tmod v = 0) : thStep N v s x = s := if_neg h
/-- Behind the sums below k: the least count that leaves one of them. -/
theorem thF_sums {v N : Nat} {r : List Int} (hp : Pos r) (hv : 1 ≤ v) : ∀ k : Nat, k ≤ N + 1 → N ≤ 400 →
    ((thF N v (sumL (stT r (rep4 r) r.length) k)).2 = false ∧ ∀ c : Nat, (N : Int) - c * v < k → ¬ Can r ((N : Int) - c * v)) ∨
    (∃ c : Nat, thF N v (sumL (stT r (rep4 r) r.length) k) = ((c : Int), true) ∧ Can r ((N : Int) - c * v) ∧ ∀ d : Nat, d < c → (N : Int) - d * v < k → ¬ Can r ((N : Int) - d * v))
  | 0, _, _ => .inl ⟨rfl, fun c h hc => by have := can_nonneg hp hc; omega⟩
  | k + 1, h, hN => by
    have ih := thF_sums hp hv k (by omega) hN
    by_cases hc : Can r (k : Int)
    · rw [sumL_yes (by rw [stT_full hp (by omega)]; exact canB_iff.2 hc) (by omega), thF_snoc]
      have hnn : (0 : Int) ≤ (N : Int) - (k : Int) := by omega
      by_cases hm : ((N : Int) - (k : Int)).tmod v = 0
      · rw [thStep_yes hm]
        right
        have hdm := Int.mul_tdiv_add_tmod ((N : Int) - (k : Int)) v
        rw [hm, Int.add_zero] at hdm
        have hd0 : 0 ≤ ((N : Int) - (k : Int)).tdiv v := Int.tdiv_nonneg hnn (by omega)
        obtain ⟨c, hcc⟩ : ∃ c : Nat, ((N : Int) - (k : Int)).tdiv v = (c : Int) := ⟨_, (Int.toNat_of_nonneg hd0).symm⟩
        rw [hcc] at hdm
        have hk : (N : Int) - c * v = k := by rw [Int.mul_comm]; omega
        refine ⟨c, by show (((N : Int) - (k : Int)).tdiv v, true) = _; rw [hcc], by rw [hk]; exact hc, fun d hd hdk => ?_⟩
        exfalso
        have : ((d + 1 : Nat) : Int) * v ≤ (c : Int) * v := Int.mul_le_mul_of_nonneg_right (by omega) (by omega)
        rw [Int.natCast_add, Int.add_mul] at this
        simp at this
        omega
      · rw [thStep_no hm]
        have nok : ∀ c : Nat, (N : Int) - c * v ≠ k := fun c e => hm (by
          rw [show (N : Int) - (k : Int) = c * v from by omega]; exact Int.mul_tmod_left _ _)
        rcases ih with ⟨h1, h2⟩ | ⟨c, h1, h2, h3⟩
        · exact .inl ⟨h1, fun c hck => by rcases Int.lt_or_le ((N : Int) - c * v) k with h4 | h4
                                          · exact h2 c h4
                                          · exact absurd (by omega) (nok c)⟩
        · exact .inr ⟨c, h1, h2, fun d hd hdk => by rcases Int.lt_or_le ((N : Int) - d * v) k with h4 | h4
                                                    · exact h3 d hd h4
                                                    · exact absurd (by omega) (nok d)⟩
    · rw [sumL_no (by rw [stT_full hp (by omega)]; exact canB_no.2 hc)]
      have nok : ∀ c : Nat, (N : Int) - c * v = k → ¬ Can r ((N : Int) - c * v) := fun c e => by rw [e]; exact hc
      rcases ih with ⟨h1, h2⟩ | ⟨c, h1, h2, h3⟩
      · exact .inl ⟨h1, fun c hck => by rcases Int.lt_or_le ((N : Int) - c * v) k with h4 | h4
                                        · exact h2 c h4
                                        · exact nok c (by omega)⟩
      · exact .inr ⟨c, h1, h2, fun d hd hdk => by rcases Int.lt_or_le ((N : Int) - d * v) k with h4 | h4
                                                  · exact h3 d hd h4
                                                  · exact nok d (by omega)⟩

theorem tdiv_small {y v : Int} (h : -400 ≤ y ∧ y ≤ 400) : -400 ≤ y.tdiv v ∧ y.tdiv v ≤ 400 := by
  have := Int.natAbs_tdiv_le_natAbs y v
  omega
theorem thF_none (N v : Nat) : ∀ (pre : List Sum4), (thF N v pre).2 = false → (thF N v pre).1 = 0 := fun pre => by
  unfold thF
  have gen : ∀ (pre : List Sum4) (s : Int × Bool), (s.2 = false → s.1 = 0) → (pre.foldl (thStep N v) s).2 = false → (pre.foldl (thStep N v) s).1 = 0 := by
    intro pre
    induction pre with
    | nil => intro s hs h; exact hs h
    | cons x r ih =>
      intro s hs h
      refine ih _ (fun h2 => ?_) h
      by_cases hm : ((N : Int) - x.val).tmod v = 0
      · rw [thStep_yes hm] at h2; cases h2
      · rw [thStep_no hm] at h2 ⊢; exact hs h2
  exact gen pre (0, false) (fun _ => rfl)
set_option maxRecDepth 100000 in
set_option maxHeartbeats 4000000 in
theorem implThinnestNeeded_any (l : List Int) (A : Option Addr) (c : Nat) (n : Int) (w : World) (hf : IntsIn w A l) (hlen : l.length ≤ 1048576) (hcap : l.length ≤ c) :
    Calls Tryd.prog 8 #[.slice A l.length c, .int .i64 n] w fun e w' => e = .returned (.tuple #[.int .i64 (thinV l n), .bool (canV l n)]) ∧ Below w.heap.size w w' := by
  obtain ⟨w1, hw1⟩ : ∃ x : World, x = (w.alloc (.cells #[.slice A l.length c] 23)).alloc (.cells #[.int .i64 n] 3) := ⟨_, rfl⟩
  have HX1 : Hid (Boxed w1 w.heap.size 23 (.slice A l.length c)) := Lib.hid (by rw [hw1]; exact (Boxed.new _ _ _).alloc _)
  have HY1 : Hid (Boxed w1 (w.heap.size + 1) 3 (.int .i64 n)) := Lib.hid (by
    rw [hw1]
    have h := Boxed.new (w.alloc (.cells #[.slice A l.length c] 23)) 3 (.int .i64 n)
    rw [World.size_alloc] at h; exact h)
  have HB1 : Hid (Below w.heap.size w w1) := Lib.hid (by rw [hw1]; exact ((Below.refl _ _).alloc (Nat.le_refl _) _).alloc (by simp) _)
  have hz1 : w1.heap.size = w.heap.size + 2 := by rw [hw1]; simp
  have HZ1 := Lib.hid hz1
  have HW1 := Lib.hid hw1
  have HF := Lib.hid (hf.below HB1.out (Nat.le_refl _)); clear hf
  clear hw1 hz1
  cases ha : wAsk l n
  · have HC : Hid (canV l n = false) := Lib.hid (by unfold canV; rw [ha]; rfl)
    have HV := Lib.hid (thinV_no HC.out)
    have HA : Hid ((kindsB l && inB 0 400 n) = false) := Lib.hid ha; clear ha
    have cx := HX1.out.cell; have cy := HY1.out.cell
    go_enter Tryd.func8, Tryd.ntmps8
    go_wp2_with fail
    rw [← HW1.out]
    refine (implAreSpaces_any l A c _ HF.out hlen).mono ?_
    rintro e w' ⟨rfl, rfl⟩
    cases hg : kindsB l
    · clear hg HA
      go_wp2
      go_ret2
      exact ⟨by rw [HV.out, HC.out]; rfl, HB1.out⟩
    · rw [hg] at HA
      clear hg
      go_wp2_with fail
      refine (isFillWidth_any _ _).mono ?_
      rintro e w' ⟨rfl, rfl⟩
      have hi : inB 0 400 n = false := by simpa using HA.out
      rw [hi]
      clear hi
      go_wp2
      go_ret2
      exact ⟨by rw [HV.out, HC.out]; rfl, HB1.out⟩
  · have HA := Lib.hid ha
    obtain ⟨hg, h0, h4⟩ := wAsk_iff.1 ha
    obtain ⟨N, rfl⟩ : ∃ N : Nat, n = (N : Int) := ⟨n.toNat, by omega⟩
    have hN4 : N ≤ 400 := by omega
    have hone := hg.one
    have HK := Lib.hid (kindsB_iff.2 hg)
    have HI := Lib.hid (inB_iff.2 ⟨h0, h4⟩)
    obtain ⟨v, r, hl, hv1, hv54, hp, h54, h5⟩ := hg.split
    have HTH := Lib.hid (fun (cc : Nat) (h1 : ThinP l (N : Int) cc) h2 => thinV_eq HA.out h1 h2)
    have HCY := Lib.hid (fun (cc : Nat) (h1 : ThinP l (N : Int) cc) => (canV_iff (l := l) (n := (N : Int))).2 ⟨HA.out, (can_thin hone).2 ⟨cc, h1⟩⟩)
    have HCN : Hid ((∀ k, ¬ ThinP l (N : Int) k) → canV l (N : Int) = false) := Lib.hid (fun h => by
      cases hc : canV l (N : Int) with
      | false => rfl
      | true => obtain ⟨k, hk⟩ := (can_thin hone).1 (canV_iff.1 hc).2; exact absurd hk (h k))
    obtain ⟨b, off, rfl, hbl, hc⟩ := HF.out (by omega)
    have hc0 := hc 0 (by omega)
    rw [Nat.add_zero] at hc0
    have HFr : Hid (∀ (W : World), Below w1.heap.size w1 W → ∀ A', (A' = some ⟨b, off + 1, none⟩ ∨ r.length = 0) → IntsIn W A' r) := Lib.hid (fun W hW A' hA' hn => by
      rcases hA' with rfl | h0
      · exact ⟨b, off + 1, rfl, Nat.lt_of_lt_of_le hbl hW.size, fun k hk => by
          have h := (hW.cell (p := ⟨b, off + (k + 1), none⟩) hbl).trans (hc (k + 1) (by rw [hl]; simpa using hk))
          rw [show off + 1 + k = off + (k + 1) from by omega, h]
          subst hl; simp⟩
      · omega)
    have hv : l[0] = (v : Int) := by subst hl; rfl
    have hll : l.length = r.length + 1 := by rw [hl]; rfl
    rw [hv] at hc0
    have HP := Lib.hid hp; have H54 := Lib.hid h54
    have HL := Lib.hid hl; have HLL := Lib.hid hll
    have hcc : r.length + 1 ≤ c := by omega
    clear hc hg ha hv hp h54 hl hone hll
    have cx := HX1.out.cell; have cy := HY1.out.cell
    have HC0 := Lib.hid hc0
    clear hc0
    refine (callsIn_wide (n := 6)).1 ?_
    have n6 : 1 ≤ 6 := by omega
    refine callsIn_of_wp_marks Tryd.func8 rfl trivial ?_ rfl
    simp only [Tryd.ntmps8, List.size_toArray, List.length_cons, List.length_nil, Nat.reduceAdd, Nat.reduceSub, Array.replicate_succ, Array.replicate_zero, List.push_toArray, List.append_toArray, List.nil_append, List.cons_append]
    refine wpIn_wide.2 ?_
    go_wp2_with fail
    rw [← HW1.out]
    refine (implAreSpaces_any l _ c _ HF.out hlen).mono ?_
    rintro e w' ⟨rfl, rfl⟩
    rw [HK.out]
    go_wp2_with fail
    refine (isFillWidth_any _ _).mono ?_
    rintro e w' ⟨rfl, rfl⟩
    rw [HI.out]
    obtain ⟨w2, hw2⟩ : ∃ x : World, x = (w1.alloc (.cells #[.int .i64 0] 3)).alloc (.cells #[.bool false] 4) := ⟨_, rfl⟩
    have HP2 : Hid (Boxed w2 w1.heap.size 3 (.int .i64 0)) := Lib.hid (by rw [hw2]; exact (Boxed.new _ _ _).alloc _)
    have HQ2 : Hid (Boxed w2 (w1.heap.size + 1) 4 (.bool false)) := Lib.hid (by
      rw [hw2]
      have h := Boxed.new (w1.alloc (.cells #[.int .i64 0] 3)) 4 (.bool false)
      rw [World.size_alloc] at h; exact h)
    have HB2 : Hid (Below w1.heap.size w1 w2) := Lib.hid (by rw [hw2]; exact ((Below.refl _ _).alloc (Nat.le_refl _) _).alloc (by simp) _)
    have HW2 := Lib.hid hw2
    have wl1 := HX1.out.lt; have wl2 := HY1.out.lt
    have dx := KeptW.cell ((HB2.out.cell (p := ⟨w.heap.size, 0, none⟩) wl1).trans cx) (Nat.lt_of_lt_of_le wl1 HB2.out.size)
    have dy := KeptW.cell ((HB2.out.cell (p := ⟨w.heap.size + 1, 0, none⟩) wl2).trans cy) (Nat.lt_of_lt_of_le wl2 HB2.out.size)
    have hcl : 1 ≤ l.length := by rw [HLL.out]; omega
    have hcl' : (1 : Int) ≤ (l.length : Int) := by omega
    clear hw2
    have hmain : ∀ A' c' w3, (A' = some ⟨b, off + 1, none⟩ ∨ r.length = 0) → Below w2.heap.size w2 w3 → Calls Tryd.prog 35 #[.slice A' r.length c', .int .i64 (N : Int)] w3 fun e w' => SumsTo r A' c' N w3 w' e := fun A' c' w3 hA' hb3 =>
      sumsOf_any r A' c' N w3 (HFr.out w3 (HB2.out.trans (hb3.mono HB2.out.size)) A' hA') (by omega)
    have HMAIN := Lib.hid hmain
    clear hmain
    by_cases hc1 : c = 1
    · subst hc1
      have hr0 : r.length = 0 := by omega
      have HM := Lib.hid (HMAIN.out (some ⟨b, off, none⟩) 0 · (.inr hr0) ·)
      have HR0 := Lib.hid hr0
      rw [hr0] at HM
      clear hr0
      go_wp2_with fail
      rw [← HW2.out, HLL.out]
      rw [HLL.out] at dx
      refine region_mid w2.heap.size 3 (by kernel_rfl) (by kernel_rfl) rfl ?_
      simp only [List.take_succ_cons, List.take_zero]
      repeat (go_big_quiet_step (fail))
      refine wpQuiet_nil ?_
      intro w3 hb3 K hK
      have HB3 := Lib.hid hb3
      go_simp
      go_at_call 35
      refine (HM.out w3 HB3.out).mono ?_
      intro e w4 hto
      obtain ⟨b0, B, d, rfl, hbx, hb4⟩ := hto
      have HBX := Lib.hid hbx
      have HB4 := Lib.hid (HB3.out.trans (hb4.mono HB3.out.size))
      clear hb3 hb4 hbx
      refine hK _ _ ?_
      clear hK
      simp only [List.drop_succ_cons, List.drop_zero]
      repeat (go_big_quiet_step (fail))
      refine wpQuiet_nil ?_
      have hP4 : Boxed w4 w1.heap.size 3 (.int .i64 0) := (HB4.out.block _ HP2.out.lt).trans HP2.out
      have hQ4 : Boxed w4 (w1.heap.size + 1) 4 (.bool false) := (HB4.out.block _ HQ2.out.lt).trans HQ2.out
      have hBw : Below w1.heap.size w1 w4 := HB2.out.trans (HB4.out.mono HB2.out.size)
      go_wp2
      refine (wpIn_wide (n := 6)).1 ?_
      refine wpIn_rangeFunc_ownF (F := Fence.wide) (n := 6) rfl n6 (gf := 54) (lb := #[.pointer (some ⟨b0 + 2, 0, none⟩), .pointer (some ⟨b0, 0, none⟩), .pointer (some ⟨b0 + 1, 0, none⟩)]) rfl trivial (enters_of Tryd.func54 (by kernel_rfl) rfl)
        (sums_stops 5 (by omega) _ _ _ r (rep4 r) (some ⟨b, off, none⟩) B 0 d N w4 HBX.out HP.out H54.out (fun j h => by rw [rep4_get]; omega) (rep4_len r).symm (by omega) hN4) KpB.kt KpB.kb (Below.refl _ _) (fun _ => rfl)
        (fun pre W => (Boxed W w1.heap.size 3 (.int .i64 (thF N v pre).1) ∧ Boxed W (w1.heap.size + 1) 4 (.bool (thF N v pre).2)) ∧ Below w1.heap.size w1 W)
        (fun _ _ _ => False)
        (OwnFrom.and (OwnFrom.and (_root_.Go.Own.from (boxed_own _ _ (fun pre => .int .i64 (thF N v pre).1)) _) (_root_.Go.Own.from (boxed_own _ _ (fun pre => .bool (thF N v pre).2)) _)) (ownFrom_below (Nat.le_refl _) hBw.size))
        (fun _ _ _ _ _ hs _ _ => hs)
        ⟨⟨hP4, hQ4⟩, hBw⟩ ?act1 ?assign ?body ?done ?stop
      case assign =>
        intro l x W K hK
        gi_wp2
        exact hK
      case body =>
        rintro lp pre x W ⟨⟨hP, hQ⟩, hB⟩ _
        have ex := (hB.cell (p := ⟨w.heap.size, 0, none⟩) wl1).trans cx
        have ey := (hB.cell (p := ⟨w.heap.size + 1, 0, none⟩) wl2).trans cy
        have ec := (hB.cell (p := ⟨b, off, none⟩) hbl).trans HC0.out
        have cp := hP.cell; have cq := hQ.cell
        have fp := hP.frozen; have fq := hQ.frozen
        have hx4 := x.le
        have hS := thF_snoc N v pre x
        obtain ⟨y, hy⟩ : ∃ y : Int, (N : Int) - (x.val : Int) = y := ⟨_, rfl⟩
        have hyb : -400 ≤ y ∧ y ≤ 400 := by omega
        have hvne : ¬ (v : Int) = 0 := by omega
        have hq4 := tdiv_small (y := y) (v := (v : Int)) hyb
        have HS := Lib.hid hS; have HP := Lib.hid hP; have HQ := Lib.hid hQ; have HB := Lib.hid hB
        clear hS hP hQ hB
        by_cases hm : y.tmod (v : Int) = 0
        · have HT := Lib.hid (thStep_yes (N := N) (v := v) (s := thF N v pre) (x := x) (by rw [hy]; exact hm))
          rw [hy] at HT
          have hmb : (y.tmod (v : Int) == 0) = true := by simp [hm]
          generalize thF N v pre = S at *
          gi_wp2
          exact ⟨(KeepsOthers.setCell _ _ _).trans (KeepsOthers.setCell _ _ _), (KpB.set _ _ _ _ hP4.lt).t (KpB.set _ _ _ _ hQ4.lt), ⟨by rw [HS.out, HT.out]; exact (HP.out.set _).kept (grownBy_setCell' _ _ _) (fun e => by have := Option.some.inj e; omega), by rw [HS.out, HT.out]; exact (HQ.out.kept (grownBy_setCell' _ _ _) (fun e => by have := Option.some.inj e; omega)).set _⟩, (HB.out.setCell (p := ⟨w1.heap.size, 0, none⟩) (Nat.le_refl _) _).setCell (p := ⟨w1.heap.size + 1, 0, none⟩) (by simp) _⟩
        · have HT := Lib.hid (thStep_no (N := N) (v := v) (s := thF N v pre) (x := x) (by rw [hy]; exact hm))
          have hmb : (y.tmod (v : Int) == 0) = false := by simpa using hm
          generalize thF N v pre = S at *
          gi_wp2
          exact ⟨KeepsOthers.refl _, KpB.refl _ _, ⟨by rw [HS.out, HT.out]; exact HP.out, by rw [HS.out, HT.out]; exact HQ.out⟩, HB.out⟩
      case done =>
        rintro D ys W hD rfl ⟨⟨hP, hQ⟩, hB⟩ hK
        have cp := KeptW.cell hP.cell hP.lt
        have cq := KeptW.cell hQ.cell hQ.lt
        have HBW := Lib.hid (HB1.out.trans (hB.mono HB1.out.size))
        have hDl := lt_of_heap hK
        have HR : Hid (thF N v (sumL (stT r (rep4 r) r.length) (N + 1)) = (thinV l (N : Int), canV l (N : Int))) := Lib.hid (by
          rcases thF_sums HP.out hv1 (N + 1) (Nat.le_refl _) hN4 with ⟨h1, h2⟩ | ⟨cc, h1, h2, h3⟩
          · have hc := HCN.out (fun k hk => by
              rw [HL.out] at hk
              exact h2 k (by have := nat_mul_nonneg (k := (v : Int)) (by omega) k; omega) hk)
            rw [hc, thinV_no hc]
            have e1 : (thF N v (sumL (stT r (rep4 r) r.length) (N + 1))).1 = 0 := thF_none N v _ h1
            exact Prod.ext e1 h1
          · have ht : ThinP l (N : Int) cc := by rw [HL.out]; exact h2
            rw [h1, HCY.out cc ht, HTH.out cc ht (fun d hd hdt => by
              rw [HL.out] at hdt
              exact h3 d hd (by have := nat_mul_nonneg (k := (v : Int)) (by omega) d; omega) hdt)])
        rw [HR.out] at cp cq
        have HKD := Lib.hid hK
        clear hP hQ hB hK
        go_wp2_with fail
        refine region_kept W.heap.size (by kernel_rfl) (by kernel_rfl) ?_
        repeat (go_big_quiet_step (fail))
        refine wpQuiet_nil ?_
        intro w9 hb9
        have hK9 := (hb9.block D hDl).trans HKD.out
        have HB9 := Lib.hid (HBW.out.trans (hb9.mono HBW.out.size))
        clear cp cq hb9
        go_wp2
        refine ⟨by simp, .inl ⟨_, _, rfl, run_takeDeferred hK9, ?_⟩⟩
        exact ⟨.tuple #[.int .i64 (thinV l (N : Int)), .bool (canV l (N : Int))], by simp [results, Tryd.f8, go_sem], rfl, below_put _ HB9.out (by have := hBw.size; omega) hK9⟩
      case stop =>
        rintro D cc pre W _ _ h _
        exact h.elim
    · skip
      have HM := Lib.hid (HMAIN.out (some ⟨b, off + 1, none⟩) (c - 1) · (.inl rfl) ·)
      go_wp2_with fail
      rw [← HW2.out, HLL.out]
      rw [HLL.out] at dx
      refine region_mid w2.heap.size 3 (by kernel_rfl) (by kernel_rfl) rfl ?_
      simp only [List.take_succ_cons, List.take_zero]
      repeat (go_big_quiet_step (fail))
      refine wpQuiet_nil ?_
      intro w3 hb3 K hK
      have HB3 := Lib.hid hb3
      go_simp
      go_at_call 35
      refine (HM.out w3 HB3.out).mono ?_
      intro e w4 hto
      obtain ⟨b0, B, d, rfl, hbx, hb4⟩ := hto
      have HBX := Lib.hid hbx
      have HB4 := Lib.hid (HB3.out.trans (hb4.mono HB3.out.size))
      clear hb3 hb4 hbx
      refine hK _ _ ?_
      clear hK
      simp only [List.drop_succ_cons, List.drop_zero]
      repeat (go_big_quiet_step (fail))
      refine wpQuiet_nil ?_
      have hP4 : Boxed w4 w1.heap.size 3 (.int .i64 0) := (HB4.out.block _ HP2.out.lt).trans HP2.out
      have hQ4 : Boxed w4 (w1.heap.size + 1) 4 (.bool false) := (HB4.out.block _ HQ2.out.lt).trans HQ2.out
      have hBw : Below w1.heap.size w1 w4 := HB2.out.trans (HB4.out.mono HB2.out.size)
      go_wp2
      refine (wpIn_wide (n := 6)).1 ?_
      refine wpIn_rangeFunc_ownF (F := Fence.wide) (n := 6) rfl n6 (gf := 54) (lb := #[.pointer (some ⟨b0 + 2, 0, none⟩), .pointer (some ⟨b0, 0, none⟩), .pointer (some ⟨b0 + 1, 0, none⟩)]) rfl trivial (enters_of Tryd.func54 (by kernel_rfl) rfl)
        (sums_stops 5 (by omega) _ _ _ r (rep4 r) (some ⟨b, off + 1, none⟩) B (c - 1) d N w4 HBX.out HP.out H54.out (fun j h => by rw [rep4_get]; omega) (rep4_len r).symm (by omega) hN4) KpB.kt KpB.kb (Below.refl _ _) (fun _ => rfl)
        (fun pre W => (Boxed W w1.heap.size 3 (.int .i64 (thF N v pre).1) ∧ Boxed W (w1.heap.size + 1) 4 (.bool (thF N v pre).2)) ∧ Below w1.heap.size w1 W)
        (fun _ _ _ => False)
        (OwnFrom.and (OwnFrom.and (_root_.Go.Own.from (boxed_own _ _ (fun pre => .int .i64 (thF N v pre).1)) _) (_root_.Go.Own.from (boxed_own _ _ (fun pre => .bool (thF N v pre).2)) _)) (ownFrom_below (Nat.le_refl _) hBw.size))
        (fun _ _ _ _ _ hs _ _ => hs)
        ⟨⟨hP4, hQ4⟩, hBw⟩ ?act2 ?assign ?body ?done ?stop
      case assign =>
        intro l x W K hK
        gi_wp2
        exact hK
      case body =>
        rintro lp pre x W ⟨⟨hP, hQ⟩, hB⟩ _
        have ex := (hB.cell (p := ⟨w.heap.size, 0, none⟩) wl1).trans cx
        have ey := (hB.cell (p := ⟨w.heap.size + 1, 0, none⟩) wl2).trans cy
        have ec := (hB.cell (p := ⟨b, off, none⟩) hbl).trans HC0.out
        have cp := hP.cell; have cq := hQ.cell
        have fp := hP.frozen; have fq := hQ.frozen
        have hx4 := x.le
        have hS := thF_snoc N v pre x
        obtain ⟨y, hy⟩ : ∃ y : Int, (N : Int) - (x.val : Int) = y := ⟨_, rfl⟩
        have hyb : -400 ≤ y ∧ y ≤ 400 := by omega
        have hvne : ¬ (v : Int) = 0 := by omega
        have hq4 := tdiv_small (y := y) (v := (v : Int)) hyb
        have HS := Lib.hid hS; have HP := Lib.hid hP; have HQ := Lib.hid hQ; have HB := Lib.hid hB
        clear hS hP hQ hB
        by_cases hm : y.tmod (v : Int) = 0
        · have HT := Lib.hid (thStep_yes (N := N) (v := v) (s := thF N v pre) (x := x) (by rw [hy]; exact hm))
          rw [hy] at HT
          have hmb : (y.tmod (v : Int) == 0) = true := by simp [hm]
          generalize thF N v pre = S at *
          gi_wp2
          exact ⟨(KeepsOthers.setCell _ _ _).trans (KeepsOthers.setCell _ _ _), (KpB.set _ _ _ _ hP4.lt).t (KpB.set _ _ _ _ hQ4.lt), ⟨by rw [HS.out, HT.out]; exact (HP.out.set _).kept (grownBy_setCell' _ _ _) (fun e => by have := Option.some.inj e; omega), by rw [HS.out, HT.out]; exact (HQ.out.kept (grownBy_setCell' _ _ _) (fun e => by have := Option.some.inj e; omega)).set _⟩, (HB.out.setCell (p := ⟨w1.heap.size, 0, none⟩) (Nat.le_refl _) _).setCell (p := ⟨w1.heap.size + 1, 0, none⟩) (by simp) _⟩
        · have HT := Lib.hid (thStep_no (N := N) (v := v) (s := thF N v pre) (x := x) (by rw [hy]; exact hm))
          have hmb : (y.tmod (v : Int) == 0) = false := by simpa using hm
          generalize thF N v pre = S at *
          gi_wp2
          exact ⟨KeepsOthers.refl _, KpB.refl _ _, ⟨by rw [HS.out, HT.out]; exact HP.out, by rw [HS.out, HT.out]; exact HQ.out⟩, HB.out⟩
      case done =>
        rintro D ys W hD rfl ⟨⟨hP, hQ⟩, hB⟩ hK
        have cp := KeptW.cell hP.cell hP.lt
        have cq := KeptW.cell hQ.cell hQ.lt
        have HBW := Lib.hid (HB1.out.trans (hB.mono HB1.out.size))
        have hDl := lt_of_heap hK
        have HR : Hid (thF N v (sumL (stT r (rep4 r) r.length) (N + 1)) = (thinV l (N : Int), canV l (N : Int))) := Lib.hid (by
          rcases thF_sums HP.out hv1 (N + 1) (Nat.le_refl _) hN4 with ⟨h1, h2⟩ | ⟨cc, h1, h2, h3⟩
          · have hc := HCN.out (fun k hk => by
              rw [HL.out] at hk
              exact h2 k (by have := nat_mul_nonneg (k := (v : Int)) (by omega) k; omega) hk)
            rw [hc, thinV_no hc]
            have e1 : (thF N v (sumL (stT r (rep4 r) r.length) (N + 1))).1 = 0 := thF_none N v _ h1
            exact Prod.ext e1 h1
          · have ht : ThinP l (N : Int) cc := by rw [HL.out]; exact h2
            rw [h1, HCY.out cc ht, HTH.out cc ht (fun d hd hdt => by
              rw [HL.out] at hdt
              exact h3 d hd (by have := nat_mul_nonneg (k := (v : Int)) (by omega) d; omega) hdt)])
        rw [HR.out] at cp cq
        have HKD := Lib.hid hK
        clear hP hQ hB hK
        go_wp2_with fail
        refine region_kept W.heap.size (by kernel_rfl) (by kernel_rfl) ?_
        repeat (go_big_quiet_step (fail))
        refine wpQuiet_nil ?_
        intro w9 hb9
        have hK9 := (hb9.block D hDl).trans HKD.out
        have HB9 := Lib.hid (HBW.out.trans (hb9.mono HBW.out.size))
        clear cp cq hb9
        go_wp2
        refine ⟨by simp, .inl ⟨_, _, rfl, run_takeDeferred hK9, ?_⟩⟩
        exact ⟨.tuple #[.int .i64 (thinV l (N : Int)), .bool (canV l (N : Int))], by simp [results, Tryd.f8, go_sem], rfl, below_put _ HB9.out (by have := hBw.size; omega) hK9⟩
      case stop =>
        rintro D cc pre W _ _ h _
        exact h.elim
end Go.Proofs.YthhmbcgamcbfdaaDoor

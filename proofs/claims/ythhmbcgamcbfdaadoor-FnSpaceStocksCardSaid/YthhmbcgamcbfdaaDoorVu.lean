/-
  The contract of impl.mostOfWidest.
-/
import Derived.Test.YthhmbcgamcbfdaaDoorVt
import Derived.Test.YthhmbcgamcbfdaaDoorVn
import Derived.Test.YthhmbcgamcbfdaaDoorVq
namespace Go.Proofs.YthhmbcgamcbfdaaDoor
open Go.RowKit Go.Shelf
set_option linter.unusedVariables false
attribute [local go_sem] Oper.semAt_some encS

theorem stT_take (l ss : List Int) (i : Nat) (hi : i ≤ l.length) : stT (l.take i) (ss.take i) (l.take i).length = stT l ss i := by
  funext j
  unfold stT
  have e : (l.take i).length = i := by rw [List.length_take]; omega
  rw [e]
  cases hb : stB l ss i (j : Int) with
  | true => exact stB_iff.2 ((stu_take (Nat.le_refl i)).2 (stB_iff.1 hb))
  | false =>
    cases hc : stB (l.take i) (ss.take i) i (j : Int) with
    | false => rfl
    | true => have := stB_iff.2 ((stu_take (Nat.le_refl i)).1 (stB_iff.1 hc)); rw [hb] at this; cases this
/-- A sum with which the widest kind fills the rest from its stock. -/
def TestP (N : Nat) (V s : Int) (x : Sum4) : Prop := ((N : Int) - x.val).tmod V = 0 ∧ ((N : Int) - x.val).tdiv V ≤ s
theorem sumL_mem {T : Nat → Bool} {z : Nat} (hz : T z = true) (h4 : z ≤ 400) : ∀ k : Nat, z < k → (⟨z, h4⟩ : Sum4) ∈ sumL T k
  | 0, h => by omega
  | k + 1, h => by
    rcases Nat.lt_or_ge z k with h1 | h1
    · have ih := sumL_mem hz h4 k h1
      by_cases hk : T k = true ∧ k ≤ 400
      · rw [sumL_yes hk.1 hk.2]; exact List.mem_append_left _ ih
      · unfold sumL; rw [dif_neg hk]; exact ih
    · obtain rfl : z = k := by omega
      rw [sumL_yes hz h4]; simp
theorem testP_of {l ss : List Int} (hp : Pos l) {i N : Nat} (hi : i < l.length) (hN : N ≤ 400) {c : Nat} (h : MostP l ss i (N : Int) c) : ∃ z : Nat, ∃ h4 : z ≤ 400, z ≤ N ∧ (z : Int) = (N : Int) - c * l.getD i 0 ∧ stT l ss i z = true ∧ TestP N (l.getD i 0) (ss.getD i 0) ⟨z, h4⟩ := by
  have h1 := stu_nonneg hp (by omega) h.2
  have h2 := most_bound hp hi h
  have hv := getD_pos hp hi
  obtain ⟨z, hz⟩ : ∃ z : Nat, (N : Int) - c * l.getD i 0 = (z : Int) := ⟨_, (Int.toNat_of_nonneg h1).symm⟩
  have hcn := nat_mul_nonneg hv c
  refine ⟨z, by omega, by omega, hz.symm, by unfold stT; rw [stB_iff, ← hz]; exact h.2, ?_⟩
  have e : (N : Int) - (z : Int) = c * l.getD i 0 := by omega
  unfold TestP
  show ((N : Int) - (z : Int)).tmod _ = 0 ∧ ((N : Int) - (z : Int)).tdiv _ ≤ _
  rw [e]
  exact ⟨Int.mul_tmod_left _ _, by rw [Int.mul_tdiv_cancel _ (by omega)]; exact h.1⟩
/-- No sum passes: nothing fills it. -/
theorem most_none {l ss : List Int} (hp : Pos l) {i N : Nat} (hi : i < l.length) (hN : N ≤ 400) (h : ∀ x, x ∈ sumL (stT l ss i) (N + 1) → ¬ TestP N (l.getD i 0) (ss.getD i 0) x) : stB l ss (i + 1) (N : Int) = false := by
  cases hb : stB l ss (i + 1) (N : Int) with
  | false => rfl
  | true =>
    obtain ⟨c, hc⟩ := stu_most.1 (stB_iff.1 hb)
    obtain ⟨z, h4, hzN, _, hT, ht⟩ := testP_of hp hi hN hc
    exact absurd ht (h _ (sumL_mem hT h4 _ (by omega)))
/-- The first sum that passes leaves the most. -/
theorem most_first {l ss : List Int} (hp : Pos l) {i N : Nat} (hi : i < l.length) (hN : N ≤ 400) {x : Sum4} (hx : x.val < N + 1) (hT : stT l ss i x.val = true) (ht : TestP N (l.getD i 0) (ss.getD i 0) x) (h : ∀ z, z ∈ sumL (stT l ss i) x.val → ¬ TestP N (l.getD i 0) (ss.getD i 0) z) :
    stB l ss (i + 1) (N : Int) = true ∧ ((N : Int) - x.val).tdiv (l.getD i 0) = (mostC l ss i (N : Int) : Int) := by
  have hv := getD_pos hp hi
  have hnn : (0 : Int) ≤ (N : Int) - x.val := by omega
  have hdm := Int.mul_tdiv_add_tmod ((N : Int) - x.val) (l.getD i 0)
  rw [ht.1, Int.add_zero] at hdm
  have hd0 : 0 ≤ ((N : Int) - x.val).tdiv (l.getD i 0) := Int.tdiv_nonneg hnn (by omega)
  obtain ⟨c, hc⟩ : ∃ c : Nat, ((N : Int) - x.val).tdiv (l.getD i 0) = (c : Int) := ⟨_, (Int.toNat_of_nonneg hd0).symm⟩
  have ht2 := ht.2
  rw [hc] at hdm ht2
  rw [Int.mul_comm] at hdm
  have hM : MostP l ss i (N : Int) c := ⟨ht2, by
    rw [show (N : Int) - (c : Int) * l.getD i 0 = (x.val : Int) from by omega]
    exact stB_iff.1 hT⟩
  refine ⟨stB_iff.2 (stu_most.2 ⟨c, hM⟩), ?_⟩
  rw [hc, mostC_is hp hi hM (fun k hk hMk => ?_)]
  obtain ⟨z, h4, hzN, hze, hTz, htz⟩ := testP_of hp hi hN hMk
  have h1 : ((c + 1 : Nat) : Int) * l.getD i 0 ≤ (k : Int) * l.getD i 0 := Int.mul_le_mul_of_nonneg_right (by omega) (by omega)
  have h2 := cadd c 1 (l.getD i 0)
  have h3 : ((1 : Nat) : Int) * l.getD i 0 = l.getD i 0 := by simp
  exact h _ (sumL_mem hTz h4 _ (by omega)) htz
noncomputable def mostV (l ss : List Int) (i : Nat) (n : Int) : Int := if stB l ss (i + 1) n then (mostC l ss i n : Int) else 0

theorem tdiv_small {y v : Int} (h : -400 ≤ y ∧ y ≤ 400) : -400 ≤ y.tdiv v ∧ y.tdiv v ≤ 400 := by
  have := Int.natAbs_tdiv_le_natAbs y v
  omega
theorem tmod_small {y v : Int} (h : -400 ≤ y ∧ y ≤ 400) : True := trivial
set_option maxRecDepth 100000 in
set_option maxHeartbeats 4000000 in
theorem mostOfWidest_any (l ss : List Int) (i : Nat) (b off c : Nat) (b' off' d : Nat) (N : Nat) (w : World) (hf : IntsIn w (some ⟨b, off, none⟩) l) (hg : IntsIn w (some ⟨b', off', none⟩) ss) (hi : i < l.length) (hG : GoodK l) (hss : ss.length = l.length) (hs4 : ∀ j (h : j < ss.length), 0 ≤ ss[j] ∧ ss[j] ≤ 400) (hc : i + 1 ≤ c) (hd : i + 1 ≤ d) (hN : N ≤ 400) :
    Calls Tryd.prog 30 #[.slice (some ⟨b, off, none⟩) (i + 1) c, .slice (some ⟨b', off', none⟩) (i + 1) d, .int .i64 (N : Int)] w fun e w' => e = .returned (.tuple #[.int .i64 (mostV l ss i (N : Int)), .bool (stB l ss (i + 1) (N : Int))]) ∧ Below w.heap.size w w' := by
  have HG := Lib.hid hG; have HS4 := Lib.hid hs4; have HSS := Lib.hid hss
  have hl6 := hG.six
  have hi6 : i ≤ 5 := by omega
  have hi2 : i < ss.length := by omega
  have hv1 := hG.pos.get hi; have hv54 := hG.le hi; have hs04 := hs4 i hi2
  obtain ⟨V, hV⟩ : ∃ V : Nat, l[i] = (V : Int) := ⟨l[i].toNat, by omega⟩
  obtain ⟨s, hs⟩ : ∃ s : Nat, ss[i] = (s : Int) := ⟨ss[i].toNat, by omega⟩
  rw [hV] at hv1 hv54
  rw [hs] at hs04
  have HV : Hid (l.getD i 0 = (V : Int)) := Lib.hid (by rw [getD_of hi]; exact hV)
  have HS : Hid (ss.getD i 0 = (s : Int)) := Lib.hid (by rw [getD_of hi2]; exact hs)
  obtain ⟨u1, hu1⟩ : ∃ x : World, x = w.alloc (.cells #[.slice (some ⟨b, off, none⟩) (i + 1) c] 23) := ⟨_, rfl⟩
  have z1 : u1.heap.size = w.heap.size + 1 := by rw [hu1, World.size_alloc]
  obtain ⟨u2, hu2⟩ : ∃ x : World, x = u1.alloc (.cells #[.slice (some ⟨b', off', none⟩) (i + 1) d] 23) := ⟨_, rfl⟩
  have z2 : u2.heap.size = w.heap.size + 1 + 1 := by rw [hu2, World.size_alloc, z1]
  obtain ⟨u3, hu3⟩ : ∃ x : World, x = u2.alloc (.cells #[.int .i64 (N : Int)] 3) := ⟨_, rfl⟩
  have z3 : u3.heap.size = w.heap.size + 1 + 1 + 1 := by rw [hu3, World.size_alloc, z2]
  obtain ⟨u4, hu4⟩ : ∃ x : World, x = u3.alloc (.cells #[.int .i64 0] 3) := ⟨_, rfl⟩
  have z4 : u4.heap.size = w.heap.size + 1 + 1 + 1 + 1 := by rw [hu4, World.size_alloc, z3]
  obtain ⟨u5, hu5⟩ : ∃ x : World, x = u4.alloc (.cells #[.bool false] 4) := ⟨_, rfl⟩
  have z5 : u5.heap.size = w.heap.size + 1 + 1 + 1 + 1 + 1 := by rw [hu5, World.size_alloc, z4]
  obtain ⟨u6, hu6⟩ : ∃ x : World, x = u5.alloc (.cells #[.int .i64 (i : Int)] 3) := ⟨_, rfl⟩
  have z6 : u6.heap.size = w.heap.size + 1 + 1 + 1 + 1 + 1 + 1 := by rw [hu6, World.size_alloc, z5]
  have HX0 : Hid (Boxed u6 (w.heap.size) 23 (.slice (some ⟨b, off, none⟩) (i + 1) c)) := Lib.hid (by
    have h : Boxed u1 w.heap.size 23 (.slice (some ⟨b, off, none⟩) (i + 1) c) := by rw [hu1]; exact Boxed.new _ _ _
    replace h := h.alloc (.cells #[.slice (some ⟨b', off', none⟩) (i + 1) d] 23)
    rw [← hu2] at h
    replace h := h.alloc (.cells #[.int .i64 (N : Int)] 3)
    rw [← hu3] at h
    replace h := h.alloc (.cells #[.int .i64 0] 3)
    rw [← hu4] at h
    replace h := h.alloc (.cells #[.bool false] 4)
    rw [← hu5] at h
    replace h := h.alloc (.cells #[.int .i64 (i : Int)] 3)
    rw [← hu6] at h
    exact h)
  have HX1 : Hid (Boxed u6 (w.heap.size + 1) 23 (.slice (some ⟨b', off', none⟩) (i + 1) d)) := Lib.hid (by
    have h : Boxed u2 u1.heap.size 23 (.slice (some ⟨b', off', none⟩) (i + 1) d) := by rw [hu2]; exact Boxed.new _ _ _
    rw [z1] at h
    replace h := h.alloc (.cells #[.int .i64 (N : Int)] 3)
    rw [← hu3] at h
    replace h := h.alloc (.cells #[.int .i64 0] 3)
    rw [← hu4] at h
    replace h := h.alloc (.cells #[.bool false] 4)
    rw [← hu5] at h
    replace h := h.alloc (.cells #[.int .i64 (i : Int)] 3)
    rw [← hu6] at h
    exact h)
  have HX2 : Hid (Boxed u6 (w.heap.size + 1 + 1) 3 (.int .i64 (N : Int))) := Lib.hid (by
    have h : Boxed u3 u2.heap.size 3 (.int .i64 (N : Int)) := by rw [hu3]; exact Boxed.new _ _ _
    rw [z2] at h
    replace h := h.alloc (.cells #[.int .i64 0] 3)
    rw [← hu4] at h
    replace h := h.alloc (.cells #[.bool false] 4)
    rw [← hu5] at h
    replace h := h.alloc (.cells #[.int .i64 (i : Int)] 3)
    rw [← hu6] at h
    exact h)
  have HX3 : Hid (Boxed u6 (w.heap.size + 1 + 1 + 1) 3 (.int .i64 0)) := Lib.hid (by
    have h : Boxed u4 u3.heap.size 3 (.int .i64 0) := by rw [hu4]; exact Boxed.new _ _ _
    rw [z3] at h
    replace h := h.alloc (.cells #[.bool false] 4)
    rw [← hu5] at h
    replace h := h.alloc (.cells #[.int .i64 (i : Int)] 3)
    rw [← hu6] at h
    exact h)
  have HX4 : Hid (Boxed u6 (w.heap.size + 1 + 1 + 1 + 1) 4 (.bool false)) := Lib.hid (by
    have h : Boxed u5 u4.heap.size 4 (.bool false) := by rw [hu5]; exact Boxed.new _ _ _
    rw [z4] at h
    replace h := h.alloc (.cells #[.int .i64 (i : Int)] 3)
    rw [← hu6] at h
    exact h)
  have HX5 : Hid (Boxed u6 (w.heap.size + 1 + 1 + 1 + 1 + 1) 3 (.int .i64 (i : Int))) := Lib.hid (by
    have h : Boxed u6 u5.heap.size 3 (.int .i64 (i : Int)) := by rw [hu6]; exact Boxed.new _ _ _
    rw [z5] at h
    exact h)
  have HB1 : Hid (Below w.heap.size w u6) := Lib.hid (by
    have h0 := Below.refl w.heap.size w
    replace h0 := h0.alloc (by omega) (.cells #[.slice (some ⟨b, off, none⟩) (i + 1) c] 23)
    rw [← hu1] at h0
    replace h0 := h0.alloc (by rw [z1]; omega) (.cells #[.slice (some ⟨b', off', none⟩) (i + 1) d] 23)
    rw [← hu2] at h0
    replace h0 := h0.alloc (by rw [z2]; omega) (.cells #[.int .i64 (N : Int)] 3)
    rw [← hu3] at h0
    replace h0 := h0.alloc (by rw [z3]; omega) (.cells #[.int .i64 0] 3)
    rw [← hu4] at h0
    replace h0 := h0.alloc (by rw [z4]; omega) (.cells #[.bool false] 4)
    rw [← hu5] at h0
    replace h0 := h0.alloc (by rw [z5]; omega) (.cells #[.int .i64 (i : Int)] 3)
    rw [← hu6] at h0
    exact h0)
  have HW1 : Hid (u6 = ((((((w.alloc (.cells #[.slice (some ⟨b, off, none⟩) (i + 1) c] 23)).alloc (.cells #[.slice (some ⟨b', off', none⟩) (i + 1) d] 23)).alloc (.cells #[.int .i64 (N : Int)] 3)).alloc (.cells #[.int .i64 0] 3)).alloc (.cells #[.bool false] 4)).alloc (.cells #[.int .i64 (i : Int)] 3))) := Lib.hid (by rw [hu6, hu5, hu4, hu3, hu2, hu1])
  have HZ6 := Lib.hid z6
  clear hu1 hu2 hu3 hu4 hu5 hu6 z1 z2 z3 z4 z5 z6
  have HF := Lib.hid (hf.below HB1.out (Nat.le_refl _)); have HGG := Lib.hid (hg.below HB1.out (Nat.le_refl _))
  obtain ⟨b1, off1, e1, hbl, hkc⟩ := HF.out (by omega)
  cases e1
  obtain ⟨b2, off2, e2, hbl', hsc⟩ := HGG.out (by omega)
  cases e2
  have HKI := Lib.hid (hkc i hi); have HSI := Lib.hid (hsc i hi2)
  rw [hV] at HKI
  rw [hs] at HSI
  clear hf hg hV hs hkc hsc hG hs4
  have l0 := HX0.out.lt; have l1 := HX1.out.lt; have l2 := HX2.out.lt; have l3 := HX3.out.lt; have l4 := HX4.out.lt; have l5 := HX5.out.lt
  have k0 := KeptW.cell HX0.out.cell l0
  have k1 := KeptW.cell HX1.out.cell l1
  have k2 := KeptW.cell HX2.out.cell l2
  have k5 := KeptW.cell HX5.out.cell l5
  have hic : (i : Int) ≤ (c : Int) := by omega
  have hid : (i : Int) ≤ (d : Int) := by omega
  have hi0 : (0 : Int) ≤ (i : Int) := by omega
  have htl : (l.take i).length = i := by rw [List.length_take]; omega
  have hts : (ss.take i).length = i := by rw [List.length_take]; omega
  have HTL := Lib.hid htl; have HTS := Lib.hid hts
  clear htl hts
  refine (callsIn_wide (n := 6)).1 ?_
  have n6 : 1 ≤ 6 := by omega
  refine callsIn_of_wp_marks Tryd.func30 rfl trivial ?_ rfl
  simp only [Tryd.ntmps30, List.size_toArray, List.length_cons, List.length_nil, Nat.reduceAdd, Nat.reduceSub, Array.replicate_succ, Array.replicate_zero, List.push_toArray, List.append_toArray, List.nil_append, List.cons_append]
  refine wpIn_wide.2 ?_
  go_wp2_with fail
  rw [← HW1.out]
  refine region_mid u6.heap.size 7 (by kernel_rfl) (by kernel_rfl) rfl ?_
  simp only [List.take_succ_cons, List.take_zero]
  repeat (go_big_quiet_step (fail))
  refine wpQuiet_nil ?_
  intro w3 hb3 K hK
  have HB3 := Lib.hid hb3
  go_simp
  go_at_call 47
  refine (sumsFromStock_any _ _ i c i d (N : Int) w3).mono ?_
  rintro e w4 ⟨rfl, hw4⟩
  have hbw : Below w3.heap.size w3 w4 := by rw [hw4]; exact (((Below.refl _ _).alloc (Nat.le_refl _) _).alloc (by simp) _).alloc (by simp; omega) _
  have HB4 := Lib.hid (HB3.out.trans (hbw.mono HB3.out.size))
  have HBX : Hid (SumBox w4 (w3.heap.size + 2) w3.heap.size (w3.heap.size + 1) (l.take i) (ss.take i) (some ⟨b, off, none⟩) (some ⟨b', off', none⟩) c d N) := Lib.hid ⟨by
      rw [hw4]
      have h := Boxed.new ((w3.alloc (.cells #[.slice (some ⟨b, off, none⟩) i c] 23)).alloc (.cells #[.slice (some ⟨b', off', none⟩) i d] 23)) 3 (.int .i64 (N : Int))
      rw [World.size_alloc, World.size_alloc] at h
      exact h, by rw [hw4, HTL.out]; exact ((Boxed.new _ _ _).alloc _).alloc _, by
      rw [hw4, HTS.out]
      have h := Boxed.new (w3.alloc (.cells #[.slice (some ⟨b, off, none⟩) i c] 23)) 23 (.slice (some ⟨b', off', none⟩) i d)
      rw [World.size_alloc] at h
      exact h.alloc _, (ints_take HF.out i (by omega)).below HB4.out (Nat.le_refl _), (ints_take HGG.out i (by omega)).below HB4.out (Nat.le_refl _)⟩
  clear hb3 hbw hw4 k0 k1 k2 k5
  refine hK _ _ ?_
  clear hK
  simp only [List.drop_succ_cons, List.drop_zero]
  repeat (go_big_quiet_step (fail))
  refine wpQuiet_nil ?_
  go_wp2
  refine (wpIn_wide (n := 6)).1 ?_
  have hlu : u6.heap.size ≤ w4.heap.size := HB4.out.size
  have m3 : Boxed w4 (w.heap.size + 1 + 1 + 1) 3 (.int .i64 0) := (HB4.out.block _ l3).trans HX3.out
  have m4 : Boxed w4 (w.heap.size + 1 + 1 + 1 + 1) 4 (.bool false) := (HB4.out.block _ l4).trans HX4.out
  refine wpIn_rangeFunc_ownF (F := Fence.wide) (n := 6) rfl n6 (gf := 54) (lb := #[.pointer (some ⟨w3.heap.size + 2, 0, none⟩), .pointer (some ⟨w3.heap.size, 0, none⟩), .pointer (some ⟨w3.heap.size + 1, 0, none⟩)]) rfl trivial (enters_of Tryd.func54 (by kernel_rfl) rfl)
    (sums_stops 5 (by omega) _ _ _ (l.take i) (ss.take i) (some ⟨b, off, none⟩) (some ⟨b', off', none⟩) c d N w4 HBX.out (HG.out.pos.take i) (fun j h => by rw [List.getElem_take]; exact HG.out.le _) (fun j h => by rw [List.getElem_take]; exact HS4.out _ _) (by rw [HTL.out, HTS.out]) (by rw [HTL.out]; omega) hN) KpB.kt KpB.kb (Below.refl _ _) (fun _ => rfl)
    (fun pre W => (∀ z, z ∈ pre → ¬ TestP N (V : Int) (s : Int) z) ∧ Below w4.heap.size w4 W)
    (fun cd pre W => ((cd = .ret ∧ ∃ q x, pre = q ++ [x] ∧ (∀ z, z ∈ q → ¬ TestP N (V : Int) (s : Int) z) ∧ TestP N (V : Int) (s : Int) x) ∧ (Boxed W (w.heap.size + 1 + 1 + 1) 3 (.int .i64 (((N : Int) - lastV pre).tdiv (V : Int))) ∧ Boxed W (w.heap.size + 1 + 1 + 1 + 1) 4 (.bool true))) ∧ Below w.heap.size w W)
    (OwnFrom.and (_root_.Go.Own.from (pure_own (fun pre => ∀ z, z ∈ pre → ¬ TestP N (V : Int) (s : Int) z)) _) (ownFrom_below (Nat.le_refl _) (Nat.le_refl _)))
    (fun cd => OwnFrom.and (OwnFrom.and (_root_.Go.Own.from (pure_own (fun pre => cd = .ret ∧ ∃ q x, pre = q ++ [x] ∧ (∀ z, z ∈ q → ¬ TestP N (V : Int) (s : Int) z) ∧ TestP N (V : Int) (s : Int) x)) _) (OwnFrom.and (_root_.Go.Own.from (boxed_own _ _ (fun pre => .int .i64 (((N : Int) - lastV pre).tdiv (V : Int)))) _) (_root_.Go.Own.from (boxed_own _ _ (fun _ => .bool true)) _))) (ownFrom_below (Nat.le_refl _) (by have := HB1.out.size; omega)))
    ⟨(fun z hz => by cases hz), Below.refl _ _⟩ ?act ?assign ?body ?done ?stop
  case assign =>
    intro l x W K hK
    gi_wp2
    exact hK
  case body =>
    rintro lp pre x W ⟨hno, hB⟩ hpl
    have wk := HB4.out.trans (hB.mono hlu)
    have X0 : Boxed W _ _ _ := (wk.block _ l0).trans HX0.out
    have X1 : Boxed W _ _ _ := (wk.block _ l1).trans HX1.out
    have X2 : Boxed W _ _ _ := (wk.block _ l2).trans HX2.out
    have X5 : Boxed W _ _ _ := (wk.block _ l5).trans HX5.out
    have ck := (wk.cell (p := ⟨b, off + i, none⟩) hbl).trans HKI.out
    have cs := (wk.cell (p := ⟨b', off' + i, none⟩) hbl').trans HSI.out
    have k0 := KeptW.cell X0.cell X0.lt
    have k2 := KeptW.cell X2.cell X2.lt
    have k5 := KeptW.cell X5.cell X5.lt
    have kk := KeptW.cell ck (Nat.lt_of_lt_of_le hbl wk.size)
    have hx4 := x.le
    obtain ⟨y, hy⟩ : ∃ y : Int, (N : Int) - (x.val : Int) = y := ⟨_, rfl⟩
    have hyb : -400 ≤ y ∧ y ≤ 400 := by omega
    have hvne : ¬ (V : Int) = 0 := by omega
    have hq4 := tdiv_small (y := y) (v := (V : Int)) hyb
    have hii : (i : Int) < (i : Int) + 1 := by omega
    have HTE : Hid (TestP N (V : Int) (s : Int) x ↔ y.tmod (V : Int) = 0 ∧ y.tdiv (V : Int) ≤ (s : Int)) := Lib.hid (by
      unfold TestP; rw [hy])
    have hmb := tmod_small (y := y) (v := (V : Int)) hyb
    have HY := Lib.hid hy
    have HNO := Lib.hid hno; have HB := Lib.hid hB; have HWK := Lib.hid wk
    have HY0 := Lib.hid X0; have HY1 := Lib.hid X1; have HY5 := Lib.hid X5; have HCS := Lib.hid cs
    have hWl := hB.size
    clear hno hB wk X0 X1 X2 X5 ck cs
    gi_wp2_with fail
    refine region_keptR W.heap.size (by kernel_rfl) (by kernel_rfl) (by kernel_rfl) ?_
    repeat (gi_big_quiet_step (fail))
    refine wpQuietIn_nil ?_
    intro w9 hb9
    have hB9 : Below w4.heap.size w4 w9 := HB.out.trans (hb9.mono hWl)
    have c1 := Boxed.cell ((hb9.block _ HY1.out.lt).trans HY1.out)
    have c5 := Boxed.cell ((hb9.block _ HY5.out.lt).trans HY5.out)
    have cs := (hb9.cell (p := ⟨b', off' + i, none⟩) (Nat.lt_of_lt_of_le hbl' HWK.out.size)).trans HCS.out
    have HKO := Lib.hid (keeps_below hb9 rfl)
    have HKP : Hid (KpB w4.heap.size W w9) := Lib.hid (KpB.below hb9 (Nat.le_refl _))
    clear k0 k2 k5 kk hb9
    have a3 : Boxed w9 (w.heap.size + 1 + 1 + 1) 3 (.int .i64 0) := (hB9.block _ m3.lt).trans m3
    have a4 : Boxed w9 (w.heap.size + 1 + 1 + 1 + 1) 4 (.bool false) := (hB9.block _ m4.lt).trans m4
    have HA3 := Lib.hid a3; have HA4 := Lib.hid a4
    have f3 := a3.frozen; have g3 := a3.cell; have f4 := a4.frozen; have g4 := a4.cell
    have HB9 := Lib.hid hB9
    clear hB9 a3 a4
    by_cases hm : y.tmod (V : Int) = 0
    · have hd1 : (y.tmod (V : Int) == 0) = true := by simp [hm]
      by_cases hq : y.tdiv (V : Int) ≤ (s : Int)
      · have hd2 : decide (y.tdiv (V : Int) ≤ (s : Int)) = true := decide_eq_true hq
        have HT := Lib.hid (HTE.out.2 ⟨hm, hq⟩)
        clear HTE
        obtain ⟨q, hqe⟩ : ∃ q, y.tdiv (V : Int) = q := ⟨_, rfl⟩
        have HQ := Lib.hid hqe
        rw [hqe] at hq hd2 hq4
        gi_wp2
        refine ⟨(HKO.out.trans (KeepsOthers.setCell _ _ _)).trans (KeepsOthers.setCell _ _ _), ⟨⟨rfl, pre, x, rfl, HNO.out, HT.out⟩, ?_, ?_⟩, ?_⟩
        · rw [lastV_snoc, HY.out]
          first
            | exact ((HA3.out.set _).kept (grownBy_setCell' _ _ _) (fun e => by have := Option.some.inj e; omega))
            | (rw [HQ.out]; exact ((HA3.out.set _).kept (grownBy_setCell' _ _ _) (fun e => by have := Option.some.inj e; omega)))
        · exact (HA4.out.kept (grownBy_setCell' _ _ _) (fun e => by have := Option.some.inj e; omega)).set _
        · have hb := HB1.out.trans (((HB4.out.trans (HB9.out.mono hlu)).mono HB1.out.size))
          exact (hb.setCell (p := ⟨w.heap.size + 1 + 1 + 1, 0, none⟩) (by show w.heap.size ≤ w.heap.size + 1 + 1 + 1; omega) _).setCell (p := ⟨w.heap.size + 1 + 1 + 1 + 1, 0, none⟩) (by show w.heap.size ≤ w.heap.size + 1 + 1 + 1 + 1; omega) _
      · have hd2 : decide (y.tdiv (V : Int) ≤ (s : Int)) = false := decide_eq_false hq
        have HT := Lib.hid (fun h => hq (HTE.out.1 h).2)
        clear HTE
        gi_wp2
        exact ⟨HKO.out, HKP.out, (fun z hz => by
          rcases List.mem_append.1 hz with h | h
          · exact HNO.out z h
          · obtain rfl : z = x := by simpa using h
            exact HT.out), HB9.out⟩
    · have hd1 : (y.tmod (V : Int) == 0) = false := by simpa using hm
      have HT := Lib.hid (fun h => hm (HTE.out.1 h).1)
      clear HTE
      gi_wp2
      exact ⟨HKO.out, HKP.out, (fun z hz => by
        rcases List.mem_append.1 hz with h | h
        · exact HNO.out z h
        · obtain rfl : z = x := by simpa using h
          exact HT.out), HB9.out⟩
  case done =>
    rintro D ys W hD rfl ⟨hno, hB⟩ hK
    rw [stT_take l ss i (by omega)] at hno
    have HR := Lib.hid (most_none (l := l) (ss := ss) HG.out.pos hi hN (by rw [HV.out, HS.out]; exact hno))
    have a3 : Boxed W (w.heap.size + 1 + 1 + 1) 3 (.int .i64 0) := (hB.block _ m3.lt).trans m3
    have a4 : Boxed W (w.heap.size + 1 + 1 + 1 + 1) 4 (.bool false) := (hB.block _ m4.lt).trans m4
    have f3 := a3.frozen; have g3 := a3.cell; have f4 := a4.frozen; have g4 := a4.cell
    have HBW := Lib.hid (HB1.out.trans ((HB4.out.trans (hB.mono hlu)).mono HB1.out.size))
    have hDw : w.heap.size ≤ D := by have := HB1.out.size; omega
    obtain ⟨W2, hW2⟩ : ∃ x, x = (W.setCell ⟨w.heap.size + 1 + 1 + 1, 0, none⟩ (.int .i64 0)).setCell ⟨w.heap.size + 1 + 1 + 1 + 1, 0, none⟩ (.bool false) := ⟨_, rfl⟩
    have hK2 : W2.heap[D]? = some (.deferred (some [])) := by rw [hW2]; exact (KeepsOthers.setCell _ _ _).same D _ ((KeepsOthers.setCell W _ _).same D _ hK rfl) rfl
    have HB2 : Hid (Below w.heap.size w W2) := Lib.hid (by
      rw [hW2]; exact (HBW.out.setCell (p := ⟨w.heap.size + 1 + 1 + 1, 0, none⟩) (by show w.heap.size ≤ w.heap.size + 1 + 1 + 1; omega) _).setCell (p := ⟨w.heap.size + 1 + 1 + 1 + 1, 0, none⟩) (by show w.heap.size ≤ w.heap.size + 1 + 1 + 1 + 1; omega) _)
    have b3 : Boxed W2 (w.heap.size + 1 + 1 + 1) 3 (.int .i64 0) := by rw [hW2]; exact ((a3.set _).kept (grownBy_setCell' _ _ _) (fun e => by have := Option.some.inj e; omega))
    have b4 : Boxed W2 (w.heap.size + 1 + 1 + 1 + 1) 4 (.bool false) := by rw [hW2]; exact (a4.kept (grownBy_setCell' _ _ _) (fun e => by have := Option.some.inj e; omega)).set _
    have HW2 := Lib.hid hW2; have HK2 := Lib.hid hK2; have HC3 := Lib.hid b3; have HC4 := Lib.hid b4
    clear hno hB hK hW2 hK2 a3 a4 b3 b4
    go_wp2
    rw [← HW2.out]
    refine ⟨by simp, .inl ⟨_, _, rfl, run_takeDeferred HK2.out, ?_⟩⟩
    have hc3 := cell_kept HC3.out.cell (grownBy_putObj' _ D (.deferred none)) (fun r e => by cases e; exact ⟨_, HK2.out, rfl⟩)
    have hc4 := cell_kept HC4.out.cell (grownBy_putObj' _ D (.deferred none)) (fun r e => by cases e; exact ⟨_, HK2.out, rfl⟩)
    exact ⟨.tuple #[.int .i64 0, .bool false], by simp [results, Tryd.f30, go_sem, hc3, hc4], by rw [HR.out]; unfold mostV; rw [HR.out]; rfl, below_put _ HB2.out hDw HK2.out⟩
  case stop =>
    rintro D cd pre W hD hpre ⟨⟨⟨rfl, q, x, hqx, hno, ht⟩, ha3, ha4⟩, hB⟩ hK
    obtain ⟨z, hz1, hz2, hz3⟩ := hpre
    rw [stT_take l ss i (by omega)] at hz2 hz3
    have hqz : q = sumL (stT l ss i) z.val ∧ x = z := by
      have := List.append_inj' (hqx.symm.trans hz3) rfl
      exact ⟨this.1, by simpa using this.2⟩
    obtain ⟨rfl, rfl⟩ := hqz
    have hM := most_first (l := l) (ss := ss) HG.out.pos hi hN hz1 hz2 (by rw [HV.out, HS.out]; exact ht) (by rw [HV.out, HS.out]; exact hno)
    rw [HV.out] at hM
    rw [hqx, lastV_snoc, hM.2] at ha3
    have HM1 := Lib.hid hM.1
    have HC3 := Lib.hid ha3; have HC4 := Lib.hid ha4; have HK2 := Lib.hid hK; have HB2 := Lib.hid hB
    have hDw : w.heap.size ≤ D := by have := HB1.out.size; omega
    clear hM hqx hno ht ha3 ha4 hB hK hz1 hz2 hz3
    gi_wp2
    refine ⟨by simp, .inl ⟨_, _, rfl, run_takeDeferred HK2.out, ?_⟩⟩
    have hc3 := cell_kept HC3.out.cell (grownBy_putObj' _ D (.deferred none)) (fun r e => by cases e; exact ⟨_, HK2.out, rfl⟩)
    have hc4 := cell_kept HC4.out.cell (grownBy_putObj' _ D (.deferred none)) (fun r e => by cases e; exact ⟨_, HK2.out, rfl⟩)
    exact ⟨.tuple #[.int .i64 (mostC l ss i (N : Int) : Int), .bool true], by simp [results, Tryd.f30, go_sem, hc3, hc4], by rw [HM1.out]; unfold mostV; rw [HM1.out]; rfl, below_put _ HB2.out hDw HK2.out⟩
end Go.Proofs.YthhmbcgamcbfdaaDoor

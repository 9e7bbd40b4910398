/-
  The contracts of impl.MeanOff, spec.LeastTolerance, driftAtStart and LongestDrift.
-/
import Derived.Test.YtbepgjknjopikaaYf
namespace Go.Proofs.Ytbepgjknjopikaa
open Go.RowKit
set_option linter.unusedVariables false

set_option maxRecDepth 100000 in
theorem implMeanOff_any (l : List Int) (A : Option Addr) (c : Nat) (w : World) (hf : IntsIn w A l) (hn : l.length ≤ 1048576) :
    Calls Try.prog 21 #[.slice A l.length c] w fun e w' => e = .returned (.tuple #[.int .i64 (meanA l), .int .i64 (meanB l), .bool (gaB l)]) ∧ Below w.heap.size w w' := by
  have HF := Lib.hid hf; clear hf
  go_enter Try.func21, Try.ntmps21
  go_wp2_with fail
  refine (implIsTrial_any l A c _ HF.out hn).mono ?_
  rintro e w' ⟨rfl, rfl⟩
  cases hg : gaB l
  · have HM := Lib.hid (mean_no hg); have HK := Lib.hid hg
    clear hg
    go_wp2
    go_ret3
    exact ⟨ret_iib HM.out.1.symm HM.out.2.symm HK.out.symm, Below.refl _ _⟩
  have HM := Lib.hid (mean_yes hg); have HG := Lib.hid (gaB_iff.1 hg); have HK := Lib.hid hg
  have hlm := HG.out.most
  clear hg
  go_wp2
  go_loop [5, 14] (fun t i => ∃ k : Nat, k ≤ l.length ∧ i = .int .i64 (k : Int) ∧ t = .int .i64 (sumL l k)) (fun _ i => l.length - (intOf i).toNat)
  case atStart => exact ⟨0, Nat.zero_le _, rfl, rfl⟩
  case round =>
    obtain ⟨k, hk, rfl, rfl⟩ := hrel
    by_cases hlt : k < l.length
    · obtain ⟨b, off, rfl, hbl, hc⟩ := HF.out (by omega)
      have hc0 := hc k hlt
      clear hc
      have hxr := HG.out.all k hlt
      have hsr := sumL_range HG.out k hk
      have HS := Lib.hid (sumL_succ hlt)
      generalize l[k] = x at *
      generalize sumL l k = s at *
      go_wp2
      go_round
      case rel => exact ⟨k + 1, by omega, by go_num, by rw [HS.out]⟩
      case measure => simp [intOf]; omega
    · obtain rfl : k = l.length := by omega
      have hg1 := gcdL_pos (l := l) HG.out.one
      have hg2 := gcdL_le (l := l) HG.out.one
      have hsr := sumL_range HG.out l.length (Nat.le_refl _)
      have hti := tdiv_in (y := sumL l l.length) (v := (gcdL l : Int)) (n := 20000) (by omega)
      have htd := tdiv_nat l.length (gcdL l)
      have hdl : l.length / gcdL l ≤ l.length := Nat.div_le_self _ _
      go_wp2_with fail
      refine (distance0_any _ _ (by omega) (by omega)).mono ?_
      rintro e w' ⟨rfl, rfl⟩
      have HGC : Hid (Nat.gcd l.length (sumL l l.length).natAbs = gcdL l) := Lib.hid (Nat.gcd_comm _ _)
      have hna : (sumL l l.length).natAbs ≤ 20000 := by omega
      rw [show absI (sumL l l.length) = (((sumL l l.length).natAbs : Nat) : Int) from rfl]
      generalize (sumL l l.length).natAbs = N at *
      go_wp2_with fail
      refine (commonDivisor_any l.length N _ (by omega) (by omega)).mono ?_
      rintro e w1 ⟨rfl, hb1⟩
      rw [HGC.out]
      clear HGC
      generalize sumL l l.length = S at *
      generalize gcdL l = g at *
      generalize hD : S.tdiv (g : Int) = d at *
      have hw1 := IntWalk.i64_in d (by omega)
      generalize l.length / g = n2 at *
      have hw2 := IntWalk.i64_in (n2 : Int) (by omega)
      have hg0 : ¬ (g : Int) = 0 := by omega
      have HB := Lib.hid hb1; clear hb1
      go_wp2_with fail
      refine region_kept w1.heap.size (by kernel_rfl) (by kernel_rfl) ?_
      repeat (go_big_quiet_step (fail))
      refine wpQuiet_nil ?_
      intro w2 hbw2
      have hb2 := Lib.hid (HB.out.trans (hbw2.mono HB.out.size))
      clear hbw2 HB
      go_wp2
      go_ret3
      exact ⟨ret_iib HM.out.1.symm HM.out.2.symm HK.out.symm, hb2.out⟩

set_option maxRecDepth 100000 in
theorem specLeastTolerance_any (l : List Int) (A : Option Addr) (c : Nat) (a : Int) (w : World) (hf : IntsIn w A l) (hn : l.length ≤ 1048576) :
    Calls Try.prog 32 #[.slice A l.length c, .int .i64 a] w fun e w' => e = .returned (.tuple #[.int .i64 (tolV l a), .bool (askT l a)]) ∧ Below w.heap.size w w' := by
  have HF := Lib.hid hf; clear hf
  go_enter Try.func32, Try.ntmps32
  go_wp2_with fail
  refine (gaGood_any l A c _ HF.out hn).mono ?_
  rintro e w' ⟨rfl, rfl⟩
  cases hg : gaB l
  · have HK : Hid (askT l a = false) := Lib.hid (by unfold askT; rw [hg]; rfl)
    clear hg
    go_wp2
    go_ret2
    exact ⟨ret_ib (tolV_no HK.out).symm HK.out.symm, Below.refl _ _⟩
  have HGB := Lib.hid hg; clear hg
  go_wp2_with fail
  refine (l1In_any _ _ _ _).mono ?_
  rintro e w' ⟨rfl, rfl⟩
  cases hg : inB 0 40 a
  · have HK : Hid (askT l a = false) := Lib.hid (by unfold askT; rw [hg]; simp)
    clear hg
    go_wp2
    go_ret2
    exact ⟨ret_ib (tolV_no HK.out).symm HK.out.symm, Below.refl _ _⟩
  obtain ⟨ha1, ha2⟩ := inB_iff.1 hg
  have HK : Hid (askT l a = true) := Lib.hid (by unfold askT; rw [hg, HGB.out]; rfl)
  have HG := Lib.hid (gaB_iff.1 HGB.out)
  have hlm := HG.out.most
  clear hg
  obtain ⟨a, rfl⟩ : ∃ a' : Nat, a = (a' : Int) := ⟨a.toNat, by omega⟩
  go_wp2
  go_loopw [6] (fun t wr => ∃ n : Nat, n ≤ 500 ∧ t = .int .i64 (n : Int) ∧ (∀ j : Nat, j < n → a < (outT l (j : Int) l.length).length) ∧ Below w.heap.size w wr) (fun t _ => 500 - (intOf t).toNat)
  case atStart => exact ⟨0, by omega, rfl, fun j hj => absurd hj (by omega), Below.refl _ _⟩
  case round =>
    obtain ⟨n, hn5, rfl, hs, hb⟩ := hrel
    have HS := Lib.hid hs; have HB := Lib.hid hb; clear hs hb
    go_wp2_with fail
    refine (gaOutside_any l A c (n : Int) _ (HF.out.below HB.out (Nat.le_refl _)) HG.out).mono ?_
    rintro e w1 ⟨v, rfl, hb1, ho⟩
    obtain ⟨A1, c1, rfl⟩ := own_form ho
    have HB1 := Lib.hid (HB.out.trans (hb1.mono HB.out.size))
    clear hb1 ho HB
    have H5 := Lib.hid (out_500 HG.out)
    generalize hQ : (outT l (n : Int) l.length).length = q at *
    have HQ := Lib.hid hQ; clear hQ
    by_cases hq : a < q
    · have hn6 : n < 500 := by
        rcases Nat.lt_or_ge n 500 with h | h
        · exact h
        · exfalso
          obtain rfl : n = 500 := by omega
          have h1 := HQ.out; have h2 := H5.out
          have h3 : (outT l 500 l.length).length = q := h1
          omega
      have HN : Hid (∀ j : Nat, j < n + 1 → a < (outT l (j : Int) l.length).length) := Lib.hid (fun j hj => by
        rcases Nat.lt_or_ge j n with h | h
        · exact HS.out j h
        · obtain rfl : j = n := by omega
          rw [HQ.out]; exact hq)
      go_wp2
      go_roundw
      case rel => exact ⟨n + 1, by omega, by go_num, HN.out, HB1.out⟩
      case measure => simp [intOf]; omega
    · have HE := Lib.hid (tol_is HK.out (t := n) (by rw [HQ.out]; omega) HS.out)
      go_wp2
      go_ret2
      exact ⟨ret_ib HE.out.symm HK.out.symm, HB1.out⟩

/-- The way of what stands before k. -/
def wayT (l : List Int) (k : Nat) : Int := if k = 1 then 0 else stp l 1
theorem way_one (l : List Int) : wayT l 1 = 0 := rfl
theorem way_more (l : List Int) {k : Nat} (h : k ≠ 1) : wayT l k = stp l 1 := if_neg h
set_option maxRecDepth 100000 in
theorem driftAtStart_any (l : List Int) (A : Option Addr) (c : Nat) (w : World) (hf : IntsIn w A l) (hn : l.length ≤ 40) (h1 : 1 ≤ l.length) (hr : ∀ j (h : j < l.length), -500 ≤ l[j] ∧ l[j] ≤ 500) :
    Calls Try.prog 65 #[.slice A l.length c] w fun e w' => e = .returned (.int .i64 (drD l 0 : Nat)) ∧ Below w.heap.size w w' := by
  have HF := Lib.hid hf; have HR := Lib.hid hr; clear hf hr
  go_enter Try.func65, Try.ntmps65
  go_wp2
  go_loopw [3, 4] (fun t i wr => ∃ k : Nat, 1 ≤ k ∧ k ≤ l.length ∧ i = .int .i64 (k : Int) ∧ t = .int .i64 (wayT l k) ∧ (k = 1 ∨ stp l 1 ≠ 0) ∧ goD l 0 k (l.length - k) = drD l 0 ∧ Below w.heap.size w wr) (fun _ i _ => l.length - (intOf i).toNat)
  case atStart => exact ⟨1, Nat.le_refl _, h1, rfl, rfl, .inl rfl, rfl, Below.refl _ _⟩
  case round =>
    obtain ⟨k, hk1, hk, rfl, rfl, hz, hs, hb⟩ := hrel
    have HS := Lib.hid hs; have HB := Lib.hid hb; have HZ := Lib.hid hz; clear hs hb hz
    by_cases hlt : k < l.length
    · obtain ⟨m, hm⟩ : ∃ m : Nat, k = m + 1 := ⟨k - 1, by omega⟩
      obtain ⟨b, off, rfl, hbl, hc⟩ := HF.out (by omega)
      have hml : m < l.length := by omega
      have hc0 := hc m hml
      have hc1 := hc k hlt
      have hbw : b < wr.heap.size := Nat.lt_of_lt_of_le hbl HB.out.size
      have hr0 := HR.out m hml
      have hr1 := HR.out k hlt
      rw [← HB.out.cell (p := ⟨b, off + m, none⟩) hbl] at hc0
      rw [← HB.out.cell (p := ⟨b, off + k, none⟩) hbl] at hc1
      have HX : Hid (stp l k = sgn (l[k] - l[m])) := Lib.hid (by unfold stp; rw [getD_at hlt, show k - 1 = m from by omega, getD_at hml])
      clear hc
      have HY := Lib.hid (fun h => goD_yes (i := 0) hlt h); have HN := Lib.hid (fun h => goD_no (i := 0) hlt h)
      have HQ1 : Hid (k = 1 → stp l k = stp l 1) := Lib.hid (fun h => by rw [h])
      generalize l[k] = y at *
      generalize l[m] = x at *
      have x0 := KeptW.cell hc0 hbw
      have x1 := KeptW.cell hc1 hbw
      have hkw : (k : Int) - 1 = (m : Int) := by omega
      have hlt2 : (k : Int) < (l.length : Int) := by omega
      have hlt3 : (m : Int) < (l.length : Int) := by omega
      have hm0 : (0 : Int) ≤ (m : Int) := by omega
      have hk2 : (0 : Int) ≤ (k : Int) := by omega
      have HM := Lib.hid hm
      clear hc0 hc1 hm
      go_wp2_with fail
      refine region_kept wr.heap.size (by kernel_rfl) (by kernel_rfl) ?_
      repeat (go_big_quiet_step ((go_at_call 74; exact kept_same _ (compare_any _ _ _))))
      refine wpQuiet_nil ?_
      intro w1 hbw1
      have HB1 := Lib.hid (HB.out.trans (hbw1.mono HB.out.size))
      clear hbw1 HB x0 x1
      rw [← HX.out]
      have hsc := sgn_cases (y - x)
      rw [← HX.out] at hsc
      have HSC1 : Hid (stp l 1 = 1 ∨ stp l 1 = 0 ∨ stp l 1 = -1) := Lib.hid (sgn_cases _)
      have HOK : Hid (okD l 0 k ↔ stp l 1 ≠ 0 ∧ stp l k = stp l 1) := Lib.hid Iff.rfl
      clear HX
      have HTW : Hid ((k = 1 ∧ wayT l k = 0) ∨ (k ≠ 1 ∧ wayT l k = stp l 1)) := Lib.hid (by
        by_cases h : k = 1
        · exact .inl ⟨h, by rw [h]; rfl⟩
        · exact .inr ⟨h, way_more l h⟩)
      have hT1 : -1 ≤ wayT l k ∧ wayT l k ≤ 1 := by
        rcases HTW.out with ⟨_, h⟩ | ⟨_, h⟩
        · omega
        · have := HSC1.out; omega
      generalize wayT l k = T at *
      have HSQ : Hid (k = 1 → stp l k = stp l 1) := HQ1
      by_cases h0 : stp l k = 0
      · have hno : ¬ okD l 0 k := fun h => by have := HOK.out.1 h; omega
        have HE := Lib.hid ((HN.out hno).symm.trans HS.out)
        rw [h0]
        clear hno
        go_wp2
        go_ret
        exact ⟨ret_int (by rw [← HE.out]; omega), HB1.out⟩
      · by_cases h2 : stp l k = -T
        · have hno : ¬ okD l 0 k := fun h => by
            have h3 := HOK.out.1 h
            rcases HTW.out with ⟨h4, h5⟩ | ⟨h4, h5⟩ <;> omega
          have HE := Lib.hid ((HN.out hno).symm.trans HS.out)
          clear hno HOK HSQ HQ1 HN HY HTW
          generalize stp l k = s at *
          have h3 : (s == 0) = false := by simp [h0]
          have h4 : (s == -T) = true := by simp [h2]
          go_wp2
          go_ret
          exact ⟨ret_int (by rw [← HE.out]; omega), HB1.out⟩
        · have hyes : okD l 0 k := by
            refine HOK.out.2 ?_
            rcases HTW.out with ⟨h4, h5⟩ | ⟨h4, h5⟩
            · have := HSQ.out h4; omega
            · have := HSC1.out; have := HZ.out; omega
          have HE := Lib.hid ((HY.out hyes).symm.trans HS.out)
          have HW : Hid (stp l k = wayT l (k + 1)) := Lib.hid (by rw [way_more l (by omega)]; exact (HOK.out.1 hyes).2)
          have HZ2 : Hid (stp l 1 ≠ 0) := Lib.hid (HOK.out.1 hyes).1
          clear hyes HOK HSQ HQ1 HN HY HTW
          generalize stp l k = s at *
          have h3 : (s == 0) = false := by simp [h0]
          have h4 : (s == -T) = false := by simp [h2]
          go_wp2
          go_roundw
          case rel => exact ⟨k + 1, by omega, by omega, by go_num, by rw [HW.out], .inr HZ2.out, HE.out, HB1.out⟩
          case measure => simp [intOf]; omega
    · obtain rfl : k = l.length := by omega
      have HE : Hid (drD l 0 = l.length) := Lib.hid (by rw [← HS.out, goD_end l 0 (by omega)]; rfl)
      go_wp2
      go_ret
      exact ⟨ret_int (by rw [HE.out]), HB.out⟩
end Go.Proofs.Ytbepgjknjopikaa

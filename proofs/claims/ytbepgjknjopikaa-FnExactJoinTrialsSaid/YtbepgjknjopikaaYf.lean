/-
  The contracts of impl.commonDivisor, spec.gaSum, MeanOff, spec.LeastTolerance and driftAtStart, LongestDrift.
-/
import Derived.Test.YtbepgjknjopikaaYe
import Derived.Test.YtbepgjknjopikaaYc
namespace Go.Proofs.Ytbepgjknjopikaa
open Go.RowKit
set_option linter.unusedVariables false

theorem tmod_nat (p q : Nat) : (p : Int).tmod (q : Int) = ((p % q : Nat) : Int) := by rw [Int.tmod_eq_emod_of_nonneg (by omega)]; rfl
theorem tdiv_nat (p q : Nat) : (p : Int).tdiv (q : Int) = ((p / q : Nat) : Int) := by rw [Int.tdiv_eq_ediv_of_nonneg (by omega)]; rfl
theorem tdiv_in {y v : Int} {n : Nat} (h : -(n : Int) ≤ y ∧ y ≤ n) : -(n : Int) ≤ y.tdiv v ∧ y.tdiv v ≤ n := by
  have := Int.natAbs_tdiv_le_natAbs y v
  omega
set_option maxRecDepth 100000 in
theorem commonDivisor_any (a b : Nat) (w : World) (ha : a ≤ 1000000) (hb : b ≤ 1000000) :
    Calls Try.prog 50 #[.int .i64 (a : Int), .int .i64 (b : Int)] w fun e w' => e = .returned (.int .i64 ((Nat.gcd a b : Nat) : Int)) ∧ Below w.heap.size w w' := by
  go_enter Try.func50, Try.ntmps50
  go_wp2
  go_loopw [0, 1] (fun x y wr => ∃ p q : Nat, x = .int .i64 (p : Int) ∧ y = .int .i64 (q : Int) ∧ p ≤ 1000000 ∧ q ≤ 1000000 ∧ Nat.gcd p q = Nat.gcd a b ∧ Below w.heap.size w wr) (fun _ y _ => (intOf y).toNat)
  case atStart => exact ⟨a, b, rfl, rfl, ha, hb, rfl, Below.refl _ _⟩
  case round =>
    obtain ⟨p, q, rfl, rfl, hp, hq, hg, hbw⟩ := hrel
    have HG := Lib.hid hg; have HB := Lib.hid hbw; clear hg hbw
    by_cases h0 : q = 0
    · have HE : Hid (p = Nat.gcd a b) := Lib.hid (by rw [← HG.out, h0, Nat.gcd_zero_right])
      have h1 : (q : Int) = 0 := by omega
      have h2 : ((q : Int) != 0) = false := by simp [h0]
      clear h0 HG
      go_wp2
      go_ret
      exact ⟨ret_int (by rw [HE.out]), HB.out⟩
    · have h1 : ¬ (q : Int) = 0 := by omega
      have h2 : ((q : Int) != 0) = true := by simp [h0]
      have hm := tmod_nat p q
      have hml : p % q < q := Nat.mod_lt _ (by omega)
      have HE := Lib.hid ((gcd_step (a := p) (b := q) (by omega)).trans HG.out)
      clear h0 HG
      generalize p % q = r at *
      have hw := IntWalk.i64_in (r : Int) (by omega)
      go_wp2_with fail
      refine region_kept wr.heap.size (by kernel_rfl) (by kernel_rfl) ?_
      repeat (go_big_quiet_step (fail))
      refine wpQuiet_nil ?_
      intro w1 hbw1
      have hb2 := Lib.hid (HB.out.trans (hbw1.mono HB.out.size))
      clear hbw1 HB
      go_wp2
      go_roundw
      case rel => exact ⟨q, r, rfl, rfl, hq, by omega, HE.out, hb2.out⟩
      case measure => simp [intOf]; omega
set_option maxRecDepth 100000 in
theorem gaSum_any (l : List Int) (A : Option Addr) (c : Nat) (w : World) (hf : IntsIn w A l) (hg : GoodT l) :
    Calls Try.prog 49 #[.slice A l.length c] w fun e w' => e = .returned (.int .i64 (sumL l l.length)) ∧ w = w' := by
  have HF := Lib.hid hf; have HG := Lib.hid hg
  have hlm := hg.most
  clear hf hg
  go_enter Try.func49, Try.ntmps49
  go_wp2
  go_loop [3, 8] (fun t i => ∃ k : Nat, k ≤ l.length ∧ i = .int .i64 (k : Int) ∧ t = .int .i64 (sumL l k)) (fun _ i => l.length - (intOf i).toNat)
  case atStart => exact ⟨0, Nat.zero_le _, rfl, rfl⟩
  case round =>
    obtain ⟨k, hk, rfl, rfl⟩ := hrel
    by_cases hlt : k < l.length
    · obtain ⟨b, off, rfl, hbl, hc⟩ := HF.out (by omega)
      have hc0 := hc k hlt
      clear hc
      have hxr := HG.out.all k hlt
      have hsr := sumL_range HG.out k hk
      have HS := Lib.hid (sumL_succ hlt)
      generalize l[k] = x at *
      generalize sumL l k = s at *
      go_wp2
      go_round
      case rel => exact ⟨k + 1, by omega, by go_num, by rw [HS.out]⟩
      case measure => simp [intOf]; omega
    · obtain rfl : k = l.length := by omega
      go_wp2
      go_ret
      exact ⟨rfl, rfl⟩
set_option maxRecDepth 100000 in
theorem specMeanOff_any (l : List Int) (A : Option Addr) (c : Nat) (w : World) (hf : IntsIn w A l) (hn : l.length ≤ 1048576) :
    Calls Try.prog 20 #[.slice A l.length c] w fun e w' => e = .returned (.tuple #[.int .i64 (meanA l), .int .i64 (meanB l), .bool (gaB l)]) ∧ Below w.heap.size w w' := by
  have HF := Lib.hid hf; clear hf
  go_enter Try.func20, Try.ntmps20
  go_wp2_with fail
  refine (gaGood_any l A c _ HF.out hn).mono ?_
  rintro e w' ⟨rfl, rfl⟩
  cases hg : gaB l
  · have HM := Lib.hid (mean_no hg); have HK := Lib.hid hg
    clear hg
    go_wp2
    go_ret3
    exact ⟨ret_iib HM.out.1.symm HM.out.2.symm HK.out.symm, Below.refl _ _⟩
  have HM := Lib.hid (mean_yes hg); have HG := Lib.hid (gaB_iff.1 hg); have HK := Lib.hid hg
  have hlm := HG.out.most
  clear hg
  go_wp2_with fail
  refine (gaSum_any l A c _ HF.out HG.out).mono ?_
  rintro e w' ⟨rfl, rfl⟩
  have hg1 := gcdL_pos (l := l) HG.out.one
  have hg2 := gcdL_le (l := l) HG.out.one
  have hsr := sumL_range HG.out l.length (Nat.le_refl _)
  have hti := tdiv_in (y := sumL l l.length) (v := (gcdL l : Int)) (n := 20000) (by omega)
  have htd := tdiv_nat l.length (gcdL l)
  have hdl : l.length / gcdL l ≤ l.length := Nat.div_le_self _ _
  go_wp2_with fail
  refine (l1Abs_any _ _ (by omega) (by omega)).mono ?_
  rintro e w' ⟨rfl, rfl⟩
  have HGC : Hid (gcdL l = Nat.gcd (sumL l l.length).natAbs l.length) := Lib.hid rfl
  have hna : (sumL l l.length).natAbs ≤ 20000 := by omega
  rw [show absI (sumL l l.length) = (((sumL l l.length).natAbs : Nat) : Int) from rfl]
  generalize (sumL l l.length).natAbs = N at *
  go_wp2
  go_loopw [5, 6] (fun x y wr => ∃ p q : Nat, x = .int .i64 (p : Int) ∧ y = .int .i64 (q : Int) ∧ p ≤ 1000000 ∧ q ≤ 1000000 ∧ Nat.gcd p q = gcdL l ∧ Below w.heap.size w wr) (fun _ y _ => (intOf y).toNat)
  case atStart => exact ⟨N, l.length, rfl, rfl, by omega, by omega, HGC.out.symm, Below.refl _ _⟩
  case round =>
    obtain ⟨p, q, rfl, rfl, hp, hq, hg, hbw⟩ := hrel
    have HGG := Lib.hid hg; have HB := Lib.hid hbw; clear hg hbw
    by_cases h0 : q = 0
    · have he : p = gcdL l := by rw [← HGG.out, h0, Nat.gcd_zero_right]
      subst he
      have h1 : ¬ 0 < (q : Int) := by omega
      clear h0 HGG HGC hp
      have HSUM : Hid (∀ W, IntsIn W A l → Calls Try.prog 49 #[.slice A l.length c] W fun e w' => e = .returned (.int .i64 (sumL l l.length)) ∧ W = w') := Lib.hid (fun W h => gaSum_any l A c W h HG.out)
      generalize sumL l l.length = S at *
      generalize gcdL l = g at *
      generalize hD : S.tdiv (g : Int) = d at *
      have hw1 := IntWalk.i64_in d (by omega)
      generalize l.length / g = n2 at *
      have hw2 := IntWalk.i64_in (n2 : Int) (by omega)
      have hg0 : ¬ (g : Int) = 0 := by omega
      go_wp2_with fail
      refine region_kept wr.heap.size (by kernel_rfl) (by kernel_rfl) ?_
      repeat (go_big_quiet_step ((go_at_call 49; exact kept_same _ (HSUM.out _ (HF.out.below (HB.out.trans ((KeptW.below _).mono HB.out.size)) (Nat.le_refl _))))))
      refine wpQuiet_nil ?_
      intro w1 hbw1
      have hb2 := Lib.hid (HB.out.trans (hbw1.mono HB.out.size))
      clear hbw1 HB
      go_wp2
      go_ret3
      exact ⟨ret_iib HM.out.1.symm HM.out.2.symm HK.out.symm, hb2.out⟩
    · have h1 : 0 < (q : Int) := by omega
      have hq0 : ¬ (q : Int) = 0 := by omega
      have hm := tmod_nat p q
      have hml : p % q < q := Nat.mod_lt _ (by omega)
      have HE := Lib.hid ((gcd_step (a := p) (b := q) (by omega)).trans HGG.out)
      clear h0 HGG
      generalize p % q = r at *
      have hw := IntWalk.i64_in (r : Int) (by omega)
      go_wp2
      go_roundw
      case rel => exact ⟨q, r, rfl, rfl, hq, by omega, HE.out, HB.out⟩
      case measure => simp [intOf]; omega
end Go.Proofs.Ytbepgjknjopikaa

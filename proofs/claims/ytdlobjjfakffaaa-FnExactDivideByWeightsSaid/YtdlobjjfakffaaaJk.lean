/-
  The contracts of slices.stableCmpFunc (up to 32 rows) and slices.SortStableFunc, given that of slices.symMergeCmpFunc (SymTo).
-/
import Derived.Test.YtdlobjjfakffaaaJe
import Derived.OwnWalk
import Derived.Maps.AppendAt
namespace Go.Proofs.Ytdlobjjfakffaaa
open Go.RowKit
set_option linter.unusedVariables false

/-- What slices.symMergeCmpFunc does. -/
def SymTo (fuel : Nat) : Prop := ∀ (b N c : Nat) (a m hi : Nat) (f : Nat → Rq) (w : World), hi - a ≤ fuel → RowsF w b N f → N ≤ 1000 → hi ≤ N → Mg a m hi f →
  Calls Try.prog 22 #[.slice (some ⟨b, 0, none⟩) N c, .int .i64 (a : Int), .int .i64 (m : Int), .int .i64 (hi : Int), .func (.func 17) #[] #[]] w fun e w' => ∃ f', SortTo w w' b N f' e ∧ Same a hi f f' ∧ Srt a hi f'
set_option maxRecDepth 100000 in
set_option maxHeartbeats 4000000 in
theorem stable_any (hsym : ∀ n, SymTo n) (b N c : Nat) (f : Nat → Rq) (w : World) (h : RowsF w b N f) (hN : N ≤ 32) (hasc : Asc 0 N f) :
    Calls Try.prog 19 #[.slice (some ⟨b, 0, none⟩) N c, .int .i64 (N : Int), .func (.func 17) #[] #[]] w fun e w' => ∃ f', SortTo w w' b N f' e ∧ Same 0 N f f' ∧ Srt 0 N f' := by
  have HR := Lib.hid h; have HA := Lib.hid hasc; have HSYM := Lib.hid hsym; clear h hasc hsym
  by_cases h20 : N < 20
  · have hi1 : ¬ (20 : Int) ≤ (N : Int) := by omega
    have hi2 : ¬ (20 : Int) < (N : Int) := by omega
    go_enter Try.func19, Try.ntmps19
    go_wp2
    refine wp_loop_rounds 1 ?_
    rw [rounds_succ]
    go_wp2_with fail
    refine (insertion_any b N c 0 N f _ HR.out (by omega) (by omega) (by omega) HA.out).mono ?_
    rintro e w1 ⟨f1, ⟨rfl, hr1, hg1⟩, hs1, ht1⟩
    have HR1 := Lib.hid hr1; have HG1 := Lib.hid hg1; have HS1 := Lib.hid hs1; have HT1 := Lib.hid ht1
    clear hr1 hg1 hs1 ht1
    go_wp2
    refine wp_loop_rounds 1 ?_
    rw [rounds_succ]
    go_wp2
    go_end0
    exact ⟨f1, ⟨rfl, HR1.out, HG1.out⟩, HS1.out, HT1.out⟩
  · have hi1 : (20 : Int) ≤ (N : Int) := by omega
    have hi3 : ¬ (40 : Int) ≤ (N : Int) := by omega
    have HA1 : Hid (Asc 0 20 f) := Lib.hid (fun i j h1 h2 h3 => HA.out i j h1 h2 (by omega))
    go_enter Try.func19, Try.ntmps19
    go_wp2
    refine wp_loop_rounds 2 ?_
    rw [rounds_succ]
    go_wp2_with fail
    refine (insertion_any b N c 0 20 f _ HR.out (by omega) (by omega) (by omega) HA1.out).mono ?_
    rintro e w1 ⟨f1, ⟨rfl, hr1, hg1⟩, hs1, ht1⟩
    have HR1 := Lib.hid hr1; have HG1 := Lib.hid hg1; have HS1 := Lib.hid hs1; have HT1 := Lib.hid ht1
    have HA2 : Hid (Asc 20 N f1) := Lib.hid (fun i j h1 h2 h3 => by rw [hs1.1 i (by omega), hs1.1 j (by omega)]; exact HA.out i j (by omega) h2 h3)
    clear hr1 hg1 hs1 ht1
    go_wp2
    rw [rounds_succ]
    go_wp2_with fail
    refine (insertion_any b N c 20 N f1 _ HR1.out (by omega) (by omega) (by omega) HA2.out).mono ?_
    rintro e w2 ⟨f2, ⟨rfl, hr2, hg2⟩, hs2, ht2⟩
    have HR2 := Lib.hid hr2; have HG2 := Lib.hid (gr_trans HG1.out hg2); have HT2 := Lib.hid ht2
    have HS : Hid (Same 0 N f f2) := Lib.hid ((HS1.out.wide (Nat.le_refl _) (by omega)).trans (hs2.wide (by omega) (Nat.le_refl _)))
    have HT0 : Hid (Srt 0 20 f2) := Lib.hid (fun i j h1 h2 h3 => by rw [hs2.1 i (by omega), hs2.1 j (by omega)]; exact HT1.out i j h1 h2 h3)
    have HORD : Hid (∀ k l, 0 ≤ k → k < 20 → 20 ≤ l → l < N → (f2 k).i < (f2 l).i) := Lib.hid (fun k l h1 h2 h3 h4 => by
      rw [hs2.1 k (by omega)]
      obtain ⟨k', k1, k2, ek⟩ := HS1.out.back h1 h2
      obtain ⟨l', l1, l2, el⟩ := hs2.back h3 h4
      rw [← ek, ← el, HS1.out.1 l' (by omega)]
      exact HA.out k' l' k1 (by omega) l2)
    clear hr2 hg2 hs2 ht2
    by_cases h20' : N = 20
    · have hi4 : ¬ (20 : Int) < (N : Int) := by omega
      have HSR : Hid (Srt 0 N f2) := Lib.hid (by rw [h20']; exact HT0.out)
      clear h20'
      go_wp2
      refine wp_loop_rounds 1 ?_
      rw [rounds_succ]
      go_wp2
      go_end0
      exact ⟨f2, ⟨rfl, HR2.out, HG2.out⟩, HS.out, HSR.out⟩
    · have hi4 : (20 : Int) < (N : Int) := by omega
      have HMG : Hid (Mg 0 20 N f2) := Lib.hid ⟨by omega, by omega, HT0.out, HT2.out, HORD.out⟩
      have hi5 : ¬ (40 : Int) < (N : Int) := by omega
      go_wp2
      refine wp_loop_rounds 2 ?_
      rw [rounds_succ]
      go_wp2
      refine wp_loop_rounds 1 ?_
      rw [rounds_succ]
      go_wp2_with fail
      refine (HSYM.out N b N c 0 20 N f2 _ (by omega) HR2.out (by omega) (Nat.le_refl _) HMG.out).mono ?_
      rintro e w3 ⟨f3, ⟨rfl, hr3, hg3⟩, hs3, ht3⟩
      have HR3 := Lib.hid hr3; have HG3 := Lib.hid (gr_trans HG2.out hg3); have HS3 := Lib.hid (HS.out.trans hs3); have HT3 := Lib.hid ht3
      clear hr3 hg3 hs3 ht3
      go_wp2
      rw [rounds_succ]
      go_wp2
      go_end0
      exact ⟨f3, ⟨rfl, HR3.out, HG3.out⟩, HS3.out, HT3.out⟩

theorem sortStable_any (hsym : ∀ n, SymTo n) (b N c : Nat) (f : Nat → Rq) (w : World) (h : RowsF w b N f) (hN : N ≤ 32) (hasc : Asc 0 N f) :
    Calls Try.prog 16 #[.slice (some ⟨b, 0, none⟩) N c, .func (.func 17) #[] #[]] w fun e w' => ∃ f', SortTo w w' b N f' e ∧ Same 0 N f f' ∧ Srt 0 N f' := by
  go_enter Try.func16, Try.ntmps16
  go_wp2_with fail
  refine (stable_any hsym b N c f _ h hN hasc).mono ?_
  rintro e w1 ⟨f1, ⟨rfl, hr1, hg1⟩, hs1, ht1⟩
  have HR1 := Lib.hid hr1; have HG1 := Lib.hid hg1; have HS1 := Lib.hid hs1; have HT1 := Lib.hid ht1
  clear hr1 hg1 hs1 ht1 h hasc
  go_wp2
  go_end0
  exact ⟨f1, ⟨rfl, HR1.out, HG1.out⟩, HS1.out, HT1.out⟩
end Go.Proofs.Ytdlobjjfakffaaa

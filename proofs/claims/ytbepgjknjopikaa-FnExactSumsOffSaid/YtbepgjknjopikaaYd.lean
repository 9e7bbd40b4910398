/-
  The contracts of gaSums, SumsOff and FirstAlarm, in spec and in impl.
-/
import Derived.Test.YtbepgjknjopikaaYc
namespace Go.Proofs.Ytbepgjknjopikaa
open Go.RowKit
set_option linter.unusedVariables false

set_option maxRecDepth 100000 in
theorem gaSums_any (l : List Int) (A : Option Addr) (c : Nat) (a : Int) (w : World) (hf : IntsIn w A l) (hg : GoodT l) (ha : -500 ≤ a ∧ a ≤ 500) :
    Calls Try.prog 67 #[.slice A l.length c, .int .i64 a] w fun e w' => RowTo w w' e (smT l a l.length) := by
  have HF := Lib.hid hf; have HG := Lib.hid hg; clear hf
  have hlm := hg.most
  clear hg
  obtain ⟨ha1, ha2⟩ := ha
  obtain ⟨i0, hi, hz0, hz1, hz2⟩ := info_parts info_int
  have HI := Lib.hid hi; have HZ0 := Lib.hid hz0; have HZ1 := Lib.hid hz1; have HZ2 := Lib.hid hz2
  clear hi hz0 hz1 hz2
  go_enter Try.func67, Try.ntmps67
  go_wp2
  go_loopw [5, 6, 11] (fun v t i wr => ∃ k : Nat, k ≤ l.length ∧ i = .int .i64 (k : Int) ∧ t = .int .i64 (smS l a k) ∧ wr.ownsRow w.heap.size 3 1 v (smT l a k).length (intsZ (smT l a k)) ∧ Below w.heap.size w wr) (fun _ _ i _ => l.length - (intOf i).toNat)
  case atStart => exact ⟨0, by omega, rfl, rfl, own_nil _ _ _ _, Below.refl _ _⟩
  case round =>
    obtain ⟨k, hk, rfl, rfl, hv, hb⟩ := hrel
    by_cases hlt : k < l.length
    · skip
      obtain ⟨b, off, rfl, hbl, hc⟩ := HF.out (by omega)
      have hc0 := hc k hlt
      rw [← hb.cell (p := ⟨b, off + k, none⟩) hbl] at hc0
      have hlt2 : (k : Int) < (l.length : Int) := by omega
      have hk0 : (0 : Int) ≤ (k : Int) := by omega
      clear hc
      have hxr := HG.out.all k hlt
      have hsr := smS_range HG.out ⟨ha1, ha2⟩ k hk
      have hsl := smT_len l a k
      have hmx : (smT l a k).length + 1 ≤ maxLen := by unfold maxLen; omega
      have hmx2 : (smT l a k).length ≤ 40 := by omega
      have HS := Lib.hid (smS_succ (a := a) hlt); have HE0 := Lib.hid (smT_succ l a k)
      clear hsl
      generalize l[k] = x at *
      generalize smS l a k = s at *
      have HE : Hid (smT l a (k + 1) = smT l a k ++ [s + (x - a)]) := Lib.hid (by rw [HE0.out, HS.out])
      have HVV := Lib.hid hv; have HBB := Lib.hid hb
      clear hv hb HE0
      have hwz := HBB.out.size
      go_wp2_with (at_builtin; refine wpList_append_own_at _ rfl _ _ 22 rfl w.heap.size 3 i0 (.int .i64 0) 1 8 Try.underlying22 HI.out HZ0.out HZ1.out HZ2.out rfl (by decide) _ _ _ rfl (HVV.out.alloc _) ⟨wr.heap.size, 0, none⟩ 1 1 [.int .i64 (s + (x - a))] rfl rfl (cell_one_new _ _ _) (by simp [Value.oneCell']) hmx (by omega) (by first | (simp; done) | (simp; omega) | omega) ?_)
      intro v' w5 hown' hgrow _ hat
      have HB5 := Lib.hid ((HBB.out.alloc HBB.out.size (.cells #[.int .i64 (s + (x - a))] 3)).grown hgrow (by simp; omega) (fun q hq => by have := own_lt HVV.out q hq; omega))
      have HO5 : Hid (w5.ownsRow w.heap.size 3 1 v' (smT l a (k + 1)).length (intsZ (smT l a (k + 1)))) := by
        show World.ownsRow _ _ _ _ _ _ _
        rw [HE.out, List.length_append, intsZ_snoc]; exact hown'
      clear hown' hgrow hat
      go_wp2
      go_roundw
      case rel => exact ⟨k + 1, by omega, by go_num, by rw [HS.out], HO5.out, HB5.out⟩
      case measure => simp [intOf]; omega
    · obtain rfl : k = l.length := by omega
      go_wp2
      go_ret
      exact ⟨_, rfl, hb, hv⟩
set_option maxRecDepth 100000 in
theorem specSumsOff_any (l : List Int) (A : Option Addr) (c : Nat) (a : Int) (w : World) (hf : IntsIn w A l) (hn : l.length ≤ 1048576) :
    Calls Try.prog 36 #[.slice A l.length c, .int .i64 a] w fun e w' => EnTo w w' e (sumV l a) (askS l a) := by
  have HF := Lib.hid hf; clear hf
  go_enter Try.func36, Try.ntmps36
  go_wp2_with fail
  refine (gaGood_any l A c _ HF.out hn).mono ?_
  rintro e w' ⟨rfl, rfl⟩
  cases hg : gaB l
  · have HK : Hid (askS l a = false) := Lib.hid (by simp only [askA, alB, askO, askS, hg, Bool.false_and])
    clear hg
    go_wp2
    refine bodyPost_ret (v := .tuple #[.slice none 0 0, .bool false]) (by simp [results, Try.results36, go_sem]) rfl ?_
    exact EnTo.no (sumV_no HK.out) HK.out (Below.refl _ _)
  have HGB := Lib.hid hg; clear hg
  go_wp2_with fail
  refine (gaAim_any _ _).mono ?_
  rintro e w' ⟨rfl, rfl⟩
  cases hg : inB (-500) 500 a
  · have HK : Hid (askS l a = false) := Lib.hid (by simp only [askA, alB, askO, askS, hg, Bool.false_and, Bool.and_false])
    clear hg
    go_wp2
    refine bodyPost_ret (v := .tuple #[.slice none 0 0, .bool false]) (by simp [results, Try.results36, go_sem]) rfl ?_
    exact EnTo.no (sumV_no HK.out) HK.out (Below.refl _ _)
  have HK : Hid (askS l a = true) := Lib.hid (by unfold askS; rw [hg, HGB.out]; rfl)
  have har := inB_iff.1 hg
  clear hg
  go_wp2_with fail
  refine (gaSums_any l A c a _ HF.out (gaB_iff.1 HGB.out) har).mono ?_
  rintro e w' ⟨v, rfl, hb, ho⟩
  have HB := Lib.hid hb; have HO := Lib.hid ho; clear hb ho
  go_wp2
  refine bodyPost_ret (v := .tuple #[v, .bool true]) (by simp [results, Try.results36, go_sem]) rfl ?_
  exact EnTo.yes (sumV_yes HK.out) HK.out HB.out HO.out
set_option maxRecDepth 100000 in
theorem implSumsOff_any (l : List Int) (A : Option Addr) (c : Nat) (a : Int) (w : World) (hf : IntsIn w A l) (hn : l.length ≤ 1048576) :
    Calls Try.prog 37 #[.slice A l.length c, .int .i64 a] w fun e w' => EnTo w w' e (sumV l a) (askS l a) := by
  have HF := Lib.hid hf; clear hf
  go_enter Try.func37, Try.ntmps37
  go_wp2_with fail
  refine (implIsTrial_any l A c _ HF.out hn).mono ?_
  rintro e w' ⟨rfl, rfl⟩
  cases hg : gaB l
  · have HK : Hid (askS l a = false) := Lib.hid (by simp only [askA, alB, askO, askS, hg, Bool.false_and])
    clear hg
    go_wp2
    refine bodyPost_ret (v := .tuple #[.slice none 0 0, .bool false]) (by simp [results, Try.results37, go_sem]) rfl ?_
    exact EnTo.no (sumV_no HK.out) HK.out (Below.refl _ _)
  have HGB := Lib.hid hg; clear hg
  go_wp2_with fail
  refine (isOff_any _ _).mono ?_
  rintro e w' ⟨rfl, rfl⟩
  cases hg : inB (-500) 500 a
  · have HK : Hid (askS l a = false) := Lib.hid (by simp only [askA, alB, askO, askS, hg, Bool.false_and, Bool.and_false])
    clear hg
    go_wp2
    refine bodyPost_ret (v := .tuple #[.slice none 0 0, .bool false]) (by simp [results, Try.results37, go_sem]) rfl ?_
    exact EnTo.no (sumV_no HK.out) HK.out (Below.refl _ _)
  have HK : Hid (askS l a = true) := Lib.hid (by unfold askS; rw [hg, HGB.out]; rfl)
  obtain ⟨ha1, ha2⟩ := inB_iff.1 hg
  clear hg
  have HG := Lib.hid (gaB_iff.1 HGB.out)
  have hlm := HG.out.most
  have hmk := run_makeInt l.length hn
  have hst : Marked (w.alloc (.cells (madeCells #[.int .i64 0] (l.length * 1)) 3)) w.heap.size 3 l.length (intsZ (smT l a 0)) := ⟨_, heap_new _ _, by rw [size_madeCells]; omega, by simp [intsZ, smT]⟩
  have HST := Lib.hid hst
  have HB4 := Lib.hid ((Below.refl w.heap.size w).alloc (Nat.le_refl _) (.cells (madeCells #[.int .i64 0] (l.length * 1)) 3))
  clear hst
  generalize hz : madeCells #[.int .i64 0] (l.length * 1) = cs0 at *
  clear hz
  go_wp2
  go_loopw [7, 23] (fun t i wr => ∃ k : Nat, k ≤ l.length ∧ i = .int .i64 (k : Int) ∧ t = .int .i64 (smS l a k) ∧ Marked wr w.heap.size 3 l.length (intsZ (smT l a k)) ∧ Below w.heap.size w wr) (fun _ i _ => l.length - (intOf i).toNat)
  case atStart => exact ⟨0, by omega, rfl, rfl, HST.out, HB4.out⟩
  case round =>
    obtain ⟨k, hk, rfl, rfl, hmd, hb⟩ := hrel
    clear hmk
    by_cases hlt : k < l.length
    · skip
      obtain ⟨b, off, rfl, hbl, hc⟩ := HF.out (by omega)
      have hc0 := hc k hlt
      rw [← hb.cell (p := ⟨b, off + k, none⟩) hbl] at hc0
      have hlt2 : (k : Int) < (l.length : Int) := by omega
      have hk0 : (0 : Int) ≤ (k : Int) := by omega
      clear hc
      have hxr := HG.out.all k hlt
      have hsr := smS_range HG.out ⟨ha1, ha2⟩ k hk
      have HS := Lib.hid (smS_succ (a := a) hlt); have HE0 := Lib.hid (smT_succ l a k)
      generalize l[k] = x at *
      generalize smS l a k = s at *
      obtain ⟨⟨z0, hz0⟩, hfz⟩ := hmd.at_ hlt
      have HM2 : Hid (Marked (wr.setCell ⟨w.heap.size, k, none⟩ (.int .i64 (s + (x - a)))) w.heap.size 3 l.length (intsZ (smT l a (k + 1)))) := Lib.hid (by
        rw [HE0.out, HS.out, intsZ_snoc]
        exact hmd.stepAt k (by rw [intsZ_len, smT_len]) hlt _)
      have HB2 := Lib.hid (hb.setCell (p := ⟨w.heap.size, k, none⟩) (Nat.le_refl _) (.int .i64 (s + (x - a))))
      clear hmd hb HE0
      go_wp2
      go_roundw
      case rel => exact ⟨k + 1, by omega, by go_num, by rw [HS.out], HM2.out, HB2.out⟩
      case measure => simp [intOf]; omega
    · obtain rfl : k = l.length := by omega
      have HO2 := Lib.hid (hmd.owns (base := w.heap.size) (by rw [intsZ_len, smT_len]) (Nat.le_refl _) (by unfold maxLen; omega))
      have HB := Lib.hid hb
      clear hmd hb
      go_wp2
      refine bodyPost_ret (v := .tuple #[.slice (some ⟨w.heap.size, 0, none⟩) l.length l.length, .bool true]) (by simp [results, Try.results37, go_sem]) rfl ?_
      exact EnTo.yes (sumV_yes HK.out) HK.out HB.out HO2.out

set_option maxRecDepth 100000 in
theorem specFirstAlarm_any (l : List Int) (A : Option Addr) (c : Nat) (a m : Int) (w : World) (hf : IntsIn w A l) (hn : l.length ≤ 1048576) :
    Calls Try.prog 38 #[.slice A l.length c, .int .i64 a, .int .i64 m] w fun e w' => e = .returned (.tuple #[.int .i64 (falV l a m), .bool (falB l a m)]) ∧ Below w.heap.size w w' := by
  have HF := Lib.hid hf; clear hf
  go_enter Try.func38, Try.ntmps38
  go_wp2_with fail
  refine (gaGood_any l A c _ HF.out hn).mono ?_
  rintro e w' ⟨rfl, rfl⟩
  cases hg : gaB l
  · have HK : Hid (alB l a m = false) := Lib.hid (by simp only [askA, alB, askO, askS, hg, Bool.false_and])
    clear hg
    go_wp2
    go_ret2
    exact ⟨ret_ib (fal_no HK.out).1.symm (fal_no HK.out).2.symm, Below.refl _ _⟩
  have HGB := Lib.hid hg; clear hg
  go_wp2_with fail
  refine (gaAim_any _ _).mono ?_
  rintro e w' ⟨rfl, rfl⟩
  cases hg : inB (-500) 500 a
  · have HK : Hid (alB l a m = false) := Lib.hid (by simp only [askA, alB, askO, askS, hg, Bool.false_and, Bool.and_false])
    clear hg
    go_wp2
    go_ret2
    exact ⟨ret_ib (fal_no HK.out).1.symm (fal_no HK.out).2.symm, Below.refl _ _⟩
  have HS : Hid (askS l a = true) := Lib.hid (by unfold askS; rw [HGB.out, hg]; rfl)
  obtain ⟨ha1, ha2⟩ := inB_iff.1 hg
  clear hg
  go_wp2_with fail
  refine (l1In_any _ _ _ _).mono ?_
  rintro e w' ⟨rfl, rfl⟩
  cases hg : inB 0 20000 m
  · have HK : Hid (alB l a m = false) := Lib.hid (by unfold alB; rw [hg]; simp)
    clear hg
    go_wp2
    go_ret2
    exact ⟨ret_ib (fal_no HK.out).1.symm (fal_no HK.out).2.symm, Below.refl _ _⟩
  have HK : Hid (alB l a m = true) := Lib.hid (by unfold alB; rw [hg, HS.out]; rfl)
  clear hg
  have HG := Lib.hid (gaB_iff.1 HGB.out)
  have hlm := HG.out.most
  go_wp2_with fail
  refine (gaSums_any l A c a _ HF.out HG.out ⟨ha1, ha2⟩).mono ?_
  rintro e w1 ⟨v, rfl, hb, ho⟩
  obtain ⟨A1, c1, rfl⟩ := own_form ho
  have HIN := Lib.hid (own_in ho)
  have HSL := Lib.hid (smT_len l a l.length)
  have HB := Lib.hid hb; clear hb ho
  rw [HSL.out]
  go_wp2
  go_loop [27] (fun i => ∃ k : Nat, k ≤ l.length ∧ i = .int .i64 (k : Int) ∧ ∀ j, j < k → outB (smS l a (j + 1)) m = false) (fun i => l.length - (intOf i).toNat)
  case atStart => exact ⟨0, by omega, rfl, fun j hj => absurd hj (by omega)⟩
  case round =>
    obtain ⟨k, hk, rfl, hs⟩ := hrel
    have HNB := Lib.hid hs; clear hs
    by_cases hlt : k < l.length
    · have hlt3 : k < (smT l a l.length).length := by rw [HSL.out]; exact hlt
      obtain ⟨b, off, rfl, hbl, hc⟩ := HIN.out (by omega)
      have hc0 := hc k hlt3
      rw [smT_get] at hc0
      have hlt2 : (k : Int) < (l.length : Int) := by omega
      have hk0 : (0 : Int) ≤ (k : Int) := by omega
      have hsr := smS_range HG.out ⟨ha1, ha2⟩ (k + 1) (by omega)
      clear hc hlt3
      have HY := Lib.hid (fun h => fal_some HK.out hlt HNB.out h)
      have HN : Hid (outB (smS l a (k + 1)) m = false → ∀ j, j < k + 1 → outB (smS l a (j + 1)) m = false) := Lib.hid (fun h j hj => by
        rcases Nat.lt_or_ge j k with h1 | h1
        · exact HNB.out j h1
        · obtain rfl : j = k := by omega
          exact h)
      have HQ := Lib.hid (outB_yes (x := smS l a (k + 1)) (m := m)); have HQ' := Lib.hid (outB_no (x := smS l a (k + 1)) (m := m))
      generalize smS l a (k + 1) = x at *
      go_wp2_with fail
      refine (l1Abs_any _ _ (by omega) (by omega)).mono ?_
      rintro e w' ⟨rfl, rfl⟩
      generalize absI x = q at *
      by_cases hq : m < q
      · have HE := Lib.hid (HY.out (HQ.out.2 hq))
        go_wp2
        go_ret2
        exact ⟨ret_ib HE.out.1.symm HE.out.2.symm, HB.out⟩
      · have HE := Lib.hid (HN.out (HQ'.out.2 (by omega)))
        go_wp2
        go_round
        case rel => exact ⟨k + 1, by omega, by go_num, HE.out⟩
        case measure => simp [intOf]; omega
    · obtain rfl : k = l.length := by omega
      have HE := Lib.hid (fal_none HNB.out)
      go_wp2
      go_ret2
      exact ⟨ret_ib HE.out.1.symm HE.out.2.symm, HB.out⟩
set_option maxRecDepth 100000 in
theorem implFirstAlarm_any (l : List Int) (A : Option Addr) (c : Nat) (a m : Int) (w : World) (hf : IntsIn w A l) (hn : l.length ≤ 1048576) :
    Calls Try.prog 39 #[.slice A l.length c, .int .i64 a, .int .i64 m] w fun e w' => e = .returned (.tuple #[.int .i64 (falV l a m), .bool (falB l a m)]) ∧ Below w.heap.size w w' := by
  have HF := Lib.hid hf; clear hf
  go_enter Try.func39, Try.ntmps39
  go_wp2_with fail
  refine (implSumsOff_any l A c a _ HF.out hn).mono ?_
  rintro e w1 ⟨v, T, rfl, hb, ho⟩
  obtain ⟨A1, c1, rfl⟩ := own_form ho
  have HIN0 := Lib.hid (own_in ho)
  have HB := Lib.hid hb; clear hb ho
  cases hg : askS l a
  · have HK : Hid (alB l a m = false) := Lib.hid (by unfold alB; rw [hg]; simp)
    clear hg
    generalize (sumV l a).length = q at *
    go_wp2
    go_ret2
    exact ⟨ret_ib (fal_no HK.out).1.symm (fal_no HK.out).2.symm, HB.out⟩
  have HS := Lib.hid hg
  have HSV := Lib.hid (sumV_yes hg)
  obtain ⟨hgd, ha1, ha2⟩ := askS_iff.1 hg
  have HG := Lib.hid hgd
  have hlm := hgd.most
  clear hg hgd
  have HSL := Lib.hid (smT_len l a l.length)
  have HIN : Hid (IntsIn w1 A1 (smT l a l.length)) := Lib.hid (by rw [← HSV.out]; exact HIN0.out)
  rw [HSV.out, HSL.out]
  clear HIN0
  by_cases h1 : m < 0
  · have HK : Hid (alB l a m = false) := Lib.hid (by unfold alB; rw [inB_no.2 (by omega)]; simp)
    go_wp2
    go_ret2
    exact ⟨ret_ib (fal_no HK.out).1.symm (fal_no HK.out).2.symm, HB.out⟩
  by_cases h2 : 20000 < m
  · have HK : Hid (alB l a m = false) := Lib.hid (by unfold alB; rw [inB_no.2 (by omega)]; simp)
    go_wp2
    go_ret2
    exact ⟨ret_ib (fal_no HK.out).1.symm (fal_no HK.out).2.symm, HB.out⟩
  have HK : Hid (alB l a m = true) := Lib.hid (by unfold alB; rw [inB_iff.2 (by omega), HS.out]; rfl)
  go_wp2
  go_loop [30] (fun i => ∃ k : Nat, k ≤ l.length ∧ i = .int .i64 (k : Int) ∧ ∀ j, j < k → outB (smS l a (j + 1)) m = false) (fun i => l.length - (intOf i).toNat)
  case atStart => exact ⟨0, by omega, rfl, fun j hj => absurd hj (by omega)⟩
  case round =>
    obtain ⟨k, hk, rfl, hs⟩ := hrel
    have HNB := Lib.hid hs; clear hs
    by_cases hlt : k < l.length
    · have hlt3 : k < (smT l a l.length).length := by rw [HSL.out]; exact hlt
      obtain ⟨b, off, rfl, hbl, hc⟩ := HIN.out (by omega)
      have hc0 := hc k hlt3
      rw [smT_get] at hc0
      have hlt2 : (k : Int) < (l.length : Int) := by omega
      have hk0 : (0 : Int) ≤ (k : Int) := by omega
      have hsr := smS_range HG.out ⟨ha1, ha2⟩ (k + 1) (by omega)
      clear hc hlt3
      have HY := Lib.hid (fun h => fal_some HK.out hlt HNB.out h)
      have HN : Hid (outB (smS l a (k + 1)) m = false → ∀ j, j < k + 1 → outB (smS l a (j + 1)) m = false) := Lib.hid (fun h j hj => by
        rcases Nat.lt_or_ge j k with h1 | h1
        · exact HNB.out j h1
        · obtain rfl : j = k := by omega
          exact h)
      generalize smS l a (k + 1) = x at *
      go_wp2_with fail
      refine (isOutside_any _ _ _ (by omega) (by omega)).mono ?_
      rintro e w' ⟨rfl, rfl⟩
      cases ho : outB x m
      · have HE := Lib.hid (HN.out ho)
        clear ho
        go_wp2
        go_round
        case rel => exact ⟨k + 1, by omega, by go_num, HE.out⟩
        case measure => simp [intOf]; omega
      · have HE := Lib.hid (HY.out ho)
        clear ho
        go_wp2
        go_ret2
        exact ⟨ret_ib HE.out.1.symm HE.out.2.symm, HB.out⟩
    · obtain rfl : k = l.length := by omega
      have HE := Lib.hid (fal_none HNB.out)
      go_wp2
      go_ret2
      exact ⟨ret_ib HE.out.1.symm HE.out.2.symm, HB.out⟩
end Go.Proofs.Ytbepgjknjopikaa

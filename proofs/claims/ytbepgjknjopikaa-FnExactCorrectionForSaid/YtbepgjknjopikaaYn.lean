/-
  The contracts of middleOff, SpreadOff, MedianOff, CorrectionFor and impl.LeastTolerance.
-/
import Derived.Test.YtbepgjknjopikaaYm
namespace Go.Proofs.Ytbepgjknjopikaa
open Go.RowKit
set_option linter.unusedVariables false

/-- The row's cells: those in the middle. -/
theorem row_at {w : World} {A : Option Addr} {S : List Int} {n : Nat} (h : IntsIn w A S) (hn : S.length = n) (h0 : 0 < n) : ∃ b off, A = some ⟨b, off, none⟩ ∧ b < w.heap.size ∧ ∀ k, k < n → w.cell? ⟨b, off + k, none⟩ = some (.int .i64 (S.getD k 0)) := by
  obtain ⟨b, off, h1, h2, h3⟩ := h (by omega)
  exact ⟨b, off, h1, h2, fun k hk => by rw [getD_at (by omega)]; exact h3 k (by omega)⟩
set_option maxRecDepth 100000 in
theorem middleOff_any (l : List Int) (A : Option Addr) (c : Nat) (w : World) (hf : IntsIn w A l) (hg : GoodT l) :
    Calls Try.prog 55 #[.slice A l.length c] w fun e w' => e = .returned (.tuple #[.int .i64 ((srt l).getD ((l.length - 1) / 2) 0), .int .i64 ((srt l).getD (l.length / 2) 0)]) ∧ Below w.heap.size w w' := by
  have HF := Lib.hid hf; have HG := Lib.hid hg
  have hlm := hg.most; have hl1 := hg.one
  clear hf hg
  have HBX : Hid (Bx (w.alloc (.cells #[.slice A l.length c] 22)) w.heap.size A l.length c) := Lib.hid ⟨by simp, by simp⟩
  have HB0 := Lib.hid ((Below.refl w.heap.size w).alloc (Nat.le_refl _) (.cells #[.slice A l.length c] 22))
  obtain ⟨h, hh⟩ : ∃ h : Nat, h = (l.length - 1) / 2 := ⟨_, rfl⟩
  obtain ⟨k, hk⟩ : ∃ k : Nat, k = l.length / 2 := ⟨_, rfl⟩
  rw [← hh, ← hk]
  have HHH := Lib.hid hh; have HKK := Lib.hid hk
  clear hh hk
  go_enter Try.func55, Try.ntmps55
  go_wp2_with fail
  have HCALL : Hid (∀ W, Below (w.alloc (.cells #[.slice A l.length c] 22)).heap.size (w.alloc (.cells #[.slice A l.length c] 22)) W → ∀ i (h : i < l.length), Calls Try.prog 72 #[.int .i64 (i : Int), .pointer (some ⟨w.heap.size, 0, none⟩)] W fun e w' => e = .returned (.int .i64 l[i]) ∧ W = w') := Lib.hid (fun W hW i hi => middleOff1_any l A c w.heap.size i W (HBX.out.below hW HBX.out.2) ((HF.out.below HB0.out (Nat.le_refl _)).below hW (Nat.le_refl _)) hi hlm)
  refine (sortedMid_any l ⟨w.heap.size, 0, none⟩ _ hlm HCALL.out).mono ?_
  rintro e w1 ⟨v, rfl, hb1, ho⟩
  obtain ⟨A1, c1, rfl⟩ := own_form ho
  have HB1 := Lib.hid (HB0.out.trans (hb1.mono HB0.out.size))
  have hbx := HBX.out.below hb1 HBX.out.2
  obtain ⟨hx1, hx2⟩ := hbx
  have HSL := Lib.hid (srt_len l)
  obtain ⟨b, off, rfl, hbl, hc⟩ := row_at (own_in ho) (srt_len l) (by omega)
  have hh := HHH.out; have hk := HKK.out
  have hd1 : ((l.length : Int) - 1).tdiv 2 = (h : Int) := by rw [Int.tdiv_eq_ediv_of_nonneg (by omega)]; omega
  have hd2 : (l.length : Int).tdiv 2 = (k : Int) := by rw [Int.tdiv_eq_ediv_of_nonneg (by omega)]; omega
  have hw1 := IntWalk.i64_in (h : Int) (by omega)
  have hw2 := IntWalk.i64_in (k : Int) (by omega)
  have hhl : h < l.length := by omega
  have hkl : k < l.length := by omega
  have hh0 : (0 : Int) ≤ (h : Int) := by omega
  have hh2 : (h : Int) < (l.length : Int) := by omega
  have hk0 : (0 : Int) ≤ (k : Int) := by omega
  have hk2 : (k : Int) < (l.length : Int) := by omega
  have y0 := KeptW.cell (hc h hhl) hbl
  have y1 := KeptW.cell (hc k hkl) hbl
  have yb := KeptW.cell hx1 hx2
  rw [HSL.out]
  clear hc hh hk hx1 hb1 ho HCALL HBX HB0
  generalize hlo : (srt l).getD h 0 = lo at *
  generalize hhi : (srt l).getD k 0 = hi at *
  have HLO := Lib.hid hlo; have HHI := Lib.hid hhi
  clear hlo hhi
  go_wp2_with fail
  refine region_kept w1.heap.size (by kernel_rfl) (by kernel_rfl) ?_
  repeat (go_big_quiet_step (fail))
  refine wpQuiet_nil ?_
  intro w2 hbw2
  have HB2 := Lib.hid (HB1.out.trans (hbw2.mono HB1.out.size))
  clear hbw2 y0 y1 yb
  go_wp2
  go_ret2
  exact ⟨by rw [HLO.out, HHI.out]; rfl, HB2.out⟩
set_option maxRecDepth 100000 in
theorem implMedianOff_any (l : List Int) (A : Option Addr) (c : Nat) (w : World) (hf : IntsIn w A l) (hn : l.length ≤ 1048576) :
    Calls Try.prog 25 #[.slice A l.length c] w fun e w' => e = .returned (.tuple #[.int .i64 (medV l), .bool (gaB l)]) ∧ Below w.heap.size w w' := by
  have HF := Lib.hid hf; clear hf
  go_enter Try.func25, Try.ntmps25
  go_wp2_with fail
  refine (implIsTrial_any l A c _ HF.out hn).mono ?_
  rintro e w' ⟨rfl, rfl⟩
  cases hg : gaB l
  · have HM := Lib.hid (spr_no hg); have HK := Lib.hid hg
    clear hg
    go_wp2
    go_ret2
    exact ⟨ret_ib HM.out.2.1.symm HK.out.symm, Below.refl _ _⟩
  have HM := Lib.hid (spr_yes hg); have HG := Lib.hid (gaB_iff.1 hg); have HK := Lib.hid hg
  have hlm := HG.out.most; have hl1 := HG.out.one
  clear hg
  go_wp2_with fail
  refine (middleOff_any l A c _ HF.out HG.out).mono ?_
  rintro e w1 ⟨rfl, hb1⟩
  have HB := Lib.hid hb1; clear hb1
  have HE := Lib.hid HM.out.2.1
  generalize (srt l).getD ((l.length - 1) / 2) 0 = lo at *
  generalize (srt l).getD (l.length / 2) 0 = hi at *
  go_wp2
  go_ret2
  exact ⟨ret_ib HE.out.symm HK.out.symm, HB.out⟩
set_option maxRecDepth 100000 in
theorem implCorrectionFor_any (l : List Int) (A : Option Addr) (c : Nat) (w : World) (hf : IntsIn w A l) (hn : l.length ≤ 1048576) :
    Calls Try.prog 43 #[.slice A l.length c] w fun e w' => e = .returned (.tuple #[.int .i64 (corV l), .bool (gaB l)]) ∧ Below w.heap.size w w' := by
  have HF := Lib.hid hf; clear hf
  go_enter Try.func43, Try.ntmps43
  go_wp2_with fail
  refine (implIsTrial_any l A c _ HF.out hn).mono ?_
  rintro e w' ⟨rfl, rfl⟩
  cases hg : gaB l
  · have HM := Lib.hid (spr_no hg); have HK := Lib.hid hg
    clear hg
    go_wp2
    go_ret2
    exact ⟨ret_ib HM.out.2.2.symm HK.out.symm, Below.refl _ _⟩
  have HM := Lib.hid (spr_yes hg); have HG := Lib.hid (gaB_iff.1 hg); have HK := Lib.hid hg
  have hlm := HG.out.most; have hl1 := HG.out.one
  clear hg
  go_wp2_with fail
  refine (middleOff_any l A c _ HF.out HG.out).mono ?_
  rintro e w1 ⟨rfl, hb1⟩
  have HB := Lib.hid hb1; clear hb1
  have HE := Lib.hid HM.out.2.2
  have hlo := srt_range HG.out (j := (l.length - 1) / 2) (by omega)
  have hhi := srt_range HG.out (j := l.length / 2) (by omega)
  have hlh := srt_mid (l := l) (by omega)
  clear HM
  generalize (srt l).getD ((l.length - 1) / 2) 0 = lo at *
  generalize (srt l).getD (l.length / 2) 0 = hi at *
  have HCO := Lib.hid (corI_is hlh)
  go_wp2
  go_ret2
  exact ⟨ret_ib (by rw [HE.out, ← HCO.out]) HK.out.symm, HB.out⟩
set_option maxRecDepth 100000 in
theorem implSpreadOff_any (l : List Int) (A : Option Addr) (c : Nat) (w : World) (hf : IntsIn w A l) (hn : l.length ≤ 1048576) :
    Calls Try.prog 23 #[.slice A l.length c] w fun e w' => e = .returned (.tuple #[.int .i64 (sprV l), .bool (gaB l)]) ∧ Below w.heap.size w w' := by
  have HF := Lib.hid hf; clear hf
  go_enter Try.func23, Try.ntmps23
  go_wp2_with fail
  refine (implIsTrial_any l A c _ HF.out hn).mono ?_
  rintro e w' ⟨rfl, rfl⟩
  cases hg : gaB l
  · have HM := Lib.hid (spr_no hg); have HK := Lib.hid hg
    clear hg
    go_wp2
    go_ret2
    exact ⟨ret_ib HM.out.1.symm HK.out.symm, Below.refl _ _⟩
  have HM := Lib.hid (spr_yes hg); have HG := Lib.hid (gaB_iff.1 hg); have HK := Lib.hid hg
  have hlm := HG.out.most; have hl1 := HG.out.one
  clear hg
  have HE : Hid (sprV l = Lib.maxOf l - Lib.minOf l) := Lib.hid (by rw [HM.out.1, spr_max (by omega), spr_min (by omega)])
  have hx := HG.out.mem _ (max_is (l := l) (by omega)).1
  have hy := HG.out.mem _ (min_is (l := l) (by omega)).1
  obtain ⟨b, off, rfl, hbl, hc⟩ := HF.out (by omega)
  have hc2 : ∀ j, j < l.length → w.cell? ⟨b, off + j, none⟩ = some (.int .i64 (l.getD j 0)) := fun j hj => by rw [getD_at hj]; exact hc j hj
  have h1 := Try.slices_Max_int b off l.length c l w (by omega) (Nat.le_refl _) (by omega) hc2
  have h2 := Try.slices_Min_int b off l.length c l w (by omega) (Nat.le_refl _) (by omega) hc2
  rw [List.take_length] at h1 h2
  have H1 := Lib.hid h1; have H2 := Lib.hid h2
  clear h1 h2 hc hc2 HM
  generalize Lib.maxOf l = mx at *
  generalize Lib.minOf l = mn at *
  go_wp2_with fail
  refine H1.out.mono ?_
  rintro e w' ⟨rfl, hw⟩
  subst hw
  go_wp2_with fail
  refine H2.out.mono ?_
  rintro e w' ⟨rfl, hw⟩
  subst hw
  go_wp2
  go_ret2
  exact ⟨ret_ib HE.out.symm HK.out.symm, Below.refl _ _⟩
set_option maxRecDepth 100000 in
theorem specSpreadOff_any (l : List Int) (A : Option Addr) (c : Nat) (w : World) (hf : IntsIn w A l) (hn : l.length ≤ 1048576) :
    Calls Try.prog 22 #[.slice A l.length c] w fun e w' => e = .returned (.tuple #[.int .i64 (sprV l), .bool (gaB l)]) ∧ Below w.heap.size w w' := by
  have HF := Lib.hid hf; clear hf
  go_enter Try.func22, Try.ntmps22
  go_wp2_with fail
  refine (gaGood_any l A c _ HF.out hn).mono ?_
  rintro e w' ⟨rfl, rfl⟩
  cases hg : gaB l
  · have HM := Lib.hid (spr_no hg); have HK := Lib.hid hg
    clear hg
    go_wp2
    go_ret2
    exact ⟨ret_ib HM.out.1.symm HK.out.symm, Below.refl _ _⟩
  have HM := Lib.hid (spr_yes hg); have HG := Lib.hid (gaB_iff.1 hg); have HK := Lib.hid hg
  have hlm := HG.out.most; have hl1 := HG.out.one
  clear hg
  go_wp2_with fail
  refine (gaSorted_any l A c _ HF.out hlm).mono ?_
  rintro e w1 ⟨v, rfl, hb1, ho⟩
  obtain ⟨A1, c1, rfl⟩ := own_form ho
  have HB1 := Lib.hid hb1
  have HSL := Lib.hid (srt_len l)
  obtain ⟨b, off, rfl, hbl, hc⟩ := row_at (own_in ho) (srt_len l) (by omega)
  rw [HSL.out]
  clear hb1 ho
  obtain ⟨h, hh⟩ : ∃ h : Nat, h = l.length - 1 := ⟨_, rfl⟩
  have HE := Lib.hid HM.out.1
  rw [← hh] at HE
  have hhw : (l.length : Int) - 1 = (h : Int) := by omega
  have hhl : h < l.length := by omega
  have hr1 := srt_range HG.out hhl
  have hr2 := srt_range HG.out (j := 0) (by omega)
  have hh0 : (0 : Int) ≤ (h : Int) := by omega
  have hh2 : (h : Int) < (l.length : Int) := by omega
  have hl0 : (0 : Int) < (l.length : Int) := by omega
  have hc0 := hc 0 (by omega)
  rw [Nat.add_zero] at hc0
  have y0 := KeptW.cell (hc h hhl) hbl
  have y1 := KeptW.cell hc0 hbl
  clear hc hh hc0 HM
  generalize (srt l).getD h 0 = hi at *
  generalize (srt l).getD 0 0 = lo at *
  go_wp2_with fail
  refine region_kept w1.heap.size (by kernel_rfl) (by kernel_rfl) ?_
  repeat (go_big_quiet_step (fail))
  refine wpQuiet_nil ?_
  intro w2 hbw2
  have HB2 := Lib.hid (HB1.out.trans (hbw2.mono HB1.out.size))
  clear hbw2 y0 y1
  go_wp2
  go_ret2
  exact ⟨ret_ib HE.out.symm HK.out.symm, HB2.out⟩
set_option maxRecDepth 100000 in
theorem specMedianOff_any (l : List Int) (A : Option Addr) (c : Nat) (w : World) (hf : IntsIn w A l) (hn : l.length ≤ 1048576) :
    Calls Try.prog 24 #[.slice A l.length c] w fun e w' => e = .returned (.tuple #[.int .i64 (medV l), .bool (gaB l)]) ∧ Below w.heap.size w w' := by
  have HF := Lib.hid hf; clear hf
  go_enter Try.func24, Try.ntmps24
  go_wp2_with fail
  refine (gaGood_any l A c _ HF.out hn).mono ?_
  rintro e w' ⟨rfl, rfl⟩
  cases hg : gaB l
  · have HM := Lib.hid (spr_no hg); have HK := Lib.hid hg
    clear hg
    go_wp2
    go_ret2
    exact ⟨ret_ib HM.out.2.1.symm HK.out.symm, Below.refl _ _⟩
  have HM := Lib.hid (spr_yes hg); have HG := Lib.hid (gaB_iff.1 hg); have HK := Lib.hid hg
  have hlm := HG.out.most; have hl1 := HG.out.one
  clear hg
  go_wp2_with fail
  refine (gaSorted_any l A c _ HF.out hlm).mono ?_
  rintro e w1 ⟨v, rfl, hb1, ho⟩
  obtain ⟨A1, c1, rfl⟩ := own_form ho
  have HB1 := Lib.hid hb1
  have HSL := Lib.hid (srt_len l)
  obtain ⟨b, off, rfl, hbl, hc⟩ := row_at (own_in ho) (srt_len l) (by omega)
  rw [HSL.out]
  clear hb1 ho
  obtain ⟨h, hh⟩ : ∃ h : Nat, h = (l.length - 1) / 2 := ⟨_, rfl⟩
  have HE := Lib.hid HM.out.2.1
  rw [← hh] at HE
  have hd1 : ((l.length : Int) - 1).tdiv 2 = (h : Int) := by rw [Int.tdiv_eq_ediv_of_nonneg (by omega)]; omega
  have hw1 := IntWalk.i64_in (h : Int) (by omega)
  have hhl : h < l.length := by omega
  have hh0 : (0 : Int) ≤ (h : Int) := by omega
  have hh2 : (h : Int) < (l.length : Int) := by omega
  have y0 := hc h hhl
  clear hc hh HM
  generalize (srt l).getD h 0 = lo at *
  go_wp2
  go_ret2
  exact ⟨ret_ib HE.out.symm HK.out.symm, HB1.out⟩
set_option maxRecDepth 100000 in
theorem specCorrectionFor_any (l : List Int) (A : Option Addr) (c : Nat) (w : World) (hf : IntsIn w A l) (hn : l.length ≤ 1048576) :
    Calls Try.prog 42 #[.slice A l.length c] w fun e w' => e = .returned (.tuple #[.int .i64 (corV l), .bool (gaB l)]) ∧ Below w.heap.size w w' := by
  have HF := Lib.hid hf; clear hf
  go_enter Try.func42, Try.ntmps42
  go_wp2_with fail
  refine (gaGood_any l A c _ HF.out hn).mono ?_
  rintro e w' ⟨rfl, rfl⟩
  cases hg : gaB l
  · have HM := Lib.hid (spr_no hg); have HK := Lib.hid hg
    clear hg
    go_wp2
    go_ret2
    exact ⟨ret_ib HM.out.2.2.symm HK.out.symm, Below.refl _ _⟩
  have HM := Lib.hid (spr_yes hg); have HG := Lib.hid (gaB_iff.1 hg); have HK := Lib.hid hg
  have hlm := HG.out.most; have hl1 := HG.out.one
  clear hg
  go_wp2_with fail
  refine (gaSorted_any l A c _ HF.out hlm).mono ?_
  rintro e w1 ⟨v, rfl, hb1, ho⟩
  obtain ⟨A1, c1, rfl⟩ := own_form ho
  have HB1 := Lib.hid hb1
  have HSL := Lib.hid (srt_len l)
  obtain ⟨b, off, rfl, hbl, hc⟩ := row_at (own_in ho) (srt_len l) (by omega)
  rw [HSL.out]
  clear hb1 ho
  obtain ⟨h, hh⟩ : ∃ h : Nat, h = (l.length - 1) / 2 := ⟨_, rfl⟩
  obtain ⟨k, hk⟩ : ∃ k : Nat, k = l.length / 2 := ⟨_, rfl⟩
  have HE := Lib.hid HM.out.2.2
  rw [← hh, ← hk] at HE
  have hd1 : ((l.length : Int) - 1).tdiv 2 = (h : Int) := by rw [Int.tdiv_eq_ediv_of_nonneg (by omega)]; omega
  have hd2 : (l.length : Int).tdiv 2 = (k : Int) := by rw [Int.tdiv_eq_ediv_of_nonneg (by omega)]; omega
  have hw1 := IntWalk.i64_in (h : Int) (by omega)
  have hw2 := IntWalk.i64_in (k : Int) (by omega)
  have hhl : h < l.length := by omega
  have hkl : k < l.length := by omega
  have hh0 : (0 : Int) ≤ (h : Int) := by omega
  have hh2 : (h : Int) < (l.length : Int) := by omega
  have hk0 : (0 : Int) ≤ (k : Int) := by omega
  have hk2 : (k : Int) < (l.length : Int) := by omega
  have hr1 := srt_range HG.out hhl
  have hr2 := srt_range HG.out hkl
  have y0 := KeptW.cell (hc h hhl) hbl
  have y1 := KeptW.cell (hc k hkl) hbl
  clear hc hh hk HM
  generalize (srt l).getD h 0 = lo at *
  generalize (srt l).getD k 0 = hi at *
  go_wp2_with fail
  refine region_kept w1.heap.size (by kernel_rfl) (by kernel_rfl) ?_
  repeat (go_big_quiet_step (fail))
  refine wpQuiet_nil ?_
  intro w2 hbw2
  have HB2 := Lib.hid (HB1.out.trans (hbw2.mono HB1.out.size))
  clear hbw2 y0 y1
  have HCI : Hid (corI lo hi = if 0 < lo then -lo else if hi < 0 then -hi else 0) := Lib.hid rfl
  by_cases h1 : 0 < lo
  · go_wp2
    go_ret2
    exact ⟨ret_ib (by rw [HE.out, HCI.out, if_pos h1]) HK.out.symm, HB2.out⟩
  by_cases h2 : hi < 0
  · go_wp2
    go_ret2
    exact ⟨ret_ib (by rw [HE.out, HCI.out, if_neg (by omega), if_pos h2]) HK.out.symm, HB2.out⟩
  go_wp2
  go_ret2
  exact ⟨ret_ib (by rw [HE.out, HCI.out, if_neg (by omega), if_neg (by omega)]) HK.out.symm, HB2.out⟩
set_option maxRecDepth 100000 in
theorem implLeastTolerance_any (l : List Int) (A : Option Addr) (c : Nat) (a : Int) (w : World) (hf : IntsIn w A l) (hn : l.length ≤ 1048576) :
    Calls Try.prog 33 #[.slice A l.length c, .int .i64 a] w fun e w' => e = .returned (.tuple #[.int .i64 (tolV l a), .bool (askT l a)]) ∧ Below w.heap.size w w' := by
  have HF := Lib.hid hf; clear hf
  have HBX : Hid (Bx (w.alloc (.cells #[.slice A l.length c] 22)) w.heap.size A l.length c) := Lib.hid ⟨by simp, by simp⟩
  have HB0 := Lib.hid ((Below.refl w.heap.size w).alloc (Nat.le_refl _) (.cells #[.slice A l.length c] 22))
  have HF0 := Lib.hid (HF.out.below HB0.out (Nat.le_refl _))
  obtain ⟨W, hW⟩ : ∃ W, W = w.alloc (.cells #[.slice A l.length c] 22) := ⟨_, rfl⟩
  have HW := Lib.hid hW
  rw [← hW] at HBX HB0 HF0
  clear hW
  obtain ⟨hx1, hx2⟩ := HBX.out
  go_enter Try.func33, Try.ntmps33
  go_wp2_with fail
  rw [← HW.out]
  go_wp2_with fail
  refine (implIsTrial_any l A c _ HF0.out hn).mono ?_
  rintro e w' ⟨rfl, rfl⟩
  cases hg : gaB l
  · have HK : Hid (askT l a = false) := Lib.hid (by unfold askT; rw [hg]; rfl)
    clear hg
    go_wp2
    go_ret2
    exact ⟨ret_ib (tolV_no HK.out).symm HK.out.symm, HB0.out⟩
  have HGB := Lib.hid hg; clear hg
  go_wp2_with fail
  refine (isAllowedNumber_any _ _).mono ?_
  rintro e w' ⟨rfl, rfl⟩
  cases hg : inB 0 40 a
  · have HK : Hid (askT l a = false) := Lib.hid (by unfold askT; rw [hg]; simp)
    clear hg
    go_wp2
    go_ret2
    exact ⟨ret_ib (tolV_no HK.out).symm HK.out.symm, HB0.out⟩
  obtain ⟨ha1, ha2⟩ := inB_iff.1 hg
  have HK : Hid (askT l a = true) := Lib.hid (by unfold askT; rw [hg, HGB.out]; rfl)
  have HG := Lib.hid (gaB_iff.1 HGB.out)
  have hlm := HG.out.most; have hl1 := HG.out.one
  clear hg
  by_cases hal : (l.length : Int) ≤ a
  · go_wp2
    go_ret2
    exact ⟨ret_ib (tolV_all (by omega)).symm HK.out.symm, HB0.out⟩
  obtain ⟨a, rfl⟩ : ∃ a' : Nat, a = (a' : Int) := ⟨a.toNat, by omega⟩
  have HE := Lib.hid (tolV_yes HK.out (by omega))
  have HAL := Lib.hid (absL_len l)
  have HCALL : Hid (∀ W', Below W.heap.size W W' → ∀ i (h : i < (absL l).length), Calls Try.prog 63 #[.int .i64 (i : Int), .pointer (some ⟨w.heap.size, 0, none⟩)] W' fun e w' => e = .returned (.int .i64 (absL l)[i]) ∧ W' = w') := Lib.hid (fun W' hW' i hi => by
    have hi2 : i < l.length := by rw [← HAL.out]; exact hi
    have e : (absL l)[i] = absI l[i] := by simp [absL]
    rw [e]
    exact leastTol1_any l A c w.heap.size i W' (HBX.out.below hW' HBX.out.2) (HF0.out.below hW' (Nat.le_refl _)) hi2 hlm (HG.out.all i hi2))
  go_wp2_with fail
  rw [← HAL.out]
  refine (sortedTol_any (absL l) ⟨w.heap.size, 0, none⟩ _ (by rw [HAL.out]; exact hlm) HCALL.out).mono ?_
  rintro e w1 ⟨v, rfl, hb1, ho⟩
  obtain ⟨A1, c1, rfl⟩ := own_form ho
  have HB1 := Lib.hid (HB0.out.trans (hb1.mono HB0.out.size))
  have hbx := HBX.out.below hb1 HBX.out.2
  obtain ⟨hx3, hx4⟩ := hbx
  have HSL : Hid ((srt (absL l)).length = l.length) := Lib.hid (by rw [srt_len, HAL.out])
  obtain ⟨b, off, rfl, hbl, hc⟩ := row_at (own_in ho) HSL.out (by omega)
  rw [HSL.out]
  obtain ⟨h, hh⟩ : ∃ h : Nat, h = l.length - 1 - a := ⟨_, rfl⟩
  rw [← hh] at HE
  have hhw : (l.length : Int) - 1 - (a : Int) = (h : Int) := by omega
  have hhl : h < l.length := by omega
  have hh0 : (0 : Int) ≤ (h : Int) := by omega
  have hh2 : (h : Int) < (l.length : Int) := by omega
  have y0 := hc h hhl
  clear hc hh hb1 ho hx1 hx2 HCALL
  generalize (srt (absL l)).getD h 0 = q at *
  go_wp2
  go_ret2
  exact ⟨ret_ib HE.out.symm HK.out.symm, HB1.out⟩
end Go.Proofs.Ytbepgjknjopikaa

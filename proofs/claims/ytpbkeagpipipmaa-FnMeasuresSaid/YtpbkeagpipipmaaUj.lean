/-
  The contracts of BestMeasure, in spec and in impl.
-/
import Derived.Test.YtpbkeagpipipmaaUi
namespace Go.Proofs.Ytpbkeagpipipmaa
open Go.RowKit
set_option linter.unusedVariables false

set_option maxRecDepth 100000 in
set_option maxHeartbeats 1000000 in
theorem implBestMeasure_any (l : List Int) (A : Option Addr) (c : Nat) (r : Ru) (a b : Int) (w : World) (hf : IntsIn w A l) (hn : l.length ≤ 1048576) : Calls Try.prog 34 #[.slice A l.length c, .agg #[.int .i64 r.lst, .int .i64 r.nrm, .int .i64 r.mst], .int .i64 a, .int .i64 b] w fun e w' => e = .returned (.tuple #[.int .i64 (bmV l r a b), .bool (bmB l r a b)]) ∧ Below w.heap.size w w' := by
  have HF := Lib.hid hf; clear hf
  have HA : Hid (Below w.heap.size w (w.alloc (.cells #[.int .i64 r.lst, .int .i64 r.nrm, .int .i64 r.mst] 25))) := Lib.hid ((Below.refl _ _).alloc (Nat.le_refl _) _)
  have HR : Hid (RuAt (w.alloc (.cells #[.int .i64 r.lst, .int .i64 r.nrm, .int .i64 r.mst] 25)) w.heap.size 25 r) := Lib.hid (RuAt.new _ _ _)
  go_enter Try.func34, Try.ntmps34
  go_wp2_with fail
  refine (isMeasure_any a _).mono ?_
  rintro e w' ⟨rfl, rfl⟩
  cases hg1 : inB 1 2000 a
  · have HM := Lib.hid (bm_out (l := l) (r := r) (a := a) (b := b) (by unfold abB; rw [hg1]; rfl)); clear hg1
    go_wp2
    (refine bodyPost_ret (v := .tuple #[.int .i64 0, .bool false]) (by simp [results, Try.results34, go_sem]) rfl ?_; exact ⟨ret_ib HM.out.1.symm HM.out.2.symm, HA.out⟩)
  have HG1 := Lib.hid hg1; clear hg1
  go_wp2_with fail
  refine (isMeasure_any b _).mono ?_
  rintro e w' ⟨rfl, rfl⟩
  cases hg2 : inB 1 2000 b
  · have HM := Lib.hid (bm_out (l := l) (r := r) (a := a) (b := b) (by unfold abB; rw [hg2, Bool.and_false])); clear hg2
    go_wp2
    (refine bodyPost_ret (v := .tuple #[.int .i64 0, .bool false]) (by simp [results, Try.results34, go_sem]) rfl ?_; exact ⟨ret_ib HM.out.1.symm HM.out.2.symm, HA.out⟩)
  have HM := Lib.hid (bm_in (l := l) (r := r) (a := a) (b := b) (by unfold abB; rw [HG1.out, hg2]; rfl))
  obtain ⟨a1, a2⟩ := inB_iff.1 HG1.out
  obtain ⟨b1, b2⟩ := inB_iff.1 hg2
  clear hg2 HG1
  obtain ⟨N, hN⟩ : ∃ N, N = bmN a b := ⟨_, rfl⟩
  have hNv : N = (b + 1 - a).toNat := hN
  rw [← hN] at HM
  clear hN
  go_wp2
  go_loopw [10, 11, 12, 13] (fun x y z i wr => ∃ k : Nat, k ≤ N ∧ i = .int .i64 (a + (k : Int)) ∧ x = .int .i64 (bsV l r a k) ∧ y = .int .i64 (lsV l r a k) ∧ z = .bool (fdV l r a k) ∧ RuAt wr w.heap.size 25 r ∧ Below w.heap.size w wr) (fun _ _ _ i _ => ((b + 1) - intOf i).toNat)
  case atStart => exact ⟨0, by omega, by rw [show a + ((0 : Nat) : Int) = a from by omega], rfl, rfl, rfl, HR.out, HA.out⟩
  case round =>
    obtain ⟨k, hk, rfl, rfl, rfl, rfl, hr, hb⟩ := hrel
    have HRR := Lib.hid hr; have HBB := Lib.hid hb
    clear hr hb
    by_cases hlt : k < N
    · have hle : a + (k : Int) ≤ b := by omega
      obtain ⟨m0, m1, m2⟩ := HRR.out.cells
      have ml := HRR.out.lt
      go_wp2_with fail
      refine (implCostOfLine_any l A c r (a + (k : Int)) _ (HF.out.below HBB.out (Nat.le_refl _)) hn).mono ?_
      rintro e w2 ⟨rfl, hb2⟩
      have HB2 := Lib.hid (HBB.out.trans (hb2.mono HBB.out.size))
      have HR2 := Lib.hid (HRR.out.next hb2)
      clear hb2 m0 m1 m2 ml
      have HY := Lib.hid (bm_yes (l := l) (r := r) (a := a) (k := k)); have HN := Lib.hid (bm_no (l := l) (r := r) (a := a) (k := k))
      generalize hj : jsB l r (a + (k : Int)) = J at *
      generalize hf : fdV l r a k = F at *
      generalize hco : coV l r (a + (k : Int)) = C at *
      generalize hls : lsV l r a k = L at *
      cases J
      · have HE := Lib.hid (bm_keep (HN.out (.inl rfl)))
        clear HY HN
        go_wp2
        go_roundw
        case rel => exact ⟨k + 1, by omega, by go_num, by rw [HE.out.1], by rw [HE.out.2.1, hls], by rw [HE.out.2.2.1, hf], HR2.out, HB2.out⟩
        case measure => simp [intOf]; omega
      cases F
      · have HE : Hid (bmT l r a (k + 1) = (a + (k : Int), C, true)) := Lib.hid (HY.out rfl (.inl rfl))
        have HT : Hid (bsV l r a (k + 1) = a + (k : Int) ∧ lsV l r a (k + 1) = C ∧ fdV l r a (k + 1) = true) := Lib.hid (by unfold bsV lsV fdV; rw [HE.out]; exact ⟨rfl, rfl, rfl⟩)
        clear HY HN HE
        go_wp2
        go_roundw
        case rel => exact ⟨k + 1, by omega, by go_num, by rw [HT.out.1], by rw [HT.out.2.1], by rw [HT.out.2.2], HR2.out, HB2.out⟩
        case measure => simp [intOf]; omega
      by_cases hcl : C < L
      · have HE : Hid (bmT l r a (k + 1) = (a + (k : Int), C, true)) := Lib.hid (HY.out rfl (.inr hcl))
        have HT : Hid (bsV l r a (k + 1) = a + (k : Int) ∧ lsV l r a (k + 1) = C ∧ fdV l r a (k + 1) = true) := Lib.hid (by unfold bsV lsV fdV; rw [HE.out]; exact ⟨rfl, rfl, rfl⟩)
        clear HY HN HE
        go_wp2
        go_roundw
        case rel => exact ⟨k + 1, by omega, by go_num, by rw [HT.out.1], by rw [HT.out.2.1], by rw [HT.out.2.2], HR2.out, HB2.out⟩
        case measure => simp [intOf]; omega
      · have HE := Lib.hid (bm_keep (HN.out (.inr ⟨rfl, hcl⟩)))
        clear HY HN
        go_wp2
        go_roundw
        case rel => exact ⟨k + 1, by omega, by go_num, by rw [HE.out.1], by rw [HE.out.2.1, hls], by rw [HE.out.2.2.1, hf], HR2.out, HB2.out⟩
        case measure => simp [intOf]; omega
    · obtain rfl : k = N := by omega
      have hgt : ¬ a + (k : Int) ≤ b := by omega
      generalize bsV l r a k = x at *
      generalize fdV l r a k = y at *
      go_wp2
      refine bodyPost_ret (v := .tuple #[.int .i64 x, .bool y]) (by simp [results, Try.results34, go_sem]) rfl ?_
      exact ⟨ret_ib HM.out.1.symm HM.out.2.symm, HBB.out⟩
set_option maxRecDepth 100000 in
set_option maxHeartbeats 1000000 in
theorem specBestMeasure_any (l : List Int) (A : Option Addr) (c : Nat) (r : Ru) (a b : Int) (w : World) (hf : IntsIn w A l) (hn : l.length ≤ 1048576) : Calls Try.prog 35 #[.slice A l.length c, .agg #[.int .i64 r.lst, .int .i64 r.nrm, .int .i64 r.mst], .int .i64 a, .int .i64 b] w fun e w' => e = .returned (.tuple #[.int .i64 (bmV l r a b), .bool (bmB l r a b)]) ∧ Below w.heap.size w w' := by
  have HF := Lib.hid hf; clear hf
  have HA : Hid (Below w.heap.size w (w.alloc (.cells #[.int .i64 r.lst, .int .i64 r.nrm, .int .i64 r.mst] 25))) := Lib.hid ((Below.refl _ _).alloc (Nat.le_refl _) _)
  have HR : Hid (RuAt (w.alloc (.cells #[.int .i64 r.lst, .int .i64 r.nrm, .int .i64 r.mst] 25)) w.heap.size 25 r) := Lib.hid (RuAt.new _ _ _)
  go_enter Try.func35, Try.ntmps35
  go_wp2_with fail
  refine (juAsked_any l A c r a _ (HF.out.below HA.out (Nat.le_refl _)) hn).mono ?_
  rintro e w1 ⟨rfl, hb1⟩
  have HB1 := Lib.hid (HA.out.trans (hb1.mono HA.out.size))
  have HR1 := Lib.hid (HR.out.next hb1)
  clear hb1
  cases hg : askB l r a
  · have HM : Hid (bmV l r a b = 0 ∧ bmB l r a b = false) := Lib.hid (by
      unfold askB at hg
      cases h1 : lrB l r
      · exact bm_off2 h1 a b
      · rw [h1, Bool.true_and] at hg
        exact bm_out (by unfold abB; rw [hg]; rfl))
    clear hg
    go_wp2
    (refine bodyPost_ret (v := .tuple #[.int .i64 0, .bool false]) (by simp [results, Try.results35, go_sem]) rfl ?_; exact ⟨ret_ib HM.out.1.symm HM.out.2.symm, HB1.out⟩)
  obtain ⟨gl, gr, a1, a2⟩ := askB_iff.1 hg
  have HGL := Lib.hid gl; have HGR := Lib.hid gr
  clear hg gl gr
  go_wp2_with fail
  refine (juMeasure_any b _).mono ?_
  rintro e w' ⟨rfl, rfl⟩
  cases hg2 : inB 1 2000 b
  · have HM := Lib.hid (bm_out (l := l) (r := r) (a := a) (b := b) (by unfold abB; rw [hg2, Bool.and_false])); clear hg2
    go_wp2
    (refine bodyPost_ret (v := .tuple #[.int .i64 0, .bool false]) (by simp [results, Try.results35, go_sem]) rfl ?_; exact ⟨ret_ib HM.out.1.symm HM.out.2.symm, HB1.out⟩)
  have HM := Lib.hid (bm_in (l := l) (r := r) (a := a) (b := b) (by unfold abB; rw [inB_iff.2 ⟨a1, a2⟩, hg2]; rfl))
  obtain ⟨b1, b2⟩ := inB_iff.1 hg2
  clear hg2
  obtain ⟨N, hN⟩ : ∃ N, N = bmN a b := ⟨_, rfl⟩
  have hNv : N = (b + 1 - a).toNat := hN
  rw [← hN] at HM
  clear hN
  go_wp2
  go_loopw [10, 11] (fun x i wr => ∃ k : Nat, k ≤ N ∧ i = .int .i64 (a + (k : Int)) ∧ x = .int .i64 (sbV l r a k) ∧ RuAt wr w.heap.size 25 r ∧ Below w.heap.size w wr) (fun _ i _ => ((b + 1) - intOf i).toNat)
  case atStart => exact ⟨0, by omega, by rw [show a + ((0 : Nat) : Int) = a from by omega], rfl, HR1.out, HB1.out⟩
  case round =>
    obtain ⟨k, hk, rfl, rfl, hr, hb⟩ := hrel
    have HRR := Lib.hid hr; have HBB := Lib.hid hb
    clear hr hb
    by_cases hlt : k < N
    · have hle : a + (k : Int) ≤ b := by omega
      obtain ⟨k0, k1, k2⟩ := HRR.out.kept HRR.out.lt
      have hy0 : ∀ x : KeptW wr.heap.size wr, Calls Try.prog 60 #[.slice A l.length c, .agg #[.int .i64 r.lst, .int .i64 r.nrm, .int .i64 r.mst], .int .i64 (a + (k : Int))] x.at_ fun e w' => e = .returned (.int .i64 (whyV l r (a + (k : Int)))) ∧ Below x.at_.heap.size x.at_ w' := fun x =>
        juWhy_any l A c r _ x.at_ (HF.out.below (HBB.out.trans (x.below.mono HBB.out.size)) (Nat.le_refl _)) HGL.out HGR.out (by omega) (by omega)
      have HAK : Hid (askB l r (a + (k : Int)) = true) := Lib.hid (askB_iff.2 ⟨HGL.out, HGR.out, by omega, by omega⟩)
      by_cases h0 : whyV l r (a + (k : Int)) = 0
      · have HJ := Lib.hid (js_is HAK.out h0)
        rw [h0] at hy0
        have hy := hy0; clear hy0 h0 HAK
        cases hf : fdV l r a k
        · have HE := Lib.hid (bm_take (bm_yes HJ.out (.inl hf))).2.2.2
          have hsb : sbV l r a k = -1 := by unfold sbV; rw [hf]; rfl
          rw [hsb]
          clear hf hsb
          go_wp2_with fail
          refine region_kept wr.heap.size (by kernel_rfl) (by kernel_rfl) ?_
          repeat (go_big_quiet_step (fail))
          go_big_quiet_step ((go_at_call 60; exact kept_call _ (Nat.le_refl _) (hy _)))
          repeat (go_big_quiet_step (fail))
          skip
          refine wpQuiet_nil ?_
          intro w2 hb2
          have HB2 := Lib.hid (HBB.out.trans (hb2.mono HBB.out.size))
          have HR2 := Lib.hid (HRR.out.next hb2)
          clear hb2 hy k0 k1 k2 
          go_wp2
          go_roundw
          case rel => exact ⟨k + 1, by omega, by go_num, by rw [HE.out], HR2.out, HB2.out⟩
          case measure => simp [intOf]; omega
        · obtain ⟨i1, i2, i3, i4, -⟩ := bm_inv l r a k hf
          have hsb : sbV l r a k = bsV l r a k := by unfold sbV; rw [hf]; rfl
          have hc1 : ∀ x : KeptW wr.heap.size wr, Calls Try.prog 62 #[.slice A l.length c, .agg #[.int .i64 r.lst, .int .i64 r.nrm, .int .i64 r.mst], .int .i64 (a + (k : Int))] x.at_ fun e w' => e = .returned (.int .i64 (coV l r (a + (k : Int)))) ∧ Below x.at_.heap.size x.at_ w' := fun x => by
            rw [co_yes HJ.out]; exact juCost_any l A c r _ x.at_ (HF.out.below (HBB.out.trans (x.below.mono HBB.out.size)) (Nat.le_refl _)) HJ.out
          have hc2 : ∀ x : KeptW wr.heap.size wr, Calls Try.prog 62 #[.slice A l.length c, .agg #[.int .i64 r.lst, .int .i64 r.nrm, .int .i64 r.mst], .int .i64 (bsV l r a k)] x.at_ fun e w' => e = .returned (.int .i64 (lsV l r a k)) ∧ Below x.at_.heap.size x.at_ w' := fun x => by
            rw [i2, co_yes i1]; exact juCost_any l A c r _ x.at_ (HF.out.below (HBB.out.trans (x.below.mono HBB.out.size)) (Nat.le_refl _)) i1
          have HY := Lib.hid (bm_yes (k := k) HJ.out)
          have HN := Lib.hid (bm_no (l := l) (r := r) (a := a) (k := k))
          have hns : decide (bsV l r a k < 0) = false := by simp; omega
          rw [hsb]
          have HF2 := Lib.hid hf
          have HSB := Lib.hid hsb
          clear hf hsb i1 i2
          generalize hco : coV l r (a + (k : Int)) = C at *
          generalize hls : lsV l r a k = L at *
          have HCO := Lib.hid hco; have HLS := Lib.hid hls
          clear hls hco
          by_cases hcl : C < L
          · have HE : Hid (sbV l r a (k + 1) = a + (k : Int)) := Lib.hid (bm_take (by rw [HCO.out]; exact HY.out (.inr hcl))).2.2.2
            clear HY HN HF2 HSB HCO HLS
            generalize bsV l r a k = S at *
            go_wp2_with fail
            refine region_kept wr.heap.size (by kernel_rfl) (by kernel_rfl) ?_
            repeat (go_big_quiet_step (fail))
            go_big_quiet_step ((go_at_call 60; exact kept_call _ (Nat.le_refl _) (hy _)))
            repeat (go_big_quiet_step (fail))
            go_big_quiet_step ((go_at_call 62; with_reducible exact kept_call _ (Nat.le_refl _) (hc1 _)))
            repeat (go_big_quiet_step (fail))
            go_big_quiet_step ((go_at_call 62; with_reducible exact kept_call _ (Nat.le_refl _) (hc2 _)))
            repeat (go_big_quiet_step (fail))
            refine wpQuiet_nil ?_
            intro w2 hb2
            have HB2 := Lib.hid (HBB.out.trans (hb2.mono HBB.out.size))
            have HR2 := Lib.hid (HRR.out.next hb2)
            clear hb2 hy k0 k1 k2 hc1 hc2
            go_wp2
            go_roundw
            case rel => exact ⟨k + 1, by omega, by go_num, by rw [HE.out], HR2.out, HB2.out⟩
            case measure => simp [intOf]; omega
          · have HE : Hid (sbV l r a (k + 1) = bsV l r a k) := Lib.hid ((bm_keep (HN.out (.inr ⟨HF2.out, hcl⟩))).2.2.2.trans HSB.out)
            clear HY HN HF2 HSB HCO HLS
            generalize bsV l r a k = S at *
            go_wp2_with fail
            refine region_kept wr.heap.size (by kernel_rfl) (by kernel_rfl) ?_
            repeat (go_big_quiet_step (fail))
            go_big_quiet_step ((go_at_call 60; exact kept_call _ (Nat.le_refl _) (hy _)))
            repeat (go_big_quiet_step (fail))
            go_big_quiet_step ((go_at_call 62; with_reducible exact kept_call _ (Nat.le_refl _) (hc1 _)))
            repeat (go_big_quiet_step (fail))
            go_big_quiet_step ((go_at_call 62; with_reducible exact kept_call _ (Nat.le_refl _) (hc2 _)))
            repeat (go_big_quiet_step (fail))
            refine wpQuiet_nil ?_
            intro w2 hb2
            have HB2 := Lib.hid (HBB.out.trans (hb2.mono HBB.out.size))
            have HR2 := Lib.hid (HRR.out.next hb2)
            clear hb2 hy k0 k1 k2 hc1 hc2
            go_wp2
            go_roundw
            case rel => exact ⟨k + 1, by omega, by go_num, by rw [HE.out], HR2.out, HB2.out⟩
            case measure => simp [intOf]; omega
      · have HE := Lib.hid (bm_keep (bm_no (.inl (js_not2 (m := a + (k : Int)) (l := l) (r := r) h0)) : bmT l r a (k + 1) = bmT l r a k)).2.2.2
        have h1 : (whyV l r (a + (k : Int)) == 0) = false := by simp [h0]
        have hy := hy0; clear hy0 h0 HAK
        generalize whyV l r (a + (k : Int)) = V at *
        generalize sbV l r a k = S at *
        go_wp2_with fail
        refine region_kept wr.heap.size (by kernel_rfl) (by kernel_rfl) ?_
        repeat (go_big_quiet_step (fail))
        go_big_quiet_step ((go_at_call 60; exact kept_call _ (Nat.le_refl _) (hy _)))
        repeat (go_big_quiet_step (fail))
        skip
        refine wpQuiet_nil ?_
        intro w2 hb2
        have HB2 := Lib.hid (HBB.out.trans (hb2.mono HBB.out.size))
        have HR2 := Lib.hid (HRR.out.next hb2)
        clear hb2 hy k0 k1 k2 h1
        go_wp2
        go_roundw
        case rel => exact ⟨k + 1, by omega, by go_num, by rw [HE.out], HR2.out, HB2.out⟩
        case measure => simp [intOf]; omega
    · obtain rfl : k = N := by omega
      have hgt : ¬ a + (k : Int) ≤ b := by omega
      cases hf : fdV l r a k
      · have hsb : sbV l r a k = -1 := by unfold sbV; rw [hf]; rfl
        have HX : Hid (bmV l r a b = 0 ∧ bmB l r a b = false) := Lib.hid ⟨by rw [HM.out.1]; exact bs_nil k hf, by rw [HM.out.2, hf]⟩
        rw [hsb]
        clear hf hsb
        go_wp2
        refine bodyPost_ret (v := .tuple #[.int .i64 0, .bool false]) (by simp [results, Try.results35, go_sem]) rfl ?_
        exact ⟨ret_ib HX.out.1.symm HX.out.2.symm, HBB.out⟩
      · have hsb : sbV l r a k = bsV l r a k := by unfold sbV; rw [hf]; rfl
        have HX : Hid (bmB l r a b = true) := Lib.hid (by rw [HM.out.2, hf])
        have hns : ¬ bsV l r a k < 0 := by have := (bm_inv l r a k hf).2.2.1; omega
        rw [hsb]
        clear hf hsb
        generalize bsV l r a k = x at *
        go_wp2
        refine bodyPost_ret (v := .tuple #[.int .i64 x, .bool true]) (by simp [results, Try.results35, go_sem]) rfl ?_
        exact ⟨ret_ib HM.out.1.symm HX.out.symm, HBB.out⟩
end Go.Proofs.Ytpbkeagpipipmaa

/-
  The contract of slices.symMergeCmpFunc: its second way.
-/
import Derived.Test.YtdlobjjfakffaaaJf
namespace Go.Proofs.Ytdlobjjfakffaaa
open Go.RowKit
set_option linter.unusedVariables false

set_option maxRecDepth 100000 in
set_option maxHeartbeats 8000000 in
theorem symMerge_last (b N c : Nat) (a m hi : Nat) (f : Nat → Rq) (w : World) (hr : RowsF w b N f) (hN : N ≤ 1000) (hhi : hi ≤ N) (hmg : Mg a m hi f) (hone : ¬ m = a + 1) (hlast : hi = m + 1) :
    Calls Try.prog 22 #[.slice (some ⟨b, 0, none⟩) N c, .int .i64 (a : Int), .int .i64 (m : Int), .int .i64 (hi : Int), .func (.func 17) #[] #[]] w fun e w' => ∃ f', SortTo w w' b N f' e ∧ Same a hi f f' ∧ Srt a hi f' := by
  have ham := hmg.am; have hmb := hmg.mb
  have HR := Lib.hid hr; have HM := Lib.hid hmg
  clear hr hmg
  have hne1 : ((m : Int) - (a : Int) == 1) = false := by simp; omega
  have HLAST := Lib.hid hlast
  have z1 : (hi : Int) - (m : Int) = 1 := by omega
  clear hlast hone
  go_enter Try.func22, Try.ntmps22
  go_wp2
  go_loopw [14, 15] (fun vi vj wr => ∃ (i j : Nat), vi = .int .i64 (i : Int) ∧ vj = .int .i64 (j : Int) ∧ Bs a m (PL m f) i j ∧ RowsF wr b N f ∧ w.grownBy wr (some b)) (fun vi vj _ => (intOf vj - intOf vi).toNat)
  case atStart => exact ⟨a, m, rfl, rfl, Bs.start (by omega), HR.out, World.grownBy.refl _ _⟩
  case round =>
    obtain ⟨i, j, rfl, rfl, hbs, hr, hg⟩ := hrel
    have b1 := hbs.h1; have b2 := hbs.h2; have b3 := hbs.h3
    have HB := Lib.hid hbs; have HR2 := Lib.hid hr; have HG := Lib.hid hg
    clear hbs hg
    by_cases hij : i < j
    · have hiji : (i : Int) < (j : Int) := by omega
      obtain ⟨s, hs⟩ : ∃ s, s = i + j := ⟨_, rfl⟩
      obtain ⟨h, hh⟩ : ∃ h, h = s / 2 := ⟨_, rfl⟩
      have s1 : (i : Int) + (j : Int) = (s : Int) := by omega
      have s4 : (s : Int) / 2 = (h : Int) := by omega
      have hb1 : (0 : Int) ≤ (s : Int) ∧ (s : Int) < 1000000 := by omega
      have hb2 : (0 : Int) ≤ (h : Int) ∧ (h : Int) < 1000000 := by omega
      have hi1 : i ≤ h := by omega
      have hi2 : h < j := by omega
      have hhN : (h : Int) < (N : Int) := by omega
      have hhn : h < N := by omega
      have hh0 : (0 : Int) ≤ (h : Int) := by omega
      clear hs hh
      have hmN : (m : Int) < (N : Int) := by omega
      have hm0 : (0 : Int) ≤ (m : Int) := by omega
      have mN : m < N := by omega
      obtain ⟨x0, x1⟩ := HR2.out.at_ mN
      obtain ⟨y0, y1⟩ := HR2.out.at_ hhn
      have hbl := HR2.out.lt
      have k0 := KeptW.cell x0 hbl; have k1 := KeptW.cell x1 hbl; have k2 := KeptW.cell y0 hbl; have k3 := KeptW.cell y1 hbl
      clear x0 x1 y0 y1
      obtain ⟨q, hq⟩ : ∃ q, cmpI (f h).v (f m).v = q := ⟨_, rfl⟩
      have HQ := Lib.hid hq
      by_cases hls : (f h).v < (f m).v
      · have hqn : q < 0 := (by rw [← hq]; exact cmp_neg.2 hls); have hqd : decide (q < 0) = true := decide_eq_true hqn
        have HB2 : Hid (Bs a m (PL m f) i h) := Lib.hid (HB.out.left (by have e := HLAST.out; subst e; exact pl_mono HM.out) hi1 hi2 hls)
        clear hq hls
        go_wp2_with fail
        refine region_kept wr.heap.size (by kernel_rfl) (by kernel_rfl) ?_
        repeat (go_big_quiet_step (fail))
        go_big_quiet_step ((go_at_call 17; exact kept_call _ (Nat.le_refl _) (rowCmp_is (f m) (f h) q _ HQ)))
        repeat (go_big_quiet_step (fail))
        refine wpQuiet_nil ?_
        intro w3 hb3
        have HR3 := Lib.hid (HR2.out.below hb3)
        have HG3 := Lib.hid (grown_below HG.out hb3)
        clear k0 k1 k2 k3 hb3
        go_wp2
        go_roundw
        case rel => exact ⟨i, h, rfl, rfl, HB2.out, HR3.out, HG3.out⟩
        case measure => simp [intOf]; omega
      · have hqn : ¬ q < 0 := (by rw [← hq]; exact fun h => hls (cmp_neg.1 h)); have hqd : decide (q < 0) = false := decide_eq_false hqn
        have HB2 : Hid (Bs a m (PL m f) (h + 1) j) := Lib.hid (HB.out.right (by have e := HLAST.out; subst e; exact pl_mono HM.out) hi1 hi2 hls)
        clear hq hls
        go_wp2_with fail
        refine region_kept wr.heap.size (by kernel_rfl) (by kernel_rfl) ?_
        repeat (go_big_quiet_step (fail))
        go_big_quiet_step ((go_at_call 17; exact kept_call _ (Nat.le_refl _) (rowCmp_is (f m) (f h) q _ HQ)))
        repeat (go_big_quiet_step (fail))
        refine wpQuiet_nil ?_
        intro w3 hb3
        have HR3 := Lib.hid (HR2.out.below hb3)
        have HG3 := Lib.hid (grown_below HG.out hb3)
        clear k0 k1 k2 k3 hb3
        go_wp2
        go_roundw
        case rel => exact ⟨h + 1, j, by go_num, rfl, HB2.out, HR3.out, HG3.out⟩
        case measure => simp [intOf]; omega
    · obtain rfl : i = j := by omega
      have hiji : ¬ (i : Int) < (i : Int) := by omega
      have hSRT : Srt a hi (roF i m (m + 1) f) := by have e := HLAST.out; subst e; exact mg_last HM.out HB.out
      have HSRT := Lib.hid hSRT
      clear hSRT hiji hij
      go_wp2
      go_loopw [17] (fun vk wr2 => ∃ k : Nat, i ≤ k ∧ k ≤ m ∧ vk = .int .i64 (k : Int) ∧ RowsF wr2 b N (roF k m (m + 1) f) ∧ w.grownBy wr2 (some b)) (fun vk _ => (intOf vk).toNat)
      case atStart => exact ⟨m, by omega, Nat.le_refl _, rfl, by rw [ro_id (.inl rfl) (by omega) (by omega)]; exact HR2.out, HG.out⟩
      case round =>
        obtain ⟨k, hki, hkm, rfl, hr, hg⟩ := hrel
        have HR5 := Lib.hid hr; have HG5 := Lib.hid hg
        clear hr hg HR2 HG
        by_cases hlt : i < k
        · have hki1 : (i : Int) < (k : Int) := by omega
          obtain ⟨y, hy⟩ : ∃ y, y = k - 1 := ⟨_, rfl⟩
          have HY : Hid (k = y + 1) := Lib.hid (by omega)
          have e2 : (k : Int) - 1 = (y : Int) := by omega
          have e3 : IntKind.i64.wrap (y : Int) = (y : Int) := i64_id _ (by omega)
          have hyN : (y : Int) < (N : Int) := by omega
          have hkN : (k : Int) < (N : Int) := by omega
          have hy0 : (0 : Int) ≤ (y : Int) := by omega
          have hk0 : (0 : Int) ≤ (k : Int) := by omega
          have yk : y < k := by omega
          have hyi : i ≤ y := by omega
          have HE : Hid (swF k y (roF k m (m + 1) f) = roF y m (m + 1) f) := Lib.hid (by have e := HY.out; subst e; exact ro_dn (by omega) f)
          clear hy
          obtain ⟨x0, x1⟩ := HR5.out.at_ (show k < N by omega)
          obtain ⟨y0, y1⟩ := HR5.out.at_ (show y < N by omega)
          have f0 := HR5.out.free (k * 2); have f1 := HR5.out.free (k * 2 + 1); have f2 := HR5.out.free (y * 2); have f3 := HR5.out.free (y * 2 + 1)
          have n1 : ¬ y * 2 + 1 = k * 2 + 1 := by omega
          have n2 : ¬ y * 2 = k * 2 := by omega
          have n3 : ¬ y * 2 + 1 = k * 2 := by omega
          have n4 : ¬ y * 2 = k * 2 + 1 := by omega
          have n5 : ¬ k * 2 + 1 = y * 2 + 1 := by omega
          have n6 : ¬ k * 2 = y * 2 := by omega
          have n7 : ¬ k * 2 + 1 = y * 2 := by omega
          have n8 : ¬ k * 2 = y * 2 + 1 := by omega
          generalize roF k m (m + 1) f = G at *
          go_wp2_with fail
          go_region
          all_goals
            go_wp2
            go_roundw
            case rel => exact ⟨y, hyi, by omega, rfl, by rw [← HE.out]; exact (swapped HR5.out HG5.out k y).1.drew, grown_drew (swapped HR5.out HG5.out k y).2⟩
            case measure => simp [intOf]; omega
        · have hki1 : ¬ (i : Int) < (k : Int) := by omega
          have HK : Hid (k = i) := Lib.hid (by omega)
          go_wp2
          ((try simp only [Exit.inBlock, Exit.then]); refine bodyPost_ret (results_none rfl _ _ _) rfl ?_)
          exact ⟨roF i m (m + 1) f, ⟨rfl, by have h := HR5.out; rw [HK.out] at h; exact h, HG5.out⟩, (ro_same f (by omega) (by omega)).wide (by omega) (by have := HLAST.out; omega), HSRT.out⟩
end Go.Proofs.Ytdlobjjfakffaaa

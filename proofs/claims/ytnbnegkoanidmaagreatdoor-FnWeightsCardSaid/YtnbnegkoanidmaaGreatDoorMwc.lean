import Derived.Test.YtnbnegkoanidmaaGreatDoorMwb
import Derived.Deep.DeepCutAuto
import Derived.Deep.CutRange
/-
  The contract of slices.symMergeCmpFunc at two sorted ranges of rows, those of the right one with greater indices.
-/
namespace Go.Proofs.YtnbnegkoanidmaaGreatDoor
open Go.RowKit
set_option linter.unusedVariables false

theorem ro_up {a k : Nat} (h : a ≤ k) (f : Nat → Rq) : swF k (k + 1) (roF a (a + 1) (k + 1) f) = roF a (a + 1) (k + 1 + 1) f := by
  funext x
  unfold swF
  by_cases h1 : x = k
  · rw [if_pos h1, ro_out f (by omega) (by omega) (.inr (by omega)), ro_first f (by omega) (by omega)]; congr 1; omega
  · by_cases h2 : x = k + 1
    · rw [if_neg h1, if_pos h2, ro_second f (by omega) (by omega), ro_second f (by omega) (by omega)]; congr 1; omega
    · rw [if_neg h1, if_neg h2]
      by_cases h3 : a ≤ x ∧ x < k
      · rw [ro_first f h3.1 (by omega), ro_first f h3.1 (by omega)]
      · rw [ro_out f (by omega) (by omega) (by omega), ro_out f (by omega) (by omega) (by omega)]
theorem ro_dn {m k : Nat} (h : k < m) (f : Nat → Rq) : swF (k + 1) k (roF (k + 1) m (m + 1) f) = roF k m (m + 1) f := by
  funext x
  unfold swF
  by_cases h1 : x = k + 1
  · rw [if_pos h1, ro_out f (by omega) (by omega) (.inl (by omega)), ro_second f (by omega) (by omega)]; congr 1; omega
  · by_cases h2 : x = k
    · rw [if_neg h1, if_pos h2, ro_first f (by omega) (by omega), ro_first f (by omega) (by omega)]; congr 1; omega
    · rw [if_neg h1, if_neg h2]
      by_cases h3 : k + 1 < x ∧ x ≤ m
      · rw [ro_second f (by omega) (by omega), ro_second f (by omega) (by omega)]
      · rw [ro_out f (by omega) (by omega) (by omega), ro_out f (by omega) (by omega) (by omega)]
theorem w64_id (x : Int) (h : 0 ≤ x ∧ x < 1000000) : wrap64 x = x := by unfold wrap64; omega
theorem i64_id (x : Int) (h : 0 ≤ x ∧ x < 1000000) : IntKind.i64.wrap x = x := by rw [IntKind.wrap_i64]; omega
theorem u64_id (x : Int) (h : 0 ≤ x ∧ x < 1000000) : IntKind.u64.wrap x = x := by
  rw [show IntKind.u64.wrap x = x % 18446744073709551616 from by simp [IntKind.wrap, IntKind.bits, IntKind.signed]]
  omega
set_option maxRecDepth 100000 in
set_option maxHeartbeats 8000000 in
theorem symMerge_first (b N c : Nat) (a m hi : Nat) (f : Nat → Rq) (w : World) (hr : RowsF w b N f) (hN : N ≤ 1000) (hhi : hi ≤ N) (hmg : Mg a m hi f) (hone : m = a + 1) :
    Calls Tryz.prog 81 #[.slice (some ⟨b, 0, none⟩) N c, .int .i64 (a : Int), .int .i64 (m : Int), .int .i64 (hi : Int), .func (.func 47) #[] #[]] w fun e w' => ∃ f', SortTo w w' b N f' e ∧ Same a hi f f' ∧ Srt a hi f' := by
  have ham := hmg.am; have hmb := hmg.mb
  have HR := Lib.hid hr; have HM := Lib.hid hmg
  clear hr hmg
  have HONE := Lib.hid hone
  have z1 : (m : Int) - (a : Int) = 1 := by omega
  clear hone
  go_enter Tryz.func81, Tryz.ntmps81
  go_wp2
  go_loopw [10, 11] (fun vi vj wr => ∃ (i j : Nat), vi = .int .i64 (i : Int) ∧ vj = .int .i64 (j : Int) ∧ Bs m hi (PF a f) i j ∧ RowsF wr b N f ∧ w.grownBy wr (some b)) (fun vi vj _ => (intOf vj - intOf vi).toNat)
  case atStart => exact ⟨m, hi, rfl, rfl, Bs.start (by omega), HR.out, World.grownBy.refl _ _⟩
  case round =>
    obtain ⟨i, j, rfl, rfl, hbs, hr, hg⟩ := hrel
    have b1 := hbs.h1; have b2 := hbs.h2; have b3 := hbs.h3
    have HB := Lib.hid hbs; have HR2 := Lib.hid hr; have HG := Lib.hid hg
    clear hbs hg
    by_cases hij : i < j
    · have hiji : (i : Int) < (j : Int) := by omega
      obtain ⟨s, hs⟩ : ∃ s, s = i + j := ⟨_, rfl⟩
      obtain ⟨h, hh⟩ : ∃ h, h = s / 2 := ⟨_, rfl⟩
      have s1 : (i : Int) + (j : Int) = (s : Int) := by omega
      have s4 : (s : Int) / 2 = (h : Int) := by omega
      have hb1 : (0 : Int) ≤ (s : Int) ∧ (s : Int) < 1000000 := by omega
      have hb2 : (0 : Int) ≤ (h : Int) ∧ (h : Int) < 1000000 := by omega
      have hi1 : i ≤ h := by omega
      have hi2 : h < j := by omega
      have hhN : (h : Int) < (N : Int) := by omega
      have hhn : h < N := by omega
      have hh0 : (0 : Int) ≤ (h : Int) := by omega
      clear hs hh
      have haN : (a : Int) < (N : Int) := by omega
      have ha0 : (0 : Int) ≤ (a : Int) := by omega
      have aN : a < N := by omega
      obtain ⟨x0, x1⟩ := HR2.out.at_ hhn
      obtain ⟨y0, y1⟩ := HR2.out.at_ aN
      have hbl := HR2.out.lt
      have k0 := KeptW.cell x0 hbl; have k1 := KeptW.cell x1 hbl; have k2 := KeptW.cell y0 hbl; have k3 := KeptW.cell y1 hbl
      clear x0 x1 y0 y1
      obtain ⟨q, hq⟩ : ∃ q, cmpI (f a).v (f h).v = q := ⟨_, rfl⟩
      have HQ := Lib.hid hq
      by_cases hls : (f a).v < (f h).v
      · have hqn : q < 0 := by rw [← hq]; exact cmp_neg.2 hls
        have HB2 : Hid (Bs m hi (PF a f) (h + 1) j) := Lib.hid (HB.out.right (by have e := HONE.out; subst e; exact pf_mono HM.out) hi1 hi2 (fun hp => hp hls))
        clear hq hls
        go_wp2_with fail
        refine region_kept wr.heap.size (by kernel_rfl) (by kernel_rfl) ?_
        repeat (go_big_quiet_step (fail))
        go_big_quiet_step ((go_at_call 47; exact kept_call _ (Nat.le_refl _) (rowCmp_is (f h) (f a) q _ HQ)))
        repeat (go_big_quiet_step (fail))
        refine wpQuiet_nil ?_
        intro w3 hb3
        have HR3 := Lib.hid (HR2.out.below hb3)
        have HG3 := Lib.hid (grown_below HG.out hb3)
        clear k0 k1 k2 k3 hb3
        go_wp2
        go_roundw
        case rel => exact ⟨h + 1, j, by go_num, rfl, HB2.out, HR3.out, HG3.out⟩
        case measure => simp [intOf]; omega
      · have hqn : ¬ q < 0 := by rw [← hq]; exact fun h => hls (cmp_neg.1 h)
        have HB2 : Hid (Bs m hi (PF a f) i h) := Lib.hid (HB.out.left (by have e := HONE.out; subst e; exact pf_mono HM.out) hi1 hi2 hls)
        clear hq hls
        go_wp2_with fail
        refine region_kept wr.heap.size (by kernel_rfl) (by kernel_rfl) ?_
        repeat (go_big_quiet_step (fail))
        go_big_quiet_step ((go_at_call 47; exact kept_call _ (Nat.le_refl _) (rowCmp_is (f h) (f a) q _ HQ)))
        repeat (go_big_quiet_step (fail))
        refine wpQuiet_nil ?_
        intro w3 hb3
        have HR3 := Lib.hid (HR2.out.below hb3)
        have HG3 := Lib.hid (grown_below HG.out hb3)
        clear k0 k1 k2 k3 hb3
        go_wp2
        go_roundw
        case rel => exact ⟨i, h, rfl, rfl, HB2.out, HR3.out, HG3.out⟩
        case measure => simp [intOf]; omega
    · obtain rfl : i = j := by omega
      have hiji : ¬ (i : Int) < (i : Int) := by omega
      have hSRT : Srt a hi (roF a m i f) := by have e := HONE.out; subst e; exact mg_first HM.out HB.out
      have HSRT := Lib.hid hSRT
      clear hSRT hiji hij
      go_wp2
      go_loopw [13] (fun vk wr2 => ∃ k : Nat, a ≤ k ∧ k + 1 ≤ i ∧ vk = .int .i64 (k : Int) ∧ RowsF wr2 b N (roF a m (k + 1) f) ∧ w.grownBy wr2 (some b)) (fun vk _ => i - (intOf vk).toNat)
      case atStart => exact ⟨a, Nat.le_refl _, by omega, rfl, by rw [ro_id (.inr HONE.out) (by omega) (by omega)]; exact HR2.out, HG.out⟩
      case round =>
        obtain ⟨k, hka, hki, rfl, hr, hg⟩ := hrel
        have HR5 := Lib.hid hr; have HG5 := Lib.hid hg
        clear hr hg HR2 HG
        obtain ⟨p, hp⟩ : ∃ p, p = i - 1 := ⟨_, rfl⟩
        have e1 : (i : Int) - 1 = (p : Int) := by omega
        by_cases hlt : k < p
        · have hki1 : (k : Int) < (p : Int) := by omega
          obtain ⟨y, hy⟩ : ∃ y, y = k + 1 := ⟨_, rfl⟩
          have HY := Lib.hid hy
          have e2 : (k : Int) + 1 = (y : Int) := by omega
          have e3 : IntKind.i64.wrap (y : Int) = (y : Int) := i64_id _ (by omega)
          have hyN : (y : Int) < (N : Int) := by omega
          have hkN : (k : Int) < (N : Int) := by omega
          have hy0 : (0 : Int) ≤ (y : Int) := by omega
          have hk0 : (0 : Int) ≤ (k : Int) := by omega
          have yk : k < y := by omega
          have hyi : y + 1 ≤ i := by omega
          have HE : Hid (swF k y (roF a m (k + 1) f) = roF a m (y + 1) f) := Lib.hid (by have e := HONE.out; subst e; rw [hy]; exact ro_up hka f)
          clear hp hy
          obtain ⟨x0, x1⟩ := HR5.out.at_ (show k < N by omega)
          obtain ⟨y0, y1⟩ := HR5.out.at_ (show y < N by omega)
          have f0 := HR5.out.free (k * 2); have f1 := HR5.out.free (k * 2 + 1); have f2 := HR5.out.free (y * 2); have f3 := HR5.out.free (y * 2 + 1)
          have n1 : ¬ k * 2 + 1 = y * 2 + 1 := by omega
          have n2 : ¬ k * 2 = y * 2 := by omega
          have n3 : ¬ k * 2 + 1 = y * 2 := by omega
          have n4 : ¬ k * 2 = y * 2 + 1 := by omega
          have n5 : ¬ y * 2 + 1 = k * 2 + 1 := by omega
          have n6 : ¬ y * 2 = k * 2 := by omega
          have n7 : ¬ y * 2 + 1 = k * 2 := by omega
          have n8 : ¬ y * 2 = k * 2 + 1 := by omega
          generalize roF a m (k + 1) f = G at *
          go_wp2_with fail
          go_region
          all_goals
            go_wp2
            go_roundw
            case rel => exact ⟨y, by omega, hyi, rfl, by rw [← HE.out]; exact (swapped HR5.out HG5.out k y).1.drew, grown_drew (swapped HR5.out HG5.out k y).2⟩
            case measure => simp [intOf]; omega
        · have hki1 : ¬ (k : Int) < (p : Int) := by omega
          have HK : Hid (k + 1 = i) := Lib.hid (by omega)
          clear hp
          go_wp2
          ((try simp only [Exit.inBlock, Exit.then]); refine bodyPost_ret (results_none rfl _ _ _) rfl ?_)
          exact ⟨roF a m i f, ⟨rfl, by have h := HR5.out; rw [HK.out] at h; exact h, HG5.out⟩, (ro_same f (by omega) (by omega)).wide (Nat.le_refl _) (by omega), HSRT.out⟩
end Go.Proofs.YtnbnegkoanidmaaGreatDoor

/-
  The contract of slices.symMergeCmpFunc: its second way.
-/
namespace Go.Proofs.YtnbnegkoanidmaaGreatDoor
open Go.RowKit
set_option linter.unusedVariables false

set_option maxRecDepth 100000 in
set_option maxHeartbeats 8000000 in
theorem symMerge_last (b N c : Nat) (a m hi : Nat) (f : Nat → Rq) (w : World) (hr : RowsF w b N f) (hN : N ≤ 1000) (hhi : hi ≤ N) (hmg : Mg a m hi f) (hone : ¬ m = a + 1) (hlast : hi = m + 1) :
    Calls Tryz.prog 81 #[.slice (some ⟨b, 0, none⟩) N c, .int .i64 (a : Int), .int .i64 (m : Int), .int .i64 (hi : Int), .func (.func 47) #[] #[]] w fun e w' => ∃ f', SortTo w w' b N f' e ∧ Same a hi f f' ∧ Srt a hi f' := by
  have ham := hmg.am; have hmb := hmg.mb
  have HR := Lib.hid hr; have HM := Lib.hid hmg
  clear hr hmg
  have hne1 : ((m : Int) - (a : Int) == 1) = false := by simp; omega
  have HLAST := Lib.hid hlast
  have z1 : (hi : Int) - (m : Int) = 1 := by omega
  clear hlast hone
  go_enter Tryz.func81, Tryz.ntmps81
  go_wp2
  go_loopw [14, 15] (fun vi vj wr => ∃ (i j : Nat), vi = .int .i64 (i : Int) ∧ vj = .int .i64 (j : Int) ∧ Bs a m (PL m f) i j ∧ RowsF wr b N f ∧ w.grownBy wr (some b)) (fun vi vj _ => (intOf vj - intOf vi).toNat)
  case atStart => exact ⟨a, m, rfl, rfl, Bs.start (by omega), HR.out, World.grownBy.refl _ _⟩
  case round =>
    obtain ⟨i, j, rfl, rfl, hbs, hr, hg⟩ := hrel
    have b1 := hbs.h1; have b2 := hbs.h2; have b3 := hbs.h3
    have HB := Lib.hid hbs; have HR2 := Lib.hid hr; have HG := Lib.hid hg
    clear hbs hg
    by_cases hij : i < j
    · have hiji : (i : Int) < (j : Int) := by omega
      obtain ⟨s, hs⟩ : ∃ s, s = i + j := ⟨_, rfl⟩
      obtain ⟨h, hh⟩ : ∃ h, h = s / 2 := ⟨_, rfl⟩
      have s1 : (i : Int) + (j : Int) = (s : Int) := by omega
      have s4 : (s : Int) / 2 = (h : Int) := by omega
      have hb1 : (0 : Int) ≤ (s : Int) ∧ (s : Int) < 1000000 := by omega
      have hb2 : (0 : Int) ≤ (h : Int) ∧ (h : Int) < 1000000 := by omega
      have hi1 : i ≤ h := by omega
      have hi2 : h < j := by omega
      have hhN : (h : Int) < (N : Int) := by omega
      have hhn : h < N := by omega
      have hh0 : (0 : Int) ≤ (h : Int) := by omega
      clear hs hh
      have hmN : (m : Int) < (N : Int) := by omega
      have hm0 : (0 : Int) ≤ (m : Int) := by omega
      have mN : m < N := by omega
      obtain ⟨x0, x1⟩ := HR2.out.at_ mN
      obtain ⟨y0, y1⟩ := HR2.out.at_ hhn
      have hbl := HR2.out.lt
      have k0 := KeptW.cell x0 hbl; have k1 := KeptW.cell x1 hbl; have k2 := KeptW.cell y0 hbl; have k3 := KeptW.cell y1 hbl
      clear x0 x1 y0 y1
      obtain ⟨q, hq⟩ : ∃ q, cmpI (f h).v (f m).v = q := ⟨_, rfl⟩
      have HQ := Lib.hid hq
      by_cases hls : (f h).v < (f m).v
      · have hqn : q < 0 := (by rw [← hq]; exact cmp_neg.2 hls); have hqd : decide (q < 0) = true := decide_eq_true hqn
        have HB2 : Hid (Bs a m (PL m f) i h) := Lib.hid (HB.out.left (by have e := HLAST.out; subst e; exact pl_mono HM.out) hi1 hi2 hls)
        clear hq hls
        go_wp2_with fail
        refine region_kept wr.heap.size (by kernel_rfl) (by kernel_rfl) ?_
        repeat (go_big_quiet_step (fail))
        go_big_quiet_step ((go_at_call 47; exact kept_call _ (Nat.le_refl _) (rowCmp_is (f m) (f h) q _ HQ)))
        repeat (go_big_quiet_step (fail))
        refine wpQuiet_nil ?_
        intro w3 hb3
        have HR3 := Lib.hid (HR2.out.below hb3)
        have HG3 := Lib.hid (grown_below HG.out hb3)
        clear k0 k1 k2 k3 hb3
        go_wp2
        go_roundw
        case rel => exact ⟨i, h, rfl, rfl, HB2.out, HR3.out, HG3.out⟩
        case measure => simp [intOf]; omega
      · have hqn : ¬ q < 0 := (by rw [← hq]; exact fun h => hls (cmp_neg.1 h)); have hqd : decide (q < 0) = false := decide_eq_false hqn
        have HB2 : Hid (Bs a m (PL m f) (h + 1) j) := Lib.hid (HB.out.right (by have e := HLAST.out; subst e; exact pl_mono HM.out) hi1 hi2 hls)
        clear hq hls
        go_wp2_with fail
        refine region_kept wr.heap.size (by kernel_rfl) (by kernel_rfl) ?_
        repeat (go_big_quiet_step (fail))
        go_big_quiet_step ((go_at_call 47; exact kept_call _ (Nat.le_refl _) (rowCmp_is (f m) (f h) q _ HQ)))
        repeat (go_big_quiet_step (fail))
        refine wpQuiet_nil ?_
        intro w3 hb3
        have HR3 := Lib.hid (HR2.out.below hb3)
        have HG3 := Lib.hid (grown_below HG.out hb3)
        clear k0 k1 k2 k3 hb3
        go_wp2
        go_roundw
        case rel => exact ⟨h + 1, j, by go_num, rfl, HB2.out, HR3.out, HG3.out⟩
        case measure => simp [intOf]; omega
    · obtain rfl : i = j := by omega
      have hiji : ¬ (i : Int) < (i : Int) := by omega
      have hSRT : Srt a hi (roF i m (m + 1) f) := by have e := HLAST.out; subst e; exact mg_last HM.out HB.out
      have HSRT := Lib.hid hSRT
      clear hSRT hiji hij
      go_wp2
      go_loopw [17] (fun vk wr2 => ∃ k : Nat, i ≤ k ∧ k ≤ m ∧ vk = .int .i64 (k : Int) ∧ RowsF wr2 b N (roF k m (m + 1) f) ∧ w.grownBy wr2 (some b)) (fun vk _ => (intOf vk).toNat)
      case atStart => exact ⟨m, by omega, Nat.le_refl _, rfl, by rw [ro_id (.inl rfl) (by omega) (by omega)]; exact HR2.out, HG.out⟩
      case round =>
        obtain ⟨k, hki, hkm, rfl, hr, hg⟩ := hrel
        have HR5 := Lib.hid hr; have HG5 := Lib.hid hg
        clear hr hg HR2 HG
        by_cases hlt : i < k
        · have hki1 : (i : Int) < (k : Int) := by omega
          obtain ⟨y, hy⟩ : ∃ y, y = k - 1 := ⟨_, rfl⟩
          have HY : Hid (k = y + 1) := Lib.hid (by omega)
          have e2 : (k : Int) - 1 = (y : Int) := by omega
          have e3 : IntKind.i64.wrap (y : Int) = (y : Int) := i64_id _ (by omega)
          have hyN : (y : Int) < (N : Int) := by omega
          have hkN : (k : Int) < (N : Int) := by omega
          have hy0 : (0 : Int) ≤ (y : Int) := by omega
          have hk0 : (0 : Int) ≤ (k : Int) := by omega
          have yk : y < k := by omega
          have hyi : i ≤ y := by omega
          have HE : Hid (swF k y (roF k m (m + 1) f) = roF y m (m + 1) f) := Lib.hid (by have e := HY.out; subst e; exact ro_dn (by omega) f)
          clear hy
          obtain ⟨x0, x1⟩ := HR5.out.at_ (show k < N by omega)
          obtain ⟨y0, y1⟩ := HR5.out.at_ (show y < N by omega)
          have f0 := HR5.out.free (k * 2); have f1 := HR5.out.free (k * 2 + 1); have f2 := HR5.out.free (y * 2); have f3 := HR5.out.free (y * 2 + 1)
          have n1 : ¬ y * 2 + 1 = k * 2 + 1 := by omega
          have n2 : ¬ y * 2 = k * 2 := by omega
          have n3 : ¬ y * 2 + 1 = k * 2 := by omega
          have n4 : ¬ y * 2 = k * 2 + 1 := by omega
          have n5 : ¬ k * 2 + 1 = y * 2 + 1 := by omega
          have n6 : ¬ k * 2 = y * 2 := by omega
          have n7 : ¬ k * 2 + 1 = y * 2 := by omega
          have n8 : ¬ k * 2 = y * 2 + 1 := by omega
          generalize roF k m (m + 1) f = G at *
          go_wp2_with fail
          go_region
          all_goals
            go_wp2
            go_roundw
            case rel => exact ⟨y, hyi, by omega, rfl, by rw [← HE.out]; exact (swapped HR5.out HG5.out k y).1.drew, grown_drew (swapped HR5.out HG5.out k y).2⟩
            case measure => simp [intOf]; omega
        · have hki1 : ¬ (i : Int) < (k : Int) := by omega
          have HK : Hid (k = i) := Lib.hid (by omega)
          go_wp2
          ((try simp only [Exit.inBlock, Exit.then]); refine bodyPost_ret (results_none rfl _ _ _) rfl ?_)
          exact ⟨roF i m (m + 1) f, ⟨rfl, by have h := HR5.out; rw [HK.out] at h; exact h, HG5.out⟩, (ro_same f (by omega) (by omega)).wide (by omega) (by have := HLAST.out; omega), HSRT.out⟩
end Go.Proofs.YtnbnegkoanidmaaGreatDoor

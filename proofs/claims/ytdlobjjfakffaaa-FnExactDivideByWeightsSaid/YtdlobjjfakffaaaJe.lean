/-
  The contract of slices.insertionSortCmpFunc at rows that stand in the order of their indices.
-/
import Derived.Test.YtdlobjjfakffaaaJd
namespace Go.Proofs.Ytdlobjjfakffaaa
open Go.RowKit
set_option linter.unusedVariables false

set_option maxRecDepth 100000 in
set_option maxHeartbeats 4000000 in
theorem insertion_any (b N c : Nat) (a hi : Nat) (f : Nat → Rq) (w : World) (h : RowsF w b N f) (hN : N ≤ 1000) (h1 : a ≤ hi) (h2 : hi ≤ N) (hasc : Asc a hi f) :
    Calls Try.prog 21 #[.slice (some ⟨b, 0, none⟩) N c, .int .i64 (a : Int), .int .i64 (hi : Int), .func (.func 17) #[] #[]] w fun e w' => ∃ f', SortTo w w' b N f' e ∧ Same a hi f f' ∧ Srt a hi f' := by
  have HR := Lib.hid h; have HASC := Lib.hid hasc; clear h hasc
  go_enter Try.func21, Try.ntmps21
  go_wp2
  go_loopw [8] (fun vi wr => ∃ (i t : Nat) (F : Nat → Rq), vi = .int .i64 (i : Int) ∧ (a < i ∧ i ≤ hi + 1 ∧ t ≤ hi ∧ (t = i ∨ (hi = a ∧ t = a))) ∧ Out a t f F ∧ RowsF wr b N F ∧ w.grownBy wr (some b)) (fun vi _ => (hi + 1) - (intOf vi).toNat)
  case atStart =>
    by_cases e : hi = a
    · exact ⟨a + 1, a, f, by go_num, by omega, ⟨Same.refl _ _ _, fun k l h1 h2 h3 => by omega⟩, HR.out, World.grownBy.refl _ _⟩
    · exact ⟨a + 1, a + 1, f, by go_num, by omega, ⟨Same.refl _ _ _, fun k l h1 h2 h3 => by omega⟩, HR.out, World.grownBy.refl _ _⟩
  case round =>
    obtain ⟨i, t, F, rfl, ⟨i1, i2, i3, i4⟩, hout, hr, hg⟩ := hrel
    have HO := Lib.hid hout; have HRR := Lib.hid hr; have HG := Lib.hid hg
    clear hout hr hg
    by_cases hlt : i < hi
    · have hti : t = i := by omega
      have HT := Lib.hid hti
      have hlti : (i : Int) < (hi : Int) := by omega
      have HI0 : Hid (Inn a i i F) := Lib.hid (by have := HO.out; rw [hti] at this; exact this.start HASC.out hlt (by omega))
      have HS0 : Hid (Same a (i + 1) f F) := Lib.hid (by have := HO.out.same; rw [hti] at this; exact this.wide (Nat.le_refl _) (by omega))
      clear hti i4 i3
      go_wp2
      go_loopw [9] (fun vj wr2 => ∃ (j : Nat) (F : Nat → Rq), vj = .int .i64 (j : Int) ∧ Inn a i j F ∧ Same a (i + 1) f F ∧ RowsF wr2 b N F ∧ w.grownBy wr2 (some b)) (fun vj _ => (intOf vj).toNat)
      case atStart => exact ⟨i, F, rfl, HI0.out, HS0.out, HRR.out, HG.out⟩
      case round =>
        obtain ⟨j, F2, rfl, hinn, hsame, hr, hg⟩ := hrel
        have hja := hinn.lo; have hji := hinn.hi
        have HI := Lib.hid hinn; have HS := Lib.hid hsame; have HR2 := Lib.hid hr; have HG2 := Lib.hid hg
        clear hinn hsame hg HI0 HS0
        by_cases hjt : a < j
        · obtain ⟨p, hp⟩ : ∃ p, p = j - 1 := ⟨_, rfl⟩
          have HP : Hid (j = p + 1) := Lib.hid (by omega)
          have hgt : (a : Int) < (j : Int) := by omega
          have e1 : (j : Int) - 1 = (p : Int) := by omega
          have w1 : IntKind.i64.wrap (p : Int) = (p : Int) := by rw [IntKind.wrap_i64]; omega
          have w2 : wrap64 (p : Int) = (p : Int) := by unfold wrap64; omega
          have hpj : p < j := by omega
          have hap : a ≤ p := by omega
          have hpN : (p : Int) < (N : Int) := by omega
          have hjN : (j : Int) < (N : Int) := by omega
          have hp0 : (0 : Int) ≤ (p : Int) := by omega
          have hj0 : (0 : Int) ≤ (j : Int) := by omega
          clear hp
          have hbl := hr.lt
          obtain ⟨x0, x1⟩ := hr.at_ (show j < N by omega)
          obtain ⟨y0, y1⟩ := hr.at_ (show p < N by omega)
          have k0 := KeptW.cell x0 hbl; have k1 := KeptW.cell x1 hbl; have k2 := KeptW.cell y0 hbl; have k3 := KeptW.cell y1 hbl
          clear x0 x1 y0 y1 hr
          obtain ⟨q, hq⟩ : ∃ q, cmpI (F2 p).v (F2 j).v = q := ⟨_, rfl⟩
          have HQ := Lib.hid hq
          by_cases hls : (F2 p).v < (F2 j).v
          · have hqn : q < 0 := by rw [← hq]; exact cmp_neg.2 hls
            have HL := Lib.hid hls
            clear hq hls
            go_wp2_with fail
            refine region_kept wr.heap.size (by kernel_rfl) (by kernel_rfl) ?_
            repeat (go_big_quiet_step (fail))
            go_big_quiet_step ((go_at_call 17; exact kept_call _ (Nat.le_refl _) (rowCmp_is (F2 j) (F2 p) q _ HQ)))
            repeat (go_big_quiet_step (fail))
            refine wpQuiet_nil ?_
            intro w3 hb3
            have HR3 := Lib.hid (HR2.out.below hb3)
            have HG3 := Lib.hid (grown_below HG2.out hb3)
            clear k0 k1 k2 k3 hb3
            obtain ⟨x0, x1⟩ := HR3.out.at_ (show j < N by omega)
            obtain ⟨y0, y1⟩ := HR3.out.at_ (show p < N by omega)
            have f0 := HR3.out.free (p * 2); have f1 := HR3.out.free (p * 2 + 1); have f2 := HR3.out.free (j * 2); have f3 := HR3.out.free (j * 2 + 1)
            have n1 : ¬ p * 2 + 1 = j * 2 + 1 := by omega
            have n2 : ¬ p * 2 = j * 2 := by omega
            have n3 : ¬ p * 2 + 1 = j * 2 := by omega
            have n4 : ¬ p * 2 = j * 2 + 1 := by omega
            have n5 : ¬ j * 2 + 1 = p * 2 + 1 := by omega
            have n6 : ¬ j * 2 = p * 2 := by omega
            have n7 : ¬ j * 2 + 1 = p * 2 := by omega
            have n8 : ¬ j * 2 = p * 2 + 1 := by omega
            go_wp2_with fail
            go_region
            all_goals
              go_wp2
              go_roundw
              case rel => exact ⟨p, _, rfl, by have h := HI.out; have e := HP.out; subst e; exact h.step hap HL.out, HS.out.trans (sw_same (by omega) (by omega) (by omega) (by omega)), by have e := HP.out; subst e; exact (swapped HR3.out HG3.out (p + 1) p).1.drew, by have e := HP.out; subst e; exact grown_drew (swapped HR3.out HG3.out (p + 1) p).2⟩
              case measure => simp [intOf]; omega
          · have hqn : ¬ q < 0 := by rw [← hq]; exact fun h => hls (cmp_neg.1 h)
            have HL := Lib.hid hls
            clear hq hls
            go_wp2_with fail
            refine region_kept wr.heap.size (by kernel_rfl) (by kernel_rfl) ?_
            repeat (go_big_quiet_step (fail))
            go_big_quiet_step ((go_at_call 17; exact kept_call _ (Nat.le_refl _) (rowCmp_is (F2 j) (F2 p) q _ HQ)))
            repeat (go_big_quiet_step (fail))
            refine wpQuiet_nil ?_
            intro w3 hb3
            have HR3 := Lib.hid (HR2.out.below hb3)
            have HG3 := Lib.hid (grown_below HG2.out hb3)
            clear k0 k1 k2 k3 hb3
            go_wp2
            go_roundw
            case rel => exact ⟨i + 1, i + 1, F2, by go_num, by omega, ⟨HS.out, by have h := HI.out; have e := HP.out; subst e; exact h.stop hap (by have := HL.out; omega)⟩, HR3.out, HG3.out⟩
            case measure => simp [intOf]; omega
        · obtain rfl : j = a := by omega
          have hgt : ¬ (j : Int) < (j : Int) := by omega
          go_wp2_with fail
          go_region
          all_goals
            go_wp2
            go_roundw
            case rel => exact ⟨i + 1, i + 1, F2, by go_num, by omega, ⟨HS.out, HI.out.front⟩, HR2.out.drew, grown_drew HG2.out⟩
            case measure => simp [intOf]; omega
    · have hlti : ¬ (i : Int) < (hi : Int) := by omega
      have HT : Hid (t = hi) := Lib.hid (by omega)
      go_wp2
      go_end0
      exact ⟨F, ⟨rfl, HRR.out, HG.out⟩, by have h := HO.out.same; rw [HT.out] at h; exact h, by have h := HO.out.srt; rw [HT.out] at h; exact h⟩
end Go.Proofs.Ytdlobjjfakffaaa

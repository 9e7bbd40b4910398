/-
  The contract of spec.gaSorted: the numbers in increasing order, a row of its own.
-/
import Derived.Test.YtbepgjknjopikaaYi
namespace Go.Proofs.Ytbepgjknjopikaa
open Go.RowKit
set_option linter.unusedVariables false

theorem slice_headN (W : World) : (Instr.slice 22 (.slice none 0 0) none (some (.int .i64 0)) none).run Try.prog W = .ok (.slice none 0 0) W := by
  rw [run_slice_h W _ _ _ _ underI .i64 (0 : Int) (by omega) (by omega), sizeI]
  simp [sliced, Result.andThen]
theorem slice_tailN (W : World) : (Instr.slice 22 (.slice none 0 0) (some (.int .i64 0)) none none).run Try.prog W = .ok (.slice none 0 0) W := by
  rw [run_slice_l W _ _ _ _ underI .i64 (0 : Int) (by omega) (by omega), sizeI]
  simp [sliced, Result.andThen]
set_option maxRecDepth 100000 in
set_option maxHeartbeats 4000000 in
theorem gaSorted_any (l : List Int) (A : Option Addr) (c : Nat) (w : World) (hf : IntsIn w A l) (hn : l.length ≤ 40) :
    Calls Try.prog 52 #[.slice A l.length c] w fun e w' => RowTo w w' e (srt l) := by
  have HF := Lib.hid hf; clear hf
  obtain ⟨i0, hi, hz0, hz1, hz2⟩ := info_parts info_int
  have HI := Lib.hid hi; have HZ0 := Lib.hid hz0; have HZ1 := Lib.hid hz1; have HZ2 := Lib.hid hz2
  clear hi hz0 hz1 hz2
  go_enter Try.func52, Try.ntmps52
  go_wp2
  go_loopw [3, 9] (fun v i wr => ∃ j : Nat, j ≤ l.length ∧ i = .int .i64 (j : Int) ∧ wr.ownsRow w.heap.size 3 1 v j (intsZ (srt (l.take j))) ∧ Below w.heap.size w wr) (fun _ i _ => l.length - (intOf i).toNat)
  case atStart => exact ⟨0, Nat.zero_le _, rfl, by rw [List.take_zero, srt_nil]; exact own_nil _ _ _ _, Below.refl _ _⟩
  case round =>
    obtain ⟨j, hj, rfl, hv, hb⟩ := hrel
    by_cases hlt : j < l.length
    · obtain ⟨b, off, rfl, hbl, hc⟩ := HF.out (by omega)
      have hc0 := hc j hlt
      rw [← hb.cell (p := ⟨b, off + j, none⟩) hbl] at hc0
      clear hc
      have HST : Hid (∀ k, k ≤ (srt (l.take j)).length → (∀ i (h : i < (srt (l.take j)).length), i < k → (srt (l.take j))[i] < l[j]) → (∀ h : k < (srt (l.take j)).length, l[j] ≤ (srt (l.take j))[k]) → srt (l.take (j + 1)) = (srt (l.take j)).take k ++ [l[j]] ++ (srt (l.take j)).drop k) := Lib.hid (fun k h1 h2 h3 => by
        rw [List.take_succ_eq_append_getElem hlt]; exact (ins_step h1 h2 h3).symm)
      have HOL : Hid ((srt (l.take j)).length = j) := Lib.hid (by rw [srt_len, List.length_take]; omega)
      generalize l[j] = x at *
      generalize srt (l.take j) = O at *
      have HB := Lib.hid hb
      rcases hv.2 with ⟨rfl, h0⟩ | ⟨g, cap, cur, rfl, hg, hh, h1, h2, h3, h4⟩
      · have hj0 : j = 0 := h0
        have HO0 : Hid (O = []) := Lib.hid (List.length_eq_zero_iff.1 (by rw [HOL.out]; exact hj0))
        subst hj0
        rw [Nat.add_zero] at hc0
        have HSRT : Hid (srt (l.take (0 + 1)) = [x]) := Lib.hid (by
          have h := HST.out 0 (Nat.zero_le _) (fun i _ hi => absurd hi (by omega)) (fun h => absurd h (by rw [HOL.out]; omega))
          rw [HO0.out] at h; simpa using h)
        clear hv hb HST
        go_wp2
        go_loop [6] (fun q => q = .int .i64 (0 : Int)) (fun q => 0)
        case atStart => rfl
        case round =>
          obtain rfl := hrel
          have hs1 := slice_headN
          have hs2 := slice_tailN
          have hmx1 : 0 + 1 ≤ maxLen := by unfold maxLen; omega
          have hszA : wr.heap.size ≤ (wr.alloc (.cells #[.int .i64 x] 3)).drew.heap.size := by show wr.heap.size ≤ (wr.alloc _).heap.size; simp
          go_wp2_with fail
          go_region_law (first
            | (go_simp; go_at_call 68; refine (l1OwnN_any wr.drew).mono ?_; intro e w1 hto; obtain ⟨v1, rfl, hb1, hown1⟩ := hto; have hbW : Below wr.heap.size wr w1 := ((Below.refl wr.heap.size wr).drew).trans (hb1.mono (Nat.le_refl _)); have HBW1 := Lib.hid hbW; have HO1 : Hid (w1.ownsRow wr.heap.size 3 1 v1 0 (intsZ [])) := Lib.hid hown1; clear hb1 hown1 hbW)
                                | (go_simp; go_at_call 68; refine (l1OwnN_any (wr.alloc (.cells #[.int .i64 x] 3)).drew).mono ?_; intro e w1 hto; obtain ⟨v1, rfl, hb1, hown1⟩ := hto; have hbW : Below wr.heap.size wr w1 := (((Below.refl wr.heap.size wr).alloc (Nat.le_refl _) (.cells #[.int .i64 x] 3)).drew).trans (hb1.mono hszA); have HC1 : Hid (∀ j u, [Value.int .i64 x][j]? = some u → w1.cell? ((⟨wr.heap.size, 0, none⟩ : Addr).add j) = some u) := Lib.hid (one_kept hb1); have HBW1 := Lib.hid hbW; have HO1 : Hid (w1.ownsRow wr.heap.size 3 1 v1 0 (intsZ [])) := Lib.hid (Joins.ownsRow_le (base' := wr.heap.size) hown1 hszA); clear hb1 hown1 hbW)
                                | (refine step_own (w1.alloc (.cells #[.int .i64 x] 3)) (by rfl) (.tmp 30) (.tmp 32) 22 (by rfl) wr.heap.size 3 i0 (.int .i64 0) 1 8 Try.underlying22 HI.out HZ0.out HZ1.out HZ2.out rfl (by decide) v1 0 (intsZ []) (by rfl) (HO1.out.alloc _) ⟨w1.heap.size, 0, none⟩ 1 1 [.int .i64 x] (by rfl) rfl (cell_one_new _ _ _) (by simp [Value.oneCell']) hmx1 (by omega) (Nat.le_trans HBW1.out.size (size_alloc_le _ _)) ?_; intro v2 w4 hown' hgrow; have hown2 : w4.ownsRow wr.heap.size 3 1 v2 1 (intsZ [x]) := (by simpa [intsZ] using hown'); obtain ⟨A2, c2, hv2⟩ := own_form hown2; have hv3 : v2 = .slice A2 1 c2 := hv2; clear hv2; subst hv3; have hb4 : Below wr.heap.size wr w4 := (HBW1.out.alloc HBW1.out.size (.cells #[.int .i64 x] 3)).grown hgrow (Nat.le_trans HBW1.out.size (size_alloc_le _ _)) (own_lt HO1.out); have HB4 := Lib.hid hb4; have HN4 := Lib.hid hown2; clear hown' hown2 hgrow hb4)
                                | (refine step_own w1 (by rfl) (.tmp 30) (.tmp 32) 22 (by rfl) wr.heap.size 3 i0 (.int .i64 0) 1 8 Try.underlying22 HI.out HZ0.out HZ1.out HZ2.out rfl (by decide) v1 0 (intsZ []) (by rfl) HO1.out ⟨wr.heap.size, 0, none⟩ 1 1 [.int .i64 x] (by rfl) rfl HC1.out (by simp [Value.oneCell']) hmx1 (by omega) HBW1.out.size ?_; intro v2 w4 hown' hgrow; have hown2 : w4.ownsRow wr.heap.size 3 1 v2 1 (intsZ [x]) := (by simpa [intsZ] using hown'); obtain ⟨A2, c2, hv2⟩ := own_form hown2; have hv3 : v2 = .slice A2 1 c2 := hv2; clear hv2; subst hv3; have hb4 : Below wr.heap.size wr w4 := HBW1.out.grown hgrow HBW1.out.size (own_lt HO1.out); have HB4 := Lib.hid hb4; have HN4 := Lib.hid hown2; clear hown' hown2 hgrow hb4)
            | (refine step_is w4 w4 (.slice A2 1 c2) (.slice A2 1 c2) (.slice none 0 0) (by rfl) (.tmp 33) (.tmp 36) 22 22 (by rfl) (by rfl) (by rfl) (by rfl) (append_none w4 A2 1 c2 (own_cap HN4.out)) ?_))
          all_goals
            have HB5 := Lib.hid (HB.out.trans (HB4.out.mono HB.out.size))
            have HO5 : Hid (w4.ownsRow w.heap.size 3 1 (.slice A2 1 c2) (0 + 1) (intsZ (srt (l.take (0 + 1))))) := Lib.hid (by
              rw [HSRT.out]; exact Joins.ownsRow_le HN4.out HB.out.size)
            clear HN4 HB4
            go_wp2
            go_roundw
            case rel => exact ⟨0 + 1, by omega, by go_num, HO5.out, HB5.out⟩
            case measure => simp [intOf]; omega
      · have HOC : Hid (∀ i (h : i < O.length), wr.cell? ⟨g, 0 + i, none⟩ = some (.int .i64 O[i])) := Lib.hid (fun i hi => by
          rw [hv.cellAt (0 + i) (by rw [HOL.out] at hi; omega)]; simp [intsZ, hi])
        have HGL : Hid (g < wr.heap.size) := Lib.hid (lt_of_heap hh)
        have hcap2 : j ≤ cap := h1
        have hx0 := hc0
        clear hv hb hh h1 h2 h3 h4 hg
        go_wp2
        go_loop [6] (fun q => ∃ k : Nat, k ≤ j ∧ q = .int .i64 (k : Int) ∧ ∀ i (h : i < O.length), i < k → O[i] < x) (fun q => j - (intOf q).toNat)
        case atStart => exact ⟨0, Nat.zero_le _, rfl, fun i h hi => absurd hi (by omega)⟩
        case round =>
          obtain ⟨k, hkj, rfl, hs⟩ := hrel
          have HLT := Lib.hid hs; clear hs
          by_cases hk : k < j
          · have hkl : k < O.length := by rw [HOL.out]; exact hk
            have hck := HOC.out k hkl
            rw [Nat.zero_add] at hck
            have hgl := HGL.out
            have HNX : Hid (O[k] < x → ∀ i (h : i < O.length), i < k + 1 → O[i] < x) := Lib.hid (fun h0 i h hi => by
              rcases Nat.lt_or_ge i k with h1 | h1
              · exact HLT.out i h h1
              · obtain rfl : i = k := by omega
                exact h0)
            have HSR : Hid (x ≤ O[k] → srt (l.take (j + 1)) = O.take k ++ [x] ++ O.drop k) := Lib.hid (fun h0 => HST.out k (by omega) HLT.out (fun _ => h0))
            generalize O[k] = y at *
            have hk0 : (0 : Int) ≤ (k : Int) := by omega
            have hkj2 : (k : Int) < (j : Int) := by omega
            clear hkl
            by_cases hy : y < x
            · have HNX2 := Lib.hid (HNX.out hy)
              go_wp2
              go_round
              case rel => exact ⟨k + 1, by omega, by go_num, HNX2.out⟩
              case measure => simp [intOf]; omega
            · have HSRT := Lib.hid (HSR.out (by omega))
              clear HSR HNX HST
              have hs1 := slice_headI g 0 j cap k hkj hcap2
              obtain ⟨a2, hs2, ha2, ha3⟩ := slice_tailI g 0 j cap k hkj hcap2
              have HTL : Hid ((O.take k).length = k) := Lib.hid (by rw [List.length_take, HOL.out]; omega)
              have HDL : Hid ((intsZ (O.drop k)).length = j - k) := Lib.hid (by rw [intsZ_len, List.length_drop, HOL.out])
              have HCALL : Hid (∀ W, Below wr.heap.size wr W → Calls Try.prog 68 #[.slice (some ⟨g, 0, none⟩) k cap] W fun e w' => RowTo W w' e (O.take k)) := Lib.hid (fun W hW => by
                have h := l1OwnS_any (O.take k) g 0 cap W (fun i hi => by
                  have hi2 : i < O.length := by rw [HOL.out]; rw [HTL.out] at hi; omega
                  rw [hW.cell (p := ⟨g, 0 + i, none⟩) HGL.out, List.getElem_take]
                  exact HOC.out i hi2) (by rw [HTL.out]; omega)
                rw [HTL.out] at h; exact h)
              have HC2 : Hid (∀ W, Below wr.heap.size wr W → ∀ q u, (intsZ (O.drop k))[q]? = some u → W.cell? (a2.add q) = some u) := Lib.hid (fun W hW q u hu => by
                have hq : q < (O.drop k).length := by
                  rcases Nat.lt_or_ge q (O.drop k).length with h | h
                  · exact h
                  · rw [List.getElem?_eq_none (by rw [intsZ_len]; exact h)] at hu; cases hu
                rw [List.length_drop, HOL.out] at hq
                have e : (intsZ (O.drop k))[q]? = some (.int .i64 (O[k + q]'(by rw [HOL.out]; omega))) := by
                  simp only [intsZ, List.getElem?_map, List.getElem?_drop]
                  rw [List.getElem?_eq_getElem (by rw [HOL.out]; omega)]; rfl
                rw [e] at hu
                rw [ha3 (by omega), add_flat, hW.cell (p := ⟨g, 0 + k + q, none⟩) HGL.out, Nat.add_assoc, ← hu]
                exact HOC.out (k + q) (by rw [HOL.out]; omega))
              have hmx1 : k + 1 ≤ maxLen := by unfold maxLen; omega
              have hmx2 : k + 1 + (j - k) ≤ maxLen := by unfold maxLen; omega
              have hszA : wr.heap.size ≤ (wr.alloc (.cells #[.int .i64 x] 3)).drew.heap.size := by show wr.heap.size ≤ (wr.alloc _).heap.size; simp
              clear ha2 ha3
              go_wp2_with fail
              go_region_law (first
                | (go_simp; go_at_call 68; refine (HCALL.out wr.drew (Below.refl _ _).drew).mono ?_; intro e w1 hto; obtain ⟨v1, rfl, hb1, hown1⟩ := hto; have hbW : Below wr.heap.size wr w1 := ((Below.refl wr.heap.size wr).drew).trans (hb1.mono (Nat.le_refl _)); have HBW1 := Lib.hid hbW; have HO1 : Hid (w1.ownsRow wr.heap.size 3 1 v1 k (intsZ (O.take k))) := Lib.hid (by rw [HTL.out] at hown1; exact hown1); clear hb1 hown1 hbW)
                                | (go_simp; go_at_call 68; refine (HCALL.out (wr.alloc (.cells #[.int .i64 x] 3)).drew ((Below.refl _ _).alloc (Nat.le_refl _) _).drew).mono ?_; intro e w1 hto; obtain ⟨v1, rfl, hb1, hown1⟩ := hto; have hbW : Below wr.heap.size wr w1 := (((Below.refl wr.heap.size wr).alloc (Nat.le_refl _) (.cells #[.int .i64 x] 3)).drew).trans (hb1.mono hszA); have HC1 : Hid (∀ j u, [Value.int .i64 x][j]? = some u → w1.cell? ((⟨wr.heap.size, 0, none⟩ : Addr).add j) = some u) := Lib.hid (one_kept hb1); have HBW1 := Lib.hid hbW; have HO1 : Hid (w1.ownsRow wr.heap.size 3 1 v1 k (intsZ (O.take k))) := Lib.hid (by rw [HTL.out] at hown1; exact Joins.ownsRow_le (base' := wr.heap.size) hown1 hszA); clear hb1 hown1 hbW)
                                | (refine step_own (w1.alloc (.cells #[.int .i64 x] 3)) (by rfl) (.tmp 30) (.tmp 32) 22 (by rfl) wr.heap.size 3 i0 (.int .i64 0) 1 8 Try.underlying22 HI.out HZ0.out HZ1.out HZ2.out rfl (by decide) v1 k (intsZ (O.take k)) (by rfl) (HO1.out.alloc _) ⟨w1.heap.size, 0, none⟩ 1 1 [.int .i64 x] (by rfl) rfl (cell_one_new _ _ _) (by simp [Value.oneCell']) hmx1 (by omega) (Nat.le_trans HBW1.out.size (size_alloc_le _ _)) ?_; intro v2 w4 hown' hgrow; have hb4 : Below wr.heap.size wr w4 := (HBW1.out.alloc HBW1.out.size (.cells #[.int .i64 x] 3)).grown hgrow (Nat.le_trans HBW1.out.size (size_alloc_le _ _)) (own_lt HO1.out); have HB4 := Lib.hid hb4; have HN4 := Lib.hid hown'; clear hown' hgrow hb4)
                                | (refine step_own w1 (by rfl) (.tmp 30) (.tmp 32) 22 (by rfl) wr.heap.size 3 i0 (.int .i64 0) 1 8 Try.underlying22 HI.out HZ0.out HZ1.out HZ2.out rfl (by decide) v1 k (intsZ (O.take k)) (by rfl) HO1.out ⟨wr.heap.size, 0, none⟩ 1 1 [.int .i64 x] (by rfl) rfl HC1.out (by simp [Value.oneCell']) hmx1 (by omega) HBW1.out.size ?_; intro v2 w4 hown' hgrow; have hb4 : Below wr.heap.size wr w4 := HBW1.out.grown hgrow HBW1.out.size (own_lt HO1.out); have HB4 := Lib.hid hb4; have HN4 := Lib.hid hown'; clear hown' hgrow hb4)
                | (refine step_own w4 (by rfl) (.tmp 33) (.tmp 36) 22 (by rfl) wr.heap.size 3 i0 (.int .i64 0) 1 8 Try.underlying22 HI.out HZ0.out HZ1.out HZ2.out rfl (by decide) v2 (k + 1) (intsZ (O.take k) ++ [.int .i64 x]) (by rfl) HN4.out a2 (j - k) (cap - k) (intsZ (O.drop k)) (by rfl) (by rw [HDL.out]; omega) (HC2.out w4 HB4.out) (intsZ_one _) hmx2 (by omega) HB4.out.size ?_
                   intro v3 w5 hown5 hgrow5
                   have hb5 : Below wr.heap.size wr w5 := HB4.out.grown hgrow5 HB4.out.size (own_lt HN4.out)
                   clear hgrow5))
              all_goals
  have HB5 := Lib.hid (HB.out.trans (hb5.mono HB.out.size))
  have HO5 : Hid (w5.ownsRow w.heap.size 3 1 v3 (j + 1) (intsZ (srt (l.take (j + 1))))) := Lib.hid (by
    rw [HSRT.out, intsZ_app, intsZ_app, show j + 1 = k + 1 + (j - k) from by omega]
    exact Joins.ownsRow_le hown5 HB.out.size)
  clear hb5 hown5
  go_wp2
  go_roundw
  case rel => exact ⟨j + 1, by omega, by go_num, HO5.out, HB5.out⟩
  case measure => simp [intOf]; omega
          · have HSRT : Hid (srt (l.take (j + 1)) = O.take k ++ [x] ++ O.drop k) := Lib.hid (HST.out k (by rw [HOL.out]; omega) HLT.out (fun h => by rw [HOL.out] at h; omega))
            have hnk : ¬ (k : Int) < (j : Int) := by omega
            clear HST
            have hs1 := slice_headI g 0 j cap k hkj hcap2
            obtain ⟨a2, hs2, ha2, ha3⟩ := slice_tailI g 0 j cap k hkj hcap2
            have HTL : Hid ((O.take k).length = k) := Lib.hid (by rw [List.length_take, HOL.out]; omega)
            have HDL : Hid ((intsZ (O.drop k)).length = j - k) := Lib.hid (by rw [intsZ_len, List.length_drop, HOL.out])
            have HCALL : Hid (∀ W, Below wr.heap.size wr W → Calls Try.prog 68 #[.slice (some ⟨g, 0, none⟩) k cap] W fun e w' => RowTo W w' e (O.take k)) := Lib.hid (fun W hW => by
              have h := l1OwnS_any (O.take k) g 0 cap W (fun i hi => by
                have hi2 : i < O.length := by rw [HOL.out]; rw [HTL.out] at hi; omega
                rw [hW.cell (p := ⟨g, 0 + i, none⟩) HGL.out, List.getElem_take]
                exact HOC.out i hi2) (by rw [HTL.out]; omega)
              rw [HTL.out] at h; exact h)
            have HC2 : Hid (∀ W, Below wr.heap.size wr W → ∀ q u, (intsZ (O.drop k))[q]? = some u → W.cell? (a2.add q) = some u) := Lib.hid (fun W hW q u hu => by
              have hq : q < (O.drop k).length := by
                rcases Nat.lt_or_ge q (O.drop k).length with h | h
                · exact h
                · rw [List.getElem?_eq_none (by rw [intsZ_len]; exact h)] at hu; cases hu
              rw [List.length_drop, HOL.out] at hq
              have e : (intsZ (O.drop k))[q]? = some (.int .i64 (O[k + q]'(by rw [HOL.out]; omega))) := by
                simp only [intsZ, List.getElem?_map, List.getElem?_drop]
                rw [List.getElem?_eq_getElem (by rw [HOL.out]; omega)]; rfl
              rw [e] at hu
              rw [ha3 (by omega), add_flat, hW.cell (p := ⟨g, 0 + k + q, none⟩) HGL.out, Nat.add_assoc, ← hu]
              exact HOC.out (k + q) (by rw [HOL.out]; omega))
            have hmx1 : k + 1 ≤ maxLen := by unfold maxLen; omega
            have hmx2 : k + 1 + (j - k) ≤ maxLen := by unfold maxLen; omega
            have hszA : wr.heap.size ≤ (wr.alloc (.cells #[.int .i64 x] 3)).drew.heap.size := by show wr.heap.size ≤ (wr.alloc _).heap.size; simp
            clear ha2 ha3
            go_wp2_with fail
            go_region_law (first
              | (go_simp; go_at_call 68; refine (HCALL.out wr.drew (Below.refl _ _).drew).mono ?_; intro e w1 hto; obtain ⟨v1, rfl, hb1, hown1⟩ := hto; have hbW : Below wr.heap.size wr w1 := ((Below.refl wr.heap.size wr).drew).trans (hb1.mono (Nat.le_refl _)); have HBW1 := Lib.hid hbW; have HO1 : Hid (w1.ownsRow wr.heap.size 3 1 v1 k (intsZ (O.take k))) := Lib.hid (by rw [HTL.out] at hown1; exact hown1); clear hb1 hown1 hbW)
                                | (go_simp; go_at_call 68; refine (HCALL.out (wr.alloc (.cells #[.int .i64 x] 3)).drew ((Below.refl _ _).alloc (Nat.le_refl _) _).drew).mono ?_; intro e w1 hto; obtain ⟨v1, rfl, hb1, hown1⟩ := hto; have hbW : Below wr.heap.size wr w1 := (((Below.refl wr.heap.size wr).alloc (Nat.le_refl _) (.cells #[.int .i64 x] 3)).drew).trans (hb1.mono hszA); have HC1 : Hid (∀ j u, [Value.int .i64 x][j]? = some u → w1.cell? ((⟨wr.heap.size, 0, none⟩ : Addr).add j) = some u) := Lib.hid (one_kept hb1); have HBW1 := Lib.hid hbW; have HO1 : Hid (w1.ownsRow wr.heap.size 3 1 v1 k (intsZ (O.take k))) := Lib.hid (by rw [HTL.out] at hown1; exact Joins.ownsRow_le (base' := wr.heap.size) hown1 hszA); clear hb1 hown1 hbW)
                                | (refine step_own (w1.alloc (.cells #[.int .i64 x] 3)) (by rfl) (.tmp 30) (.tmp 32) 22 (by rfl) wr.heap.size 3 i0 (.int .i64 0) 1 8 Try.underlying22 HI.out HZ0.out HZ1.out HZ2.out rfl (by decide) v1 k (intsZ (O.take k)) (by rfl) (HO1.out.alloc _) ⟨w1.heap.size, 0, none⟩ 1 1 [.int .i64 x] (by rfl) rfl (cell_one_new _ _ _) (by simp [Value.oneCell']) hmx1 (by omega) (Nat.le_trans HBW1.out.size (size_alloc_le _ _)) ?_; intro v2 w4 hown' hgrow; have hb4 : Below wr.heap.size wr w4 := (HBW1.out.alloc HBW1.out.size (.cells #[.int .i64 x] 3)).grown hgrow (Nat.le_trans HBW1.out.size (size_alloc_le _ _)) (own_lt HO1.out); have HB4 := Lib.hid hb4; have HN4 := Lib.hid hown'; clear hown' hgrow hb4)
                                | (refine step_own w1 (by rfl) (.tmp 30) (.tmp 32) 22 (by rfl) wr.heap.size 3 i0 (.int .i64 0) 1 8 Try.underlying22 HI.out HZ0.out HZ1.out HZ2.out rfl (by decide) v1 k (intsZ (O.take k)) (by rfl) HO1.out ⟨wr.heap.size, 0, none⟩ 1 1 [.int .i64 x] (by rfl) rfl HC1.out (by simp [Value.oneCell']) hmx1 (by omega) HBW1.out.size ?_; intro v2 w4 hown' hgrow; have hb4 : Below wr.heap.size wr w4 := HBW1.out.grown hgrow HBW1.out.size (own_lt HO1.out); have HB4 := Lib.hid hb4; have HN4 := Lib.hid hown'; clear hown' hgrow hb4)
              | (refine step_own w4 (by rfl) (.tmp 33) (.tmp 36) 22 (by rfl) wr.heap.size 3 i0 (.int .i64 0) 1 8 Try.underlying22 HI.out HZ0.out HZ1.out HZ2.out rfl (by decide) v2 (k + 1) (intsZ (O.take k) ++ [.int .i64 x]) (by rfl) HN4.out a2 (j - k) (cap - k) (intsZ (O.drop k)) (by rfl) (by rw [HDL.out]; omega) (HC2.out w4 HB4.out) (intsZ_one _) hmx2 (by omega) HB4.out.size ?_
                 intro v3 w5 hown5 hgrow5
                 have hb5 : Below wr.heap.size wr w5 := HB4.out.grown hgrow5 HB4.out.size (own_lt HN4.out)
                 clear hgrow5))
            all_goals
  have HB5 := Lib.hid (HB.out.trans (hb5.mono HB.out.size))
  have HO5 : Hid (w5.ownsRow w.heap.size 3 1 v3 (j + 1) (intsZ (srt (l.take (j + 1))))) := Lib.hid (by
    rw [HSRT.out, intsZ_app, intsZ_app, show j + 1 = k + 1 + (j - k) from by omega]
    exact Joins.ownsRow_le hown5 HB.out.size)
  clear hb5 hown5
  go_wp2
  go_roundw
  case rel => exact ⟨j + 1, by omega, by go_num, HO5.out, HB5.out⟩
  case measure => simp [intOf]; omega
    · obtain rfl : j = l.length := by omega
      have HV : Hid (wr.ownsRow w.heap.size 3 1 u3 (srt l).length (intsZ (srt l))) := Lib.hid (by
        rw [List.take_length] at hv; rw [srt_len]; exact hv)
      have HB := Lib.hid hb
      clear hv hb
      go_wp2
      go_ret
      exact ⟨_, rfl, HB.out, HV.out⟩
end Go.Proofs.Ytbepgjknjopikaa

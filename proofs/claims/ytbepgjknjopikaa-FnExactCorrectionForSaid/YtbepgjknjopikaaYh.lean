/-
  The contracts of LongestDrift, in spec and in impl.
-/
import Derived.Test.YtbepgjknjopikaaYg
namespace Go.Proofs.Ytbepgjknjopikaa
open Go.RowKit
set_option linter.unusedVariables false

theorem elemI : Try.prog.elem 22 = 3 := by kernel_rfl
theorem sizeI (W : World) : (sizeOf (Try.prog.elem 22)).run Try.prog W = .ok 1 W := by
  obtain ⟨i0, hi, hz0, hz1, hz2⟩ := info_parts info_int
  rw [elemI]
  simp [sizeOf, typeInfo, hi, hz1]
theorem underI : Try.prog.underlying 22 = some (.slice (Try.prog.elem 22)) := by rw [elemI]; exact Try.underlying22
theorem slice_headI (b off n cap k : Nat) (hk : k ≤ n) (hn : n ≤ cap) (W : World) :
    (Instr.slice 22 (.slice (some ⟨b, off, none⟩) n cap) none (some (.int .i64 (k : Int))) none).run Try.prog W = .ok (.slice (some ⟨b, off, none⟩) k cap) W := by
  rw [run_slice_h W _ _ _ _ underI .i64 (k : Int) (by omega) (by omega), sizeI]
  by_cases hc : cap = 0 <;> simp [sliced, Result.andThen, Addr.add, hc]
theorem slice_tailI (b off n cap k : Nat) (hk : k ≤ n) (hn : n ≤ cap) :
    ∃ a2 : Addr, (∀ W, (Instr.slice 22 (.slice (some ⟨b, off, none⟩) n cap) (some (.int .i64 (k : Int))) none none).run Try.prog W = .ok (.slice (some a2) (n - k) (cap - k)) W) ∧ a2.block = b ∧ (k < n → a2 = ⟨b, off + k, none⟩) := by
  refine ⟨if cap = k then ⟨b, off, none⟩ else (⟨b, off, none⟩ : Addr).add k, fun W => ?_, ?_, ?_⟩
  · rw [run_slice_l W _ _ _ _ underI .i64 (k : Int) (by omega) (by omega), sizeI]
    by_cases hc : cap = k <;> simp [sliced, Result.andThen, hc]
  · split
    · rfl
    · unfold Addr.add; split <;> rfl
  · intro h
    rw [if_neg (by omega), add_flat]
theorem ints_drop {w : World} {b off i : Nat} {l : List Int} (hbl : b < w.heap.size) (hc : ∀ k (h : k < l.length), w.cell? ⟨b, off + k, none⟩ = some (.int .i64 l[k])) : IntsIn w (some ⟨b, off + i, none⟩) (l.drop i) := fun _ =>
  ⟨b, off + i, rfl, hbl, fun k hk => by
    rw [List.length_drop] at hk
    rw [List.getElem_drop, Nat.add_assoc]
    exact hc (i + k) (by omega)⟩
set_option maxRecDepth 100000 in
theorem implLongestDrift_any (l : List Int) (A : Option Addr) (c : Nat) (w : World) (hf : IntsIn w A l) (hn : l.length ≤ 1048576) (hcap : l.length ≤ c) :
    Calls Try.prog 35 #[.slice A l.length c] w fun e w' => e = .returned (.tuple #[.int .i64 (ldA l), .int .i64 (ldN l), .bool (gaB l)]) ∧ Below w.heap.size w w' := by
  have HF := Lib.hid hf; clear hf
  go_enter Try.func35, Try.ntmps35
  go_wp2_with fail
  refine (implIsTrial_any l A c _ HF.out hn).mono ?_
  rintro e w' ⟨rfl, rfl⟩
  cases hg : gaB l
  · have HM := Lib.hid (ld_no hg); have HK := Lib.hid hg
    clear hg
    go_wp2
    go_ret3
    exact ⟨ret_iib HM.out.1.symm HM.out.2.symm HK.out.symm, Below.refl _ _⟩
  have HM := Lib.hid (ld_yes hg); have HG := Lib.hid (gaB_iff.1 hg); have HK := Lib.hid hg
  have hlm := HG.out.most
  have hl1 := HG.out.one
  clear hg
  go_wp2
  go_loopw [5, 6, 14] (fun x y i wr => ∃ (k : Nat) (S : Nat × Nat), k ≤ l.length ∧ i = .int .i64 (k : Int) ∧ x = .int .i64 (S.1 : Int) ∧ y = .int .i64 (S.2 : Int) ∧ (k = 0 ∧ S = (0, 0) ∨ 0 < k ∧ S = ldF l k) ∧ Below w.heap.size w wr) (fun _ _ i _ => l.length - (intOf i).toNat)
  case atStart => exact ⟨0, (0, 0), Nat.zero_le _, rfl, rfl, rfl, .inl ⟨rfl, rfl⟩, Below.refl _ _⟩
  case round =>
    obtain ⟨k, S, hk, rfl, rfl, rfl, hs, hb⟩ := hrel
    have HB := Lib.hid hb; clear hb
    have HS := Lib.hid hs
    have hS2 : S.2 ≤ 40 := by
      rcases hs with ⟨_, rfl⟩ | ⟨_, rfl⟩
      · exact Nat.zero_le _
      · have := (ldF_range hl1 k hk).2.2; omega
    clear hs
    by_cases hlt : k < l.length
    · obtain ⟨b, off, rfl, hbl, hc⟩ := HF.out (by omega)
      obtain ⟨a2, hs2, ha2, ha3⟩ := slice_tailI b off l.length c k (by omega) hcap
      have hae := ha3 hlt
      subst hae
      have HIN := Lib.hid ((ints_drop (i := k) hbl hc).below HB.out (Nat.le_refl _))
      have HR : Hid (∀ j (h : j < (l.drop k).length), -500 ≤ (l.drop k)[j] ∧ (l.drop k)[j] ≤ 500) := Lib.hid (fun j h => by
        rw [List.getElem_drop]; rw [List.length_drop] at h; exact HG.out.all (k + j) (by omega))
      have HDL : Hid ((l.drop k).length = l.length - k) := Lib.hid List.length_drop
      have HDD := Lib.hid (drD_drop l k)
      have hk0 : (0 : Int) ≤ (k : Int) := by omega
      have hkl : (k : Int) ≤ (l.length : Int) := by omega
      clear hc ha2 ha3
      go_wp2_with fail
      rw [← HDL.out]
      refine (driftAtStart_any (l.drop k) _ _ _ HIN.out (by rw [HDL.out]; omega) (by rw [HDL.out]; omega) HR.out).mono ?_
      rintro e w1 ⟨rfl, hb1⟩
      rw [HDD.out]
      have HB1 := Lib.hid (HB.out.trans (hb1.mono HB.out.size))
      have hdp := drD_pos l k; have hdl := drD_le hlt
      have HST : Hid (ldF l (k + 1) = if S.2 < drD l k then (k, drD l k) else S) := Lib.hid (by
        rcases HS.out with ⟨rfl, rfl⟩ | ⟨_, rfl⟩
        · rw [ldF_first, if_pos (by show 0 < _; omega)]
        · rfl)
      clear hb1 HB HDD
      generalize drD l k = d at *
      by_cases hd : S.2 < d
      · have HE : Hid (ldF l (k + 1) = (k, d)) := Lib.hid (by rw [HST.out, if_pos hd])
        go_wp2
        go_roundw
        case rel => exact ⟨k + 1, (k, d), by omega, by go_num, rfl, rfl, .inr ⟨by omega, HE.out.symm⟩, HB1.out⟩
        case measure => simp [intOf]; omega
      · have HE : Hid (ldF l (k + 1) = S) := Lib.hid (by rw [HST.out, if_neg hd])
        go_wp2
        go_roundw
        case rel => exact ⟨k + 1, S, by omega, by go_num, rfl, rfl, .inr ⟨by omega, HE.out.symm⟩, HB1.out⟩
        case measure => simp [intOf]; omega
    · obtain rfl : k = l.length := by omega
      have HSE : Hid (S = ldF l l.length) := Lib.hid (by
        rcases HS.out with ⟨h, _⟩ | ⟨_, h⟩
        · omega
        · exact h)
      go_wp2
      go_ret3
      exact ⟨ret_iib (by rw [HM.out.1, HSE.out]) (by rw [HM.out.2, HSE.out]) HK.out.symm, HB.out⟩
set_option maxRecDepth 100000 in
theorem specLongestDrift_any (l : List Int) (A : Option Addr) (c : Nat) (w : World) (hf : IntsIn w A l) (hn : l.length ≤ 1048576) :
    Calls Try.prog 34 #[.slice A l.length c] w fun e w' => e = .returned (.tuple #[.int .i64 (ldA l), .int .i64 (ldN l), .bool (gaB l)]) ∧ Below w.heap.size w w' := by
  have HF := Lib.hid hf; clear hf
  go_enter Try.func34, Try.ntmps34
  go_wp2_with fail
  refine (gaGood_any l A c _ HF.out hn).mono ?_
  rintro e w' ⟨rfl, rfl⟩
  cases hg : gaB l
  · have HM := Lib.hid (ld_no hg); have HK := Lib.hid hg
    clear hg
    go_wp2
    go_ret3
    exact ⟨ret_iib HM.out.1.symm HM.out.2.symm HK.out.symm, Below.refl _ _⟩
  have HM := Lib.hid (ld_yes hg); have HG := Lib.hid (gaB_iff.1 hg); have HK := Lib.hid hg
  have hlm := HG.out.most
  have hl1 := HG.out.one
  clear hg
  go_wp2
  go_loopw [5, 6, 15] (fun x y i wr => ∃ (k : Nat) (S : Nat × Nat), k ≤ l.length ∧ i = .int .i64 (k : Int) ∧ x = .int .i64 (S.1 : Int) ∧ y = .int .i64 (S.2 : Int) ∧ S = ldF l k ∧ Below w.heap.size w wr) (fun _ _ i _ => l.length - (intOf i).toNat)
  case atStart => exact ⟨0, (0, 1), Nat.zero_le _, rfl, rfl, rfl, rfl, Below.refl _ _⟩
  case round =>
    obtain ⟨i, S, hi, rfl, rfl, rfl, hs, hb⟩ := hrel
    have HB := Lib.hid hb; clear hb
    have HS := Lib.hid hs
    have hS2 : 1 ≤ S.2 ∧ S.2 ≤ 40 := by
      rw [hs]; have := (ldF_range hl1 i hi).2; omega
    clear hs
    by_cases hlt : i < l.length
    · go_wp2
      go_loopw [5, 6, 8] (fun x y q wq => ∃ (k : Nat) (R : Nat × Nat), i < k ∧ k ≤ l.length ∧ q = .int .i64 (k : Int) ∧ x = .int .i64 (R.1 : Int) ∧ y = .int .i64 (R.2 : Int) ∧ R = updD S i (k - i) ∧ goD l i k (l.length - k) = drD l i ∧ Below w.heap.size w wq) (fun _ _ q _ => l.length - (intOf q).toNat)
      case atStart => exact ⟨i + 1, S, by omega, by omega, by go_num, rfl, rfl, (by rw [show i + 1 - i = 1 from by omega]; exact (upd_no (by omega)).symm), rfl, HB.out⟩
      case round =>
        obtain ⟨k, R, hik, hk, rfl, rfl, rfl, hR, hgo, hbq⟩ := hrel
        have HR := Lib.hid hR; have HGO := Lib.hid hgo; have HBQ := Lib.hid hbq
        clear hR hgo hbq
        have hfin : ldF l (i + 1) = updD S i (drD l i) := by rw [HS.out]; rfl
        have HFIN := Lib.hid hfin
        clear hfin
        have hR2 : 1 ≤ R.2 ∧ R.2 ≤ 40 := by
          rw [HR.out]; unfold updD
          split
          · exact ⟨by show 1 ≤ k - i; omega, by show k - i ≤ 40; omega⟩
          · exact hS2
        by_cases hkl : k < l.length
        · obtain ⟨b, off, rfl, hbl, hc⟩ := HF.out (by omega)
          obtain ⟨m, hm⟩ : ∃ m : Nat, k = m + 1 := ⟨k - 1, by omega⟩
          obtain ⟨p, hp⟩ : ∃ p : Nat, p = i + 1 := ⟨_, rfl⟩
          have hpl : p < l.length := by omega
          have hml : m < l.length := by omega
          have hci := hc i hlt; have hcp := hc p hpl; have hck := hc k hkl; have hcm := hc m hml
          have hbw : b < wr.heap.size := Nat.lt_of_lt_of_le hbl HBQ.out.size
          have hri := HG.out.all i hlt; have hrp := HG.out.all p hpl; have hrk := HG.out.all k hkl; have hrm := HG.out.all m hml
          rw [← HBQ.out.cell (p := ⟨b, off + i, none⟩) hbl] at hci
          rw [← HBQ.out.cell (p := ⟨b, off + p, none⟩) hbl] at hcp
          rw [← HBQ.out.cell (p := ⟨b, off + k, none⟩) hbl] at hck
          rw [← HBQ.out.cell (p := ⟨b, off + m, none⟩) hbl] at hcm
          have HXP : Hid (stp l (i + 1) = sgn (l[p] - l[i])) := Lib.hid (by unfold stp; rw [← hp, getD_at hpl, show p - 1 = i from by omega, getD_at hlt])
          have HXK : Hid (stp l k = sgn (l[k] - l[m])) := Lib.hid (by unfold stp; rw [getD_at hkl, show k - 1 = m from by omega, getD_at hml])
          clear hc
          have HY := Lib.hid (fun h => goD_yes (i := i) hkl h); have HN := Lib.hid (fun h => goD_no (i := i) hkl h)
          generalize l[p] = zp at *
          generalize l[i] = zi at *
          generalize l[k] = zk at *
          generalize l[m] = zm at *
          have xi := KeptW.cell hci hbw; have xp := KeptW.cell hcp hbw; have xk := KeptW.cell hck hbw; have xm := KeptW.cell hcm hbw
          have hpw : (i : Int) + 1 = (p : Int) := by omega
          have hmw : (k : Int) - 1 = (m : Int) := by omega
          have hi2 : (i : Int) < (l.length : Int) := by omega
          have hp2 : (p : Int) < (l.length : Int) := by omega
          have hk2 : (k : Int) < (l.length : Int) := by omega
          have hm2 : (m : Int) < (l.length : Int) := by omega
          have hi0 : (0 : Int) ≤ (i : Int) := by omega
          have hp0 : (0 : Int) ≤ (p : Int) := by omega
          have hk0 : (0 : Int) ≤ (k : Int) := by omega
          have hm0 : (0 : Int) ≤ (m : Int) := by omega
          have HM2 := Lib.hid hm; have HP2 := Lib.hid hp
          clear hci hcp hck hcm hm hp
          go_wp2_with fail
          refine region_kept wr.heap.size (by kernel_rfl) (by kernel_rfl) ?_
          repeat (go_big_quiet_step ((go_at_call 64; exact kept_same _ (l1Sign_any _ _))))
          refine wpQuiet_nil ?_
          intro w1 hbw1
          have hc1 : Below wr.heap.size wr w1 := hbw1
          have yk := KeptW.cell (w := w1) (B := w1.heap.size) ((hc1.cell (p := ⟨b, off + k, none⟩) hbw).trans (xk ⟨wr, Below.refl _ _⟩)) (Nat.lt_of_lt_of_le hbw hc1.size)
          have ym := KeptW.cell (w := w1) (B := w1.heap.size) ((hc1.cell (p := ⟨b, off + m, none⟩) hbw).trans (xm ⟨wr, Below.refl _ _⟩)) (Nat.lt_of_lt_of_le hbw hc1.size)
          have HB1 := Lib.hid (HBQ.out.trans (hbw1.mono HBQ.out.size))
          clear hbw1 hc1 HBQ xi xp xk xm
          rw [← HXP.out]
          have HOK : Hid (okD l i k ↔ stp l (i + 1) ≠ 0 ∧ stp l k = stp l (i + 1)) := Lib.hid Iff.rfl
          have HSK : Hid (∀ W : World, Calls Try.prog 64 #[.int .i64 (zk - zm)] W fun e w' => e = .returned (.int .i64 (stp l k)) ∧ W = w') := Lib.hid (fun W => by rw [HXK.out]; exact l1Sign_any _ _)
          clear HXP HXK
          generalize stp l (i + 1) = si at *
          generalize stp l k = sk at *
          by_cases h0 : si = 0
          · have hno : ¬ okD l i k := fun h => (HOK.out.1 h).1 h0
            have HE := Lib.hid ((HN.out hno).symm.trans HGO.out)
            subst h0
            clear hno HOK HN HY
            go_wp2_with fail
            refine region_kept w1.heap.size (by kernel_rfl) (by kernel_rfl) ?_
            repeat (go_big_quiet_step (fail))
            refine wpQuiet_nil ?_
            intro w2 hbw2
            have HB2 := Lib.hid (HB1.out.trans (hbw2.mono HB1.out.size))
            clear hbw2 HB1 yk ym
            go_wp2
            go_roundw
            case rel => exact ⟨i + 1, R, by omega, by go_num, rfl, rfl, by rw [HFIN.out, ← HE.out, HR.out], HB2.out⟩
            case measure => simp [intOf]; omega
          · have h1 : (si == 0) = false := by simp [h0]
            by_cases h2 : sk = si
            · have hyes : okD l i k := HOK.out.2 ⟨h0, h2⟩
              have HE := Lib.hid ((HY.out hyes).symm.trans HGO.out)
              have h3 : (sk != si) = false := by simp [h2]
              have HH2 := Lib.hid h2; have HH0 := Lib.hid h0
              clear hyes HOK HN HY h2 h0
              go_wp2_with fail
              refine region_kept w1.heap.size (by kernel_rfl) (by kernel_rfl) ?_
              repeat (go_big_quiet_step ((go_at_call 64; exact kept_same _ (HSK.out _))))
              refine wpQuiet_nil ?_
              intro w2 hbw2
              have HB2 := Lib.hid (HB1.out.trans (hbw2.mono HB1.out.size))
              clear hbw2 HB1 yk ym
              have HUP : Hid (updD S i (k + 1 - i) = if R.2 < k + 1 - i then (i, k + 1 - i) else R) := Lib.hid (by
                rw [HR.out, show k + 1 - i = (k - i) + 1 from by omega, ← upd_more]; rfl)
              have hki : (k : Int) - (i : Int) + 1 = ((k + 1 - i : Nat) : Int) := by omega
              by_cases hd : R.2 < k + 1 - i
              · have HR2 : Hid (updD S i (k + 1 - i) = (i, k + 1 - i)) := Lib.hid (by rw [HUP.out, if_pos hd])
                go_wp2
                go_roundw
                case rel => exact ⟨k + 1, (i, k + 1 - i), by omega, by omega, by go_num, rfl, by first | rfl | rw [hki] | (congr 1; omega), HR2.out.symm, HE.out, HB2.out⟩
                case measure => simp [intOf]; omega
              · have HR2 : Hid (updD S i (k + 1 - i) = R) := Lib.hid (by rw [HUP.out, if_neg hd])
                go_wp2
                go_roundw
                case rel => exact ⟨k + 1, R, by omega, by omega, by go_num, rfl, rfl, HR2.out.symm, HE.out, HB2.out⟩
                case measure => simp [intOf]; omega
            · have hno : ¬ okD l i k := fun h => h2 (HOK.out.1 h).2
              have HE := Lib.hid ((HN.out hno).symm.trans HGO.out)
              have h3 : (sk != si) = true := by simp [h2]
              have HH0 := Lib.hid h0
              clear hno HOK HN HY h2 h0
              go_wp2_with fail
              refine region_kept w1.heap.size (by kernel_rfl) (by kernel_rfl) ?_
              repeat (go_big_quiet_step ((go_at_call 64; exact kept_same _ (HSK.out _))))
              refine wpQuiet_nil ?_
              intro w2 hbw2
              have HB2 := Lib.hid (HB1.out.trans (hbw2.mono HB1.out.size))
              clear hbw2 HB1 yk ym
              go_wp2
              go_roundw
              case rel => exact ⟨i + 1, R, by omega, by go_num, rfl, rfl, by rw [HFIN.out, ← HE.out, HR.out], HB2.out⟩
              case measure => simp [intOf]; omega
        · have HE : Hid (drD l i = k - i) := Lib.hid (by rw [← HGO.out, goD_end l i hkl])
          go_wp2
          go_roundw
          case rel => exact ⟨i + 1, R, by omega, by go_num, rfl, rfl, by rw [HFIN.out, HE.out, HR.out], HBQ.out⟩
          case measure => simp [intOf]; omega
    · obtain rfl : i = l.length := by omega
      go_wp2
      go_ret3
      exact ⟨ret_iib (by rw [HM.out.1, HS.out]) (by rw [HM.out.2, HS.out]) HK.out.symm, HB.out⟩
end Go.Proofs.Ytbepgjknjopikaa

/-
  FnTightEntries: the walk of the law.
-/
import Derived.Test.YteagclokobkigaaGh
namespace Go.Proofs.Yteagclokobkigaa
open Go.RowKit
set_option linter.unusedVariables false

theorem BytesIn.below {w w' : World} {B : Nat} {A : Option Addr} {xs : List UInt8} (h : BytesIn w A xs) (hb : Below B w w') (hB : w.heap.size ≤ B) : BytesIn w' A xs := fun hn => by
  obtain ⟨b', off, e, hl, hc⟩ := h hn
  exact ⟨b', off, e, Nat.lt_of_lt_of_le hl hb.size, fun k hk => (hb.cell (by show b' < B; omega)).trans (hc k hk)⟩
set_option maxRecDepth 100000 in
set_option maxHeartbeats 8000000 in
theorem fnTightEntries_walk (A : Option Addr) (xs : List UInt8) (c : Nat) (Ay : Option Addr) (ys : List UInt8) (cy : Nat) (w : World) (hx : BytesIn w A xs) (hxs : xs.length ≤ maxLen) (hy : BytesIn w Ay ys) (hys : ys.length ≤ maxLen) :
    Calls Try.prog 4 #[.slice A xs.length c, .slice Ay ys.length cy] w fun e w' => e = .returned (.bool true) ∧ Below w.heap.size w w' := by
  have HX := Lib.hid hx; have HY := Lib.hid hy; clear hx hy
  go_enter Try.func4, Try.ntmps4
  go_wp2_with fail
  refine (big_any xs ys A Ay c cy w hxs hys).mono ?_
  rintro e w' ⟨⟨t, rfl⟩, rfl⟩
  cases t with
  | true =>
    go_wp2
    go_ret
    exact ⟨rfl, Below.refl _ _⟩
  | false =>
    go_wp2_with fail
    refine (drawTightEntries_any A c xs w HX.out hxs).mono ?_
    rintro e w1 ⟨n, l, B, d, g, rfl, hg1, hg2, hn1, hn2, hl, hld, hlr, hlo, hlb⟩
    have HB1 := Lib.hid hlb; have HE1 := Lib.hid (own_ensA hlo); have HR := Lib.hid hlr
    have hlx : l.length ≤ 1048576 := by omega
    clear hlb hlo hlr HX
    go_wp2_with fail
    refine (implTightEntries_any n l B d g w1 HE1.out hlx HR.out).mono ?_
    rintro e w2 ⟨q, T, rfl, hb, ho⟩
    obtain ⟨I1, i1, rfl⟩ := own_form ho
    have HB2 := Lib.hid (HB1.out.trans (hb.mono HB1.out.size)); have HE2 := Lib.hid (HE1.out.below hb (Nat.le_refl _)); have HI2 := Lib.hid (own_in ho)
    clear hb ho HB1 HE1
    go_wp2_with fail
    refine (specTightEntries_any n l B d g w2 HE2.out hlx).mono ?_
    rintro e w3 ⟨q, T, rfl, hb, ho⟩
    obtain ⟨I2, i2, rfl⟩ := own_form ho
    have HB3 := Lib.hid (HB2.out.trans (hb.mono HB2.out.size)); have HE3 := Lib.hid (HE2.out.below hb (Nat.le_refl _)); have HI3 := Lib.hid (HI2.out.below hb (Nat.le_refl _)); have HJ3 := Lib.hid (own_in ho)
    clear hb ho HB2 HE2 HI2
    have hts := teL_short n l g
    cases ha : askT n l g with
    | false =>
      go_wp2_with fail
      refine (sameInts_same (teL n l g) I1 I2 i1 i2 w3 HI3.out HJ3.out hts).mono ?_
      rintro e w4 ⟨rfl, hb⟩
      have HB4 := Lib.hid (HB3.out.trans (hb.mono HB3.out.size))
      clear hb HB3 HE3 HI3 HJ3 ha
      go_wp2_with fail
      refine (drawLatestColumns_any Ay cy ys w4 (HY.out.below HB4.out (Nat.le_refl _)) hys).mono ?_
      rintro e y1 ⟨m, u, D, e1, by_, tot, rfl, hy1, hy2, ht1, ht2, hm1, hm2, hul, huf, hur, huo, hub⟩
      have HY1 := Lib.hid (HB4.out.trans (hub.mono HB4.out.size))
      have HU1 := Lib.hid (own_ensA huo)
      have HUR := Lib.hid hur
      have hux : u.length ≤ 1048576 := by omega
      clear huo hub hur HB4
      go_wp2_with fail
      refine (implLatestColumns_any m u D e1 by_ tot y1 HU1.out hux HUR.out).mono ?_
      rintro e y2 ⟨q, T, rfl, hb, ho⟩
      obtain ⟨I1, i1, rfl⟩ := own_form ho
      have HY2 := Lib.hid (HY1.out.trans (hb.mono HY1.out.size)); have HU2 := Lib.hid (HU1.out.below hb (Nat.le_refl _)); have HI2 := Lib.hid (own_in ho)
      clear hb ho HY1 HU1
      go_wp2_with fail
      refine (specLatestColumns_any m u D e1 by_ tot y2 HU2.out hux).mono ?_
      rintro e y3 ⟨q, T, rfl, hb, ho⟩
      obtain ⟨I2, i2, rfl⟩ := own_form ho
      have HY3 := Lib.hid (HY2.out.trans (hb.mono HY2.out.size)); have HU3 := Lib.hid (HU2.out.below hb (Nat.le_refl _)); have HI3 := Lib.hid (HI2.out.below hb (Nat.le_refl _)); have HJ3 := Lib.hid (own_in ho)
      clear hb ho HY2 HU2 HI2
      have HLL := Lib.hid (fun h => lc_len (n := m) (l := u) (g := by_) (t := tot) h)
      have HLE := Lib.hid (fun h => lc_le (n := m) (l := u) (g := by_) (t := tot) h)
      have hlcs := lcL_short m u by_ tot
      have hlss := lsL_short m u by_
      obtain ⟨L, hL⟩ : ∃ L, L = lcL m u by_ tot := ⟨_, rfl⟩
      rw [← hL] at HLL HLE HI3 HJ3 hlcs ⊢
      clear hL
      obtain ⟨ok2, hok2⟩ : ∃ b, b = lcB m u by_ tot := ⟨_, rfl⟩
      have HO2 := Lib.hid hok2
      rw [← hok2] at HLL HLE ⊢
      clear hok2
      cases ok2 with
      | false =>
        go_wp2_with fail
        refine (sameInts_same L I1 I2 i1 i2 y3 HI3.out HJ3.out hlcs).mono ?_
        rintro e y4 ⟨rfl, hb⟩
        have HY4 := Lib.hid (HY3.out.trans (hb.mono HY3.out.size))
        clear hb HY3 HU3 HI3 HJ3 HLL HLE
        go_wp2_with fail
        refine (drawWidthWithout_any Ay cy ys y4 (HY.out.below HY4.out (Nat.le_refl _)) hys).mono ?_
        rintro e x1 ⟨p, v, E, f, sp, i, rfl, hs1, hs2, hi1, hi2, hp1, hp2, hvl, hvf, hvr, hvo, hvb⟩
        have HX1 := Lib.hid (HY4.out.trans (hvb.mono HY4.out.size))
        have HV1 := Lib.hid (own_ensA hvo)
        have HVR := Lib.hid hvr
        have hvx : v.length ≤ 1048576 := by omega
        clear hvo hvb hvr HY4
        go_wp2_with fail
        refine (implWidthWithout_any p v E f sp i x1 HV1.out hvx hvf HVR.out).mono ?_
        rintro e x2 ⟨rfl, hb⟩
        have HX2 := Lib.hid (HX1.out.trans (hb.mono HX1.out.size)); have HV2 := Lib.hid (HV1.out.below hb (Nat.le_refl _))
        clear hb HX1 HV1
        go_wp2_with fail
        refine (specWidthWithout_any p v E f sp i x2 HV2.out hvx hvf).mono ?_
        rintro e x3 ⟨rfl, hb⟩
        have HX3 := Lib.hid (HX2.out.trans (hb.mono HX2.out.size)); have HV3 := Lib.hid (HV2.out.below hb (Nat.le_refl _))
        clear hb HX2 HV2
        have HWW := Lib.hid (fun h => ww_le (n := p) (l := v) (g := sp) (i := i) h)
        obtain ⟨wv, hwv⟩ : ∃ wv, wv = wwV p v sp i := ⟨_, rfl⟩
        rw [← hwv] at HWW ⊢
        clear hwv
        have hww : (wv != wv) = false := by simp
        cases hwb : wwB p v sp i
        · go_wp2
          go_ret
          exact ⟨rfl, HX3.out⟩
        · obtain ⟨haw, hle⟩ := HWW.out hwb
          clear hwb HWW
          go_wp2_with fail
          refine (implTableWidth_any p v E f sp x3 HV3.out hvx HVR.out).mono ?_
          rintro e x4 ⟨rfl, hb⟩
          rw [haw]
          have HX4 := Lib.hid (HX3.out.trans (hb.mono HX3.out.size))
          clear hb HX3 haw
          generalize twV p v sp = tv at *
          go_wp2
          go_ret
          exact ⟨rfl, HX4.out⟩
      | true =>
        go_wp2_with fail
        refine (sameInts_same L I1 I2 i1 i2 y3 HI3.out HJ3.out hlcs).mono ?_
        rintro e y4 ⟨rfl, hb⟩
        have HY4 := Lib.hid (HY3.out.trans (hb.mono HY3.out.size)); have HU4 := Lib.hid (HU3.out.below hb (Nat.le_refl _)); have HJ4 := Lib.hid (HJ3.out.below hb (Nat.le_refl _))
        have hLL := HLL.out (by simp)
        have HLE2 := Lib.hid (HLE.out (by simp))
        clear hb HY3 HU3 HI3 HJ3 HLL HLE
        have HAY := Lib.hid (lc_ask HO2.out.symm).1
        go_wp2_with fail
        refine (implLeastStarts_any m u D e1 by_ y4 HU4.out hux HUR.out).mono ?_
        rintro e y5 ⟨q, T, rfl, hb, ho⟩
        rw [HAY.out]
        obtain ⟨I3, i3, rfl⟩ := own_form ho
        have HY5 := Lib.hid (HY4.out.trans (hb.mono HY4.out.size)); have HU5 := Lib.hid (HU4.out.below hb (Nat.le_refl _)); have HJ5 := Lib.hid (HJ4.out.below hb (Nat.le_refl _)); have HS5 := Lib.hid (own_in ho)
        clear hb ho HY4 HU4 HJ4
        obtain ⟨S, hS⟩ : ∃ S, S = lsL m u by_ := ⟨_, rfl⟩
        rw [← hS] at hLL HLE2 HS5 hlss ⊢
        clear hS
        have hlne : ((L.length : Int) != (S.length : Int)) = false := by rw [hLL]; simp
        go_wp2
        go_loopw [196] (fun i wr => ∃ k : Nat, k ≤ L.length ∧ i = .int .i64 (k : Int) ∧ Hid (Below y5.heap.size y5 wr)) (fun i _ => L.length - (intOf i).toNat)
        case atStart => exact ⟨0, Nat.zero_le _, rfl, Lib.hid (Below.refl _ _)⟩
        case round =>
          obtain ⟨k, hk, rfl, hbw⟩ := hrel
          by_cases hlt : k < L.length
          · have hlt2 : k < S.length := by omega
            obtain ⟨b1, o1, rfl, hbl1, hc1⟩ := HJ5.out (by omega)
            obtain ⟨b2, o2, rfl, hbl2, hc2⟩ := HS5.out (by omega)
            have k1 := hc1 k hlt
            have k2 := hc2 k hlt2
            rw [← hbw.out.cell (p := ⟨b1, o1 + k, none⟩) hbl1] at k1
            rw [← hbw.out.cell (p := ⟨b2, o2 + k, none⟩) hbl2] at k2
            have hkl : (k : Int) < (L.length : Int) := by omega
            have hks : (k : Int) < (S.length : Int) := by omega
            have hk0 : (0 : Int) ≤ (k : Int) := by omega
            have hle := HLE2.out k hlt hlt2
            clear hc1 hc2
            generalize L[k]'hlt = a at *
            generalize S[k]'hlt2 = b at *
            go_wp2
            go_roundw
            case rel => exact ⟨k + 1, by omega, by go_num, hbw⟩
            case measure => simp [intOf]; omega
          · have hkl : ¬ (k : Int) < (L.length : Int) := by omega
            have HYR := Lib.hid (HY5.out.trans (hbw.out.mono HY5.out.size)); have HUX := Lib.hid (HU5.out.below hbw.out (Nat.le_refl _))
            clear HY5 HU5 HJ5 HS5 HLE2 hbw
            go_wp2_with fail
            refine (implSpreadTable_any m u D e1 by_ tot wr HUX.out hux HUR.out).mono ?_
            rintro e y6 ⟨q, T, rfl, hb, ho⟩
            obtain ⟨I4, i4, rfl⟩ := own_form ho
            have HY6 := Lib.hid (HYR.out.trans (hb.mono HYR.out.size)); have HU6 := Lib.hid (HUX.out.below hb (Nat.le_refl _)); have HI6 := Lib.hid (own_in ho)
            clear hb ho HYR HUX
            go_wp2_with fail
            refine (specSpreadTable_any m u D e1 by_ tot y6 HU6.out hux).mono ?_
            rintro e y7 ⟨q, T, rfl, hb, ho⟩
            obtain ⟨I5, i5, rfl⟩ := own_form ho
            have HY7 := Lib.hid (HY6.out.trans (hb.mono HY6.out.size)); have HI7 := Lib.hid (HI6.out.below hb (Nat.le_refl _)); have HJ7 := Lib.hid (own_in ho)
            clear hb ho HY6 HU6 HI6
            rw [← HO2.out]
            have hps := spL_short m u by_ tot
            have HBD := Lib.hid (sp_bd HO2.out.symm)
            have hsum := sp_sum HO2.out.symm
            obtain ⟨hG, g0, g36, t0, t1, -⟩ := lc_parts HO2.out.symm
            have hmm0 := hG.n0; have hmm1 := hG.n1
            have hmul := mul_small (n := m) (g := by_) (by omega) (by omega) g0 g36
            obtain ⟨P, hP⟩ : ∃ P, P = spL m u by_ tot := ⟨_, rfl⟩
            rw [← hP] at hps HBD hsum HI7 HJ7 ⊢
            clear hP hG
            go_wp2_with fail
            refine (sameInts_same P I4 I5 i4 i5 y7 HI7.out HJ7.out hps).mono ?_
            rintro e y8 ⟨rfl, hb⟩
            have HY8 := Lib.hid (HY7.out.trans (hb.mono HY7.out.size)); have HJ8 := Lib.hid (HJ7.out.below hb (Nat.le_refl _))
            clear hb HY7 HI7 HJ7
            go_wp2_with fail
            refine (pSum_any P I5 i5 y8 HJ8.out hps HBD.out).mono ?_
            rintro e y9 ⟨rfl, hb⟩
            have HY9 := Lib.hid (HY8.out.trans (hb.mono HY8.out.size))
            clear hb HY8 HJ8 HBD
            generalize smI P = sm at *
            have hne9 : (sm + (m - 1) * by_ != tot) = false := by rw [hsum]; simp
            go_wp2_with fail
            refine (drawWidthWithout_any Ay cy ys y9 (HY.out.below HY9.out (Nat.le_refl _)) hys).mono ?_
            rintro e x1 ⟨p, v, E, f, sp, i, rfl, hs1, hs2, hi1, hi2, hp1, hp2, hvl, hvf, hvr, hvo, hvb⟩
            have HX1 := Lib.hid (HY9.out.trans (hvb.mono HY9.out.size))
            have HV1 := Lib.hid (own_ensA hvo)
            have HVR := Lib.hid hvr
            have hvx : v.length ≤ 1048576 := by omega
            clear hvo hvb hvr HY9
            go_wp2_with fail
            refine (implWidthWithout_any p v E f sp i x1 HV1.out hvx hvf HVR.out).mono ?_
            rintro e x2 ⟨rfl, hb⟩
            have HX2 := Lib.hid (HX1.out.trans (hb.mono HX1.out.size)); have HV2 := Lib.hid (HV1.out.below hb (Nat.le_refl _))
            clear hb HX1 HV1
            go_wp2_with fail
            refine (specWidthWithout_any p v E f sp i x2 HV2.out hvx hvf).mono ?_
            rintro e x3 ⟨rfl, hb⟩
            have HX3 := Lib.hid (HX2.out.trans (hb.mono HX2.out.size)); have HV3 := Lib.hid (HV2.out.below hb (Nat.le_refl _))
            clear hb HX2 HV2
            have HWW := Lib.hid (fun h => ww_le (n := p) (l := v) (g := sp) (i := i) h)
            obtain ⟨wv, hwv⟩ : ∃ wv, wv = wwV p v sp i := ⟨_, rfl⟩
            rw [← hwv] at HWW ⊢
            clear hwv
            have hww : (wv != wv) = false := by simp
            cases hwb : wwB p v sp i
            · go_wp2
              go_ret
              exact ⟨rfl, HX3.out⟩
            · obtain ⟨haw, hle⟩ := HWW.out hwb
              clear hwb HWW
              go_wp2_with fail
              refine (implTableWidth_any p v E f sp x3 HV3.out hvx HVR.out).mono ?_
              rintro e x4 ⟨rfl, hb⟩
              rw [haw]
              have HX4 := Lib.hid (HX3.out.trans (hb.mono HX3.out.size))
              clear hb HX3 haw
              generalize twV p v sp = tv at *
              go_wp2
              go_ret
              exact ⟨rfl, HX4.out⟩
    | true =>
      have HA := Lib.hid ha
      have hG := (askT_iff.1 ha).1
      have g0 := (askT_iff.1 ha).2.1; have g36 := (askT_iff.1 ha).2.2
      have hmul := mul_small (n := n) (g := g) (by have := hG.n0; omega) (by have := hG.n1; omega) g0 g36
      have HTE := Lib.hid (fun (k : Nat) (hk : k < l.length) => te_in (k := k) ha hk)
      have HTS := Lib.hid (te_some ha)
      have HRM := Lib.hid (fun (k : Nat) (hk : k < l.length) => rm_ge hG.all g (List.getElem_mem hk))
      have hnn0 := hG.n0; have hnn1 := hG.n1
      obtain ⟨TE, hTE⟩ : ∃ TE, TE = teL n l g := ⟨_, rfl⟩
      rw [← hTE] at HTE HTS HI3 HJ3 hts ⊢
      clear hTE hG ha
      go_wp2_with fail
      refine (sameInts_same TE I1 I2 i1 i2 w3 HI3.out HJ3.out hts).mono ?_
      rintro e w4 ⟨rfl, hb⟩
      have HB4 := Lib.hid (HB3.out.trans (hb.mono HB3.out.size)); have HE4 := Lib.hid (HE3.out.below hb (Nat.le_refl _)); have HJ4 := Lib.hid (HJ3.out.below hb (Nat.le_refl _))
      clear hb HB3 HE3 HI3 HJ3
      go_wp2
      go_loopw [80] (fun i wr => ∃ k : Nat, k ≤ l.length ∧ i = .int .i64 (k : Int) ∧ Hid (Below w4.heap.size w4 wr)) (fun i _ => l.length - (intOf i).toNat)
      case atStart => exact ⟨0, Nat.zero_le _, rfl, Lib.hid (Below.refl _ _)⟩
      case round =>
        obtain ⟨k, hk, rfl, hbw⟩ := hrel
        by_cases hlt : k < l.length
        · have hkl : (k : Int) < (l.length : Int) := by omega
          have hk0 : (0 : Int) ≤ (k : Int) := by omega
          have HRO : Hid (roB n l g (k : Int) = true) := Lib.hid (by unfold roB; rw [HA.out, Bool.true_and, inBs_iff]; omega)
          have HRV := Lib.hid (ro_yes hlt HRO.out)
          have HTK := Lib.hid (HTE.out k hlt)
          have hr0 := HRM.out k hlt
          go_wp2_with fail
          refine (implRoomOfEntry_any n l B d g (k : Int) wr (HE4.out.below hbw.out (Nat.le_refl _)) hlx HR.out).mono ?_
          rintro e u1 ⟨rfl, hb⟩
          have HW1 := Lib.hid (hbw.out.trans (hb.mono hbw.out.size))
          clear hb hbw
          go_wp2_with fail
          refine (specRoomOfEntry_any n l B d g (k : Int) u1 (HE4.out.below HW1.out (Nat.le_refl _)) hlx).mono ?_
          rintro e u2 ⟨rfl, hb⟩
          have HW2 := Lib.hid (HW1.out.trans (hb.mono HW1.out.size))
          clear hb HW1
          rw [HRO.out, HRV.out]
          clear HRO HRV
          generalize rmV n l g (l[k]'hlt) = r at *
          have hrr : (r != r) = false := by simp
          go_wp2_with fail
          refine (pIn_any TE (k : Int) I2 i2 u2 (HJ4.out.below HW2.out (Nat.le_refl _)) hts).mono ?_
          rintro e u3 ⟨rfl, hb⟩
          rw [HTK.out]
          have HW3 := Lib.hid (HW2.out.trans (hb.mono HW2.out.size))
          clear hb HW2 HTK
          by_cases hrz : r = 0
          · subst hrz
            go_wp2
            go_roundw
            case rel => exact ⟨k + 1, by omega, by go_num, HW3⟩
            case measure => simp [intOf]; omega
          · have hr1 : decide (r = 0) = false := decide_eq_false hrz
            have hr2 : (r == 0) = false := by simp [hrz]
            rw [hr1]
            go_wp2
            go_roundw
            case rel => exact ⟨k + 1, by omega, by go_num, HW3⟩
            case measure => simp [intOf]; omega
        · have hkl : ¬ (k : Int) < (l.length : Int) := by omega
          have HB5 := Lib.hid (HB4.out.trans (hbw.out.mono HB4.out.size)); have HE5 := Lib.hid (HE4.out.below hbw.out (Nat.le_refl _))
          clear HTE HRM HB4 HE4 HJ4 hbw
          go_wp2_with fail
          refine (implTableWidth_any n l B d g wr HE5.out hlx HR.out).mono ?_
          rintro e w6 ⟨rfl, hb⟩
          rw [HA.out]
          have HB6 := Lib.hid (HB5.out.trans (hb.mono HB5.out.size))
          clear hb HB5 HE5
          generalize twV n l g = W at *
          by_cases hgt : (n - 1) * g < W
          · have htl := HTS.out hgt
            have hte : ((TE.length : Int) == 0) = false := beq_eq_false_iff_ne.2 (by omega)
            clear HTS
            go_wp2_with fail
            refine (drawLatestColumns_any Ay cy ys w6 (HY.out.below HB6.out (Nat.le_refl _)) hys).mono ?_
            rintro e y1 ⟨m, u, D, e1, by_, tot, rfl, hy1, hy2, ht1, ht2, hm1, hm2, hul, huf, hur, huo, hub⟩
            have HY1 := Lib.hid (HB6.out.trans (hub.mono HB6.out.size))
            have HU1 := Lib.hid (own_ensA huo)
            have HUR := Lib.hid hur
            have hux : u.length ≤ 1048576 := by omega
            clear huo hub hur HB6
            go_wp2_with fail
            refine (implLatestColumns_any m u D e1 by_ tot y1 HU1.out hux HUR.out).mono ?_
            rintro e y2 ⟨q, T, rfl, hb, ho⟩
            obtain ⟨I1, i1, rfl⟩ := own_form ho
            have HY2 := Lib.hid (HY1.out.trans (hb.mono HY1.out.size)); have HU2 := Lib.hid (HU1.out.below hb (Nat.le_refl _)); have HI2 := Lib.hid (own_in ho)
            clear hb ho HY1 HU1
            go_wp2_with fail
            refine (specLatestColumns_any m u D e1 by_ tot y2 HU2.out hux).mono ?_
            rintro e y3 ⟨q, T, rfl, hb, ho⟩
            obtain ⟨I2, i2, rfl⟩ := own_form ho
            have HY3 := Lib.hid (HY2.out.trans (hb.mono HY2.out.size)); have HU3 := Lib.hid (HU2.out.below hb (Nat.le_refl _)); have HI3 := Lib.hid (HI2.out.below hb (Nat.le_refl _)); have HJ3 := Lib.hid (own_in ho)
            clear hb ho HY2 HU2 HI2
            have HLL := Lib.hid (fun h => lc_len (n := m) (l := u) (g := by_) (t := tot) h)
            have HLE := Lib.hid (fun h => lc_le (n := m) (l := u) (g := by_) (t := tot) h)
            have hlcs := lcL_short m u by_ tot
            have hlss := lsL_short m u by_
            obtain ⟨L, hL⟩ : ∃ L, L = lcL m u by_ tot := ⟨_, rfl⟩
            rw [← hL] at HLL HLE HI3 HJ3 hlcs ⊢
            clear hL
            obtain ⟨ok2, hok2⟩ : ∃ b, b = lcB m u by_ tot := ⟨_, rfl⟩
            have HO2 := Lib.hid hok2
            rw [← hok2] at HLL HLE ⊢
            clear hok2
            cases ok2 with
            | false =>
              go_wp2_with fail
              refine (sameInts_same L I1 I2 i1 i2 y3 HI3.out HJ3.out hlcs).mono ?_
              rintro e y4 ⟨rfl, hb⟩
              have HY4 := Lib.hid (HY3.out.trans (hb.mono HY3.out.size))
              clear hb HY3 HU3 HI3 HJ3 HLL HLE
              go_wp2_with fail
              refine (drawWidthWithout_any Ay cy ys y4 (HY.out.below HY4.out (Nat.le_refl _)) hys).mono ?_
              rintro e x1 ⟨p, v, E, f, sp, i, rfl, hs1, hs2, hi1, hi2, hp1, hp2, hvl, hvf, hvr, hvo, hvb⟩
              have HX1 := Lib.hid (HY4.out.trans (hvb.mono HY4.out.size))
              have HV1 := Lib.hid (own_ensA hvo)
              have HVR := Lib.hid hvr
              have hvx : v.length ≤ 1048576 := by omega
              clear hvo hvb hvr HY4
              go_wp2_with fail
              refine (implWidthWithout_any p v E f sp i x1 HV1.out hvx hvf HVR.out).mono ?_
              rintro e x2 ⟨rfl, hb⟩
              have HX2 := Lib.hid (HX1.out.trans (hb.mono HX1.out.size)); have HV2 := Lib.hid (HV1.out.below hb (Nat.le_refl _))
              clear hb HX1 HV1
              go_wp2_with fail
              refine (specWidthWithout_any p v E f sp i x2 HV2.out hvx hvf).mono ?_
              rintro e x3 ⟨rfl, hb⟩
              have HX3 := Lib.hid (HX2.out.trans (hb.mono HX2.out.size)); have HV3 := Lib.hid (HV2.out.below hb (Nat.le_refl _))
              clear hb HX2 HV2
              have HWW := Lib.hid (fun h => ww_le (n := p) (l := v) (g := sp) (i := i) h)
              obtain ⟨wv, hwv⟩ : ∃ wv, wv = wwV p v sp i := ⟨_, rfl⟩
              rw [← hwv] at HWW ⊢
              clear hwv
              have hww : (wv != wv) = false := by simp
              cases hwb : wwB p v sp i
              · go_wp2
                go_ret
                exact ⟨rfl, HX3.out⟩
              · obtain ⟨haw, hle⟩ := HWW.out hwb
                clear hwb HWW
                go_wp2_with fail
                refine (implTableWidth_any p v E f sp x3 HV3.out hvx HVR.out).mono ?_
                rintro e x4 ⟨rfl, hb⟩
                rw [haw]
                have HX4 := Lib.hid (HX3.out.trans (hb.mono HX3.out.size))
                clear hb HX3 haw
                generalize twV p v sp = tv at *
                go_wp2
                go_ret
                exact ⟨rfl, HX4.out⟩
            | true =>
              go_wp2_with fail
              refine (sameInts_same L I1 I2 i1 i2 y3 HI3.out HJ3.out hlcs).mono ?_
              rintro e y4 ⟨rfl, hb⟩
              have HY4 := Lib.hid (HY3.out.trans (hb.mono HY3.out.size)); have HU4 := Lib.hid (HU3.out.below hb (Nat.le_refl _)); have HJ4 := Lib.hid (HJ3.out.below hb (Nat.le_refl _))
              have hLL := HLL.out (by simp)
              have HLE2 := Lib.hid (HLE.out (by simp))
              clear hb HY3 HU3 HI3 HJ3 HLL HLE
              have HAY := Lib.hid (lc_ask HO2.out.symm).1
              go_wp2_with fail
              refine (implLeastStarts_any m u D e1 by_ y4 HU4.out hux HUR.out).mono ?_
              rintro e y5 ⟨q, T, rfl, hb, ho⟩
              rw [HAY.out]
              obtain ⟨I3, i3, rfl⟩ := own_form ho
              have HY5 := Lib.hid (HY4.out.trans (hb.mono HY4.out.size)); have HU5 := Lib.hid (HU4.out.below hb (Nat.le_refl _)); have HJ5 := Lib.hid (HJ4.out.below hb (Nat.le_refl _)); have HS5 := Lib.hid (own_in ho)
              clear hb ho HY4 HU4 HJ4
              obtain ⟨S, hS⟩ : ∃ S, S = lsL m u by_ := ⟨_, rfl⟩
              rw [← hS] at hLL HLE2 HS5 hlss ⊢
              clear hS
              have hlne : ((L.length : Int) != (S.length : Int)) = false := by rw [hLL]; simp
              go_wp2
              go_loopw [196] (fun i wr => ∃ k : Nat, k ≤ L.length ∧ i = .int .i64 (k : Int) ∧ Hid (Below y5.heap.size y5 wr)) (fun i _ => L.length - (intOf i).toNat)
              case atStart => exact ⟨0, Nat.zero_le _, rfl, Lib.hid (Below.refl _ _)⟩
              case round =>
                obtain ⟨k, hk, rfl, hbw⟩ := hrel
                by_cases hlt : k < L.length
                · have hlt2 : k < S.length := by omega
                  obtain ⟨b1, o1, rfl, hbl1, hc1⟩ := HJ5.out (by omega)
                  obtain ⟨b2, o2, rfl, hbl2, hc2⟩ := HS5.out (by omega)
                  have k1 := hc1 k hlt
                  have k2 := hc2 k hlt2
                  rw [← hbw.out.cell (p := ⟨b1, o1 + k, none⟩) hbl1] at k1
                  rw [← hbw.out.cell (p := ⟨b2, o2 + k, none⟩) hbl2] at k2
                  have hkl : (k : Int) < (L.length : Int) := by omega
                  have hks : (k : Int) < (S.length : Int) := by omega
                  have hk0 : (0 : Int) ≤ (k : Int) := by omega
                  have hle := HLE2.out k hlt hlt2
                  clear hc1 hc2
                  generalize L[k]'hlt = a at *
                  generalize S[k]'hlt2 = b at *
                  go_wp2
                  go_roundw
                  case rel => exact ⟨k + 1, by omega, by go_num, hbw⟩
                  case measure => simp [intOf]; omega
                · have hkl : ¬ (k : Int) < (L.length : Int) := by omega
                  have HYR := Lib.hid (HY5.out.trans (hbw.out.mono HY5.out.size)); have HUX := Lib.hid (HU5.out.below hbw.out (Nat.le_refl _))
                  clear HY5 HU5 HJ5 HS5 HLE2 hbw
                  go_wp2_with fail
                  refine (implSpreadTable_any m u D e1 by_ tot wr HUX.out hux HUR.out).mono ?_
                  rintro e y6 ⟨q, T, rfl, hb, ho⟩
                  obtain ⟨I4, i4, rfl⟩ := own_form ho
                  have HY6 := Lib.hid (HYR.out.trans (hb.mono HYR.out.size)); have HU6 := Lib.hid (HUX.out.below hb (Nat.le_refl _)); have HI6 := Lib.hid (own_in ho)
                  clear hb ho HYR HUX
                  go_wp2_with fail
                  refine (specSpreadTable_any m u D e1 by_ tot y6 HU6.out hux).mono ?_
                  rintro e y7 ⟨q, T, rfl, hb, ho⟩
                  obtain ⟨I5, i5, rfl⟩ := own_form ho
                  have HY7 := Lib.hid (HY6.out.trans (hb.mono HY6.out.size)); have HI7 := Lib.hid (HI6.out.below hb (Nat.le_refl _)); have HJ7 := Lib.hid (own_in ho)
                  clear hb ho HY6 HU6 HI6
                  rw [← HO2.out]
                  have hps := spL_short m u by_ tot
                  have HBD := Lib.hid (sp_bd HO2.out.symm)
                  have hsum := sp_sum HO2.out.symm
                  obtain ⟨hG, g0, g36, t0, t1, -⟩ := lc_parts HO2.out.symm
                  have hmm0 := hG.n0; have hmm1 := hG.n1
                  have hmul := mul_small (n := m) (g := by_) (by omega) (by omega) g0 g36
                  obtain ⟨P, hP⟩ : ∃ P, P = spL m u by_ tot := ⟨_, rfl⟩
                  rw [← hP] at hps HBD hsum HI7 HJ7 ⊢
                  clear hP hG
                  go_wp2_with fail
                  refine (sameInts_same P I4 I5 i4 i5 y7 HI7.out HJ7.out hps).mono ?_
                  rintro e y8 ⟨rfl, hb⟩
                  have HY8 := Lib.hid (HY7.out.trans (hb.mono HY7.out.size)); have HJ8 := Lib.hid (HJ7.out.below hb (Nat.le_refl _))
                  clear hb HY7 HI7 HJ7
                  go_wp2_with fail
                  refine (pSum_any P I5 i5 y8 HJ8.out hps HBD.out).mono ?_
                  rintro e y9 ⟨rfl, hb⟩
                  have HY9 := Lib.hid (HY8.out.trans (hb.mono HY8.out.size))
                  clear hb HY8 HJ8 HBD
                  generalize smI P = sm at *
                  have hne9 : (sm + (m - 1) * by_ != tot) = false := by rw [hsum]; simp
                  go_wp2_with fail
                  refine (drawWidthWithout_any Ay cy ys y9 (HY.out.below HY9.out (Nat.le_refl _)) hys).mono ?_
                  rintro e x1 ⟨p, v, E, f, sp, i, rfl, hs1, hs2, hi1, hi2, hp1, hp2, hvl, hvf, hvr, hvo, hvb⟩
                  have HX1 := Lib.hid (HY9.out.trans (hvb.mono HY9.out.size))
                  have HV1 := Lib.hid (own_ensA hvo)
                  have HVR := Lib.hid hvr
                  have hvx : v.length ≤ 1048576 := by omega
                  clear hvo hvb hvr HY9
                  go_wp2_with fail
                  refine (implWidthWithout_any p v E f sp i x1 HV1.out hvx hvf HVR.out).mono ?_
                  rintro e x2 ⟨rfl, hb⟩
                  have HX2 := Lib.hid (HX1.out.trans (hb.mono HX1.out.size)); have HV2 := Lib.hid (HV1.out.below hb (Nat.le_refl _))
                  clear hb HX1 HV1
                  go_wp2_with fail
                  refine (specWidthWithout_any p v E f sp i x2 HV2.out hvx hvf).mono ?_
                  rintro e x3 ⟨rfl, hb⟩
                  have HX3 := Lib.hid (HX2.out.trans (hb.mono HX2.out.size)); have HV3 := Lib.hid (HV2.out.below hb (Nat.le_refl _))
                  clear hb HX2 HV2
                  have HWW := Lib.hid (fun h => ww_le (n := p) (l := v) (g := sp) (i := i) h)
                  obtain ⟨wv, hwv⟩ : ∃ wv, wv = wwV p v sp i := ⟨_, rfl⟩
                  rw [← hwv] at HWW ⊢
                  clear hwv
                  have hww : (wv != wv) = false := by simp
                  cases hwb : wwB p v sp i
                  · go_wp2
                    go_ret
                    exact ⟨rfl, HX3.out⟩
                  · obtain ⟨haw, hle⟩ := HWW.out hwb
                    clear hwb HWW
                    go_wp2_with fail
                    refine (implTableWidth_any p v E f sp x3 HV3.out hvx HVR.out).mono ?_
                    rintro e x4 ⟨rfl, hb⟩
                    rw [haw]
                    have HX4 := Lib.hid (HX3.out.trans (hb.mono HX3.out.size))
                    clear hb HX3 haw
                    generalize twV p v sp = tv at *
                    go_wp2
                    go_ret
                    exact ⟨rfl, HX4.out⟩
          · clear HTS
            go_wp2_with fail
            refine (drawLatestColumns_any Ay cy ys w6 (HY.out.below HB6.out (Nat.le_refl _)) hys).mono ?_
            rintro e y1 ⟨m, u, D, e1, by_, tot, rfl, hy1, hy2, ht1, ht2, hm1, hm2, hul, huf, hur, huo, hub⟩
            have HY1 := Lib.hid (HB6.out.trans (hub.mono HB6.out.size))
            have HU1 := Lib.hid (own_ensA huo)
            have HUR := Lib.hid hur
            have hux : u.length ≤ 1048576 := by omega
            clear huo hub hur HB6
            go_wp2_with fail
            refine (implLatestColumns_any m u D e1 by_ tot y1 HU1.out hux HUR.out).mono ?_
            rintro e y2 ⟨q, T, rfl, hb, ho⟩
            obtain ⟨I1, i1, rfl⟩ := own_form ho
            have HY2 := Lib.hid (HY1.out.trans (hb.mono HY1.out.size)); have HU2 := Lib.hid (HU1.out.below hb (Nat.le_refl _)); have HI2 := Lib.hid (own_in ho)
            clear hb ho HY1 HU1
            go_wp2_with fail
            refine (specLatestColumns_any m u D e1 by_ tot y2 HU2.out hux).mono ?_
            rintro e y3 ⟨q, T, rfl, hb, ho⟩
            obtain ⟨I2, i2, rfl⟩ := own_form ho
            have HY3 := Lib.hid (HY2.out.trans (hb.mono HY2.out.size)); have HU3 := Lib.hid (HU2.out.below hb (Nat.le_refl _)); have HI3 := Lib.hid (HI2.out.below hb (Nat.le_refl _)); have HJ3 := Lib.hid (own_in ho)
            clear hb ho HY2 HU2 HI2
            have HLL := Lib.hid (fun h => lc_len (n := m) (l := u) (g := by_) (t := tot) h)
            have HLE := Lib.hid (fun h => lc_le (n := m) (l := u) (g := by_) (t := tot) h)
            have hlcs := lcL_short m u by_ tot
            have hlss := lsL_short m u by_
            obtain ⟨L, hL⟩ : ∃ L, L = lcL m u by_ tot := ⟨_, rfl⟩
            rw [← hL] at HLL HLE HI3 HJ3 hlcs ⊢
            clear hL
            obtain ⟨ok2, hok2⟩ : ∃ b, b = lcB m u by_ tot := ⟨_, rfl⟩
            have HO2 := Lib.hid hok2
            rw [← hok2] at HLL HLE ⊢
            clear hok2
            cases ok2 with
            | false =>
              go_wp2_with fail
              refine (sameInts_same L I1 I2 i1 i2 y3 HI3.out HJ3.out hlcs).mono ?_
              rintro e y4 ⟨rfl, hb⟩
              have HY4 := Lib.hid (HY3.out.trans (hb.mono HY3.out.size))
              clear hb HY3 HU3 HI3 HJ3 HLL HLE
              go_wp2_with fail
              refine (drawWidthWithout_any Ay cy ys y4 (HY.out.below HY4.out (Nat.le_refl _)) hys).mono ?_
              rintro e x1 ⟨p, v, E, f, sp, i, rfl, hs1, hs2, hi1, hi2, hp1, hp2, hvl, hvf, hvr, hvo, hvb⟩
              have HX1 := Lib.hid (HY4.out.trans (hvb.mono HY4.out.size))
              have HV1 := Lib.hid (own_ensA hvo)
              have HVR := Lib.hid hvr
              have hvx : v.length ≤ 1048576 := by omega
              clear hvo hvb hvr HY4
              go_wp2_with fail
              refine (implWidthWithout_any p v E f sp i x1 HV1.out hvx hvf HVR.out).mono ?_
              rintro e x2 ⟨rfl, hb⟩
              have HX2 := Lib.hid (HX1.out.trans (hb.mono HX1.out.size)); have HV2 := Lib.hid (HV1.out.below hb (Nat.le_refl _))
              clear hb HX1 HV1
              go_wp2_with fail
              refine (specWidthWithout_any p v E f sp i x2 HV2.out hvx hvf).mono ?_
              rintro e x3 ⟨rfl, hb⟩
              have HX3 := Lib.hid (HX2.out.trans (hb.mono HX2.out.size)); have HV3 := Lib.hid (HV2.out.below hb (Nat.le_refl _))
              clear hb HX2 HV2
              have HWW := Lib.hid (fun h => ww_le (n := p) (l := v) (g := sp) (i := i) h)
              obtain ⟨wv, hwv⟩ : ∃ wv, wv = wwV p v sp i := ⟨_, rfl⟩
              rw [← hwv] at HWW ⊢
              clear hwv
              have hww : (wv != wv) = false := by simp
              cases hwb : wwB p v sp i
              · go_wp2
                go_ret
                exact ⟨rfl, HX3.out⟩
              · obtain ⟨haw, hle⟩ := HWW.out hwb
                clear hwb HWW
                go_wp2_with fail
                refine (implTableWidth_any p v E f sp x3 HV3.out hvx HVR.out).mono ?_
                rintro e x4 ⟨rfl, hb⟩
                rw [haw]
                have HX4 := Lib.hid (HX3.out.trans (hb.mono HX3.out.size))
                clear hb HX3 haw
                generalize twV p v sp = tv at *
                go_wp2
                go_ret
                exact ⟨rfl, HX4.out⟩
            | true =>
              go_wp2_with fail
              refine (sameInts_same L I1 I2 i1 i2 y3 HI3.out HJ3.out hlcs).mono ?_
              rintro e y4 ⟨rfl, hb⟩
              have HY4 := Lib.hid (HY3.out.trans (hb.mono HY3.out.size)); have HU4 := Lib.hid (HU3.out.below hb (Nat.le_refl _)); have HJ4 := Lib.hid (HJ3.out.below hb (Nat.le_refl _))
              have hLL := HLL.out (by simp)
              have HLE2 := Lib.hid (HLE.out (by simp))
              clear hb HY3 HU3 HI3 HJ3 HLL HLE
              have HAY := Lib.hid (lc_ask HO2.out.symm).1
              go_wp2_with fail
              refine (implLeastStarts_any m u D e1 by_ y4 HU4.out hux HUR.out).mono ?_
              rintro e y5 ⟨q, T, rfl, hb, ho⟩
              rw [HAY.out]
              obtain ⟨I3, i3, rfl⟩ := own_form ho
              have HY5 := Lib.hid (HY4.out.trans (hb.mono HY4.out.size)); have HU5 := Lib.hid (HU4.out.below hb (Nat.le_refl _)); have HJ5 := Lib.hid (HJ4.out.below hb (Nat.le_refl _)); have HS5 := Lib.hid (own_in ho)
              clear hb ho HY4 HU4 HJ4
              obtain ⟨S, hS⟩ : ∃ S, S = lsL m u by_ := ⟨_, rfl⟩
              rw [← hS] at hLL HLE2 HS5 hlss ⊢
              clear hS
              have hlne : ((L.length : Int) != (S.length : Int)) = false := by rw [hLL]; simp
              go_wp2
              go_loopw [196] (fun i wr => ∃ k : Nat, k ≤ L.length ∧ i = .int .i64 (k : Int) ∧ Hid (Below y5.heap.size y5 wr)) (fun i _ => L.length - (intOf i).toNat)
              case atStart => exact ⟨0, Nat.zero_le _, rfl, Lib.hid (Below.refl _ _)⟩
              case round =>
                obtain ⟨k, hk, rfl, hbw⟩ := hrel
                by_cases hlt : k < L.length
                · have hlt2 : k < S.length := by omega
                  obtain ⟨b1, o1, rfl, hbl1, hc1⟩ := HJ5.out (by omega)
                  obtain ⟨b2, o2, rfl, hbl2, hc2⟩ := HS5.out (by omega)
                  have k1 := hc1 k hlt
                  have k2 := hc2 k hlt2
                  rw [← hbw.out.cell (p := ⟨b1, o1 + k, none⟩) hbl1] at k1
                  rw [← hbw.out.cell (p := ⟨b2, o2 + k, none⟩) hbl2] at k2
                  have hkl : (k : Int) < (L.length : Int) := by omega
                  have hks : (k : Int) < (S.length : Int) := by omega
                  have hk0 : (0 : Int) ≤ (k : Int) := by omega
                  have hle := HLE2.out k hlt hlt2
                  clear hc1 hc2
                  generalize L[k]'hlt = a at *
                  generalize S[k]'hlt2 = b at *
                  go_wp2
                  go_roundw
                  case rel => exact ⟨k + 1, by omega, by go_num, hbw⟩
                  case measure => simp [intOf]; omega
                · have hkl : ¬ (k : Int) < (L.length : Int) := by omega
                  have HYR := Lib.hid (HY5.out.trans (hbw.out.mono HY5.out.size)); have HUX := Lib.hid (HU5.out.below hbw.out (Nat.le_refl _))
                  clear HY5 HU5 HJ5 HS5 HLE2 hbw
                  go_wp2_with fail
                  refine (implSpreadTable_any m u D e1 by_ tot wr HUX.out hux HUR.out).mono ?_
                  rintro e y6 ⟨q, T, rfl, hb, ho⟩
                  obtain ⟨I4, i4, rfl⟩ := own_form ho
                  have HY6 := Lib.hid (HYR.out.trans (hb.mono HYR.out.size)); have HU6 := Lib.hid (HUX.out.below hb (Nat.le_refl _)); have HI6 := Lib.hid (own_in ho)
                  clear hb ho HYR HUX
                  go_wp2_with fail
                  refine (specSpreadTable_any m u D e1 by_ tot y6 HU6.out hux).mono ?_
                  rintro e y7 ⟨q, T, rfl, hb, ho⟩
                  obtain ⟨I5, i5, rfl⟩ := own_form ho
                  have HY7 := Lib.hid (HY6.out.trans (hb.mono HY6.out.size)); have HI7 := Lib.hid (HI6.out.below hb (Nat.le_refl _)); have HJ7 := Lib.hid (own_in ho)
                  clear hb ho HY6 HU6 HI6
                  rw [← HO2.out]
                  have hps := spL_short m u by_ tot
                  have HBD := Lib.hid (sp_bd HO2.out.symm)
                  have hsum := sp_sum HO2.out.symm
                  obtain ⟨hG, g0, g36, t0, t1, -⟩ := lc_parts HO2.out.symm
                  have hmm0 := hG.n0; have hmm1 := hG.n1
                  have hmul := mul_small (n := m) (g := by_) (by omega) (by omega) g0 g36
                  obtain ⟨P, hP⟩ : ∃ P, P = spL m u by_ tot := ⟨_, rfl⟩
                  rw [← hP] at hps HBD hsum HI7 HJ7 ⊢
                  clear hP hG
                  go_wp2_with fail
                  refine (sameInts_same P I4 I5 i4 i5 y7 HI7.out HJ7.out hps).mono ?_
                  rintro e y8 ⟨rfl, hb⟩
                  have HY8 := Lib.hid (HY7.out.trans (hb.mono HY7.out.size)); have HJ8 := Lib.hid (HJ7.out.below hb (Nat.le_refl _))
                  clear hb HY7 HI7 HJ7
                  go_wp2_with fail
                  refine (pSum_any P I5 i5 y8 HJ8.out hps HBD.out).mono ?_
                  rintro e y9 ⟨rfl, hb⟩
                  have HY9 := Lib.hid (HY8.out.trans (hb.mono HY8.out.size))
                  clear hb HY8 HJ8 HBD
                  generalize smI P = sm at *
                  have hne9 : (sm + (m - 1) * by_ != tot) = false := by rw [hsum]; simp
                  go_wp2_with fail
                  refine (drawWidthWithout_any Ay cy ys y9 (HY.out.below HY9.out (Nat.le_refl _)) hys).mono ?_
                  rintro e x1 ⟨p, v, E, f, sp, i, rfl, hs1, hs2, hi1, hi2, hp1, hp2, hvl, hvf, hvr, hvo, hvb⟩
                  have HX1 := Lib.hid (HY9.out.trans (hvb.mono HY9.out.size))
                  have HV1 := Lib.hid (own_ensA hvo)
                  have HVR := Lib.hid hvr
                  have hvx : v.length ≤ 1048576 := by omega
                  clear hvo hvb hvr HY9
                  go_wp2_with fail
                  refine (implWidthWithout_any p v E f sp i x1 HV1.out hvx hvf HVR.out).mono ?_
                  rintro e x2 ⟨rfl, hb⟩
                  have HX2 := Lib.hid (HX1.out.trans (hb.mono HX1.out.size)); have HV2 := Lib.hid (HV1.out.below hb (Nat.le_refl _))
                  clear hb HX1 HV1
                  go_wp2_with fail
                  refine (specWidthWithout_any p v E f sp i x2 HV2.out hvx hvf).mono ?_
                  rintro e x3 ⟨rfl, hb⟩
                  have HX3 := Lib.hid (HX2.out.trans (hb.mono HX2.out.size)); have HV3 := Lib.hid (HV2.out.below hb (Nat.le_refl _))
                  clear hb HX2 HV2
                  have HWW := Lib.hid (fun h => ww_le (n := p) (l := v) (g := sp) (i := i) h)
                  obtain ⟨wv, hwv⟩ : ∃ wv, wv = wwV p v sp i := ⟨_, rfl⟩
                  rw [← hwv] at HWW ⊢
                  clear hwv
                  have hww : (wv != wv) = false := by simp
                  cases hwb : wwB p v sp i
                  · go_wp2
                    go_ret
                    exact ⟨rfl, HX3.out⟩
                  · obtain ⟨haw, hle⟩ := HWW.out hwb
                    clear hwb HWW
                    go_wp2_with fail
                    refine (implTableWidth_any p v E f sp x3 HV3.out hvx HVR.out).mono ?_
                    rintro e x4 ⟨rfl, hb⟩
                    rw [haw]
                    have HX4 := Lib.hid (HX3.out.trans (hb.mono HX3.out.size))
                    clear hb HX3 haw
                    generalize twV p v sp = tv at *
                    go_wp2
                    go_ret
                    exact ⟨rfl, HX4.out⟩
end Go.Proofs.Yteagclokobkigaa

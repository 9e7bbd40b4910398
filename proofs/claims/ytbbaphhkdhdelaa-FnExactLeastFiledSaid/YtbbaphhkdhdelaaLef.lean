/-
  The contracts of LeastFiled, in spec and in impl: each answers what the plain words here say and changes nothing that was there.
-/
import Derived.Test.YtbbaphhkdhdelaaOff
namespace Go.Proofs.Ytbbaphhkdhdelaa
open Go.RowKit
set_option linter.unusedVariables false

def sumTo (l : List Int) (k : Nat) : Int := (l.take k).sum
theorem sumTo_succ (l : List Int) {k : Nat} (h : k < l.length) : sumTo l (k + 1) = sumTo l k + l[k] := by
  unfold sumTo; rw [List.take_succ_eq_append_getElem h, List.sum_append]; simp only [List.sum_cons, List.sum_nil, Int.add_zero]
def sumD (s t : Sk) : Int := sumTo (difK s t).zs 5
def stepF (t : Sk) (acc : Option (Nat × Int)) (i : Nat) (s : Sk) : Option (Nat × Int) :=
  if canB s t then (match acc with | none => some (i, sumD s t) | some p => if sumD s t < p.2 then some (i, sumD s t) else some p) else acc
def lfTo (f : List Sk) (t : Sk) : Nat → Option (Nat × Int)
  | 0 => none
  | k + 1 => stepF t (lfTo f t k) k (f.getD k zSk)
theorem lfTo_succ {f : List Sk} {t : Sk} {k : Nat} (h : k < f.length) : lfTo f t (k + 1) = stepF t (lfTo f t k) k f[k] := by
  simp [lfTo, h]
def lfR (f : List Sk) (t : Sk) : Option (Nat × Int) := if listB f && goodB t then lfTo f t f.length else none
def fI : Option (Nat × Int) → Int | none => 0 | some p => (p.1 : Int)
def bI : Option (Nat × Int) → Int | none => -1 | some p => (p.1 : Int)
def fV : Option (Nat × Int) → Int | none => 0 | some p => p.2
theorem step_no {t s : Sk} {acc : Option (Nat × Int)} {i : Nat} (h : canB s t = false) : stepF t acc i s = acc := by unfold stepF; rw [h]; rfl
theorem step_new {t s : Sk} {i : Nat} (h : canB s t = true) : stepF t none i s = some (i, sumD s t) := by unfold stepF; rw [h]; rfl
theorem step_less {t s : Sk} {i : Nat} {p : Nat × Int} (h : canB s t = true) (hl : sumD s t < p.2) : stepF t (some p) i s = some (i, sumD s t) := by unfold stepF; rw [h]; simp [hl]
theorem step_more {t s : Sk} {i : Nat} {p : Nat × Int} (h : canB s t = true) (hl : ¬ sumD s t < p.2) : stepF t (some p) i s = some p := by unfold stepF; rw [h]; simp [hl]
theorem lf_no {f : List Sk} {t : Sk} (h : (listB f && goodB t) = false) : lfR f t = none := by unfold lfR; rw [h]; rfl
theorem lf_yes {f : List Sk} {t : Sk} (h : (listB f && goodB t) = true) : lfR f t = lfTo f t f.length := by unfold lfR; rw [h]; rfl
theorem ret3 {a a' b b' : Int} {c c' : Bool} (h1 : a = a') (h2 : b = b') (h3 : c = c') : Ending.returned (.tuple #[.int .i64 a, .int .i64 b, .bool c]) = .returned (.tuple #[.int .i64 a', .int .i64 b', .bool c']) := by rw [h1, h2, h3]

set_option maxRecDepth 100000 in
set_option maxHeartbeats 2000000 in
theorem specLf_any (f : List Sk) (A : Option Addr) (c : Nat) (t : Sk) (w : World) (hf : SksIn w A f) (hn : f.length ≤ 1048576) :
    Calls Try.prog 35 #[.slice A f.length c, .agg #[.int .i64 t.dep, .int .i64 t.lef, .int .i64 t.fac, .int .i64 t.rig, .int .i64 t.foo]] w fun e w' => e = .returned (.tuple #[.int .i64 (fI (lfR f t)), .int .i64 (fV (lfR f t)), .bool (lfR f t).isSome]) ∧ Below w.heap.size w w' := by
  have HF := Lib.hid hf; clear hf
  obtain ⟨w0, hw0⟩ : ∃ x : World, x = w.alloc (.cells #[.int .i64 t.dep, .int .i64 t.lef, .int .i64 t.fac, .int .i64 t.rig, .int .i64 t.foo] 25) := ⟨_, rfl⟩
  have HA : Hid (Below w.heap.size w w0) := by show Below _ _ _; rw [hw0]; exact (Below.refl _ _).alloc (Nat.le_refl _) _
  have HX : Hid (SkAt w0 w.heap.size 25 t) := by show SkAt _ _ _ _; rw [hw0]; exact SkAt.new _ _ _
  have HW := Lib.hid hw0; clear hw0
  go_enter Try.func35, Try.ntmps35
  go_wp2_with fail
  rw [← HW.out]
  refine (maList_any f A c _ (HF.out.below HA.out (Nat.le_refl _)) hn).mono ?_
  rintro e w1 ⟨rfl, hb1⟩
  have HA1 : Hid (Below w.heap.size w w1) := Lib.hid (HA.out.trans (hb1.mono HA.out.size))
  have HX1 := Lib.hid (HX.out.next hb1)
  clear hb1 HA HX HW
  cases hg : listB f
  · have HV : Hid (lfR f t = none) := Lib.hid (lf_no (by rw [hg]; rfl))
    clear hg
    go_wp2
    go_ret3
    exact ⟨by rw [HV.out]; rfl, HA1.out⟩
  have HG := Lib.hid hg; clear hg
  obtain ⟨y0, y1, y2, y3, y4⟩ := HX1.out.cells
  have hyl := HX1.out.lt
  go_wp2_with fail
  refine (maGood_any t _).mono ?_
  rintro e w2 ⟨rfl, hb2⟩
  have HA2 : Hid (Below w.heap.size w w2) := Lib.hid (HA1.out.trans (hb2.mono HA1.out.size))
  have HX2 := Lib.hid (HX1.out.next hb2)
  clear hb2 HA1 HX1 y0 y1 y2 y3 y4 hyl
  cases hh : goodB t
  · have HV : Hid (lfR f t = none) := Lib.hid (lf_no (by rw [hh]; simp))
    clear hh
    go_wp2
    go_ret3
    exact ⟨by rw [HV.out]; rfl, HA2.out⟩
  have HV : Hid (lfR f t = lfTo f t f.length) := Lib.hid (lf_yes (by rw [HG.out, hh]; rfl))
  have HH := Lib.hid hh; clear hh
  have HALL := Lib.hid (list_all HG.out).1
  go_wp2
  go_loopw [7, 8, 24] (fun p q i wr => ∃ k : Nat, k ≤ f.length ∧ i = .int .i64 k ∧ p = .int .i64 (bI (lfTo f t k)) ∧ q = .int .i64 (fV (lfTo f t k)) ∧ SkAt wr w.heap.size 25 t ∧ Below w.heap.size w wr) (fun _ _ i _ => f.length - (intOf i).toNat)
  case atStart => exact ⟨0, Nat.zero_le _, rfl, rfl, rfl, HX2.out, HA2.out⟩
  case round =>
    obtain ⟨k, hk, rfl, rfl, rfl, hx, hb⟩ := hrel
    have HXw := Lib.hid hx; have HB := Lib.hid hb; clear hx hb HX2 HA2
    by_cases hlt : k < f.length
    · skip
      obtain ⟨b, off, rfl, hbl, hc⟩ := HF.out (by omega)
      obtain ⟨hc0, hc1, hc2, hc3, hc4⟩ := hc k hlt
      clear hc
      rw [← HB.out.cell (p := ⟨b, off + k * 5, none⟩) hbl] at hc0; rw [← HB.out.cell (p := ⟨b, off + k * 5 + 1, none⟩) hbl] at hc1; rw [← HB.out.cell (p := ⟨b, off + k * 5 + 2, none⟩) hbl] at hc2; rw [← HB.out.cell (p := ⟨b, off + k * 5 + 3, none⟩) hbl] at hc3; rw [← HB.out.cell (p := ⟨b, off + k * 5 + 4, none⟩) hbl] at hc4
      have HGK : Hid (goodB f[k] = true) := Lib.hid (allG_at HALL.out hlt)
      have HST := Lib.hid (lfTo_succ (t := t) hlt)
      obtain ⟨x0, x1, x2, x3, x4⟩ := HXw.out.cells
      have hxl := HXw.out.lt
      generalize f[k] = s at *
      obtain ⟨wb, hwb⟩ : ∃ x : World, x = wr.alloc (.cells #[.int .i64 s.dep, .int .i64 s.lef, .int .i64 s.fac, .int .i64 s.rig, .int .i64 s.foo] 25) := ⟨_, rfl⟩
      have HBb : Hid (Below w.heap.size w wb) := by show Below _ _ _; rw [hwb]; exact HB.out.alloc HB.out.size _
      have HSb : Hid (SkAt wb wr.heap.size 25 s) := by show SkAt _ _ _ _; rw [hwb]; exact SkAt.new _ _ _
      have HXb : Hid (SkAt wb w.heap.size 25 t) := by show SkAt _ _ _ _; rw [hwb]; exact HXw.out.alloc _
      have HWB := Lib.hid hwb; clear hwb
      go_wp2_with fail
      rw [← HWB.out]
      refine (maCan_any s t _).mono ?_
      rintro e w3 ⟨rfl, hb3⟩
      have HB3 : Hid (Below w.heap.size w w3) := Lib.hid (HBb.out.trans (hb3.mono HBb.out.size))
      have HS3 := Lib.hid (HSb.out.next hb3)
      have HX3 := Lib.hid (HXb.out.next hb3)
      clear hb3 HBb HSb HXb HWB hc0 hc1 hc2 hc3 hc4 x0 x1 x2 x3 x4 hxl
      obtain ⟨z0, z1, z2, z3, z4⟩ := HS3.out.cells
      obtain ⟨x0, x1, x2, x3, x4⟩ := HX3.out.cells
      have hzl := HS3.out.lt; have hxl := HX3.out.lt
      cases hcan : canB s t
      · have HY : Hid (lfTo f t (k + 1) = lfTo f t k) := by show _ = _; rw [HST.out, step_no hcan]
        clear hcan HST
        go_wp2
        go_roundw
        case rel => exact ⟨k + 1, by omega, by go_num, by rw [HY.out], by rw [HY.out], HX3.out, HB3.out⟩
        case measure => simp [intOf]; omega
      have HCAN := Lib.hid hcan; clear hcan
      go_wp2_with fail
      refine (maFilings_any s t _ HGK.out HH.out).mono ?_
      rintro e w4 ⟨v4, rfl, hb4, ho4⟩
      obtain ⟨A4, c4, rfl⟩ := own_form ho4
      have HD4 : Hid (IntsIn w4 A4 (difK s t).zs) := by
        have h := own_in ho4
        rw [difK_zs] at h
        exact Lib.hid h
      have HB4 : Hid (Below w.heap.size w w4) := Lib.hid (HB3.out.trans (hb4.mono HB3.out.size))
      have HX4 := Lib.hid (HX3.out.next hb4)
      have HBD := Lib.hid (dif_bound HGK.out HH.out)
      rw [difL_len]
      clear hb4 ho4 z0 z1 z2 z3 z4 x0 x1 x2 x3 x4 hzl hxl HB3 HX3 HS3
      have HSD : Hid (sumTo (difK s t).zs 5 = sumD s t) := Lib.hid rfl
      have hl5 : (difK s t).zs.length = 5 := rfl
      have HL5 := Lib.hid hl5; clear hl5
      generalize (difK s t).zs = d at *
      go_wp2
      obtain ⟨wo, hwo⟩ : ∃ wo : World, wo = w4 := ⟨_, rfl⟩
      subst hwo
      go_loop [11, 37] (fun q i => ∃ (j : Nat) (r : Int), j ≤ 5 ∧ i = .int .i64 j ∧ q = .int .i64 r ∧ r = sumTo d j ∧ (-998 * (j : Int) ≤ r ∧ r ≤ 998 * (j : Int))) (fun _ i => 5 - (intOf i).toNat)
      case atStart => exact ⟨0, 0, Nat.zero_le _, rfl, rfl, rfl, by simp, by simp⟩
      case round =>
        obtain ⟨j, r, hj, rfl, rfl, hr, hr1, hr2⟩ := hrel
        have HR := Lib.hid hr; clear hr
        by_cases hj5 : j < 5
        · obtain ⟨b4, off4, rfl, hbl4, hc4⟩ := HD4.out (by rw [HL5.out]; omega)
          have hjd : j < d.length := by rw [HL5.out]; exact hj5
          have hcj := hc4 j hjd
          have hdj := HBD.out j hjd
          have HSS := Lib.hid (sumTo_succ d hjd)
          clear hc4
          generalize d[j] = x at *
          go_wp2
          go_round
          case rel => exact ⟨j + 1, r + x, by omega, by go_num, rfl, by rw [HSS.out, HR.out], by omega, by omega⟩
          case measure => simp [intOf]; omega
        · obtain rfl : j = 5 := by omega
          have HRS : Hid (r = sumD s t) := Lib.hid (HR.out.trans HSD.out)
          rcases hacc : lfTo f t k with _ | ⟨p1, p2⟩
          · have HY : Hid (lfTo f t (k + 1) = some (k, r)) := by show _ = _; rw [HST.out, hacc, step_new HCAN.out, HRS.out]
            have HACC := Lib.hid hacc; clear hacc
            simp only [bI, fV]
            go_wp2
            go_roundw
            case rel => exact ⟨k + 1, by omega, by go_num, by rw [HY.out]; rfl, by rw [HY.out]; rfl, HX4.out, HB4.out⟩
            case measure => simp [intOf]; omega
          · simp only [bI, fV]
            have hp1 : ¬ (p1 : Int) < 0 := by omega
            by_cases hless : r < p2
            · have HY : Hid (lfTo f t (k + 1) = some (k, r)) := by show _ = _; rw [HST.out, hacc, step_less HCAN.out (by rw [← HRS.out]; exact hless), HRS.out]
              have HACC := Lib.hid hacc; clear hacc
              go_wp2
              go_roundw
              case rel => exact ⟨k + 1, by omega, by go_num, by rw [HY.out]; rfl, by rw [HY.out]; rfl, HX4.out, HB4.out⟩
              case measure => simp [intOf]; omega
            · have HY : Hid (lfTo f t (k + 1) = some (p1, p2)) := by show _ = _; rw [HST.out, hacc, step_more HCAN.out (by rw [← HRS.out]; exact hless)]
              have HACC := Lib.hid hacc; clear hacc
              go_wp2
              go_roundw
              case rel => exact ⟨k + 1, by omega, by go_num, by rw [HY.out]; rfl, by rw [HY.out]; rfl, HX4.out, HB4.out⟩
              case measure => simp [intOf]; omega
    · obtain rfl : k = f.length := by omega
      rcases hacc : lfTo f t f.length with _ | ⟨p1, p2⟩
      · have HY : Hid (lfR f t = none) := Lib.hid (HV.out.trans hacc)
        clear hacc
        simp only [bI, fV]
        go_wp2
        go_ret3
        exact ⟨by rw [HY.out]; rfl, HB.out⟩
      · have HY : Hid (lfR f t = some (p1, p2)) := Lib.hid (HV.out.trans hacc)
        clear hacc
        simp only [bI, fV]
        have hp1 : ¬ (p1 : Int) < 0 := by omega
        go_wp2
        go_ret3
        exact ⟨by rw [HY.out]; rfl, HB.out⟩

set_option maxRecDepth 100000 in
set_option maxHeartbeats 2000000 in
theorem implLf_any (f : List Sk) (A : Option Addr) (c : Nat) (t : Sk) (w : World) (hf : SksIn w A f) (hn : f.length ≤ 1048576) :
    Calls Try.prog 36 #[.slice A f.length c, .agg #[.int .i64 t.dep, .int .i64 t.lef, .int .i64 t.fac, .int .i64 t.rig, .int .i64 t.foo]] w fun e w' => e = .returned (.tuple #[.int .i64 (fI (lfR f t)), .int .i64 (fV (lfR f t)), .bool (lfR f t).isSome]) ∧ Below w.heap.size w w' := by
  have HF := Lib.hid hf; clear hf
  obtain ⟨w0, hw0⟩ : ∃ x : World, x = w.alloc (.cells #[.int .i64 t.dep, .int .i64 t.lef, .int .i64 t.fac, .int .i64 t.rig, .int .i64 t.foo] 25) := ⟨_, rfl⟩
  have HA : Hid (Below w.heap.size w w0) := by show Below _ _ _; rw [hw0]; exact (Below.refl _ _).alloc (Nat.le_refl _) _
  have HX : Hid (SkAt w0 w.heap.size 25 t) := by show SkAt _ _ _ _; rw [hw0]; exact SkAt.new _ _ _
  have HW := Lib.hid hw0; clear hw0
  go_enter Try.func36, Try.ntmps36
  go_wp2_with fail
  rw [← HW.out]
  refine (areStrikes_any f A c _ (HF.out.below HA.out (Nat.le_refl _)) hn).mono ?_
  rintro e w1 ⟨rfl, hb1⟩
  have HA1 : Hid (Below w.heap.size w w1) := Lib.hid (HA.out.trans (hb1.mono HA.out.size))
  have HX1 := Lib.hid (HX.out.next hb1)
  clear hb1 HA HX HW
  cases hg : listB f
  · have HV : Hid (lfR f t = none) := Lib.hid (lf_no (by rw [hg]; rfl))
    clear hg
    go_wp2
    go_ret3
    exact ⟨by rw [HV.out]; rfl, HA1.out⟩
  have HG := Lib.hid hg; clear hg
  obtain ⟨y0, y1, y2, y3, y4⟩ := HX1.out.cells
  have hyl := HX1.out.lt
  go_wp2_with fail
  refine (implIsStrike_any t _).mono ?_
  rintro e w2 ⟨rfl, hb2⟩
  have HA2 : Hid (Below w.heap.size w w2) := Lib.hid (HA1.out.trans (hb2.mono HA1.out.size))
  have HX2 := Lib.hid (HX1.out.next hb2)
  clear hb2 HA1 HX1 y0 y1 y2 y3 y4 hyl
  cases hh : goodB t
  · have HV : Hid (lfR f t = none) := Lib.hid (lf_no (by rw [hh]; simp))
    clear hh
    go_wp2
    go_ret3
    exact ⟨by rw [HV.out]; rfl, HA2.out⟩
  have HV : Hid (lfR f t = lfTo f t f.length) := Lib.hid (lf_yes (by rw [HG.out, hh]; rfl))
  have HH := Lib.hid hh; clear hh
  have HALL := Lib.hid (list_all HG.out).1
  go_wp2
  go_loopw [7, 8, 9, 25] (fun p q o i wr => ∃ k : Nat, k ≤ f.length ∧ i = .int .i64 k ∧ p = .int .i64 (fI (lfTo f t k)) ∧ q = .int .i64 (fV (lfTo f t k)) ∧ o = .bool (lfTo f t k).isSome ∧ SkAt wr w.heap.size 25 t ∧ Below w.heap.size w wr) (fun _ _ _ i _ => f.length - (intOf i).toNat)
  case atStart => exact ⟨0, Nat.zero_le _, rfl, rfl, rfl, rfl, HX2.out, HA2.out⟩
  case round =>
    obtain ⟨k, hk, rfl, rfl, rfl, rfl, hx, hb⟩ := hrel
    have HXw := Lib.hid hx; have HB := Lib.hid hb; clear hx hb HX2 HA2
    by_cases hlt : k < f.length
    · skip
      obtain ⟨b, off, rfl, hbl, hc⟩ := HF.out (by omega)
      obtain ⟨hc0, hc1, hc2, hc3, hc4⟩ := hc k hlt
      clear hc
      rw [← HB.out.cell (p := ⟨b, off + k * 5, none⟩) hbl] at hc0; rw [← HB.out.cell (p := ⟨b, off + k * 5 + 1, none⟩) hbl] at hc1; rw [← HB.out.cell (p := ⟨b, off + k * 5 + 2, none⟩) hbl] at hc2; rw [← HB.out.cell (p := ⟨b, off + k * 5 + 3, none⟩) hbl] at hc3; rw [← HB.out.cell (p := ⟨b, off + k * 5 + 4, none⟩) hbl] at hc4
      have HGK : Hid (goodB f[k] = true) := Lib.hid (allG_at HALL.out hlt)
      have HST := Lib.hid (lfTo_succ (t := t) hlt)
      obtain ⟨x0, x1, x2, x3, x4⟩ := HXw.out.cells
      have hxl := HXw.out.lt
      generalize f[k] = s at *
      obtain ⟨wb, hwb⟩ : ∃ x : World, x = wr.alloc (.cells #[.int .i64 s.dep, .int .i64 s.lef, .int .i64 s.fac, .int .i64 s.rig, .int .i64 s.foo] 25) := ⟨_, rfl⟩
      have HBb : Hid (Below w.heap.size w wb) := by show Below _ _ _; rw [hwb]; exact HB.out.alloc HB.out.size _
      have HSb : Hid (SkAt wb wr.heap.size 25 s) := by show SkAt _ _ _ _; rw [hwb]; exact SkAt.new _ _ _
      have HXb : Hid (SkAt wb w.heap.size 25 t) := by show SkAt _ _ _ _; rw [hwb]; exact HXw.out.alloc _
      have HWB := Lib.hid hwb; clear hwb
      go_wp2_with fail
      rw [← HWB.out]
      refine (isJustifiable_any s t _).mono ?_
      rintro e w3 ⟨rfl, hb3⟩
      have HB3 : Hid (Below w.heap.size w w3) := Lib.hid (HBb.out.trans (hb3.mono HBb.out.size))
      have HS3 := Lib.hid (HSb.out.next hb3)
      have HX3 := Lib.hid (HXb.out.next hb3)
      clear hb3 HBb HSb HXb HWB hc0 hc1 hc2 hc3 hc4 x0 x1 x2 x3 x4 hxl
      obtain ⟨z0, z1, z2, z3, z4⟩ := HS3.out.cells
      obtain ⟨x0, x1, x2, x3, x4⟩ := HX3.out.cells
      have hzl := HS3.out.lt; have hxl := HX3.out.lt
      cases hcan : canB s t
      · have HY : Hid (lfTo f t (k + 1) = lfTo f t k) := by show _ = _; rw [HST.out, step_no hcan]
        clear hcan HST
        go_wp2
        go_roundw
        case rel => exact ⟨k + 1, by omega, by go_num, by rw [HY.out], by rw [HY.out], by rw [HY.out], HX3.out, HB3.out⟩
        case measure => simp [intOf]; omega
      have HCAN := Lib.hid hcan; clear hcan
      go_wp2_with fail
      refine (partDiff_any s t _ HGK.out HH.out).mono ?_
      rintro e w4 ⟨rfl, hb4⟩
      have HB4 : Hid (Below w.heap.size w w4) := Lib.hid (HB3.out.trans (hb4.mono HB3.out.size))
      have HX4 := Lib.hid (HX3.out.next hb4)
      have HBD := Lib.hid (dif_bound HGK.out HH.out)
      clear hb4 z0 z1 z2 z3 z4 x0 x1 x2 x3 x4 hzl hxl HB3 HX3 HS3
      have HSD : Hid (sumTo (difK s t).zs 5 = sumD s t) := Lib.hid rfl
      generalize difK s t = d at *
      go_wp2
      obtain ⟨wo, hwo⟩ : ∃ wo : World, wo = w4 := ⟨_, rfl⟩
      subst hwo
      go_loop [12, 37] (fun q i => ∃ (j : Nat) (r : Int), j ≤ 5 ∧ i = .int .i64 j ∧ q = .int .i64 r ∧ r = sumTo d.zs j ∧ (-998 * (j : Int) ≤ r ∧ r ≤ 998 * (j : Int))) (fun _ i => 5 - (intOf i).toNat)
      case atStart => exact ⟨0, 0, Nat.zero_le _, rfl, rfl, rfl, by simp, by simp⟩
      case round =>
        obtain ⟨j, r, hj, rfl, rfl, hr, hr1, hr2⟩ := hrel
        have HR := Lib.hid hr; clear hr
        by_cases hj5 : j < 5
        · have hix := run_index5 d j hj5
          have hdj := HBD.out j hj5
          have HSS := Lib.hid (sumTo_succ d.zs (k := j) hj5)
          generalize d.zs[j] = x at *
          go_wp2
          go_round
          case rel => exact ⟨j + 1, r + x, by omega, by go_num, rfl, by rw [HSS.out, HR.out], by omega, by omega⟩
          case measure => simp [intOf]; omega
        · obtain rfl : j = 5 := by omega
          have HRS : Hid (r = sumD s t) := Lib.hid (HR.out.trans HSD.out)
          rcases hacc : lfTo f t k with _ | ⟨p1, p2⟩
          · have HY : Hid (lfTo f t (k + 1) = some (k, r)) := by show _ = _; rw [HST.out, hacc, step_new HCAN.out, HRS.out]
            have HACC := Lib.hid hacc; clear hacc
            simp only [fI, fV, Option.isSome]
            go_wp2
            go_roundw
            case rel => exact ⟨k + 1, by omega, by go_num, by rw [HY.out]; rfl, by rw [HY.out]; rfl, by rw [HY.out]; rfl, HX4.out, HB4.out⟩
            case measure => simp [intOf]; omega
          · simp only [fI, fV, Option.isSome]
            by_cases hless : r < p2
            · have HY : Hid (lfTo f t (k + 1) = some (k, r)) := by show _ = _; rw [HST.out, hacc, step_less HCAN.out (by rw [← HRS.out]; exact hless), HRS.out]
              have HACC := Lib.hid hacc; clear hacc
              go_wp2
              go_roundw
              case rel => exact ⟨k + 1, by omega, by go_num, by rw [HY.out]; rfl, by rw [HY.out]; rfl, by rw [HY.out]; rfl, HX4.out, HB4.out⟩
              case measure => simp [intOf]; omega
            · have HY : Hid (lfTo f t (k + 1) = some (p1, p2)) := by show _ = _; rw [HST.out, hacc, step_more HCAN.out (by rw [← HRS.out]; exact hless)]
              have HACC := Lib.hid hacc; clear hacc
              go_wp2
              go_roundw
              case rel => exact ⟨k + 1, by omega, by go_num, by rw [HY.out]; rfl, by rw [HY.out]; rfl, by rw [HY.out]; rfl, HX4.out, HB4.out⟩
              case measure => simp [intOf]; omega
    · obtain rfl : k = f.length := by omega
      have HVV := Lib.hid HV.out.symm
      rw [HVV.out]
      generalize hr : lfR f t = r at *
      have HRR := Lib.hid hr
      clear hr
      go_wp2
      go_ret3
      exact ⟨by rw [HRR.out]; rfl, HB.out⟩
end Go.Proofs.Ytbbaphhkdhdelaa

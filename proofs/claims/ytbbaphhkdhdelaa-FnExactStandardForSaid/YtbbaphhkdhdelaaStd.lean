/-
  The contracts of StandardFor, in spec and in impl: each answers what the plain words here say and changes nothing that was there.
-/
import Derived.Test.YtbbaphhkdhdelaaLis
namespace Go.Proofs.Ytbbaphhkdhdelaa
open Go.RowKit
set_option linter.unusedVariables false

def headK (f : List Sk) : Sk := f.getD 0 zSk
theorem headK_of {f : List Sk} (h : 0 < f.length) : f[0] = headK f := by simp [headK, h]
/-- The standard of the first k, and the first one. -/
def stdTo (f : List Sk) (k : Nat) : Sk := (f.take k).foldl minK (headK f)
theorem stdTo_succ (f : List Sk) {k : Nat} (h : k < f.length) : stdTo f (k + 1) = minK (stdTo f k) f[k] := by
  unfold stdTo; rw [List.take_succ_eq_append_getElem h, List.foldl_append]; rfl
def sameF (f : List Sk) (k : Nat) : Bool := (f.take k).all fun s => s.fac == (headK f).fac
theorem sameF_succ (f : List Sk) {k : Nat} (h : k < f.length) : sameF f (k + 1) = (sameF f k && (f[k].fac == (headK f).fac)) := by
  unfold sameF; rw [List.take_succ_eq_append_getElem h, List.all_append]; simp only [List.all_cons, List.all_nil, Bool.and_true]
theorem sameF_no {f : List Sk} {k : Nat} (h : k < f.length) (hf : (f[k].fac == (headK f).fac) = false) : sameF f f.length = false := by
  unfold sameF
  rw [List.take_length, List.all_eq_false]
  exact ⟨f[k], List.getElem_mem h, by simp [hf]⟩
def stdB (f : List Sk) : Bool := listB f && !(f.length == 0) && sameF f f.length
def stdV (f : List Sk) : Sk := if stdB f then stdTo f f.length else zSk
theorem std_no {f : List Sk} (h : stdB f = false) : stdV f = zSk ∧ stdB f = false := ⟨by unfold stdV; rw [h]; rfl, h⟩
theorem std_yes {f : List Sk} (h : stdB f = true) : stdV f = stdTo f f.length ∧ stdB f = true := ⟨by unfold stdV; rw [h]; rfl, h⟩
theorem minK_self (s : Sk) : minK s s = s := by simp [minK]

set_option maxRecDepth 100000 in
set_option maxHeartbeats 2000000 in
theorem specStd_any (f : List Sk) (A : Option Addr) (c : Nat) (w : World) (hf : SksIn w A f) (hn : f.length ≤ 1048576) :
    Calls Try.prog 27 #[.slice A f.length c] w fun e w' => e = .returned (.tuple #[.agg #[.int .i64 (stdV f).dep, .int .i64 (stdV f).lef, .int .i64 (stdV f).fac, .int .i64 (stdV f).rig, .int .i64 (stdV f).foo], .bool (stdB f)]) ∧ Below w.heap.size w w' := by
  obtain ⟨w0, hw0⟩ : ∃ x : World, x = w.alloc (.cells #[.int .i64 0, .int .i64 0, .int .i64 0, .int .i64 0, .int .i64 0] 25) := ⟨_, rfl⟩
  have HA : Hid (Below w.heap.size w w0) := by show Below _ _ _; rw [hw0]; exact (Below.refl _ _).alloc (Nat.le_refl _) _
  have HZ : Hid (SkAt w0 w.heap.size 25 zSk) := by show SkAt _ _ _ _; rw [hw0]; exact SkAt.new _ _ zSk
  have HF := Lib.hid hf; clear hf
  have HW := Lib.hid hw0; clear hw0
  go_enter Try.func27, Try.ntmps27
  go_wp2_with fail
  rw [← HW.out]
  refine (maList_any f A c _ (HF.out.below HA.out (Nat.le_refl _)) hn).mono ?_
  rintro e w1 ⟨rfl, hb1⟩
  have HA1 : Hid (Below w.heap.size w w1) := Lib.hid (HA.out.trans (hb1.mono HA.out.size))
  have HZ1 := Lib.hid (HZ.out.next hb1)
  clear hb1 HA HZ HW
  cases hg : listB f
  · have HV : Hid (stdV f = zSk ∧ stdB f = false) := Lib.hid (std_no (by unfold stdB; rw [hg]; rfl))
    clear hg
    obtain ⟨z0, z1, z2, z3, z4⟩ := HZ1.out.cells; simp only [zSk] at z0 z1 z2 z3 z4; have zf0 := HZ1.out.free 0; have zf1 := HZ1.out.free 1; have zf2 := HZ1.out.free 2; have zf3 := HZ1.out.free 3; have zf4 := HZ1.out.free 4; have zl := HZ1.out.lt
    go_wp2
    refine bodyPost_ret (v := .tuple #[.agg #[.int .i64 zSk.dep, .int .i64 zSk.lef, .int .i64 zSk.fac, .int .i64 zSk.rig, .int .i64 zSk.foo], .bool false]) (by simp [results, Try.results27, go_sem, z0, z1, z2, z3, z4, zf0, zf1, zf2, zf3, zf4, zSk]) rfl ⟨ret_kb (a := zSk) (a' := stdV f) HV.out.1.symm HV.out.2.symm, by repeat (first | (with_reducible exact HA1.out) | (refine Below.setCell ?_ (by first | (simp; done) | (simp; omega)) _))⟩
  have HG := Lib.hid hg; clear hg
  by_cases h0 : f.length = 0
  · have HV : Hid (stdV f = zSk ∧ stdB f = false) := Lib.hid (std_no (by unfold stdB; rw [h0]; simp))
    have e0 : ((f.length : Int) == 0) = true := by simp [h0]
    obtain ⟨z0, z1, z2, z3, z4⟩ := HZ1.out.cells; simp only [zSk] at z0 z1 z2 z3 z4; have zf0 := HZ1.out.free 0; have zf1 := HZ1.out.free 1; have zf2 := HZ1.out.free 2; have zf3 := HZ1.out.free 3; have zf4 := HZ1.out.free 4; have zl := HZ1.out.lt
    clear h0
    go_wp2
    refine bodyPost_ret (v := .tuple #[.agg #[.int .i64 zSk.dep, .int .i64 zSk.lef, .int .i64 zSk.fac, .int .i64 zSk.rig, .int .i64 zSk.foo], .bool false]) (by simp [results, Try.results27, go_sem, z0, z1, z2, z3, z4, zf0, zf1, zf2, zf3, zf4, zSk]) rfl ⟨ret_kb (a := zSk) (a' := stdV f) HV.out.1.symm HV.out.2.symm, by repeat (first | (with_reducible exact HA1.out) | (refine Below.setCell ?_ (by first | (simp; done) | (simp; omega)) _))⟩
  have e0 : ((f.length : Int) == 0) = false := by rw [beq_eq_false_iff_ne]; omega
  have hpos : 0 < f.length := by omega
  have hpos' : (0 : Int) < (f.length : Int) := by omega
  have H0 : Hid ((f.length == 0) = false) := by show _ = _; rw [beq_eq_false_iff_ne]; omega
  clear h0
  obtain ⟨b, off, rfl, hbl, hc⟩ := HF.out hpos
  have HC := Lib.hid hc
  obtain ⟨hc0, hc1, hc2, hc3, hc4⟩ := hc 0 hpos
  clear hc
  rw [headK_of hpos] at hc0 hc1 hc2 hc3 hc4
  simp only [Nat.zero_mul, Nat.add_zero] at hc0 hc1 hc2 hc3 hc4
  rw [← HA1.out.cell (p := ⟨b, off, none⟩) hbl] at hc0
  rw [← HA1.out.cell (p := ⟨b, off + 1, none⟩) hbl] at hc1
  rw [← HA1.out.cell (p := ⟨b, off + 2, none⟩) hbl] at hc2
  rw [← HA1.out.cell (p := ⟨b, off + 3, none⟩) hbl] at hc3
  rw [← HA1.out.cell (p := ⟨b, off + 4, none⟩) hbl] at hc4
  go_wp2_with fail
  refine (maParts_any (headK f) _).mono ?_
  rintro e w2 ⟨pb, rfl, hb2, hge2, ho2⟩
  have HA2 : Hid (Below w.heap.size w w2) := Lib.hid (HA1.out.trans (hb2.mono HA1.out.size))
  have HZ2 := Lib.hid (HZ1.out.next hb2)
  have HPB : Hid (w.heap.size < pb) := Lib.hid (Nat.lt_of_lt_of_le HZ1.out.lt hge2)
  have HO2 : Hid (SkAt w2 pb 3 (stdTo f 0)) := Lib.hid ho2
  clear hb2 hge2 ho2 HA1 HZ1 hc0 hc1 hc2 hc3 hc4
  go_wp2
  go_loopw [24] (fun i wr => ∃ k : Nat, k ≤ f.length ∧ i = .int .i64 k ∧ sameF f k = true ∧ SkAt wr pb 3 (stdTo f k) ∧ SkAt wr w.heap.size 25 zSk ∧ Below w.heap.size w wr) (fun i _ => f.length - (intOf i).toNat)
  case atStart => exact ⟨0, Nat.zero_le _, rfl, rfl, HO2.out, HZ2.out, HA2.out⟩
  case round =>
    obtain ⟨k, hk, rfl, hs, hp, hz, hb⟩ := hrel
    have HS := Lib.hid hs; have HP := Lib.hid hp; have HZ := Lib.hid hz; have HB := Lib.hid hb
    clear hs hp hz HO2 HZ2 HA2
    by_cases hlt : k < f.length
    · obtain ⟨hc0, hc1, hc2, hc3, hc4⟩ := HC.out k hlt
      rw [← hb.cell (p := ⟨b, off + k * 5, none⟩) hbl] at hc0
      rw [← hb.cell (p := ⟨b, off + k * 5 + 1, none⟩) hbl] at hc1
      rw [← hb.cell (p := ⟨b, off + k * 5 + 2, none⟩) hbl] at hc2
      rw [← hb.cell (p := ⟨b, off + k * 5 + 3, none⟩) hbl] at hc3
      rw [← hb.cell (p := ⟨b, off + k * 5 + 4, none⟩) hbl] at hc4
      have hd2 := (HC.out 0 hpos).2.2.1
      rw [headK_of hpos] at hd2
      simp only [Nat.zero_mul, Nat.add_zero] at hd2
      rw [← hb.cell (p := ⟨b, off + 2, none⟩) hbl] at hd2
      clear hb
      obtain ⟨wb, hwb⟩ : ∃ x : World, x = wr.alloc (.cells #[.int .i64 f[k].dep, .int .i64 f[k].lef, .int .i64 f[k].fac, .int .i64 f[k].rig, .int .i64 f[k].foo] 25) := ⟨_, rfl⟩
      have HBb : Hid (Below w.heap.size w wb) := by show Below _ _ _; rw [hwb]; exact HB.out.alloc HB.out.size _
      have HPb : Hid (SkAt wb pb 3 (stdTo f k)) := by show SkAt _ _ _ _; rw [hwb]; exact HP.out.alloc _
      have HZb : Hid (SkAt wb w.heap.size 25 zSk) := by show SkAt _ _ _ _; rw [hwb]; exact HZ.out.alloc _
      have hsb : SkAt wb wr.heap.size 25 f[k] := by rw [hwb]; exact SkAt.new _ _ _
      have hd2b : wb.cell? ⟨b, off + 2, none⟩ = some (.int .i64 (headK f).fac) := by rw [hwb, World.cell?_alloc_lt _ _ _ (by show b < wr.heap.size; exact Nat.lt_of_lt_of_le hbl HB.out.size)]; exact hd2
      have hblb : b < wb.heap.size := Nat.lt_of_lt_of_le hbl HBb.out.size
      have kd := KeptW.cell hd2b hblb
      obtain ⟨x0, x1, x2, x3, x4⟩ := hsb.kept (B := wb.heap.size) hsb.lt
      have HSb := Lib.hid hsb
      have HWB := Lib.hid hwb
      have HST := Lib.hid (sameF_succ f hlt)
      have HNO : Hid ((f[k].fac == (headK f).fac) = false → sameF f f.length = false) := Lib.hid (sameF_no hlt)
      have HMS := Lib.hid (stdTo_succ f hlt)
      clear hwb hsb hd2b HB HP HZ
      go_wp2_with fail
      rw [← HWB.out]
      refine region_kept wb.heap.size (by kernel_rfl) (by kernel_rfl) ?_
      repeat (go_big_quiet_step (fail))
      refine wpQuiet_nil ?_
      intro w3 hb3
      have HB3 : Hid (Below w.heap.size w w3) := Lib.hid (HBb.out.trans (hb3.mono HBb.out.size))
      have HP3 := Lib.hid (HPb.out.next hb3)
      have HZ3 := Lib.hid (HZb.out.next hb3)
      have HS3 := Lib.hid (HSb.out.next hb3)
      clear hb3 hc0 hc1 hc2 hc3 hc4 hd2 kd x0 x1 x2 x3 x4 HBb HPb HZb HSb HWB hblb
      cases hfe : (f[k].fac == (headK f).fac)
      · have HV : Hid (stdV f = zSk ∧ stdB f = false) := Lib.hid (std_no (by unfold stdB; rw [HNO.out hfe]; simp))
        have hne : (f[k].fac != (headK f).fac) = true := by simpa using hfe
        clear hfe
        obtain ⟨z0, z1, z2, z3, z4⟩ := HZ3.out.cells; simp only [zSk] at z0 z1 z2 z3 z4; have zf0 := HZ3.out.free 0; have zf1 := HZ3.out.free 1; have zf2 := HZ3.out.free 2; have zf3 := HZ3.out.free 3; have zf4 := HZ3.out.free 4; have zl := HZ3.out.lt
        go_wp2
        refine bodyPost_ret (v := .tuple #[.agg #[.int .i64 zSk.dep, .int .i64 zSk.lef, .int .i64 zSk.fac, .int .i64 zSk.rig, .int .i64 zSk.foo], .bool false]) (by simp [results, Try.results27, go_sem, z0, z1, z2, z3, z4, zf0, zf1, zf2, zf3, zf4, zSk]) rfl ⟨ret_kb (a := zSk) (a' := stdV f) HV.out.1.symm HV.out.2.symm, by repeat (first | (with_reducible exact HB3.out) | (refine Below.setCell ?_ (by first | (simp; done) | (simp; omega)) _))⟩
      have HSN : Hid (sameF f (k + 1) = true) := by show _ = _; rw [HST.out, HS.out, hfe]; rfl
      have hne : (f[k].fac != (headK f).fac) = false := by simpa using hfe
      clear hfe HST HNO HS
      obtain ⟨y0, y1, y2, y3, y4⟩ := HS3.out.cells
      have hyl := HS3.out.lt
      go_wp2_with fail
      refine (maParts_any f[k] _).mono ?_
      rintro e w4 ⟨q, rfl, hb4, hge4, ho4⟩
      have HB4 : Hid (Below w.heap.size w w4) := Lib.hid (HB3.out.trans (hb4.mono HB3.out.size))
      have HP4 : Hid (Own w4 pb 3 (intsZ (mixL (stdTo f k) f[k] 0))) := by show Own _ _ _ _; rw [mixL_zero]; exact HP3.out.next hb4
      have HZ4 := Lib.hid (HZ3.out.next hb4)
      have HQ4 := Lib.hid ho4
      have HQP : Hid (q ≠ pb) := by have := HP3.out.lt; show q ≠ pb; omega
      clear hb4 hge4 ho4 y0 y1 y2 y3 y4 hyl HB3 HP3 HZ3 HS3 hne
      go_wp2
      obtain ⟨wo, hwo⟩ : ∃ wo : World, wo = w4 := ⟨_, rfl⟩
      subst hwo
      go_loopw [39] (fun i wr => ∃ j : Nat, j ≤ 5 ∧ i = .int .i64 j ∧ Own wr pb 3 (intsZ (mixL (stdTo f k) f[k] j)) ∧ Own wr q 3 (intsZ f[k].zs) ∧ SkAt wr w.heap.size 25 zSk ∧ Below w.heap.size w wr) (fun i _ => 5 - (intOf i).toNat)
      case atStart => exact ⟨0, Nat.zero_le _, rfl, HP4.out, HQ4.out, HZ4.out, HB4.out⟩
      case round =>
        obtain ⟨j, hj, rfl, ho, hq, hz, hb⟩ := hrel
        clear HP4 HQ4 HZ4 HB4
        by_cases hj5 : j < 5
        · have hc : wr.cell? ⟨pb, j, none⟩ = some (.int .i64 (pt (stdTo f k) j)) := by rw [ho.cell]; simp [intsZ, mixL_at _ _ j hj5]
          have hd := hq.pt hj5
          have hf := ho.free j
          have hlw := ho.lt; have hlq := hq.lt
          have hpb := HPB.out
          have hqp := HQP.out
          have HB := Lib.hid (hb.setCell (p := ⟨pb, j, none⟩) (by show w.heap.size ≤ pb; omega) (.int .i64 (min (pt (stdTo f k) j) (pt f[k] j))))
          have HO : Hid (Own (wr.setCell ⟨pb, j, none⟩ (.int .i64 (min (pt (stdTo f k) j) (pt f[k] j)))) pb 3 (intsZ (mixL (stdTo f k) f[k] (j + 1)))) := by
            show Own _ _ _ _; rw [← mixL_step _ _ j hj5]; exact ho.set j _
          have HQ := Lib.hid (hq.other (p := ⟨pb, j, none⟩) (by show q ≠ pb; exact hqp) (.int .i64 (min (pt (stdTo f k) j) (pt f[k] j))))
          have HZ : Hid (SkAt (wr.setCell ⟨pb, j, none⟩ (.int .i64 (min (pt (stdTo f k) j) (pt f[k] j)))) w.heap.size 25 zSk) := Lib.hid (Own.other hz (p := ⟨pb, j, none⟩) (by show w.heap.size ≠ pb; omega) _)
          clear hb ho hq hz hpb hqp
          generalize pt (stdTo f k) j = x at *
          generalize pt f[k] j = y at *
          go_wp2_with fail
          refine (l1Least_any _ _ _).mono ?_
          rintro e w' ⟨rfl, rfl⟩
          rw [show (if x < y then x else y) = min x y from by split <;> omega]
          generalize min x y = m at *
          go_wp2
          go_roundw
          case rel => exact ⟨j + 1, by omega, by go_num, HO.out, HQ.out, HZ.out, HB.out⟩
          case measure => simp [intOf]; omega
        · obtain rfl : j = 5 := by omega
          have HPN : Hid (SkAt wr pb 3 (stdTo f (k + 1))) := by
            show SkAt _ _ _ _
            rw [HMS.out]
            rw [mixL_full] at ho
            exact ho
          have HZN := Lib.hid hz
          have HBN := Lib.hid hb
          clear ho hq hz hb
          go_wp2
          go_roundw
          case rel => exact ⟨k + 1, by omega, by go_num, HSN.out, HPN.out, HZN.out, HBN.out⟩
          case measure => simp [intOf]; omega
    · obtain rfl : k = f.length := by omega
      have HV : Hid (stdV f = stdTo f f.length ∧ stdB f = true) := Lib.hid (std_yes (by unfold stdB; rw [HG.out, H0.out, HS.out]; rfl))
      clear hb
      generalize stdTo f f.length = u at *
      go_wp2_with fail
      refine (maOf_any u pb _ _ HP.out).mono ?_
      rintro e w3 ⟨rfl, hb3⟩
      have HB3 : Hid (Below w.heap.size w w3) := Lib.hid (HB.out.trans (hb3.mono HB.out.size))
      have HZ3 := Lib.hid (HZ.out.next hb3)
      clear hb3 HB HZ HP
      obtain ⟨z0, z1, z2, z3, z4⟩ := HZ3.out.cells; simp only [zSk] at z0 z1 z2 z3 z4; have zf0 := HZ3.out.free 0; have zf1 := HZ3.out.free 1; have zf2 := HZ3.out.free 2; have zf3 := HZ3.out.free 3; have zf4 := HZ3.out.free 4; have zl := HZ3.out.lt
      go_wp2
      refine bodyPost_ret (v := .tuple #[.agg #[.int .i64 u.dep, .int .i64 u.lef, .int .i64 u.fac, .int .i64 u.rig, .int .i64 u.foo], .bool true]) (by simp [results, Try.results27, go_sem, z0, z1, z2, z3, z4, zf0, zf1, zf2, zf3, zf4, zSk]) rfl ⟨ret_kb (a := u) (a' := stdV f) HV.out.1.symm HV.out.2.symm, by repeat (first | (with_reducible exact HB3.out) | (refine Below.setCell ?_ (by first | (simp; done) | (simp; omega)) _))⟩

theorem elemS : Try.prog.elem 42 = 25 := by kernel_rfl
theorem sizeS (W : World) : (sizeOf (Try.prog.elem 42)).run Try.prog W = .ok 5 W := by
  obtain ⟨i0, hi, hz0, hz1, hz2⟩ := info_parts infoSk
  rw [elemS]
  simp [sizeOf, typeInfo, hi, hz1]
theorem underS : Try.prog.underlying 42 = some (.slice (Try.prog.elem 42)) := by rw [elemS]; exact Try.underlying42
theorem tail1 (b off n cap : Nat) (hk : 1 ≤ n) (hn : n ≤ cap) :
    ∃ a2 : Addr, (∀ W, (Instr.slice 42 (.slice (some ⟨b, off, none⟩) n cap) (some (.int .i64 1)) none none).run Try.prog W = .ok (.slice (some a2) (n - 1) (cap - 1)) W) ∧ (1 < n → a2 = ⟨b, off + 5, none⟩) := by
  refine ⟨if cap = 1 then ⟨b, off, none⟩ else (⟨b, off, none⟩ : Addr).add (1 * 5), fun W => ?_, ?_⟩
  · rw [run_slice_l W _ _ _ _ underS .i64 1 (by omega) (by omega), sizeS]
    by_cases hc : cap = 1 <;> simp [sliced, Result.andThen, hc]
  · intro h
    rw [if_neg (by omega), add_flat]

theorem stdTo_one {f : List Sk} (h : 0 < f.length) : stdTo f 1 = headK f := by
  rw [show (1 : Nat) = 0 + 1 from rfl, stdTo_succ f h, headK_of h]
  exact minK_self _
theorem sameF_one {f : List Sk} (h : 0 < f.length) : sameF f 1 = true := by
  rw [show (1 : Nat) = 0 + 1 from rfl, sameF_succ f h, headK_of h]
  simp [sameF]

set_option maxRecDepth 100000 in
set_option maxHeartbeats 2000000 in
theorem implStd_many (f : List Sk) (A : Option Addr) (c : Nat) (w : World) (hf : SksIn w A f) (hn : f.length ≤ 1048576) (hcap : f.length ≤ c) (hc : 1 < c) :
    Calls Try.prog 29 #[.slice A f.length c] w fun e w' => e = .returned (.tuple #[.agg #[.int .i64 (stdV f).dep, .int .i64 (stdV f).lef, .int .i64 (stdV f).fac, .int .i64 (stdV f).rig, .int .i64 (stdV f).foo], .bool (stdB f)]) ∧ Below w.heap.size w w' := by
  obtain ⟨w0, hw0⟩ : ∃ x : World, x = w.alloc (.cells #[.int .i64 0, .int .i64 0, .int .i64 0, .int .i64 0, .int .i64 0] 25) := ⟨_, rfl⟩
  have HA : Hid (Below w.heap.size w w0) := by show Below _ _ _; rw [hw0]; exact (Below.refl _ _).alloc (Nat.le_refl _) _
  have HZ : Hid (SkAt w0 w.heap.size 25 zSk) := by show SkAt _ _ _ _; rw [hw0]; exact SkAt.new _ _ zSk
  have HF := Lib.hid hf; clear hf
  have HW := Lib.hid hw0; clear hw0
  go_enter Try.func29, Try.ntmps29
  go_wp2_with fail
  rw [← HW.out]
  refine (areStrikes_any f A c _ (HF.out.below HA.out (Nat.le_refl _)) hn).mono ?_
  rintro e w1 ⟨rfl, hb1⟩
  have HA1 : Hid (Below w.heap.size w w1) := Lib.hid (HA.out.trans (hb1.mono HA.out.size))
  have HZ1 := Lib.hid (HZ.out.next hb1)
  clear hb1 HA HZ HW
  cases hg : listB f
  · have HV : Hid (stdV f = zSk ∧ stdB f = false) := Lib.hid (std_no (by unfold stdB; rw [hg]; rfl))
    clear hg
    obtain ⟨z0, z1, z2, z3, z4⟩ := HZ1.out.cells; simp only [zSk] at z0 z1 z2 z3 z4; have zf0 := HZ1.out.free 0; have zf1 := HZ1.out.free 1; have zf2 := HZ1.out.free 2; have zf3 := HZ1.out.free 3; have zf4 := HZ1.out.free 4; have zl := HZ1.out.lt
    go_wp2
    refine bodyPost_ret (v := .tuple #[.agg #[.int .i64 zSk.dep, .int .i64 zSk.lef, .int .i64 zSk.fac, .int .i64 zSk.rig, .int .i64 zSk.foo], .bool false]) (by simp [results, Try.results29, go_sem, z0, z1, z2, z3, z4, zf0, zf1, zf2, zf3, zf4, zSk]) rfl ⟨ret_kb (a := zSk) (a' := stdV f) HV.out.1.symm HV.out.2.symm, by repeat (first | (with_reducible exact HA1.out) | (refine Below.setCell ?_ (by first | (simp; done) | (simp; omega)) _))⟩
  have HG := Lib.hid hg; clear hg
  by_cases h0 : f.length = 0
  · have HV : Hid (stdV f = zSk ∧ stdB f = false) := Lib.hid (std_no (by unfold stdB; rw [h0]; simp))
    have e0 : ((f.length : Int) == 0) = true := by simp [h0]
    obtain ⟨z0, z1, z2, z3, z4⟩ := HZ1.out.cells; simp only [zSk] at z0 z1 z2 z3 z4; have zf0 := HZ1.out.free 0; have zf1 := HZ1.out.free 1; have zf2 := HZ1.out.free 2; have zf3 := HZ1.out.free 3; have zf4 := HZ1.out.free 4; have zl := HZ1.out.lt
    clear h0
    go_wp2
    refine bodyPost_ret (v := .tuple #[.agg #[.int .i64 zSk.dep, .int .i64 zSk.lef, .int .i64 zSk.fac, .int .i64 zSk.rig, .int .i64 zSk.foo], .bool false]) (by simp [results, Try.results29, go_sem, z0, z1, z2, z3, z4, zf0, zf1, zf2, zf3, zf4, zSk]) rfl ⟨ret_kb (a := zSk) (a' := stdV f) HV.out.1.symm HV.out.2.symm, by repeat (first | (with_reducible exact HA1.out) | (refine Below.setCell ?_ (by first | (simp; done) | (simp; omega)) _))⟩
  have e0 : ((f.length : Int) == 0) = false := by rw [beq_eq_false_iff_ne]; omega
  have hpos : 0 < f.length := by omega
  have hpos' : (0 : Int) < (f.length : Int) := by omega
  have H0 : Hid ((f.length == 0) = false) := by show _ = _; rw [beq_eq_false_iff_ne]; omega
  clear h0
  obtain ⟨b, off, rfl, hbl, hcs⟩ := HF.out hpos
  have HC := Lib.hid hcs
  obtain ⟨hc0, hc1, hc2, hc3, hc4⟩ := hcs 0 hpos
  clear hcs
  rw [headK_of hpos] at hc0 hc1 hc2 hc3 hc4
  simp only [Nat.zero_mul, Nat.add_zero] at hc0 hc1 hc2 hc3 hc4
  rw [← HA1.out.cell (p := ⟨b, off, none⟩) hbl] at hc0
  rw [← HA1.out.cell (p := ⟨b, off + 1, none⟩) hbl] at hc1
  rw [← HA1.out.cell (p := ⟨b, off + 2, none⟩) hbl] at hc2
  rw [← HA1.out.cell (p := ⟨b, off + 3, none⟩) hbl] at hc3
  rw [← HA1.out.cell (p := ⟨b, off + 4, none⟩) hbl] at hc4
  have hc1 : ¬ c = 1 := by omega
  obtain ⟨N, hN⟩ : ∃ N, f.length = N + 1 := ⟨f.length - 1, by omega⟩
  have HN := Lib.hid hN
  go_wp2_with fail
  refine (numberParts_any (headK f) _).mono ?_
  rintro e w2 ⟨rfl, hb2⟩
  have HA2 : Hid (Below w.heap.size w w2) := Lib.hid (HA1.out.trans (hb2.mono HA1.out.size))
  have HZ2 := Lib.hid (HZ1.out.next hb2)
  obtain ⟨w3, hw3⟩ : ∃ x : World, x = w2.alloc (.cells #[.int .i64 (headK f).dep, .int .i64 (headK f).lef, .int .i64 (headK f).fac, .int .i64 (headK f).rig, .int .i64 (headK f).foo] 62) := ⟨_, rfl⟩
  have HA3 : Hid (Below w.heap.size w w3) := by show Below _ _ _; rw [hw3]; exact HA2.out.alloc HA2.out.size _
  have HZ3 : Hid (SkAt w3 w.heap.size 25 zSk) := by show SkAt _ _ _ _; rw [hw3]; exact HZ2.out.alloc _
  obtain ⟨pb, hpb⟩ : ∃ pb, pb = w2.heap.size := ⟨_, rfl⟩
  have HO3 : Hid (SkAt w3 pb 62 (stdTo f 1)) := by show SkAt _ _ _ _; rw [hw3, stdTo_one hpos, hpb]; exact SkAt.new _ _ _
  have HPB : Hid (w.heap.size < pb) := by show _ < _; rw [hpb]; exact HZ2.out.lt
  have HSO := Lib.hid (sameF_one hpos)
  have HW3 := Lib.hid hw3
  have HPE := Lib.hid hpb
  clear hb2 hw3 HA1 HZ1 HA2 HZ2 hc0 hc1 hc2 hc3 hc4 hN hpb
  go_wp2
  rw [← HW3.out, ← HPE.out]
  go_loopw [23] (fun i wr => ∃ k : Nat, k ≤ N ∧ i = .int .i64 k ∧ sameF f (k + 1) = true ∧ SkAt wr pb 62 (stdTo f (k + 1)) ∧ SkAt wr w.heap.size 25 zSk ∧ Below w.heap.size w wr) (fun i _ => N - (intOf i).toNat)
  case atStart => exact ⟨0, Nat.zero_le _, rfl, HSO.out, HO3.out, HZ3.out, HA3.out⟩
  case round =>
    obtain ⟨k, hk, rfl, hs, hp, hz, hb⟩ := hrel
    have HS := Lib.hid hs; have HP := Lib.hid hp; have HZ := Lib.hid hz; have HB := Lib.hid hb
    clear hs hp hz HO3 HZ3 HA3 HW3 HPE
    by_cases hlt : k < N
    · have hlt1 : k + 1 < f.length := by have := HN.out; omega
      obtain ⟨hc0, hc1, hc2, hc3, hc4⟩ := HC.out (k + 1) hlt1
      rw [show off + (k + 1) * 5 = off + 5 + k * 5 from by omega] at hc0 hc1 hc2 hc3 hc4
      rw [← hb.cell (p := ⟨b, off + 5 + k * 5, none⟩) hbl] at hc0
      rw [← hb.cell (p := ⟨b, off + 5 + k * 5 + 1, none⟩) hbl] at hc1
      rw [← hb.cell (p := ⟨b, off + 5 + k * 5 + 2, none⟩) hbl] at hc2
      rw [← hb.cell (p := ⟨b, off + 5 + k * 5 + 3, none⟩) hbl] at hc3
      rw [← hb.cell (p := ⟨b, off + 5 + k * 5 + 4, none⟩) hbl] at hc4
      have hd2 := (HC.out 0 hpos).2.2.1
      rw [headK_of hpos] at hd2
      simp only [Nat.zero_mul, Nat.add_zero] at hd2
      rw [← hb.cell (p := ⟨b, off + 2, none⟩) hbl] at hd2
      clear hb
      have HST := Lib.hid (sameF_succ f hlt1)
      have HNO : Hid ((f[k + 1].fac == (headK f).fac) = false → sameF f f.length = false) := Lib.hid (sameF_no hlt1)
      have HMS := Lib.hid (stdTo_succ f hlt1)
      generalize f[k + 1] = s at *
      obtain ⟨wb, hwb⟩ : ∃ x : World, x = wr.alloc (.cells #[.int .i64 s.dep, .int .i64 s.lef, .int .i64 s.fac, .int .i64 s.rig, .int .i64 s.foo] 25) := ⟨_, rfl⟩
      have HBb : Hid (Below w.heap.size w wb) := by show Below _ _ _; rw [hwb]; exact HB.out.alloc HB.out.size _
      have HPb : Hid (SkAt wb pb 62 (stdTo f (k + 1))) := by show SkAt _ _ _ _; rw [hwb]; exact HP.out.alloc _
      have HZb : Hid (SkAt wb w.heap.size 25 zSk) := by show SkAt _ _ _ _; rw [hwb]; exact HZ.out.alloc _
      have hsb : SkAt wb wr.heap.size 25 s := by rw [hwb]; exact SkAt.new _ _ _
      have hd2b : wb.cell? ⟨b, off + 2, none⟩ = some (.int .i64 (headK f).fac) := by rw [hwb, World.cell?_alloc_lt _ _ _ (by show b < wr.heap.size; exact Nat.lt_of_lt_of_le hbl HB.out.size)]; exact hd2
      have hblb : b < wb.heap.size := Nat.lt_of_lt_of_le hbl HBb.out.size
      have kd := KeptW.cell hd2b hblb
      obtain ⟨x0, x1, x2, x3, x4⟩ := hsb.kept (B := wb.heap.size) hsb.lt
      have HSb := Lib.hid hsb
      have HWB := Lib.hid hwb
      clear hwb hsb hd2b HB HP HZ
      go_wp2_with fail
      rw [← HWB.out]
      refine region_kept wb.heap.size (by kernel_rfl) (by kernel_rfl) ?_
      repeat (go_big_quiet_step (fail))
      refine wpQuiet_nil ?_
      intro w3 hb3
      have HB3 : Hid (Below w.heap.size w w3) := Lib.hid (HBb.out.trans (hb3.mono HBb.out.size))
      have HP3 := Lib.hid (HPb.out.next hb3)
      have HZ3 := Lib.hid (HZb.out.next hb3)
      have HS3 := Lib.hid (HSb.out.next hb3)
      clear hb3 hc0 hc1 hc2 hc3 hc4 hd2 kd x0 x1 x2 x3 x4 HBb HPb HZb HSb HWB hblb
      cases hfe : (s.fac == (headK f).fac)
      · have HV : Hid (stdV f = zSk ∧ stdB f = false) := Lib.hid (std_no (by unfold stdB; rw [HNO.out hfe]; simp))
        have hne : (s.fac != (headK f).fac) = true := by simpa using hfe
        clear hfe
        obtain ⟨z0, z1, z2, z3, z4⟩ := HZ3.out.cells; simp only [zSk] at z0 z1 z2 z3 z4; have zf0 := HZ3.out.free 0; have zf1 := HZ3.out.free 1; have zf2 := HZ3.out.free 2; have zf3 := HZ3.out.free 3; have zf4 := HZ3.out.free 4; have zl := HZ3.out.lt
        go_wp2
        refine bodyPost_ret (v := .tuple #[.agg #[.int .i64 zSk.dep, .int .i64 zSk.lef, .int .i64 zSk.fac, .int .i64 zSk.rig, .int .i64 zSk.foo], .bool false]) (by simp [results, Try.results29, go_sem, z0, z1, z2, z3, z4, zf0, zf1, zf2, zf3, zf4, zSk]) rfl ⟨ret_kb (a := zSk) (a' := stdV f) HV.out.1.symm HV.out.2.symm, by repeat (first | (with_reducible exact HB3.out) | (refine Below.setCell ?_ (by first | (simp; done) | (simp; omega)) _))⟩
      have HSN : Hid (sameF f (k + 1 + 1) = true) := by show _ = _; rw [HST.out, HS.out, hfe]; rfl
      have hne : (s.fac != (headK f).fac) = false := by simpa using hfe
      clear hfe HST HNO HS
      obtain ⟨y0, y1, y2, y3, y4⟩ := HS3.out.kept (B := w3.heap.size) HS3.out.lt
      obtain ⟨p0, p1, p2, p3, p4⟩ := HP3.out.kept (B := w3.heap.size) HP3.out.lt
      go_wp2_with fail
      refine region_mid w3.heap.size 4 (by kernel_rfl) (by kernel_rfl) rfl ?_
      simp only [List.take_succ_cons, List.take_zero]
      repeat (go_big_quiet_step (fail))
      go_big_quiet_step ((go_at_call 46; exact kept_call _ (Nat.le_refl _) (numberParts_any s _)))
      repeat (go_big_quiet_step (fail))
      go_big_quiet_step ((go_at_call 56; exact kept_call _ (Nat.le_refl _) (lesserParts_any (stdTo f (k + 1)) s _)))
      refine wpQuiet_nil ?_
      intro w4 hb4 K hK
      have HB4 : Hid (Below w.heap.size w w4) := Lib.hid (HB3.out.trans (hb4.mono HB3.out.size))
      have hP4 := HP3.out.next hb4
      have HZ4 := Lib.hid (HZ3.out.next hb4)
      obtain ⟨m, hm⟩ : ∃ m, m = minK (stdTo f (k + 1)) s := ⟨_, rfl⟩
      rw [← hm] at HMS ⊢
      clear hm
      obtain ⟨g0, g1, g2, g3, g4⟩ := hP4.cells
      have gf0 := hP4.free 0; have gf1 := hP4.free 1; have gf2 := hP4.free 2; have gf3 := hP4.free 3; have gf4 := hP4.free 4
      have gl := hP4.lt
      have hpb := HPB.out
      obtain ⟨w5, hw5⟩ : ∃ x : World, x = ((((w4.setCell ⟨pb, 0, none⟩ (.int .i64 m.dep)).setCell ⟨pb, 1, none⟩ (.int .i64 m.lef)).setCell ⟨pb, 2, none⟩ (.int .i64 m.fac)).setCell ⟨pb, 3, none⟩ (.int .i64 m.rig)).setCell ⟨pb, 4, none⟩ (.int .i64 m.foo) := ⟨_, rfl⟩
      have HB5 : Hid (Below w.heap.size w w5) := by
        show Below _ _ _; rw [hw5]
        repeat (first | (with_reducible exact HB4.out) | (refine Below.setCell ?_ (by show w.heap.size ≤ pb; omega) _))
      have HP5 : Hid (SkAt w5 pb 62 (stdTo f (k + 1 + 1))) := by
        show SkAt _ _ _ _; rw [hw5, HMS.out]
        unfold SkAt
        rw [heap_set (heap_set (heap_set (heap_set (heap_set hP4 _) _) _) _)]
        rfl
      have HZ5 : Hid (SkAt w5 w.heap.size 25 zSk) := by
        show SkAt _ _ _ _; rw [hw5]
        have hne : w.heap.size ≠ pb := by omega
        exact Own.other (Own.other (Own.other (Own.other (Own.other HZ4.out hne _) hne _) hne _) hne _) hne _
      have HW5 := Lib.hid hw5
      clear hw5 hb4 hP4 HZ4 HB4 y0 y1 y2 y3 y4 p0 p1 p2 p3 p4 HB3 HP3 HZ3 HS3 HMS
      go_simp
      rw [← HW5.out]
      clear g0 g1 g2 g3 g4 gf0 gf1 gf2 gf3 gf4 gl hpb
      refine hK _ _ ?_
      clear hK HW5
      simp only [List.drop_succ_cons, List.drop_zero]
      refine wpQuiet_nil ?_
      go_wp2
      go_roundw
      case rel => exact ⟨k + 1, by omega, by go_num, HSN.out, HP5.out, HZ5.out, HB5.out⟩
      case measure => simp [intOf]; omega
    · obtain rfl : k = N := by omega
      have HV : Hid (stdV f = stdTo f (k + 1) ∧ stdB f = true) := by
        have h := std_yes (f := f) (by unfold stdB; rw [HG.out, H0.out, HN.out, HS.out]; rfl)
        rw [HN.out] at h
        exact Lib.hid h
      clear hb
      generalize stdTo f (k + 1) = u at *
      obtain ⟨y0, y1, y2, y3, y4⟩ := HP.out.cells
      have hyl := HP.out.lt
      go_wp2_with fail
      refine (strike_any u _).mono ?_
      rintro e w3 ⟨rfl, hb3⟩
      have HB3 : Hid (Below w.heap.size w w3) := Lib.hid (HB.out.trans (hb3.mono HB.out.size))
      have HZ3 := Lib.hid (HZ.out.next hb3)
      clear hb3 HB HZ HP y0 y1 y2 y3 y4 hyl
      obtain ⟨z0, z1, z2, z3, z4⟩ := HZ3.out.cells; simp only [zSk] at z0 z1 z2 z3 z4; have zf0 := HZ3.out.free 0; have zf1 := HZ3.out.free 1; have zf2 := HZ3.out.free 2; have zf3 := HZ3.out.free 3; have zf4 := HZ3.out.free 4; have zl := HZ3.out.lt
      go_wp2
      refine bodyPost_ret (v := .tuple #[.agg #[.int .i64 u.dep, .int .i64 u.lef, .int .i64 u.fac, .int .i64 u.rig, .int .i64 u.foo], .bool true]) (by simp [results, Try.results29, go_sem, z0, z1, z2, z3, z4, zf0, zf1, zf2, zf3, zf4, zSk]) rfl ⟨ret_kb (a := u) (a' := stdV f) HV.out.1.symm HV.out.2.symm, by repeat (first | (with_reducible exact HB3.out) | (refine Below.setCell ?_ (by first | (simp; done) | (simp; omega)) _))⟩

set_option maxRecDepth 100000 in
set_option maxHeartbeats 2000000 in
theorem implStd_one (f : List Sk) (A : Option Addr) (c : Nat) (w : World) (hf : SksIn w A f) (hn : f.length ≤ 1048576) (hcap : f.length ≤ c) (hc : c ≤ 1) :
    Calls Try.prog 29 #[.slice A f.length c] w fun e w' => e = .returned (.tuple #[.agg #[.int .i64 (stdV f).dep, .int .i64 (stdV f).lef, .int .i64 (stdV f).fac, .int .i64 (stdV f).rig, .int .i64 (stdV f).foo], .bool (stdB f)]) ∧ Below w.heap.size w w' := by
  obtain ⟨w0, hw0⟩ : ∃ x : World, x = w.alloc (.cells #[.int .i64 0, .int .i64 0, .int .i64 0, .int .i64 0, .int .i64 0] 25) := ⟨_, rfl⟩
  have HA : Hid (Below w.heap.size w w0) := by show Below _ _ _; rw [hw0]; exact (Below.refl _ _).alloc (Nat.le_refl _) _
  have HZ : Hid (SkAt w0 w.heap.size 25 zSk) := by show SkAt _ _ _ _; rw [hw0]; exact SkAt.new _ _ zSk
  have HF := Lib.hid hf; clear hf
  have HW := Lib.hid hw0; clear hw0
  go_enter Try.func29, Try.ntmps29
  go_wp2_with fail
  rw [← HW.out]
  refine (areStrikes_any f A c _ (HF.out.below HA.out (Nat.le_refl _)) hn).mono ?_
  rintro e w1 ⟨rfl, hb1⟩
  have HA1 : Hid (Below w.heap.size w w1) := Lib.hid (HA.out.trans (hb1.mono HA.out.size))
  have HZ1 := Lib.hid (HZ.out.next hb1)
  clear hb1 HA HZ HW
  cases hg : listB f
  · have HV : Hid (stdV f = zSk ∧ stdB f = false) := Lib.hid (std_no (by unfold stdB; rw [hg]; rfl))
    clear hg
    obtain ⟨z0, z1, z2, z3, z4⟩ := HZ1.out.cells; simp only [zSk] at z0 z1 z2 z3 z4; have zf0 := HZ1.out.free 0; have zf1 := HZ1.out.free 1; have zf2 := HZ1.out.free 2; have zf3 := HZ1.out.free 3; have zf4 := HZ1.out.free 4; have zl := HZ1.out.lt
    go_wp2
    refine bodyPost_ret (v := .tuple #[.agg #[.int .i64 zSk.dep, .int .i64 zSk.lef, .int .i64 zSk.fac, .int .i64 zSk.rig, .int .i64 zSk.foo], .bool false]) (by simp [results, Try.results29, go_sem, z0, z1, z2, z3, z4, zf0, zf1, zf2, zf3, zf4, zSk]) rfl ⟨ret_kb (a := zSk) (a' := stdV f) HV.out.1.symm HV.out.2.symm, by repeat (first | (with_reducible exact HA1.out) | (refine Below.setCell ?_ (by first | (simp; done) | (simp; omega)) _))⟩
  have HG := Lib.hid hg; clear hg
  by_cases h0 : f.length = 0
  · have HV : Hid (stdV f = zSk ∧ stdB f = false) := Lib.hid (std_no (by unfold stdB; rw [h0]; simp))
    have e0 : ((f.length : Int) == 0) = true := by simp [h0]
    obtain ⟨z0, z1, z2, z3, z4⟩ := HZ1.out.cells; simp only [zSk] at z0 z1 z2 z3 z4; have zf0 := HZ1.out.free 0; have zf1 := HZ1.out.free 1; have zf2 := HZ1.out.free 2; have zf3 := HZ1.out.free 3; have zf4 := HZ1.out.free 4; have zl := HZ1.out.lt
    clear h0
    go_wp2
    refine bodyPost_ret (v := .tuple #[.agg #[.int .i64 zSk.dep, .int .i64 zSk.lef, .int .i64 zSk.fac, .int .i64 zSk.rig, .int .i64 zSk.foo], .bool false]) (by simp [results, Try.results29, go_sem, z0, z1, z2, z3, z4, zf0, zf1, zf2, zf3, zf4, zSk]) rfl ⟨ret_kb (a := zSk) (a' := stdV f) HV.out.1.symm HV.out.2.symm, by repeat (first | (with_reducible exact HA1.out) | (refine Below.setCell ?_ (by first | (simp; done) | (simp; omega)) _))⟩
  have e0 : ((f.length : Int) == 0) = false := by rw [beq_eq_false_iff_ne]; omega
  have hpos : 0 < f.length := by omega
  have hpos' : (0 : Int) < (f.length : Int) := by omega
  have H0 : Hid ((f.length == 0) = false) := by show _ = _; rw [beq_eq_false_iff_ne]; omega
  clear h0
  obtain rfl : c = 1 := by omega
  obtain ⟨b, off, rfl, hbl, hcs⟩ := HF.out hpos
  have HC := Lib.hid hcs
  obtain ⟨hc0, hc1, hc2, hc3, hc4⟩ := hcs 0 hpos
  clear hcs
  rw [headK_of hpos] at hc0 hc1 hc2 hc3 hc4
  simp only [Nat.zero_mul, Nat.add_zero] at hc0 hc1 hc2 hc3 hc4
  rw [← HA1.out.cell (p := ⟨b, off, none⟩) hbl] at hc0
  rw [← HA1.out.cell (p := ⟨b, off + 1, none⟩) hbl] at hc1
  rw [← HA1.out.cell (p := ⟨b, off + 2, none⟩) hbl] at hc2
  rw [← HA1.out.cell (p := ⟨b, off + 3, none⟩) hbl] at hc3
  rw [← HA1.out.cell (p := ⟨b, off + 4, none⟩) hbl] at hc4
  obtain ⟨N, hN⟩ : ∃ N, f.length = N + 1 := ⟨f.length - 1, by omega⟩
  have HN := Lib.hid hN
  go_wp2_with fail
  refine (numberParts_any (headK f) _).mono ?_
  rintro e w2 ⟨rfl, hb2⟩
  have HA2 : Hid (Below w.heap.size w w2) := Lib.hid (HA1.out.trans (hb2.mono HA1.out.size))
  have HZ2 := Lib.hid (HZ1.out.next hb2)
  obtain ⟨w3, hw3⟩ : ∃ x : World, x = w2.alloc (.cells #[.int .i64 (headK f).dep, .int .i64 (headK f).lef, .int .i64 (headK f).fac, .int .i64 (headK f).rig, .int .i64 (headK f).foo] 62) := ⟨_, rfl⟩
  have HA3 : Hid (Below w.heap.size w w3) := by show Below _ _ _; rw [hw3]; exact HA2.out.alloc HA2.out.size _
  have HZ3 : Hid (SkAt w3 w.heap.size 25 zSk) := by show SkAt _ _ _ _; rw [hw3]; exact HZ2.out.alloc _
  obtain ⟨pb, hpb⟩ : ∃ pb, pb = w2.heap.size := ⟨_, rfl⟩
  have HO3 : Hid (SkAt w3 pb 62 (stdTo f 1)) := by show SkAt _ _ _ _; rw [hw3, stdTo_one hpos, hpb]; exact SkAt.new _ _ _
  have HPB : Hid (w.heap.size < pb) := by show _ < _; rw [hpb]; exact HZ2.out.lt
  have HSO := Lib.hid (sameF_one hpos)
  have HW3 := Lib.hid hw3
  have HPE := Lib.hid hpb
  clear hb2 hw3 HA1 HZ1 HA2 HZ2 hc0 hc1 hc2 hc3 hc4 hN hpb
  go_wp2
  rw [← HW3.out, ← HPE.out]
  go_loopw [23] (fun i wr => i = .int .i64 0 ∧ sameF f (0 + 1) = true ∧ SkAt wr pb 62 (stdTo f (0 + 1)) ∧ SkAt wr w.heap.size 25 zSk ∧ Below w.heap.size w wr) (fun i _ => 0)
  case atStart => exact ⟨rfl, HSO.out, HO3.out, HZ3.out, HA3.out⟩
  case round =>
    obtain ⟨rfl, hs, hp, hz, hb⟩ := hrel
    have HS := Lib.hid hs; have HP := Lib.hid hp; have HZ := Lib.hid hz; have HB := Lib.hid hb
    clear hs hp hz HO3 HZ3 HA3 HW3 HPE
    have hN0 : N = 0 := by have := HN.out; omega
    subst hN0
    have hnn : ¬ (0 : Int) < (f.length : Int) - 1 := by have := HN.out; omega
    have HV : Hid (stdV f = stdTo f (0 + 1) ∧ stdB f = true) := by
      have h := std_yes (f := f) (by unfold stdB; rw [HG.out, H0.out, HN.out, HS.out]; rfl)
      rw [HN.out] at h
      exact Lib.hid h
    clear hb
    generalize stdTo f (0 + 1) = u at *
    obtain ⟨y0, y1, y2, y3, y4⟩ := HP.out.cells
    have hyl := HP.out.lt
    go_wp2_with fail
    refine (strike_any u _).mono ?_
    rintro e w3 ⟨rfl, hb3⟩
    have HB3 : Hid (Below w.heap.size w w3) := Lib.hid (HB.out.trans (hb3.mono HB.out.size))
    have HZ3 := Lib.hid (HZ.out.next hb3)
    clear hb3 HB HZ HP y0 y1 y2 y3 y4 hyl
    obtain ⟨z0, z1, z2, z3, z4⟩ := HZ3.out.cells; simp only [zSk] at z0 z1 z2 z3 z4; have zf0 := HZ3.out.free 0; have zf1 := HZ3.out.free 1; have zf2 := HZ3.out.free 2; have zf3 := HZ3.out.free 3; have zf4 := HZ3.out.free 4; have zl := HZ3.out.lt
    go_wp2
    refine bodyPost_ret (v := .tuple #[.agg #[.int .i64 u.dep, .int .i64 u.lef, .int .i64 u.fac, .int .i64 u.rig, .int .i64 u.foo], .bool true]) (by simp [results, Try.results29, go_sem, z0, z1, z2, z3, z4, zf0, zf1, zf2, zf3, zf4, zSk]) rfl ⟨ret_kb (a := u) (a' := stdV f) HV.out.1.symm HV.out.2.symm, by repeat (first | (with_reducible exact HB3.out) | (refine Below.setCell ?_ (by first | (simp; done) | (simp; omega)) _))⟩

theorem implStd_any (f : List Sk) (A : Option Addr) (c : Nat) (w : World) (hf : SksIn w A f) (hn : f.length ≤ 1048576) (hcap : f.length ≤ c) :
    Calls Try.prog 29 #[.slice A f.length c] w fun e w' => e = .returned (.tuple #[.agg #[.int .i64 (stdV f).dep, .int .i64 (stdV f).lef, .int .i64 (stdV f).fac, .int .i64 (stdV f).rig, .int .i64 (stdV f).foo], .bool (stdB f)]) ∧ Below w.heap.size w w' := by
  rcases (by omega : c ≤ 1 ∨ 1 < c) with h | h
  · exact implStd_one f A c w hf hn hcap h
  · exact implStd_many f A c w hf hn hcap h
end Go.Proofs.Ytbbaphhkdhdelaa

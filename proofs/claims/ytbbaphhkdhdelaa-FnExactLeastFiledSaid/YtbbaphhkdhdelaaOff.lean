/-
  The contracts of OffStandard, in spec and in impl, and of impl.isOffStandard: each answers what the plain words here say and changes nothing that was there.
-/
import Derived.Test.YtbbaphhkdhdelaaLis
import Derived.Test.YtbbaphhkdhdelaaFi2
import Derived.Test.YtbbaphhkdhdelaaCas
namespace Go.Proofs.Ytbbaphhkdhdelaa
open Go.RowKit
set_option linter.unusedVariables false

def farB (s t : Sk) (n : Int) : Bool := !allB (-n) n (difL s t)

theorem dif_bound {s t : Sk} (hs : goodB s = true) (ht : goodB t = true) : ∀ k (h : k < (difK s t).zs.length), -998 ≤ (difK s t).zs[k] ∧ (difK s t).zs[k] ≤ 998 := by
  intro k h
  obtain ⟨b0, b1, b2, b3, b4⟩ := good_bounds hs
  obtain ⟨c0, c1, c2, c3, c4⟩ := good_bounds ht
  have hk : k < 5 := h
  have hc : k = 0 ∨ k = 1 ∨ k = 2 ∨ k = 3 ∨ k = 4 := by omega
  rcases hc with rfl | rfl | rfl | rfl | rfl <;> simp [difK, Sk.zs] <;> omega
theorem isOff_any (s t : Sk) (n : Int) (w : World) (hs : goodB s = true) (ht : goodB t = true) (h0 : 0 ≤ n) (h9 : n ≤ 999) :
    Calls Try.prog 61 #[.agg #[.int .i64 s.dep, .int .i64 s.lef, .int .i64 s.fac, .int .i64 s.rig, .int .i64 s.foo], .agg #[.int .i64 t.dep, .int .i64 t.lef, .int .i64 t.fac, .int .i64 t.rig, .int .i64 t.foo], .int .i64 n] w fun e w' => e = .returned (.bool (farB s t n)) ∧ Below w.heap.size w w' := by
  have HGS := Lib.hid hs; have HGT := Lib.hid ht; clear hs ht
  have HA : Hid (Below w.heap.size w ((w.alloc (.cells #[.int .i64 s.dep, .int .i64 s.lef, .int .i64 s.fac, .int .i64 s.rig, .int .i64 s.foo] 25)).alloc (.cells #[.int .i64 t.dep, .int .i64 t.lef, .int .i64 t.fac, .int .i64 t.rig, .int .i64 t.foo] 25))) := Lib.hid (((Below.refl _ _).alloc (Nat.le_refl _) _).alloc (by simp) _)
  go_enter Try.func61, Try.ntmps61
  go_wp2_with fail
  refine (partDiff_any s t _ HGS.out HGT.out).mono ?_
  rintro e w1 ⟨rfl, hb1⟩
  have HB : Hid (Below w.heap.size w w1) := Lib.hid (HA.out.trans (hb1.mono HA.out.size))
  have HD : Hid (farB s t n = !allB (-n) n (difK s t).zs) := by show _ = _; unfold farB; rw [difK_zs]
  have HPT : Hid (∀ k (h : k < (difK s t).zs.length), -998 ≤ (difK s t).zs[k] ∧ (difK s t).zs[k] ≤ 998) := Lib.hid (dif_bound HGS.out HGT.out)
  clear hb1 HA
  generalize difK s t = d at *
  go_wp2
  go_loop [12] (fun i => ∃ (k : Nat), k ≤ 5 ∧ i = .int .i64 k ∧ allB (-n) n (d.zs.take k) = true) (fun i => 5 - (intOf i).toNat)
  case atStart => exact ⟨0, Nat.zero_le _, rfl, rfl⟩
  case round =>
    obtain ⟨k, hk, rfl, hs⟩ := hrel
    have HS := Lib.hid hs; clear hs
    by_cases hlt : k < 5
    · have hix := run_index5 d k hlt
      have hst : allB (-n) n (d.zs.take (k + 1)) = inB (-n) n d.zs[k] := by rw [List.take_succ_eq_append_getElem hlt, allB_snoc, HS.out]; rfl
      have hno := allB_no (lo := -n) (hi := n) (l := d.zs) hlt
      have HST := Lib.hid hst; have HNO := Lib.hid hno
      have hp := HPT.out k hlt
      clear hst hno
      rcases (by omega : (-n ≤ d.zs[k] ∧ d.zs[k] ≤ n) ∨ n < d.zs[k] ∨ (d.zs[k] ≤ n ∧ d.zs[k] < -n)) with ⟨h1, h2⟩ | h1 | ⟨h1, h2⟩
      · have HY : Hid (inB (-n) n d.zs[k] = true) := by show _ = _; simp [inB, h1, h2]
        generalize d.zs[k] = z at *
        go_wp2
        go_round
        case rel => exact ⟨k + 1, by omega, by go_num, by rw [HST.out, HY.out]⟩
        case measure => simp [intOf]; omega
      · have HY : Hid (farB s t n = true) := by show _ = _; rw [HD.out, HNO.out (by simp [inB]; omega)]; rfl
        generalize d.zs[k] = z at *
        go_wp2
        go_ret
        exact ⟨ret_bool HY.out.symm, HB.out⟩
      · have HY : Hid (farB s t n = true) := by show _ = _; rw [HD.out, HNO.out (by simp [inB]; omega)]; rfl
        generalize d.zs[k] = z at *
        go_wp2
        go_ret
        exact ⟨ret_bool HY.out.symm, HB.out⟩
    · obtain rfl : k = 5 := by omega
      have HY : Hid (farB s t n = false) := by
        show _ = _
        have e := HS.out
        rw [List.take_of_length_le (by exact Nat.le_refl 5)] at e
        rw [HD.out, e]; rfl
      go_wp2
      go_ret
      exact ⟨ret_bool HY.out.symm, HB.out⟩

def offAt (f : List Sk) (t : Sk) (n : Int) (i : Nat) : Bool := farB (f.getD i zSk) t n
def offTo (f : List Sk) (t : Sk) (n : Int) (k : Nat) : List Int := ((List.range k).filter (offAt f t n)).map fun i : Nat => (i : Int)
theorem offTo_yes {f : List Sk} {t : Sk} {n : Int} {k : Nat} (h : k < f.length) (hf : farB f[k] t n = true) : offTo f t n (k + 1) = offTo f t n k ++ [(k : Int)] := by
  have e : offAt f t n k = true := by unfold offAt; simpa [h] using hf
  simp [offTo, List.range_succ, List.filter_append, e]
theorem offTo_no {f : List Sk} {t : Sk} {n : Int} {k : Nat} (h : k < f.length) (hf : farB f[k] t n = false) : offTo f t n (k + 1) = offTo f t n k := by
  have e : offAt f t n k = false := by unfold offAt; simpa [h] using hf
  simp [offTo, List.range_succ, List.filter_append, e]
theorem offTo_len (f : List Sk) (t : Sk) (n : Int) (k : Nat) : (offTo f t n k).length ≤ k := by
  unfold offTo
  rw [List.length_map]
  exact Nat.le_trans (List.length_filter_le _ _) (by simp)
def offB (f : List Sk) (t : Sk) (n : Int) : Bool := listB f && goodB t && inB 0 999 n
def offL (f : List Sk) (t : Sk) (n : Int) : List Int := if offB f t n then offTo f t n f.length else []
theorem off_no {f : List Sk} {t : Sk} {n : Int} (h : offB f t n = false) : offL f t n = [] ∧ offB f t n = false := ⟨by unfold offL; rw [h]; rfl, h⟩
theorem off_yes {f : List Sk} {t : Sk} {n : Int} (h : offB f t n = true) : offL f t n = offTo f t n f.length ∧ offB f t n = true := ⟨by unfold offL; rw [h]; rfl, h⟩
theorem list_all {f : List Sk} (h : listB f = true) : allG f = true ∧ f.length ≤ 30 := by
  unfold listB at h; simpa using h
theorem off_len (f : List Sk) (t : Sk) (n : Int) : (offL f t n).length ≤ 30 := by
  unfold offL
  split
  · rename_i h
    unfold offB at h
    simp only [Bool.and_eq_true] at h
    have := (list_all h.1.1).2
    have := offTo_len f t n f.length
    omega
  · simp

set_option maxRecDepth 100000 in
set_option maxHeartbeats 2000000 in
theorem implOff_any (f : List Sk) (A : Option Addr) (c : Nat) (t : Sk) (n : Int) (w : World) (hf : SksIn w A f) (hn : f.length ≤ 1048576) :
    Calls Try.prog 33 #[.slice A f.length c, .agg #[.int .i64 t.dep, .int .i64 t.lef, .int .i64 t.fac, .int .i64 t.rig, .int .i64 t.foo], .int .i64 n] w fun e w' => FilTo w e w' (offL f t n) (offB f t n) := by
  have HF := Lib.hid hf; clear hf
  obtain ⟨i0, hi, hz0, hz1, hz2⟩ := info_parts infoI
  have HI := Lib.hid hi; have HZ0 := Lib.hid hz0; have HZ1 := Lib.hid hz1; have HZ2 := Lib.hid hz2
  clear hi hz0 hz1 hz2
  obtain ⟨w0, hw0⟩ : ∃ x : World, x = w.alloc (.cells #[.int .i64 t.dep, .int .i64 t.lef, .int .i64 t.fac, .int .i64 t.rig, .int .i64 t.foo] 25) := ⟨_, rfl⟩
  have HA : Hid (Below w.heap.size w w0) := by show Below _ _ _; rw [hw0]; exact (Below.refl _ _).alloc (Nat.le_refl _) _
  have HX : Hid (SkAt w0 w.heap.size 25 t) := by show SkAt _ _ _ _; rw [hw0]; exact SkAt.new _ _ _
  have HW := Lib.hid hw0; clear hw0
  go_enter Try.func33, Try.ntmps33
  go_wp2_with fail
  rw [← HW.out]
  refine (areStrikes_any f A c _ (HF.out.below HA.out (Nat.le_refl _)) hn).mono ?_
  rintro e w1 ⟨rfl, hb1⟩
  have HA1 : Hid (Below w.heap.size w w1) := Lib.hid (HA.out.trans (hb1.mono HA.out.size))
  have HX1 := Lib.hid (HX.out.next hb1)
  clear hb1 HA HX HW
  cases hg : listB f
  · have HV : Hid (offL f t n = [] ∧ offB f t n = false) := Lib.hid (off_no (by unfold offB; rw [hg]; rfl))
    clear hg
    go_wp2
    go_ret2
    exact FilTo.no HV.out HA1.out
  have HG := Lib.hid hg; clear hg
  obtain ⟨y0, y1, y2, y3, y4⟩ := HX1.out.cells
  have hyl := HX1.out.lt
  go_wp2_with fail
  refine (implIsStrike_any t _).mono ?_
  rintro e w2 ⟨rfl, hb2⟩
  have HA2 : Hid (Below w.heap.size w w2) := Lib.hid (HA1.out.trans (hb2.mono HA1.out.size))
  have HX2 := Lib.hid (HX1.out.next hb2)
  clear hb2 HA1 HX1 y0 y1 y2 y3 y4 hyl
  cases hh : goodB t
  · have HV : Hid (offL f t n = [] ∧ offB f t n = false) := Lib.hid (off_no (by unfold offB; rw [hh]; simp))
    clear hh
    go_wp2
    go_ret2
    exact FilTo.no HV.out HA2.out
  have HH := Lib.hid hh; clear hh
  go_wp2_with fail
  refine (tolerance_any _ _).mono ?_
  rintro e w' ⟨rfl, rfl⟩
  cases hi : inB 0 999 n
  · have HV : Hid (offL f t n = [] ∧ offB f t n = false) := Lib.hid (off_no (by unfold offB; rw [hi]; simp))
    clear hi
    go_wp2
    go_ret2
    exact FilTo.no HV.out HA2.out
  have hnr : 0 ≤ n ∧ n ≤ 999 := by simpa [inB] using hi
  obtain ⟨n1, n2⟩ := hnr
  have HV : Hid (offL f t n = offTo f t n f.length ∧ offB f t n = true) := Lib.hid (off_yes (by unfold offB; rw [HG.out, HH.out, hi]; rfl))
  have HALL := Lib.hid (list_all HG.out).1
  have h30 := (list_all HG.out).2
  clear hi
  go_wp2
  go_loopw [8, 26] (fun v i wr => ∃ k : Nat, k ≤ f.length ∧ i = .int .i64 k ∧ wr.ownsRow w2.heap.size 3 1 v (offTo f t n k).length (intsZ (offTo f t n k)) ∧ Below w2.heap.size w2 wr) (fun _ i _ => f.length - (intOf i).toNat)
  case atStart => exact ⟨0, Nat.zero_le _, rfl, own_nil _ _ _ _, Below.refl _ _⟩
  case round =>
    obtain ⟨k, hk, rfl, hown, hb⟩ := hrel
    have HOWN := Lib.hid hown; clear hown
    by_cases hlt : k < f.length
    · obtain ⟨b, off, rfl, hbl, hc⟩ := HF.out (by omega)
      obtain ⟨hc0, hc1, hc2, hc3, hc4⟩ := hc k hlt
      clear hc
      have hbw := HA2.out.trans (hb.mono HA2.out.size)
      rw [← hbw.cell (p := ⟨b, off + k * 5, none⟩) hbl] at hc0; rw [← hbw.cell (p := ⟨b, off + k * 5 + 1, none⟩) hbl] at hc1; rw [← hbw.cell (p := ⟨b, off + k * 5 + 2, none⟩) hbl] at hc2; rw [← hbw.cell (p := ⟨b, off + k * 5 + 3, none⟩) hbl] at hc3; rw [← hbw.cell (p := ⟨b, off + k * 5 + 4, none⟩) hbl] at hc4
      clear hbw
      have HGK : Hid (goodB f[k] = true) := Lib.hid (allG_at HALL.out hlt)
      have HYES : Hid (farB f[k] t n = true → offTo f t n (k + 1) = offTo f t n k ++ [(k : Int)]) := Lib.hid (offTo_yes hlt)
      have HNO : Hid (farB f[k] t n = false → offTo f t n (k + 1) = offTo f t n k) := Lib.hid (offTo_no hlt)
      have hlen := offTo_len f t n k
      have HXw : Hid (SkAt wr w.heap.size 25 t) := Lib.hid (HX2.out.next hb)
      obtain ⟨x0, x1, x2, x3, x4⟩ := HXw.out.cells
      have hxl := HXw.out.lt
      have HB := Lib.hid hb; clear hb
      generalize f[k] = s at *
      have HB3 : Hid (Below w2.heap.size w2 (wr.alloc (.cells #[.int .i64 s.dep, .int .i64 s.lef, .int .i64 s.fac, .int .i64 s.rig, .int .i64 s.foo] 25))) := Lib.hid (HB.out.alloc HB.out.size _)
      have HO3 := Lib.hid (fun (W : World) (h : Below (wr.alloc (.cells #[.int .i64 s.dep, .int .i64 s.lef, .int .i64 s.fac, .int .i64 s.rig, .int .i64 s.foo] 25)).heap.size (wr.alloc (.cells #[.int .i64 s.dep, .int .i64 s.lef, .int .i64 s.fac, .int .i64 s.rig, .int .i64 s.foo] 25)) W) => own_below (HOWN.out.alloc (.cells #[.int .i64 s.dep, .int .i64 s.lef, .int .i64 s.fac, .int .i64 s.rig, .int .i64 s.foo] 25)) h)
      go_wp2_with fail
      refine (isOff_any s t n _ HGK.out HH.out n1 n2).mono ?_
      rintro e w4 ⟨rfl, hb4⟩
      have hownw := HO3.out _ hb4
      have HB4 : Hid (Below w2.heap.size w2 w4) := Lib.hid (HB3.out.trans (hb4.mono HB3.out.size))
      have hsz := HB4.out.size
      clear hb4 hc0 hc1 hc2 hc3 hc4 x0 x1 x2 x3 x4 hxl HXw HO3 HB3
      cases hfar : farB s t n
      · have HY := Lib.hid (HNO.out hfar)
        rw [← HY.out] at hownw
        have HO5 := Lib.hid hownw
        clear hfar hownw HOWN
        go_wp2
        go_roundw
        case rel => exact ⟨k + 1, by omega, by go_num, HO5.out, HB4.out⟩
        case measure => simp [intOf]; omega
      · have HY := Lib.hid (HYES.out hfar)
        have hmx : (offTo f t n k).length + 1 ≤ maxLen := by unfold maxLen; omega
        clear hfar
        go_wp2_with (at_builtin; refine wpList_append_own _ rfl _ _ 30 rfl w2.heap.size 3 i0 (.int .i64 0) 1 8 Try.underlying30 HI.out HZ0.out HZ1.out HZ2.out rfl (by decide) _ _ _ rfl (hownw.alloc _) ⟨w4.heap.size, 0, none⟩ 1 1 [.int .i64 (k : Int)] rfl rfl (cell_one_new _ _ _) (by simp [Value.oneCell']) hmx (by omega) (by simp; omega) ?_)
        intro v' w5 hown' hgrow _
        have HB5 : Hid (Below w2.heap.size w2 w5) := Lib.hid ((HB4.out.alloc HB4.out.size _).grown hgrow (by have := HB4.out.size; simp; omega) (own_lt hownw))
        have HO5 : Hid (w5.ownsRow w2.heap.size 3 1 v' (offTo f t n (k + 1)).length (intsZ (offTo f t n (k + 1)))) := by
          show World.ownsRow _ _ _ _ _ _ _
          rw [HY.out, List.length_append, intsZ_snoc]; exact hown'
        clear hown' hgrow hownw HOWN
        go_wp2
        go_roundw
        case rel => exact ⟨k + 1, by omega, by go_num, HO5.out, HB5.out⟩
        case measure => simp [intOf]; omega
    · obtain rfl : k = f.length := by omega
      have HB := Lib.hid (HA2.out.trans (hb.mono HA2.out.size))
      have HO := Lib.hid (Joins.ownsRow_le HOWN.out HA2.out.size)
      clear hb
      go_wp2
      go_ret2
      exact FilTo.yes HV.out HB.out HO.out

set_option maxRecDepth 100000 in
set_option maxHeartbeats 2000000 in
theorem specOff_any (f : List Sk) (A : Option Addr) (c : Nat) (t : Sk) (n : Int) (w : World) (hf : SksIn w A f) (hn : f.length ≤ 1048576) :
    Calls Try.prog 32 #[.slice A f.length c, .agg #[.int .i64 t.dep, .int .i64 t.lef, .int .i64 t.fac, .int .i64 t.rig, .int .i64 t.foo], .int .i64 n] w fun e w' => FilTo w e w' (offL f t n) (offB f t n) := by
  have HF := Lib.hid hf; clear hf
  obtain ⟨i0, hi, hz0, hz1, hz2⟩ := info_parts infoI
  have HI := Lib.hid hi; have HZ0 := Lib.hid hz0; have HZ1 := Lib.hid hz1; have HZ2 := Lib.hid hz2
  clear hi hz0 hz1 hz2
  obtain ⟨w0, hw0⟩ : ∃ x : World, x = w.alloc (.cells #[.int .i64 t.dep, .int .i64 t.lef, .int .i64 t.fac, .int .i64 t.rig, .int .i64 t.foo] 25) := ⟨_, rfl⟩
  have HA : Hid (Below w.heap.size w w0) := by show Below _ _ _; rw [hw0]; exact (Below.refl _ _).alloc (Nat.le_refl _) _
  have HX : Hid (SkAt w0 w.heap.size 25 t) := by show SkAt _ _ _ _; rw [hw0]; exact SkAt.new _ _ _
  have HW := Lib.hid hw0; clear hw0
  go_enter Try.func32, Try.ntmps32
  go_wp2_with fail
  rw [← HW.out]
  refine (maList_any f A c _ (HF.out.below HA.out (Nat.le_refl _)) hn).mono ?_
  rintro e w1 ⟨rfl, hb1⟩
  have HA1 : Hid (Below w.heap.size w w1) := Lib.hid (HA.out.trans (hb1.mono HA.out.size))
  have HX1 := Lib.hid (HX.out.next hb1)
  clear hb1 HA HX HW
  cases hg : listB f
  · have HV : Hid (offL f t n = [] ∧ offB f t n = false) := Lib.hid (off_no (by unfold offB; rw [hg]; rfl))
    clear hg
    go_wp2
    go_ret2
    exact FilTo.no HV.out HA1.out
  have HG := Lib.hid hg; clear hg
  obtain ⟨y0, y1, y2, y3, y4⟩ := HX1.out.cells
  have hyl := HX1.out.lt
  go_wp2_with fail
  refine (maGood_any t _).mono ?_
  rintro e w2 ⟨rfl, hb2⟩
  have HA2 : Hid (Below w.heap.size w w2) := Lib.hid (HA1.out.trans (hb2.mono HA1.out.size))
  have HX2 := Lib.hid (HX1.out.next hb2)
  clear hb2 HA1 HX1 y0 y1 y2 y3 y4 hyl
  cases hh : goodB t
  · have HV : Hid (offL f t n = [] ∧ offB f t n = false) := Lib.hid (off_no (by unfold offB; rw [hh]; simp))
    clear hh
    go_wp2
    go_ret2
    exact FilTo.no HV.out HA2.out
  have HH := Lib.hid hh; clear hh
  go_wp2_with fail
  refine (l1In_any _ _ _ _).mono ?_
  rintro e w' ⟨rfl, rfl⟩
  cases hi : inB 0 999 n
  · have HV : Hid (offL f t n = [] ∧ offB f t n = false) := Lib.hid (off_no (by unfold offB; rw [hi]; simp))
    clear hi
    go_wp2
    go_ret2
    exact FilTo.no HV.out HA2.out
  have hnr : 0 ≤ n ∧ n ≤ 999 := by simpa [inB] using hi
  obtain ⟨n1, n2⟩ := hnr
  have HV : Hid (offL f t n = offTo f t n f.length ∧ offB f t n = true) := Lib.hid (off_yes (by unfold offB; rw [HG.out, HH.out, hi]; rfl))
  have HALL := Lib.hid (list_all HG.out).1
  have h30 := (list_all HG.out).2
  clear hi
  go_wp2
  go_loopw [8, 26] (fun v i wr => ∃ k : Nat, k ≤ f.length ∧ i = .int .i64 k ∧ wr.ownsRow w2.heap.size 3 1 v (offTo f t n k).length (intsZ (offTo f t n k)) ∧ Below w2.heap.size w2 wr) (fun _ i _ => f.length - (intOf i).toNat)
  case atStart => exact ⟨0, Nat.zero_le _, rfl, own_nil _ _ _ _, Below.refl _ _⟩
  case round =>
    obtain ⟨k, hk, rfl, hown, hb⟩ := hrel
    have HOWN := Lib.hid hown; clear hown
    by_cases hlt : k < f.length
    · obtain ⟨b, off, rfl, hbl, hc⟩ := HF.out (by omega)
      obtain ⟨hc0, hc1, hc2, hc3, hc4⟩ := hc k hlt
      clear hc
      have hbw := HA2.out.trans (hb.mono HA2.out.size)
      rw [← hbw.cell (p := ⟨b, off + k * 5, none⟩) hbl] at hc0; rw [← hbw.cell (p := ⟨b, off + k * 5 + 1, none⟩) hbl] at hc1; rw [← hbw.cell (p := ⟨b, off + k * 5 + 2, none⟩) hbl] at hc2; rw [← hbw.cell (p := ⟨b, off + k * 5 + 3, none⟩) hbl] at hc3; rw [← hbw.cell (p := ⟨b, off + k * 5 + 4, none⟩) hbl] at hc4
      clear hbw
      have HGK : Hid (goodB f[k] = true) := Lib.hid (allG_at HALL.out hlt)
      have HYES : Hid (farB f[k] t n = true → offTo f t n (k + 1) = offTo f t n k ++ [(k : Int)]) := Lib.hid (offTo_yes hlt)
      have HNO : Hid (farB f[k] t n = false → offTo f t n (k + 1) = offTo f t n k) := Lib.hid (offTo_no hlt)
      have hlen := offTo_len f t n k
      have HXw : Hid (SkAt wr w.heap.size 25 t) := Lib.hid (HX2.out.next hb)
      obtain ⟨x0, x1, x2, x3, x4⟩ := HXw.out.cells
      have hxl := HXw.out.lt
      have HB := Lib.hid hb; clear hb
      generalize f[k] = s at *
      have HB3 : Hid (Below w2.heap.size w2 (wr.alloc (.cells #[.int .i64 s.dep, .int .i64 s.lef, .int .i64 s.fac, .int .i64 s.rig, .int .i64 s.foo] 25))) := Lib.hid (HB.out.alloc HB.out.size _)
      have HO3 := Lib.hid (fun (W : World) (h : Below (wr.alloc (.cells #[.int .i64 s.dep, .int .i64 s.lef, .int .i64 s.fac, .int .i64 s.rig, .int .i64 s.foo] 25)).heap.size (wr.alloc (.cells #[.int .i64 s.dep, .int .i64 s.lef, .int .i64 s.fac, .int .i64 s.rig, .int .i64 s.foo] 25)) W) => own_below (HOWN.out.alloc (.cells #[.int .i64 s.dep, .int .i64 s.lef, .int .i64 s.fac, .int .i64 s.rig, .int .i64 s.foo] 25)) h)
      have hfr : farB s t n = !allB (-n) n (difL s t) := rfl
      have HFR := Lib.hid hfr; clear hfr
      go_wp2_with fail
      refine (maFilings_any s t _ HGK.out HH.out).mono ?_
      rintro e w4 ⟨v4, rfl, hb4, ho4⟩
      obtain ⟨A4, c4, rfl⟩ := own_form ho4
      have HD4 := Lib.hid (own_in ho4)
      have hownw := HO3.out _ hb4
      have HOW := Lib.hid hownw
      have HB4 : Hid (Below w2.heap.size w2 w4) := Lib.hid (HB3.out.trans (hb4.mono HB3.out.size))
      have hsz := HB4.out.size
      clear hb4 hc0 hc1 hc2 hc3 hc4 x0 x1 x2 x3 x4 hxl HXw HO3 HB3 ho4 hownw
      go_wp2_with fail
      refine (l1All_any (difL s t) _ c4 (-n) n _ HD4.out (by rw [difL_len]; decide)).mono ?_
      rintro e w' ⟨rfl, rfl⟩
      rw [show allB (-n) n (difL s t) = !farB s t n from by rw [HFR.out]; simp]
      clear HFR HD4
      have hownw := HOW.out
      cases hfar : farB s t n
      · have HY := Lib.hid (HNO.out hfar)
        rw [← HY.out] at hownw
        have HO5 := Lib.hid hownw
        clear hfar hownw HOWN HOW
        go_wp2
        go_roundw
        case rel => exact ⟨k + 1, by omega, by go_num, HO5.out, HB4.out⟩
        case measure => simp [intOf]; omega
      · have HY := Lib.hid (HYES.out hfar)
        have hmx : (offTo f t n k).length + 1 ≤ maxLen := by unfold maxLen; omega
        clear hfar HOW
        go_wp2_with (at_builtin; refine wpList_append_own _ rfl _ _ 30 rfl w2.heap.size 3 i0 (.int .i64 0) 1 8 Try.underlying30 HI.out HZ0.out HZ1.out HZ2.out rfl (by decide) _ _ _ rfl (hownw.alloc _) ⟨w4.heap.size, 0, none⟩ 1 1 [.int .i64 (k : Int)] rfl rfl (cell_one_new _ _ _) (by simp [Value.oneCell']) hmx (by omega) (by simp; omega) ?_)
        intro v' w5 hown' hgrow _
        have HB5 : Hid (Below w2.heap.size w2 w5) := Lib.hid ((HB4.out.alloc HB4.out.size _).grown hgrow (by have := HB4.out.size; simp; omega) (own_lt hownw))
        have HO5 : Hid (w5.ownsRow w2.heap.size 3 1 v' (offTo f t n (k + 1)).length (intsZ (offTo f t n (k + 1)))) := by
          show World.ownsRow _ _ _ _ _ _ _
          rw [HY.out, List.length_append, intsZ_snoc]; exact hown'
        clear hown' hgrow hownw HOWN
        go_wp2
        go_roundw
        case rel => exact ⟨k + 1, by omega, by go_num, HO5.out, HB5.out⟩
        case measure => simp [intOf]; omega
    · obtain rfl : k = f.length := by omega
      have HB := Lib.hid (HA2.out.trans (hb.mono HA2.out.size))
      have HO := Lib.hid (Joins.ownsRow_le HOWN.out HA2.out.size)
      clear hb
      go_wp2
      go_ret2
      exact FilTo.yes HV.out HB.out HO.out
end Go.Proofs.Ytbbaphhkdhdelaa

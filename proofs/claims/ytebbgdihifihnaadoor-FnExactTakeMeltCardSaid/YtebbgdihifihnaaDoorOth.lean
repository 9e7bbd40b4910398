/-
  The contract of LeastOfOther, in spec and in impl (in impl where the table of the blended metals is as the program lays it): it answers what the plain words here say and changes nothing that was there.
-/
import Derived.Test.YtebbgdihifihnaaDoorIsf
import Derived.Test.YtebbgdihifihnaaDoorMjo
namespace Go.Proofs.YtebbgdihifihnaaDoor
open Go.RowKit
set_option linter.unusedVariables false

def scanO (b : Bd) (o : Me) : Nat → Int → Me → Option Int
  | 0, _, _ => none
  | f + 1, n, m => if goodM m then (if fitR m b then some n else scanO b o f (n + 1) (joinM m o)) else none
theorem scan_bad {b : Bd} {o m : Me} {f : Nat} {n : Int} (h : goodM m = false) : scanO b o f n m = none := by cases f <;> simp [scanO, h]
theorem scan_fit {b : Bd} {o m : Me} {f : Nat} {n : Int} (h : goodM m = true) (h2 : fitR m b = true) : scanO b o (f + 1) n m = some n := by simp [scanO, h, h2]
theorem scan_go {b : Bd} {o m : Me} {f : Nat} {n : Int} (h : goodM m = true) (h2 : fitR m b = false) : scanO b o (f + 1) n m = scanO b o f (n + 1) (joinM m o) := by simp [scanO, h, h2]
def othB (s o : Me) (b : Bd) : Bool := goodM s && goodM o && goodBd b
def othR (s o : Me) (b : Bd) : Option Int := if othB s o b then scanO b o 201 0 s else none
theorem oth_no {s o : Me} {b : Bd} (h : othB s o b = false) : othR s o b = none := by unfold othR; rw [h]; rfl
theorem oth_yes {s o : Me} {b : Bd} (h : othB s o b = true) : scanO b o 201 0 s = othR s o b := by unfold othR; rw [h]; rfl
theorem scan_next {b : Bd} {o m : Me} {k : Nat} {R : Option Int} (h : scanO b o (201 - k) (k : Int) m = R) (hk : k ≤ 200) (hg : goodM m = true) (hf : fitR m b = false) : scanO b o (201 - (k + 1)) ((k + 1 : Nat) : Int) (joinM m o) = R := by
  rw [show 201 - k = (201 - (k + 1)) + 1 by omega, scan_go hg hf] at h
  rw [Int.natCast_succ]; exact h
theorem scan_stop {b : Bd} {o m : Me} {k : Nat} {R : Option Int} (h : scanO b o (201 - k) (k : Int) m = R) (hk : k ≤ 200) (hg : goodM m = true) (hf : fitR m b = true) : R = some (k : Int) := by
  rw [show 201 - k = (201 - (k + 1)) + 1 by omega, scan_fit hg hf] at h
  exact h.symm
theorem scan_done {b : Bd} {o m : Me} {k : Nat} {R : Option Int} (h : scanO b o (201 - k) (k : Int) m = R) (hk : ¬ k ≤ 200) : R = none := by
  rw [show 201 - k = 0 by omega] at h
  exact h.symm
theorem put3_far {w : World} {b c : Nat} {o : Obj} (h : w.heap[c]? = some o) (hne : c ≠ b) (x y z : Value) : (((w.setCell ⟨b, 0, none⟩ x).setCell ⟨b, 1, none⟩ y).setCell ⟨b, 2, none⟩ z).heap[c]? = some o :=
  set_far (set_far (set_far h hne) hne) hne
theorem put3_below {w w' : World} {B b : Nat} (h : Below B w w') (hb : B ≤ b) (x y z : Value) : Below B w (((w'.setCell ⟨b, 0, none⟩ x).setCell ⟨b, 1, none⟩ y).setCell ⟨b, 2, none⟩ z) :=
  ((h.setCell hb _).setCell hb _).setCell hb _
theorem two_joined {m o : Me} (hm : goodM m = true) (ho : goodM o = true) : joinB [m, o] = goodM (joinM m o) ∧ (goodM (joinM m o) = true → joinV [m, o] = joinM m o) ∧ (goodM (joinM m o) = false → joinV [m, o] = zMe) := by
  have e : sumM [m, o] 2 = joinM m o := by simp [sumM, joinM, zMe]
  have h1 : joinB [m, o] = goodM (joinM m o) := by unfold joinB; simp [hm, ho, e]
  refine ⟨h1, fun h => ?_, fun h => ?_⟩
  · unfold joinV; rw [h1, h]; exact e
  · unfold joinV; rw [h1, h]; rfl

set_option maxRecDepth 100000 in
set_option maxHeartbeats 1000000 in
theorem specOther_any (s o : Me) (b : Bd) (w : World) :
    Calls Tryd.prog 28 #[.agg #[.int .i64 s.lea, .int .i64 s.tin, .int .i64 s.ant], .agg #[.int .i64 o.lea, .int .i64 o.tin, .int .i64 o.ant], .agg #[.int .i64 b.lot, .int .i64 b.hit, .int .i64 b.loa, .int .i64 b.hia]] w fun e w' => e = .returned (.tuple #[.int .i64 ((othR s o b).getD 0), .bool (othR s o b).isSome]) ∧ Below w.heap.size w w' := by
  obtain ⟨R, hR⟩ : ∃ R, R = othR s o b := ⟨_, rfl⟩
  rw [← hR]
  have HRR := Lib.hid hR; clear hR
  have HX : Hid (MeAt (((w.alloc (.cells #[.int .i64 s.lea, .int .i64 s.tin, .int .i64 s.ant] 32)).alloc (.cells #[.int .i64 o.lea, .int .i64 o.tin, .int .i64 o.ant] 32)).alloc (.cells #[.int .i64 b.lot, .int .i64 b.hit, .int .i64 b.loa, .int .i64 b.hia] 25)) w.heap.size 32 s) := Lib.hid (((MeAt.new _ _ _).alloc _).alloc _)
  have HO : Hid (MeAt (((w.alloc (.cells #[.int .i64 s.lea, .int .i64 s.tin, .int .i64 s.ant] 32)).alloc (.cells #[.int .i64 o.lea, .int .i64 o.tin, .int .i64 o.ant] 32)).alloc (.cells #[.int .i64 b.lot, .int .i64 b.hit, .int .i64 b.loa, .int .i64 b.hia] 25)) (w.heap.size + 1) 32 o) := Lib.hid (MeAt.alloc (heap_alloc2_new _ _ _) _)
  have HY : Hid (BdAt (((w.alloc (.cells #[.int .i64 s.lea, .int .i64 s.tin, .int .i64 s.ant] 32)).alloc (.cells #[.int .i64 o.lea, .int .i64 o.tin, .int .i64 o.ant] 32)).alloc (.cells #[.int .i64 b.lot, .int .i64 b.hit, .int .i64 b.loa, .int .i64 b.hia] 25)) (w.heap.size + 2) 25 b) := Lib.hid (heap_alloc3_new _ _ _ _)
  have HA : Hid (Below w.heap.size w (((w.alloc (.cells #[.int .i64 s.lea, .int .i64 s.tin, .int .i64 s.ant] 32)).alloc (.cells #[.int .i64 o.lea, .int .i64 o.tin, .int .i64 o.ant] 32)).alloc (.cells #[.int .i64 b.lot, .int .i64 b.hit, .int .i64 b.loa, .int .i64 b.hia] 25))) := Lib.hid ((((Below.refl _ _).alloc (Nat.le_refl _) _).alloc (by simp) _).alloc (by simp; omega) _)
  go_enter Tryd.func28, Tryd.ntmps28
  go_wp2_with fail
  refine (meGood_any s _).mono ?_
  rintro e w1 ⟨rfl, hb1⟩
  have HB1 : Hid (Below w.heap.size w w1) := Lib.hid (HA.out.trans (hb1.mono HA.out.size))
  have HX1 := Lib.hid (HX.out.next hb1); have HO1 := Lib.hid (HO.out.next hb1); have HY1 := Lib.hid (HY.out.next hb1)
  clear hb1 HX HO HY HA
  cases hg : goodM s
  · have HR : Hid (R = none) := Lib.hid (by rw [HRR.out]; exact oth_no (by unfold othB; rw [hg]; rfl))
    clear hg HRR
    go_wp2
    go_ret2
    exact ⟨by rw [HR.out]; rfl, HB1.out⟩
  have HG := Lib.hid hg; clear hg
  obtain ⟨o0, o1, o2⟩ := HO1.out.cells
  have ol := HO1.out.lt
  go_wp2_with fail
  refine (meGood_any o _).mono ?_
  clear o0 o1 o2 ol
  rintro e w2 ⟨rfl, hb2⟩
  have HB2 : Hid (Below w.heap.size w w2) := Lib.hid (HB1.out.trans (hb2.mono HB1.out.size))
  have HX2 := Lib.hid (HX1.out.next hb2); have HO2 := Lib.hid (HO1.out.next hb2); have HY2 := Lib.hid (HY1.out.next hb2)
  clear hb2 HX1 HO1 HY1 HB1
  cases hg : goodM o
  · have HR : Hid (R = none) := Lib.hid (by rw [HRR.out]; exact oth_no (by unfold othB; rw [hg]; simp))
    clear hg HRR
    go_wp2
    go_ret2
    exact ⟨by rw [HR.out]; rfl, HB2.out⟩
  have HGO := Lib.hid hg; clear hg
  obtain ⟨y0, y1, y2, y3⟩ := HY2.out.cells
  have yl := HY2.out.lt
  go_wp2_with fail
  refine (meBlend_any b _).mono ?_
  clear y0 y1 y2 y3 yl
  rintro e w3 ⟨rfl, hb3⟩
  have HB3 : Hid (Below w.heap.size w w3) := Lib.hid (HB2.out.trans (hb3.mono HB2.out.size))
  have HX3 := Lib.hid (HX2.out.next hb3); have HO3 := Lib.hid (HO2.out.next hb3); have HY3 := Lib.hid (HY2.out.next hb3)
  clear hb3 HX2 HO2 HY2 HB2
  cases hg : goodBd b
  · have HR : Hid (R = none) := Lib.hid (by rw [HRR.out]; exact oth_no (by unfold othB; rw [hg]; simp))
    clear hg HRR
    go_wp2
    go_ret2
    exact ⟨by rw [HR.out]; rfl, HB3.out⟩
  have HGB := Lib.hid hg; clear hg
  have HSC : Hid (scanO b o 201 0 s = R) := Lib.hid (by rw [HRR.out]; exact oth_yes (by unfold othB; rw [HG.out, HGO.out, HGB.out]; rfl))
  have HOS := Lib.hid (small_of HGO.out)
  clear HRR HG
  go_wp2
  go_loopw [8] (fun n wr => ∃ (k : Nat) (M : Me), k ≤ 201 ∧ n = .int .i64 k ∧ scanO b o (201 - k) (k : Int) M = R ∧ MeAt wr w.heap.size 32 M ∧ MeAt wr (w.heap.size + 1) 32 o ∧ BdAt wr (w.heap.size + 2) 25 b ∧ Below w.heap.size w wr) (fun n _ => 201 - (intOf n).toNat)
  case atStart => exact ⟨0, s, Nat.zero_le _, rfl, HSC.out, HX3.out, HO3.out, HY3.out, HB3.out⟩
  case round =>
    obtain ⟨k, M, hk, rfl, hsc, hx, ho, hy, hb⟩ := hrel
    have HSK := Lib.hid hsc; have HX4 := Lib.hid hx; have HO4 := Lib.hid ho; have HY4 := Lib.hid hy; have HB4 := Lib.hid hb
    clear hsc hx ho hy hb HX3 HO3 HY3 HB3 HSC
    by_cases hlt : k ≤ 200
    rotate_left
    · have HR : Hid (R = none) := Lib.hid (scan_done HSK.out hlt)
      have hk1 : ¬ (k : Int) ≤ 200 := by omega
      go_wp2
      go_ret2
      exact ⟨by rw [HR.out]; rfl, HB4.out⟩
    obtain ⟨x0, x1, x2⟩ := HX4.out.cells
    have xl := HX4.out.lt
    go_wp2_with fail
    refine (meGood_any M _).mono ?_
    clear x0 x1 x2 xl
    rintro e w5 ⟨rfl, hb5⟩
    have HB5 : Hid (Below w.heap.size w w5) := Lib.hid (HB4.out.trans (hb5.mono HB4.out.size))
    have HX5 := Lib.hid (HX4.out.next hb5); have HO5 := Lib.hid (HO4.out.next hb5); have HY5 := Lib.hid (HY4.out.next hb5)
    clear hb5 HX4 HO4 HY4 HB4
    cases hg : goodM M
    · have HR : Hid (R = none) := Lib.hid (by rw [← HSK.out]; exact scan_bad hg)
      clear hg
      go_wp2
      go_ret2
      exact ⟨by rw [HR.out]; rfl, HB5.out⟩
    have HG := Lib.hid hg; clear hg
    have HSM := Lib.hid (small_of HG.out)
    obtain ⟨x0, x1, x2⟩ := HX5.out.cells
    have xl := HX5.out.lt
    go_wp2_with fail
    refine (meGrams_any M _ HSM.out).mono ?_
    clear x0 x1 x2 xl
    rintro e w6 ⟨rfl, hb6⟩
    have HB6 : Hid (Below w.heap.size w w6) := Lib.hid (HB5.out.trans (hb6.mono HB5.out.size))
    have HX6 := Lib.hid (HX5.out.next hb6); have HO6 := Lib.hid (HO5.out.next hb6); have HY6 := Lib.hid (HY5.out.next hb6)
    clear hb6 HX5 HO5 HY5 HB5
    by_cases hp : 0 < grM M
    · have HP := Lib.hid hp
      generalize hG : grM M = G at *
      have HGG := Lib.hid hG; clear hG
      obtain ⟨x0, x1, x2⟩ := HX6.out.cells
      have xl := HX6.out.lt
      obtain ⟨y0, y1, y2, y3⟩ := HY6.out.cells
      have yl := HY6.out.lt
      go_wp2_with fail
      refine (meFits_any M b _ HG.out HGB.out).mono ?_
      clear x0 x1 x2 xl y0 y1 y2 y3 yl
      rintro e w7 ⟨rfl, hb7⟩
      have HB7 : Hid (Below w.heap.size w w7) := Lib.hid (HB6.out.trans (hb7.mono HB6.out.size))
      have HX7 := Lib.hid (HX6.out.next hb7); have HO7 := Lib.hid (HO6.out.next hb7); have HY7 := Lib.hid (HY6.out.next hb7)
      clear hb7 HX6 HO6 HY6 HB6
      have HF : Hid (fitR M b = fitB M b) := Lib.hid (by unfold fitR; rw [HGG.out]; simp [HP.out])
      cases hf : fitB M b
      · have HNX : Hid (scanO b o (201 - (k + 1)) ((k + 1 : Nat) : Int) (joinM M o) = R) := Lib.hid (scan_next HSK.out hlt HG.out (by rw [HF.out, hf]))
        clear hf
        obtain ⟨x0, x1, x2⟩ := HX7.out.cells
        have xl := HX7.out.lt
        obtain ⟨o0, o1, o2⟩ := HO7.out.cells
        have ol := HO7.out.lt
        go_wp2_with fail
        refine (meJoin_any M o _ HSM.out HOS.out).mono ?_
        clear x0 x1 x2 xl o0 o1 o2 ol
        rintro e w8 ⟨rfl, hb8⟩
        have HB8 : Hid (Below w.heap.size w w8) := Lib.hid (HB7.out.trans (hb8.mono HB7.out.size))
        have HX8 := Lib.hid (HX7.out.next hb8); have HO8 := Lib.hid (HO7.out.next hb8); have HY8 := Lib.hid (HY7.out.next hb8)
        clear hb8 HX7 HO7 HY7 HB7
        obtain ⟨x0, x1, x2⟩ := HX8.out.cells
        have xl := HX8.out.lt
        have xf0 := HX8.out.free 0; have xf1 := HX8.out.free 1; have xf2 := HX8.out.free 2
        have HXN := Lib.hid (MeAt.put3 HX8.out (joinM M o).lea (joinM M o).tin (joinM M o).ant)
        have HON : Hid (MeAt (((w8.setCell ⟨w.heap.size, 0, none⟩ (.int .i64 (joinM M o).lea)).setCell ⟨w.heap.size, 1, none⟩ (.int .i64 (joinM M o).tin)).setCell ⟨w.heap.size, 2, none⟩ (.int .i64 (joinM M o).ant)) (w.heap.size + 1) 32 o) := Lib.hid (put3_far HO8.out (by omega) _ _ _)
        have HYN : Hid (BdAt (((w8.setCell ⟨w.heap.size, 0, none⟩ (.int .i64 (joinM M o).lea)).setCell ⟨w.heap.size, 1, none⟩ (.int .i64 (joinM M o).tin)).setCell ⟨w.heap.size, 2, none⟩ (.int .i64 (joinM M o).ant)) (w.heap.size + 2) 25 b) := Lib.hid (put3_far HY8.out (by omega) _ _ _)
        have HBN := Lib.hid (put3_below HB8.out (Nat.le_refl _) (.int .i64 (joinM M o).lea) (.int .i64 (joinM M o).tin) (.int .i64 (joinM M o).ant))
        clear HX8 HO8 HY8
        generalize joinM M o = J at *
        go_wp2
        go_roundw
        case rel => exact ⟨k + 1, J, by omega, by go_num, HNX.out, HXN.out, HON.out, HYN.out, HBN.out⟩
        case measure => simp [intOf]; omega
      · have HR : Hid (R = some (k : Int)) := Lib.hid (scan_stop HSK.out hlt HG.out (by rw [HF.out, hf]))
        clear hf
        go_wp2
        go_ret2
        exact ⟨by rw [HR.out]; rfl, HB7.out⟩
    ·   have HNX : Hid (scanO b o (201 - (k + 1)) ((k + 1 : Nat) : Int) (joinM M o) = R) := Lib.hid (scan_next HSK.out hlt HG.out (by unfold fitR; simp [hp]))
        generalize grM M = G at *
        obtain ⟨x0, x1, x2⟩ := HX6.out.cells
        have xl := HX6.out.lt
        obtain ⟨o0, o1, o2⟩ := HO6.out.cells
        have ol := HO6.out.lt
        go_wp2_with fail
        refine (meJoin_any M o _ HSM.out HOS.out).mono ?_
        clear x0 x1 x2 xl o0 o1 o2 ol
        rintro e w8 ⟨rfl, hb8⟩
        have HB8 : Hid (Below w.heap.size w w8) := Lib.hid (HB6.out.trans (hb8.mono HB6.out.size))
        have HX8 := Lib.hid (HX6.out.next hb8); have HO8 := Lib.hid (HO6.out.next hb8); have HY8 := Lib.hid (HY6.out.next hb8)
        clear hb8 HX6 HO6 HY6 HB6
        obtain ⟨x0, x1, x2⟩ := HX8.out.cells
        have xl := HX8.out.lt
        have xf0 := HX8.out.free 0; have xf1 := HX8.out.free 1; have xf2 := HX8.out.free 2
        have HXN := Lib.hid (MeAt.put3 HX8.out (joinM M o).lea (joinM M o).tin (joinM M o).ant)
        have HON : Hid (MeAt (((w8.setCell ⟨w.heap.size, 0, none⟩ (.int .i64 (joinM M o).lea)).setCell ⟨w.heap.size, 1, none⟩ (.int .i64 (joinM M o).tin)).setCell ⟨w.heap.size, 2, none⟩ (.int .i64 (joinM M o).ant)) (w.heap.size + 1) 32 o) := Lib.hid (put3_far HO8.out (by omega) _ _ _)
        have HYN : Hid (BdAt (((w8.setCell ⟨w.heap.size, 0, none⟩ (.int .i64 (joinM M o).lea)).setCell ⟨w.heap.size, 1, none⟩ (.int .i64 (joinM M o).tin)).setCell ⟨w.heap.size, 2, none⟩ (.int .i64 (joinM M o).ant)) (w.heap.size + 2) 25 b) := Lib.hid (put3_far HY8.out (by omega) _ _ _)
        have HBN := Lib.hid (put3_below HB8.out (Nat.le_refl _) (.int .i64 (joinM M o).lea) (.int .i64 (joinM M o).tin) (.int .i64 (joinM M o).ant))
        clear HX8 HO8 HY8
        generalize joinM M o = J at *
        go_wp2
        go_roundw
        case rel => exact ⟨k + 1, J, by omega, by go_num, HNX.out, HXN.out, HON.out, HYN.out, HBN.out⟩
        case measure => simp [intOf]; omega

set_option maxRecDepth 100000 in
set_option maxHeartbeats 1000000 in
theorem implOther_any (s o : Me) (b : Bd) (w : World) (ht : TabM w) :
    Calls Tryd.prog 29 #[.agg #[.int .i64 s.lea, .int .i64 s.tin, .int .i64 s.ant], .agg #[.int .i64 o.lea, .int .i64 o.tin, .int .i64 o.ant], .agg #[.int .i64 b.lot, .int .i64 b.hit, .int .i64 b.loa, .int .i64 b.hia]] w fun e w' => e = .returned (.tuple #[.int .i64 ((othR s o b).getD 0), .bool (othR s o b).isSome]) ∧ Below w.heap.size w w' := by
  have HT := Lib.hid ht; clear ht
  obtain ⟨R, hR⟩ : ∃ R, R = othR s o b := ⟨_, rfl⟩
  rw [← hR]
  have HRR := Lib.hid hR; clear hR
  have HX : Hid (MeAt (((w.alloc (.cells #[.int .i64 s.lea, .int .i64 s.tin, .int .i64 s.ant] 32)).alloc (.cells #[.int .i64 o.lea, .int .i64 o.tin, .int .i64 o.ant] 32)).alloc (.cells #[.int .i64 b.lot, .int .i64 b.hit, .int .i64 b.loa, .int .i64 b.hia] 25)) w.heap.size 32 s) := Lib.hid (((MeAt.new _ _ _).alloc _).alloc _)
  have HO : Hid (MeAt (((w.alloc (.cells #[.int .i64 s.lea, .int .i64 s.tin, .int .i64 s.ant] 32)).alloc (.cells #[.int .i64 o.lea, .int .i64 o.tin, .int .i64 o.ant] 32)).alloc (.cells #[.int .i64 b.lot, .int .i64 b.hit, .int .i64 b.loa, .int .i64 b.hia] 25)) (w.heap.size + 1) 32 o) := Lib.hid (MeAt.alloc (heap_alloc2_new _ _ _) _)
  have HY : Hid (BdAt (((w.alloc (.cells #[.int .i64 s.lea, .int .i64 s.tin, .int .i64 s.ant] 32)).alloc (.cells #[.int .i64 o.lea, .int .i64 o.tin, .int .i64 o.ant] 32)).alloc (.cells #[.int .i64 b.lot, .int .i64 b.hit, .int .i64 b.loa, .int .i64 b.hia] 25)) (w.heap.size + 2) 25 b) := Lib.hid (heap_alloc3_new _ _ _ _)
  have HA : Hid (Below w.heap.size w (((w.alloc (.cells #[.int .i64 s.lea, .int .i64 s.tin, .int .i64 s.ant] 32)).alloc (.cells #[.int .i64 o.lea, .int .i64 o.tin, .int .i64 o.ant] 32)).alloc (.cells #[.int .i64 b.lot, .int .i64 b.hit, .int .i64 b.loa, .int .i64 b.hia] 25))) := Lib.hid ((((Below.refl _ _).alloc (Nat.le_refl _) _).alloc (by simp) _).alloc (by simp; omega) _)
  go_enter Tryd.func29, Tryd.ntmps29
  go_wp2_with fail
  refine (implIsMelt_any s _).mono ?_
  rintro e w1 ⟨rfl, hb1⟩
  have HB1 : Hid (Below w.heap.size w w1) := Lib.hid (HA.out.trans (hb1.mono HA.out.size))
  have HX1 := Lib.hid (HX.out.next hb1); have HO1 := Lib.hid (HO.out.next hb1); have HY1 := Lib.hid (HY.out.next hb1)
  clear hb1 HX HO HY HA
  cases hg : goodM s
  · have HR : Hid (R = none) := Lib.hid (by rw [HRR.out]; exact oth_no (by unfold othB; rw [hg]; rfl))
    clear hg HRR
    go_wp2
    go_ret2
    exact ⟨by rw [HR.out]; rfl, HB1.out⟩
  have HG := Lib.hid hg; clear hg
  obtain ⟨o0, o1, o2⟩ := HO1.out.cells
  have ol := HO1.out.lt
  go_wp2_with fail
  refine (implIsMelt_any o _).mono ?_
  clear o0 o1 o2 ol
  rintro e w2 ⟨rfl, hb2⟩
  have HB2 : Hid (Below w.heap.size w w2) := Lib.hid (HB1.out.trans (hb2.mono HB1.out.size))
  have HX2 := Lib.hid (HX1.out.next hb2); have HO2 := Lib.hid (HO1.out.next hb2); have HY2 := Lib.hid (HY1.out.next hb2)
  clear hb2 HX1 HO1 HY1 HB1
  cases hg : goodM o
  · have HR : Hid (R = none) := Lib.hid (by rw [HRR.out]; exact oth_no (by unfold othB; rw [hg]; simp))
    clear hg HRR
    go_wp2
    go_ret2
    exact ⟨by rw [HR.out]; rfl, HB2.out⟩
  have HGO := Lib.hid hg; clear hg
  obtain ⟨y0, y1, y2, y3⟩ := HY2.out.cells
  have yl := HY2.out.lt
  go_wp2_with fail
  refine (implIsBlend_any b _ (HT.out.next HB2.out)).mono ?_
  clear y0 y1 y2 y3 yl
  rintro e w3 ⟨rfl, hb3⟩
  have HB3 : Hid (Below w.heap.size w w3) := Lib.hid (HB2.out.trans (hb3.mono HB2.out.size))
  have HX3 := Lib.hid (HX2.out.next hb3); have HO3 := Lib.hid (HO2.out.next hb3); have HY3 := Lib.hid (HY2.out.next hb3)
  clear hb3 HX2 HO2 HY2 HB2
  cases hg : goodBd b
  · have HR : Hid (R = none) := Lib.hid (by rw [HRR.out]; exact oth_no (by unfold othB; rw [hg]; simp))
    clear hg HRR
    go_wp2
    go_ret2
    exact ⟨by rw [HR.out]; rfl, HB3.out⟩
  have HGB := Lib.hid hg; clear hg
  have HSC : Hid (scanO b o 201 0 s = R) := Lib.hid (by rw [HRR.out]; exact oth_yes (by unfold othB; rw [HG.out, HGO.out, HGB.out]; rfl))
  clear HRR
  obtain ⟨x0, x1, x2⟩ := HX3.out.cells
  have xl := HX3.out.lt
  go_wp2_with fail
  obtain ⟨g, hgg⟩ : ∃ g, g = w3.heap.size := ⟨_, rfl⟩
  have HGW : Hid (w.heap.size + 2 < g) := Lib.hid (by rw [hgg]; exact HY3.out.lt)
  have hS := MeAt.new w3 32 s
  have hB := HB3.out.alloc HB3.out.size (.cells #[.int .i64 s.lea, .int .i64 s.tin, .int .i64 s.ant] 32)
  have hO := HO3.out.alloc (.cells #[.int .i64 s.lea, .int .i64 s.tin, .int .i64 s.ant] 32)
  have hY := HY3.out.alloc (.cells #[.int .i64 s.lea, .int .i64 s.tin, .int .i64 s.ant] 32)
  rw [← hgg] at hS ⊢
  clear hgg
  have HS4 := Lib.hid hS; have HB4 := Lib.hid hB; have HO4 := Lib.hid hO; have HY4 := Lib.hid hY
  clear hS hB hO hY x0 x1 x2 xl HX3 HO3 HY3 HB3
  go_loopw [9, 10] (fun ok n wr => ∃ (k : Nat) (M : Me) (q : Bool), k ≤ 201 ∧ ok = .bool q ∧ n = .int .i64 k ∧ ((q = true → goodM M = true ∧ scanO b o (201 - k) (k : Int) M = R) ∧ (q = false → R = none)) ∧ MeAt wr g 32 M ∧ MeAt wr (w.heap.size + 1) 32 o ∧ BdAt wr (w.heap.size + 2) 25 b ∧ Below w.heap.size w wr) (fun _ n _ => 201 - (intOf n).toNat)
  case atStart => exact ⟨0, s, true, Nat.zero_le _, rfl, rfl, ⟨fun _ => ⟨HG.out, HSC.out⟩, fun h => by cases h⟩, HS4.out, HO4.out, HY4.out, HB4.out⟩
  case round =>
    obtain ⟨k, M, q, hk, rfl, rfl, hsc, hx, ho, hy, hb⟩ := hrel
    have HSK := Lib.hid hsc; have HX5 := Lib.hid hx; have HO5 := Lib.hid ho; have HY5 := Lib.hid hy; have HB5 := Lib.hid hb
    clear hsc hx ho hy hb HS4 HO4 HY4 HB4 HSC HG
    cases q
    · have HR : Hid (R = none) := Lib.hid (HSK.out.2 rfl)
      clear HSK
      go_wp2
      go_ret2
      exact ⟨by rw [HR.out]; rfl, HB5.out⟩
    have HG := Lib.hid (HSK.out.1 rfl).1
    have HSN := Lib.hid (HSK.out.1 rfl).2
    clear HSK
    by_cases hlt : k ≤ 200
    rotate_left
    · have HR : Hid (R = none) := Lib.hid (scan_done HSN.out hlt)
      have hk1 : ¬ (k : Int) ≤ 200 := by omega
      go_wp2
      go_ret2
      exact ⟨by rw [HR.out]; rfl, HB5.out⟩
    obtain ⟨x0, x1, x2⟩ := HX5.out.cells
    have xl := HX5.out.lt
    obtain ⟨y0, y1, y2, y3⟩ := HY5.out.cells
    have yl := HY5.out.lt
    go_wp2_with fail
    refine (isFitting_any M b _ HG.out HGB.out (HT.out.next HB5.out)).mono ?_
    clear x0 x1 x2 xl y0 y1 y2 y3 yl
    rintro e w6 ⟨rfl, hb6⟩
    have HB6 : Hid (Below w.heap.size w w6) := Lib.hid (HB5.out.trans (hb6.mono HB5.out.size))
    have HX6 := Lib.hid (HX5.out.next hb6); have HO6 := Lib.hid (HO5.out.next hb6); have HY6 := Lib.hid (HY5.out.next hb6)
    clear hb6 HX5 HO5 HY5 HB5
    cases hf : fitR M b
    rotate_left
    · have HR : Hid (R = some (k : Int)) := Lib.hid (scan_stop HSN.out hlt HG.out hf)
      clear hf
      go_wp2
      go_ret2
      exact ⟨by rw [HR.out]; rfl, HB6.out⟩
    have HNX : Hid (scanO b o (201 - (k + 1)) ((k + 1 : Nat) : Int) (joinM M o) = R) := Lib.hid (scan_next HSN.out hlt HG.out hf)
    have HJ := Lib.hid (two_joined HG.out HGO.out)
    clear hf HSN
    obtain ⟨x0, x1, x2⟩ := HX6.out.cells
    have xl := HX6.out.lt
    obtain ⟨o0, o1, o2⟩ := HO6.out.cells
    have ol := HO6.out.lt
    go_wp2_with fail
    have hO : Own (w6.alloc (.cells #[.int .i64 M.lea, .int .i64 M.tin, .int .i64 M.ant, .int .i64 o.lea, .int .i64 o.tin, .int .i64 o.ant] 32)) w6.heap.size 32 (flatMe [M, o]) := heap_new _ _
    have hb7 : Below w6.heap.size w6 (w6.alloc (.cells #[.int .i64 M.lea, .int .i64 M.tin, .int .i64 M.ant, .int .i64 o.lea, .int .i64 o.tin, .int .i64 o.ant] 32)) := (Below.refl _ _).alloc (Nat.le_refl _) _
    have hin := hO.mes
    generalize w6.alloc (.cells #[.int .i64 M.lea, .int .i64 M.tin, .int .i64 M.ant, .int .i64 o.lea, .int .i64 o.tin, .int .i64 o.ant] 32) = w7 at *
    refine (implJoin_any [M, o] _ 2 _ hin (by simp)).mono ?_
    clear x0 x1 x2 xl o0 o1 o2 ol hO hin
    rintro e w8 ⟨rfl, hb8⟩
    have hb := hb7.trans (hb8.mono hb7.size)
    clear hb7 hb8
    have HB8 : Hid (Below w.heap.size w w8) := Lib.hid (HB6.out.trans (hb.mono HB6.out.size))
    have HX8 := Lib.hid (HX6.out.next hb); have HO8 := Lib.hid (HO6.out.next hb); have HY8 := Lib.hid (HY6.out.next hb)
    clear hb HX6 HO6 HY6 HB6
    rw [HJ.out.1]
    obtain ⟨x0, x1, x2⟩ := HX8.out.cells
    have xl := HX8.out.lt
    have xf0 := HX8.out.free 0; have xf1 := HX8.out.free 1; have xf2 := HX8.out.free 2
    cases hgj : goodM (joinM M o)
    · have HR : Hid (R = none) := Lib.hid (by rw [← HNX.out]; exact scan_bad hgj)
      rw [HJ.out.2.2 hgj]
      clear hgj HJ HNX
      have HXN := Lib.hid (MeAt.put3 HX8.out zMe.lea zMe.tin zMe.ant)
      have HON : Hid (MeAt (((w8.setCell ⟨g, 0, none⟩ (.int .i64 zMe.lea)).setCell ⟨g, 1, none⟩ (.int .i64 zMe.tin)).setCell ⟨g, 2, none⟩ (.int .i64 zMe.ant)) (w.heap.size + 1) 32 o) := Lib.hid (put3_far HO8.out (by have := HGW.out; omega) _ _ _)
      have HYN : Hid (BdAt (((w8.setCell ⟨g, 0, none⟩ (.int .i64 zMe.lea)).setCell ⟨g, 1, none⟩ (.int .i64 zMe.tin)).setCell ⟨g, 2, none⟩ (.int .i64 zMe.ant)) (w.heap.size + 2) 25 b) := Lib.hid (put3_far HY8.out (by have := HGW.out; omega) _ _ _)
      have HBN := Lib.hid (put3_below HB8.out (b := g) (by have := HGW.out; omega) (.int .i64 zMe.lea) (.int .i64 zMe.tin) (.int .i64 zMe.ant))
      clear HX8 HO8 HY8 HB8
      go_wp2
      go_roundw
      case rel => exact ⟨k + 1, zMe, false, by omega, rfl, by go_num, ⟨fun h => (by cases h), fun _ => HR.out⟩, HXN.out, HON.out, HYN.out, HBN.out⟩
      case measure => simp [intOf]; omega
    · rw [HJ.out.2.1 hgj]
      have HGJ := Lib.hid hgj
      clear hgj HJ
      have HXN := Lib.hid (MeAt.put3 HX8.out (joinM M o).lea (joinM M o).tin (joinM M o).ant)
      have HON : Hid (MeAt (((w8.setCell ⟨g, 0, none⟩ (.int .i64 (joinM M o).lea)).setCell ⟨g, 1, none⟩ (.int .i64 (joinM M o).tin)).setCell ⟨g, 2, none⟩ (.int .i64 (joinM M o).ant)) (w.heap.size + 1) 32 o) := Lib.hid (put3_far HO8.out (by have := HGW.out; omega) _ _ _)
      have HYN : Hid (BdAt (((w8.setCell ⟨g, 0, none⟩ (.int .i64 (joinM M o).lea)).setCell ⟨g, 1, none⟩ (.int .i64 (joinM M o).tin)).setCell ⟨g, 2, none⟩ (.int .i64 (joinM M o).ant)) (w.heap.size + 2) 25 b) := Lib.hid (put3_far HY8.out (by have := HGW.out; omega) _ _ _)
      have HBN := Lib.hid (put3_below HB8.out (b := g) (by have := HGW.out; omega) (.int .i64 (joinM M o).lea) (.int .i64 (joinM M o).tin) (.int .i64 (joinM M o).ant))
      clear HX8 HO8 HY8 HB8
      go_wp2
      go_roundw
      case rel => exact ⟨k + 1, joinM M o, true, by omega, rfl, by go_num, ⟨fun _ => ⟨HGJ.out, HNX.out⟩, fun h => (by cases h)⟩, HXN.out, HON.out, HYN.out, HBN.out⟩
      case measure => simp [intOf]; omega
end Go.Proofs.YtebbgdihifihnaaDoor

/-
  The contract of LeadToAdd, in spec and in impl (in impl where the table of the blended metals is as the program lays it): it answers what the plain words here say and changes nothing that was there.
-/
import Derived.Test.YtebbgdihifihnaaDoorIsf
import Derived.Test.YtebbgdihifihnaaDoorAdd
namespace Go.Proofs.YtebbgdihifihnaaDoor
open Go.RowKit
set_option linter.unusedVariables false

theorem lack_bound {l e x : Int} (h : lackR l e = some x) (he : 0 ≤ e) : 0 ≤ x ∧ x ≤ 1000000 := by
  unfold lackR at h
  split at h
  · cases h; omega
  · rename_i h1
    split at h
    · cases h
    · rename_i h2
      cases h
      have hp : 0 < e := by omega
      refine ⟨upV_nonneg (by omega) hp, ?_⟩
      have := mt (up_great (l := l) hp).1 h2
      omega
def ledT (m : Me) (b : Bd) : Option Int := lackR (1000 * m.tin - b.hit * grM m) b.hit
def ledA (m : Me) (b : Bd) : Option Int := lackR (1000 * m.ant - b.hia * grM m) b.hia
def bothR : Option Int → Option Int → Option Int
  | some x, some y => some (if y < x then x else y)
  | _, _ => none
theorem both_no1 (y : Option Int) : bothR none y = none := rfl
theorem both_no2 (x : Option Int) : bothR x none = none := by cases x <;> rfl
def ledR (m : Me) (b : Bd) : Option Int := if askM m b then bothR (ledT m b) (ledA m b) else none
theorem led_no {m : Me} {b : Bd} (h : askM m b = false) : ledR m b = none := by unfold ledR; rw [h]; rfl
theorem led_yes {m : Me} {b : Bd} (h : askM m b = true) : ledR m b = bothR (ledT m b) (ledA m b) := by unfold ledR; rw [h]; rfl
set_option maxRecDepth 100000 in
set_option maxHeartbeats 1000000 in
theorem specLead_any (s : Me) (b : Bd) (w : World) :
    Calls Tryd.prog 26 #[.agg #[.int .i64 s.lea, .int .i64 s.tin, .int .i64 s.ant], .agg #[.int .i64 b.lot, .int .i64 b.hit, .int .i64 b.loa, .int .i64 b.hia]] w fun e w' => e = .returned (.tuple #[.int .i64 ((ledR s b).getD 0), .bool (ledR s b).isSome]) ∧ Below w.heap.size w w' := by
  have HX : Hid (MeAt ((w.alloc (.cells #[.int .i64 s.lea, .int .i64 s.tin, .int .i64 s.ant] 32)).alloc (.cells #[.int .i64 b.lot, .int .i64 b.hit, .int .i64 b.loa, .int .i64 b.hia] 25)) w.heap.size 32 s) := Lib.hid ((MeAt.new _ _ _).alloc _)
  have HY : Hid (BdAt ((w.alloc (.cells #[.int .i64 s.lea, .int .i64 s.tin, .int .i64 s.ant] 32)).alloc (.cells #[.int .i64 b.lot, .int .i64 b.hit, .int .i64 b.loa, .int .i64 b.hia] 25)) (w.heap.size + 1) 25 b) := Lib.hid (heap_alloc2_new _ _ _)
  have HA : Hid (Below w.heap.size w ((w.alloc (.cells #[.int .i64 s.lea, .int .i64 s.tin, .int .i64 s.ant] 32)).alloc (.cells #[.int .i64 b.lot, .int .i64 b.hit, .int .i64 b.loa, .int .i64 b.hia] 25))) := Lib.hid (((Below.refl _ _).alloc (Nat.le_refl _) _).alloc (by simp) _)
  go_enter Tryd.func26, Tryd.ntmps26
  go_wp2_with fail
  refine (meAsked_any s b _).mono ?_
  rintro e w1 ⟨rfl, hb1⟩
  have HB1 : Hid (Below w.heap.size w w1) := Lib.hid (HA.out.trans (hb1.mono HA.out.size))
  have HX1 := Lib.hid (HX.out.next hb1); have HY1 := Lib.hid (HY.out.next hb1)
  clear hb1 HX HY HA
  cases hg : askM s b
  · have HV := Lib.hid (led_no hg); clear hg
    go_wp2
    go_ret2
    exact ⟨by rw [HV.out]; rfl, HB1.out⟩
  have HV := Lib.hid (led_yes hg)
  have hp := askM_parts hg
  have HG := Lib.hid (hasM_parts hp.1).1
  have HSM := Lib.hid (small_of HG.out)
  obtain ⟨⟨a0, a1⟩, ⟨a2, a3⟩, ⟨a4, a5⟩⟩ := goodM_bounds HG.out
  obtain ⟨⟨b0, b1⟩, ⟨b2, b3⟩, ⟨b4, b5⟩, ⟨b6, b7⟩⟩ := goodBd_bounds hp.2
  obtain ⟨hgl, hgl1⟩ := grM_le HG.out
  clear hg hp
  obtain ⟨x0, x1, x2⟩ := HX1.out.kept (B := w1.heap.size) HX1.out.lt
  obtain ⟨y0, y1, y2, y3⟩ := HY1.out.kept (B := w1.heap.size) HY1.out.lt
  go_wp2_with fail
  refine region_kept w1.heap.size (by kernel_rfl) (by kernel_rfl) ?_
  repeat (go_big_quiet_step (fail))
  go_big_quiet_step ((go_at_call 47; exact kept_call _ (Nat.le_refl _) (meGrams_any s _ HSM.out)))
  repeat (go_big_quiet_step (fail))
  go_big_quiet_step ((go_at_call 53; exact kept_same _ (meThin_any s.tin (grM s) b.hit _ (by omega) (by omega) hgl hgl1 (by omega) (by omega))))
  repeat (go_big_quiet_step (fail))
  refine wpQuiet_nil ?_
  intro w2 hb2
  have HB2 : Hid (Below w.heap.size w w2) := Lib.hid (HB1.out.trans (hb2.mono HB1.out.size))
  have HX2 := Lib.hid (HX1.out.next hb2); have HY2 := Lib.hid (HY1.out.next hb2)
  clear hb2 HX1 HY1 HB1 x0 x1 x2 y0 y1 y2 y3
  have HT : Hid (ledT s b = lackR (1000 * s.tin - b.hit * grM s) b.hit) := Lib.hid rfl
  generalize lackR (1000 * s.tin - b.hit * grM s) b.hit = r1 at *
  obtain ⟨x0, x1, x2⟩ := HX2.out.kept (B := w2.heap.size) HX2.out.lt
  obtain ⟨y0, y1, y2, y3⟩ := HY2.out.kept (B := w2.heap.size) HY2.out.lt
  go_wp2_with fail
  refine region_kept w2.heap.size (by kernel_rfl) (by kernel_rfl) ?_
  repeat (go_big_quiet_step (fail))
  go_big_quiet_step ((go_at_call 47; exact kept_call _ (Nat.le_refl _) (meGrams_any s _ HSM.out)))
  repeat (go_big_quiet_step (fail))
  go_big_quiet_step ((go_at_call 53; exact kept_same _ (meThin_any s.ant (grM s) b.hia _ (by omega) (by omega) hgl hgl1 (by omega) (by omega))))
  repeat (go_big_quiet_step (fail))
  refine wpQuiet_nil ?_
  intro w3 hb2
  have HB3 : Hid (Below w.heap.size w w3) := Lib.hid (HB2.out.trans (hb2.mono HB2.out.size))
  have HX3 := Lib.hid (HX2.out.next hb2); have HY3 := Lib.hid (HY2.out.next hb2)
  clear hb2 HX2 HY2 HB2 x0 x1 x2 y0 y1 y2 y3
  have HAA : Hid (ledA s b = lackR (1000 * s.ant - b.hia * grM s) b.hia) := Lib.hid rfl
  generalize lackR (1000 * s.ant - b.hia * grM s) b.hia = r2 at *
  cases r1 with
  | none =>
    have HR : Hid (ledR s b = none) := Lib.hid (by rw [HV.out, HT.out]; exact both_no1 _)
    simp only [Option.getD_none, Option.isSome_none]
    go_wp2
    go_ret2
    exact ⟨by rw [HR.out]; rfl, HB3.out⟩
  | some x =>
    cases r2 with
    | none =>
      have HR : Hid (ledR s b = none) := Lib.hid (by rw [HV.out, HAA.out]; exact both_no2 _)
      simp only [Option.getD_none, Option.isSome_none, Option.getD_some, Option.isSome_some]
      go_wp2
      go_ret2
      exact ⟨by rw [HR.out]; rfl, HB3.out⟩
    | some y =>
      have HR : Hid (ledR s b = some (if y < x then x else y)) := Lib.hid (by rw [HV.out, HT.out, HAA.out]; rfl)
      simp only [Option.getD_some, Option.isSome_some]
      go_wp2_with fail
      refine (l1Most_any _ _ _).mono ?_
      rintro e w' ⟨rfl, rfl⟩
      generalize (if y < x then x else y) = z at *
      go_wp2
      go_ret2
      exact ⟨by rw [HR.out]; rfl, HB3.out⟩

/-- What is to be added after k rounds. -/
def LedK (s : Me) (b : Bd) (k : Nat) (acc : Int) : Prop :=
  (0 ≤ acc ∧ acc ≤ 1000000) ∧ (k = 0 → acc = 0) ∧ (k = 1 → ledT s b = some acc) ∧ (k = 2 → bothR (ledT s b) (ledA s b) = some acc)
set_option maxRecDepth 100000 in
set_option maxHeartbeats 1000000 in
theorem implLead_any (s : Me) (b : Bd) (w : World) (ht : TabM w) :
    Calls Tryd.prog 27 #[.agg #[.int .i64 s.lea, .int .i64 s.tin, .int .i64 s.ant], .agg #[.int .i64 b.lot, .int .i64 b.hit, .int .i64 b.loa, .int .i64 b.hia]] w fun e w' => e = .returned (.tuple #[.int .i64 ((ledR s b).getD 0), .bool (ledR s b).isSome]) ∧ Below w.heap.size w w' := by
  have HT := Lib.hid ht; clear ht
  have HX : Hid (MeAt ((w.alloc (.cells #[.int .i64 s.lea, .int .i64 s.tin, .int .i64 s.ant] 32)).alloc (.cells #[.int .i64 b.lot, .int .i64 b.hit, .int .i64 b.loa, .int .i64 b.hia] 25)) w.heap.size 32 s) := Lib.hid ((MeAt.new _ _ _).alloc _)
  have HY : Hid (BdAt ((w.alloc (.cells #[.int .i64 s.lea, .int .i64 s.tin, .int .i64 s.ant] 32)).alloc (.cells #[.int .i64 b.lot, .int .i64 b.hit, .int .i64 b.loa, .int .i64 b.hia] 25)) (w.heap.size + 1) 25 b) := Lib.hid (heap_alloc2_new _ _ _)
  have HA : Hid (Below w.heap.size w ((w.alloc (.cells #[.int .i64 s.lea, .int .i64 s.tin, .int .i64 s.ant] 32)).alloc (.cells #[.int .i64 b.lot, .int .i64 b.hit, .int .i64 b.loa, .int .i64 b.hia] 25))) := Lib.hid (((Below.refl _ _).alloc (Nat.le_refl _) _).alloc (by simp) _)
  go_enter Tryd.func27, Tryd.ntmps27
  go_wp2_with fail
  refine (gramsOfMetal_any s _).mono ?_
  rintro e w1 ⟨rfl, hb1⟩
  have HB1 : Hid (Below w.heap.size w w1) := Lib.hid (HA.out.trans (hb1.mono HA.out.size))
  have HX1 := Lib.hid (HX.out.next hb1); have HY1 := Lib.hid (HY.out.next hb1)
  clear hb1 HX HY HA
  cases hm : hasM s
  · have HV := Lib.hid (led_no (m := s) (b := b) (by unfold askM; rw [hm]; rfl)); clear hm
    generalize gramsV s = z at *
    go_wp2
    go_ret2
    exact ⟨by rw [HV.out]; rfl, HB1.out⟩
  have HG := Lib.hid (hasM_parts hm).1
  have HGV := Lib.hid (gramsV_yes HG.out)
  rw [HGV.out]
  have HM := Lib.hid hm; clear hm
  obtain ⟨y0, y1, y2, y3⟩ := HY1.out.cells
  have hl := HY1.out.lt
  go_wp2_with fail
  refine (implIsBlend_any b _ (HT.out.next HB1.out)).mono ?_
  rintro e w2 ⟨rfl, hb2⟩
  have HB2 : Hid (Below w.heap.size w w2) := Lib.hid (HB1.out.trans (hb2.mono HB1.out.size))
  have HX2 := Lib.hid (HX1.out.next hb2); have HY2 := Lib.hid (HY1.out.next hb2)
  clear hb2 HX1 HY1 HB1 y0 y1 y2 y3 hl
  cases hb : goodBd b
  · have HV := Lib.hid (led_no (m := s) (b := b) (by unfold askM; rw [hb]; simp)); clear hb
    go_wp2
    go_ret2
    exact ⟨by rw [HV.out]; rfl, HB2.out⟩
  have HV := Lib.hid (led_yes (m := s) (b := b) (by unfold askM; rw [HM.out, hb]; rfl))
  have HBG := Lib.hid hb; clear hb
  go_wp2_with fail
  go_cut [8, 9] (fun s5 s6 wx => ∃ g h : Nat, s5 = .pointer (some ⟨g, 0, none⟩) ∧ s6 = .pointer (some ⟨h, 0, none⟩) ∧ TwoAt wx g h s b ∧ Below w.heap.size w wx)
  case first =>
    refine' region_new 4 [.cells #[.int .i64 0, .int .i64 0, .int .i64 0] 66, .cells #[.int .i64 0, .int .i64 0, .int .i64 0, .int .i64 0, .int .i64 0, .int .i64 0] 56] (by kernel_rfl) (by kernel_rfl) (by kernel_rfl) ?hq ?ht
    case hq =>
      intro x
      obtain ⟨x0, x1, x2⟩ := (HX2.out.below x.below HX2.out.lt).kept (B := x.at_.heap.size) (Nat.lt_of_lt_of_le HX2.out.lt x.below.size)
      obtain ⟨y0, y1, y2, y3⟩ := (HY2.out.below x.below HY2.out.lt).kept (B := x.at_.heap.size) (Nat.lt_of_lt_of_le HY2.out.lt x.below.size)
      unfold After
      simp only [List.take_succ_cons, List.take_zero]
      repeat (go_big_quiet_step (fail))
      go_big_quiet_step ((go_at_call 49; exact kept_call _ (Nat.le_refl _) (gramsBy_any s _)))
      repeat (go_big_quiet_step (fail))
      go_big_quiet_step ((go_at_call 40; exact kept_call _ (Nat.le_refl _) (boundsOf_any b _)))
      refine wpQuiet_nil ?_
      rfl
    case ht =>
      simp only [List.drop_succ_cons, List.drop_zero, List.take_succ_cons, List.take_zero, List.length_cons, List.length_nil]
      refine walkP_make rfl ?_ (fun p hp => walkP_make rfl ?_ (fun q hq => ?_))
      · exact fun a => ⟨rfl, fun w => by first | rfl | simp [execOp, go_sem] | kernel_rfl⟩
      · exact fun a => ⟨rfl, fun w => by first | rfl | simp [execOp, go_sem] | kernel_rfl⟩
      intro x hx
      have hne : p ≠ q := fun e => by subst e; simp [upd] at hq
      have hp1 : x.heap[p]? = some (.cells #[.int .i64 0, .int .i64 0, .int .i64 0] 66) := (hx.2 p _ (by simp [upd, hne])).2
      have hq1 : x.heap[q]? = some (.cells #[.int .i64 0, .int .i64 0, .int .i64 0, .int .i64 0, .int .i64 0, .int .i64 0] 56) := (hx.2 q _ (by simp [upd])).2
      have hpg : w2.heap.size ≤ p := (hx.2 p (.cells #[.int .i64 0, .int .i64 0, .int .i64 0] 66) (by simp [upd, hne])).1
      have hqg : w2.heap.size ≤ q := (hx.2 q (.cells #[.int .i64 0, .int .i64 0, .int .i64 0, .int .i64 0, .int .i64 0, .int .i64 0] 56) (by simp [upd])).1
      have HP1 := Lib.hid hp1; have HQ1 := Lib.hid hq1
      have HBx : Hid (Below w.heap.size w x) := Lib.hid (HB2.out.trans (hx.1.mono HB2.out.size))
      have hws : w.heap.size ≤ w2.heap.size := HB2.out.size
      have c0 := cell_of_heap hp1 0; have c1 := cell_of_heap hp1 1; have c2 := cell_of_heap hp1 2
      have d0 := cell_of_heap hq1 0; have d1 := cell_of_heap hq1 1; have d2 := cell_of_heap hq1 2; have d3 := cell_of_heap hq1 3; have d4 := cell_of_heap hq1 4; have d5 := cell_of_heap hq1 5
      simp at c0 c1 c2 d0 d1 d2 d3 d4 d5
      have f0 := free_of_heap hp1 0; have f1 := free_of_heap hp1 1; have f2 := free_of_heap hp1 2
      have e0 := free_of_heap hq1 0; have e1 := free_of_heap hq1 1; have e2 := free_of_heap hq1 2; have e3 := free_of_heap hq1 3; have e4 := free_of_heap hq1 4; have e5 := free_of_heap hq1 5
      have hne2 : ¬ q = p := fun e => hne e.symm
      clear hp1 hq1 hx hp hq
      go_wp2_with fail
      go_meet
      exact ⟨p, q, rfl, rfl, two_stored HP1.out HQ1.out hne, by repeat (first | (with_reducible exact HBx.out) | (refine Below.setCell ?_ (by show _ ≤ _; first | (simp; omega) | omega) _))⟩
  case rest =>
  obtain ⟨g, h, rfl, rfl, htw, hbb⟩ := hcut
  obtain ⟨w3, hw3⟩ : ∃ u, u = wc := ⟨_, rfl⟩
  subst hw3
  have HTW := Lib.hid htw; have HB3 := Lib.hid hbb
  clear htw hbb HX2 HY2 HB2
  have HT3 : Hid (TabM w3) := Lib.hid (HT.out.next HB3.out)
  obtain ⟨t0, t1⟩ := HT3.out.cells
  have htl := HT3.out.lt
  obtain ⟨⟨a0, a1⟩, ⟨a2, a3⟩, ⟨a4, a5⟩⟩ := goodM_bounds HG.out
  obtain ⟨⟨b0, b1⟩, ⟨b2, b3⟩, ⟨b4, b5⟩, ⟨b6, b7⟩⟩ := goodBd_bounds HBG.out
  obtain ⟨hgl, hgl1⟩ := grM_le HG.out
  obtain ⟨m2, m3⟩ := mul_in (a := b.hit) (b := grM s) (by omega) ⟨hgl, hgl1⟩
  obtain ⟨m6, m7⟩ := mul_in (a := b.hia) (b := grM s) (by omega) ⟨hgl, hgl1⟩
  have HLT : Hid (ledT s b = lackR (1000 * s.tin - b.hit * grM s) b.hit) := Lib.hid rfl
  have HLA : Hid (ledA s b = lackR (1000 * s.ant - b.hia * grM s) b.hia) := Lib.hid rfl
  have b8 : 0 ≤ b.hit := by omega
  have b9 : 0 ≤ b.hia := by omega
  clear b0 b1 b2 b4 b5 b6
  generalize grM s = G at *
  go_wp2
  clear t0 t1
  go_loopw [10, 33] (fun q i wr => ∃ (k : Nat) (acc : Int), k ≤ 2 ∧ i = .int .i64 k ∧ q = .int .i64 acc ∧ LedK s b k acc ∧ TwoAt wr g h s b ∧ Below w.heap.size w wr) (fun _ i _ => 2 - (intOf i).toNat)
  case atStart => exact ⟨0, 0, Nat.zero_le _, rfl, rfl, ⟨by omega, fun _ => rfl, fun h => by omega, fun h => by omega⟩, HTW.out, HB3.out⟩
  case round =>
    obtain ⟨k, acc, hk, rfl, rfl, hac, htw, hb⟩ := hrel
    have HAC := Lib.hid hac; have HTWr := Lib.hid htw; have HBr := Lib.hid hb
    obtain ⟨ac0, ac1⟩ := hac.1
    clear hac htw hb HTW HB3 HT3
    obtain ⟨⟨hg0, hh0⟩, ⟨x0, x1, x2⟩, y2, y3, y4, y5⟩ := HTWr.out
    rcases (by omega : k = 0 ∨ k = 1 ∨ k = 2) with rfl | rfl | rfl
    · have hix := run_indexB0
      clear x0 x2 y2 y4 y5
      obtain rfl : acc = 0 := HAC.out.2.1 rfl
      go_wp2_with fail
      refine (leastToAdd_any (1000 * s.tin - b.hit * G) b.hit _ (by omega) (by omega) b8 b3).mono ?_
      rintro e w' ⟨rfl, rfl⟩
      cases hr : lackR (1000 * s.tin - b.hit * G) b.hit with
      | none =>
        have HR : Hid (ledR s b = none) := Lib.hid (by rw [HV.out, HLT.out, hr]; exact both_no1 _)
        clear hr
        simp only [Option.getD_none, Option.isSome_none]
        go_wp2
        go_ret2
        exact ⟨by rw [HR.out]; rfl, HBr.out⟩
      | some x =>
        obtain ⟨q0, q1⟩ := lack_bound hr b8
        have HT1 : Hid (ledT s b = some x) := Lib.hid (by rw [HLT.out, hr])
        clear hr
        simp only [Option.getD_some, Option.isSome_some]
        have hmx : max 0 x = x := by omega
        go_wp2
        go_roundw
        case rel => exact ⟨1, x, by omega, by go_num, by first | rfl | (rw [hmx]), ⟨by omega, fun h => by omega, fun _ => HT1.out, fun h => by omega⟩, HTWr.out, HBr.out⟩
        case measure => simp [intOf]
    · have hix := run_indexB1
      clear x0 x1 y2 y3 y4
      have HT1 := Lib.hid (HAC.out.2.2.1 rfl)
      go_wp2_with fail
      refine (leastToAdd_any (1000 * s.ant - b.hia * G) b.hia _ (by omega) (by omega) b9 b7).mono ?_
      rintro e w' ⟨rfl, rfl⟩
      cases hr : lackR (1000 * s.ant - b.hia * G) b.hia with
      | none =>
        have HR : Hid (ledR s b = none) := Lib.hid (by rw [HV.out, HLA.out, hr]; exact both_no2 _)
        clear hr
        simp only [Option.getD_none, Option.isSome_none]
        go_wp2
        go_ret2
        exact ⟨by rw [HR.out]; rfl, HBr.out⟩
      | some y =>
        obtain ⟨q0, q1⟩ := lack_bound hr b9
        have HT2 : Hid (bothR (ledT s b) (ledA s b) = some (max acc y)) := Lib.hid (by rw [HLA.out, hr, HT1.out]; show some (if y < acc then acc else y) = _; congr 1; split <;> omega)
        clear hr
        simp only [Option.getD_some, Option.isSome_some]
        go_wp2
        go_roundw
        case rel => exact ⟨2, max acc y, by omega, by go_num, rfl, ⟨by omega, fun h => by omega, fun h => by omega, fun _ => HT2.out⟩, HTWr.out, HBr.out⟩
        case measure => simp [intOf]
    · have HR : Hid (ledR s b = some acc) := Lib.hid (by rw [HV.out, HAC.out.2.2.2 rfl])
      clear x0 x1 x2 y2 y3 y4 y5
      go_wp2
      go_ret2
      exact ⟨by rw [HR.out]; rfl, HBr.out⟩
end Go.Proofs.YtebbgdihifihnaaDoor

/-
  The contract of impl.TakeMelt where the table of the blended metals is as the program lays it: it answers what the plain words of spec.TakeMelt's contract say and changes nothing that was there.
-/
import Derived.Test.YtebbgdihifihnaaDoorTak
namespace Go.Proofs.YtebbgdihifihnaaDoor
open Go.RowKit
set_option linter.unusedVariables false

theorem two_putM {W : World} {p q : Nat} {t : TypeId} {m n : Me} (hp : MeAt W p t m) (hq : MeAt W q t n) (hne : p ≠ q) (M N : Me) :
    MeAt ((((((W.setCell ⟨p, 0, none⟩ (.int .i64 M.lea)).setCell ⟨p, 1, none⟩ (.int .i64 M.tin)).setCell ⟨p, 2, none⟩ (.int .i64 M.ant)).setCell ⟨q, 0, none⟩ (.int .i64 N.lea)).setCell ⟨q, 1, none⟩ (.int .i64 N.tin)).setCell ⟨q, 2, none⟩ (.int .i64 N.ant)) p t M ∧
    MeAt ((((((W.setCell ⟨p, 0, none⟩ (.int .i64 M.lea)).setCell ⟨p, 1, none⟩ (.int .i64 M.tin)).setCell ⟨p, 2, none⟩ (.int .i64 M.ant)).setCell ⟨q, 0, none⟩ (.int .i64 N.lea)).setCell ⟨q, 1, none⟩ (.int .i64 N.tin)).setCell ⟨q, 2, none⟩ (.int .i64 N.ant)) q t N :=
  ⟨put3_far (MeAt.put3 hp M.lea M.tin M.ant) hne (.int .i64 N.lea) (.int .i64 N.tin) (.int .i64 N.ant), MeAt.put3 (put3_far hq hne.symm (.int .i64 M.lea) (.int .i64 M.tin) (.int .i64 M.ant)) N.lea N.tin N.ant⟩
def takK (g t1 t2 : Int) (k : Nat) : Me := if k = 0 then ⟨g, 0, 0⟩ else if k = 1 then ⟨g - t1, t1, 0⟩ else ⟨g - t1 - t2, t1, t2⟩
def lsK (s T : Me) (k : Nat) : Me := ⟨if 0 < k then s.lea - T.lea else s.lea, if 1 < k then s.tin - T.tin else s.tin, if 2 < k then s.ant - T.ant else s.ant⟩
theorem lsK_all (s T : Me) : lsK s T 3 = lessM s T := rfl
set_option maxRecDepth 100000 in
set_option maxHeartbeats 4000000 in
theorem implTake_any (s : Me) (g : Int) (w : World) (ht : TabM w) :
    Calls Tryd.prog 20 #[.agg #[.int .i64 s.lea, .int .i64 s.tin, .int .i64 s.ant], .int .i64 g] w fun e w' => e = .returned (.tuple #[.agg #[.int .i64 (takV s g).lea, .int .i64 (takV s g).tin, .int .i64 (takV s g).ant], .agg #[.int .i64 (takW s g).lea, .int .i64 (takW s g).tin, .int .i64 (takW s g).ant], .bool (takB s g)]) ∧ Below w.heap.size w w' := by
  have HT := Lib.hid ht; clear ht
  have HX : Hid (MeAt (((w.alloc (.cells #[.int .i64 s.lea, .int .i64 s.tin, .int .i64 s.ant] 32)).alloc (.cells #[.int .i64 0, .int .i64 0, .int .i64 0] 32)).alloc (.cells #[.int .i64 0, .int .i64 0, .int .i64 0] 32)) w.heap.size 32 s) := Lib.hid (((MeAt.new w _ s).alloc _).alloc _)
  have HP : Hid (MeAt (((w.alloc (.cells #[.int .i64 s.lea, .int .i64 s.tin, .int .i64 s.ant] 32)).alloc (.cells #[.int .i64 0, .int .i64 0, .int .i64 0] 32)).alloc (.cells #[.int .i64 0, .int .i64 0, .int .i64 0] 32)) (w.heap.size + 1) 32 zMe) := Lib.hid (MeAt.alloc (s := zMe) (show MeAt _ _ _ zMe from heap_alloc2_new _ _ _) _)
  have HQ : Hid (MeAt (((w.alloc (.cells #[.int .i64 s.lea, .int .i64 s.tin, .int .i64 s.ant] 32)).alloc (.cells #[.int .i64 0, .int .i64 0, .int .i64 0] 32)).alloc (.cells #[.int .i64 0, .int .i64 0, .int .i64 0] 32)) (w.heap.size + 2) 32 zMe) := Lib.hid (heap_alloc3_new _ _ _ _)
  have HA : Hid (Below w.heap.size w (((w.alloc (.cells #[.int .i64 s.lea, .int .i64 s.tin, .int .i64 s.ant] 32)).alloc (.cells #[.int .i64 0, .int .i64 0, .int .i64 0] 32)).alloc (.cells #[.int .i64 0, .int .i64 0, .int .i64 0] 32))) := Lib.hid ((((Below.refl _ _).alloc (Nat.le_refl _) _).alloc (by simp) _).alloc (by simp; omega) _)
  go_enter Tryd.func20, Tryd.ntmps20
  go_wp2_with fail
  refine (implGrams_any s _).mono ?_
  rintro e w1 ⟨rfl, hb1⟩
  have HB1 : Hid (Below w.heap.size w w1) := Lib.hid (HA.out.trans (hb1.mono HA.out.size))
  have HX1 := Lib.hid (HX.out.next hb1); have HP1 := Lib.hid (HP.out.next hb1); have HQ1 := Lib.hid (HQ.out.next hb1)
  clear hb1 HX HP HQ HA
  cases hg : goodM s
  · have HV := Lib.hid (tak_no (m := s) (g := g) (by unfold takB; rw [hg]; rfl))
    clear hg
    obtain ⟨p0, p1, p2⟩ := HP1.out.cells
    obtain ⟨q0, q1, q2⟩ := HQ1.out.cells
    have pf0 := HP1.out.free 0; have pf1 := HP1.out.free 1; have pf2 := HP1.out.free 2
    have qf0 := HQ1.out.free 0; have qf1 := HQ1.out.free 1; have qf2 := HQ1.out.free 2
    have pl := HP1.out.lt; have ql := HQ1.out.lt
    generalize gramsV s = z at *
    simp only [zMe] at p0 p1 p2 q0 q1 q2
    go_wp2
    refine bodyPost_ret (v := .tuple #[.agg #[.int .i64 zMe.lea, .int .i64 zMe.tin, .int .i64 zMe.ant], .agg #[.int .i64 zMe.lea, .int .i64 zMe.tin, .int .i64 zMe.ant], .bool false]) (by simp [results, Tryd.results20, go_sem, p0, p1, p2, q0, q1, q2, pf0, pf1, pf2, qf0, qf1, qf2, zMe]) rfl ⟨ret_mmb (a := zMe) (b := zMe) HV.out.1.symm HV.out.2.1.symm HV.out.2.2.symm, by repeat (first | (with_reducible exact HB1.out) | (refine Below.setCell ?_ (by first | (simp; done) | (simp; omega)) _) | (refine Below.drew ?_))⟩
  have HG := Lib.hid hg
  rw [gramsV_yes hg]
  clear hg
  rcases (by omega : g < 0 ∨ (0 ≤ g ∧ grM s < g) ∨ (0 ≤ g ∧ g ≤ grM s)) with h1 | ⟨h1, h2⟩ | ⟨g0, g1⟩
  · have HV := Lib.hid (tak_no (m := s) (g := g) (by unfold takB inB; simp; omega))
    obtain ⟨p0, p1, p2⟩ := HP1.out.cells
    obtain ⟨q0, q1, q2⟩ := HQ1.out.cells
    have pf0 := HP1.out.free 0; have pf1 := HP1.out.free 1; have pf2 := HP1.out.free 2
    have qf0 := HQ1.out.free 0; have qf1 := HQ1.out.free 1; have qf2 := HQ1.out.free 2
    have pl := HP1.out.lt; have ql := HQ1.out.lt
    generalize grM s = z at *
    simp only [zMe] at p0 p1 p2 q0 q1 q2
    go_wp2
    refine bodyPost_ret (v := .tuple #[.agg #[.int .i64 zMe.lea, .int .i64 zMe.tin, .int .i64 zMe.ant], .agg #[.int .i64 zMe.lea, .int .i64 zMe.tin, .int .i64 zMe.ant], .bool false]) (by simp [results, Tryd.results20, go_sem, p0, p1, p2, q0, q1, q2, pf0, pf1, pf2, qf0, qf1, qf2, zMe]) rfl ⟨ret_mmb (a := zMe) (b := zMe) HV.out.1.symm HV.out.2.1.symm HV.out.2.2.symm, by repeat (first | (with_reducible exact HB1.out) | (refine Below.setCell ?_ (by first | (simp; done) | (simp; omega)) _) | (refine Below.drew ?_))⟩
  · have HV := Lib.hid (tak_no (m := s) (g := g) (by unfold takB inB; simp; omega))
    obtain ⟨p0, p1, p2⟩ := HP1.out.cells
    obtain ⟨q0, q1, q2⟩ := HQ1.out.cells
    have pf0 := HP1.out.free 0; have pf1 := HP1.out.free 1; have pf2 := HP1.out.free 2
    have qf0 := HQ1.out.free 0; have qf1 := HQ1.out.free 1; have qf2 := HQ1.out.free 2
    have pl := HP1.out.lt; have ql := HQ1.out.lt
    generalize grM s = z at *
    simp only [zMe] at p0 p1 p2 q0 q1 q2
    go_wp2
    refine bodyPost_ret (v := .tuple #[.agg #[.int .i64 zMe.lea, .int .i64 zMe.tin, .int .i64 zMe.ant], .agg #[.int .i64 zMe.lea, .int .i64 zMe.tin, .int .i64 zMe.ant], .bool false]) (by simp [results, Tryd.results20, go_sem, p0, p1, p2, q0, q1, q2, pf0, pf1, pf2, qf0, qf1, qf2, zMe]) rfl ⟨ret_mmb (a := zMe) (b := zMe) HV.out.1.symm HV.out.2.1.symm HV.out.2.2.symm, by repeat (first | (with_reducible exact HB1.out) | (refine Below.setCell ?_ (by first | (simp; done) | (simp; omega)) _) | (refine Below.drew ?_))⟩
  have HI : Hid (inB 0 (grM s) g = true) := Lib.hid (by simp [inB, g0, g1])
  obtain ⟨b0, b1, b2⟩ := goodM_bounds HG.out
  obtain ⟨hgl, hgl1⟩ := grM_le HG.out
  obtain ⟨⟨c1, d1⟩, e1, f1⟩ := shr_bound (z := s.tin) b1 g0 g1 hgl1
  obtain ⟨⟨c2, d2⟩, e2, f2⟩ := shr_bound (z := s.ant) b2 g0 g1 hgl1
  have HS1 := Lib.hid (shr_max (z := s.tin) g0 g1)
  have HS2 := Lib.hid (shr_max (z := s.ant) g0 g1)
  have HTB : Hid (takB s g = decide ((takM s g).lea ≤ s.lea)) := Lib.hid (by unfold takB; rw [HG.out, HI.out]; simp)
  have HTM : Hid (takM s g = ⟨g - shrT s.tin g (grM s) - shrT s.ant g (grM s), shrT s.tin g (grM s), shrT s.ant g (grM s)⟩) := Lib.hid rfl
  obtain ⟨D, hD⟩ : ∃ D, D = max (grM s) 1 := ⟨_, rfl⟩
  have hD1 : 1 ≤ D := by omega
  have hD2 : D ≤ 3000000 := by omega
  rw [← hD] at HS1 HS2
  have HD := Lib.hid hD.symm; clear hD
  generalize hT1 : shrT s.tin g (grM s) = t1 at *
  generalize hT2 : shrT s.ant g (grM s) = t2 at *
  clear hT1 hT2 HI
  generalize grM s = G at *
  obtain ⟨x0, x1, x2⟩ := HX1.out.cells
  have xl := HX1.out.lt
  go_wp2_with fail
  refine (gramsBy_any s _).mono ?_
  clear x0 x1 x2 xl
  rintro e w2 ⟨rfl, hb2⟩
  have HB2 : Hid (Below w.heap.size w w2) := Lib.hid (HB1.out.trans (hb2.mono HB1.out.size))
  have HX2 := Lib.hid (HX1.out.next hb2); have HP2 := Lib.hid (HP1.out.next hb2); have HQ2 := Lib.hid (HQ1.out.next hb2)
  clear hb2 HX1 HP1 HQ1 HB1
  have HTt : Hid (TabM ((w2.alloc (.cells #[.int .i64 s.lea, .int .i64 s.tin, .int .i64 s.ant] 66)).alloc (.cells #[.int .i64 g, .int .i64 0, .int .i64 0] 66))) := Lib.hid (HT.out.next ((HB2.out.alloc HB2.out.size _).alloc (by have := HB2.out.size; simp; omega) _))
  obtain ⟨tt0, tt1⟩ := HTt.out.cells
  have ttl := HTt.out.lt
  obtain ⟨r, hr⟩ : ∃ r, r = w2.heap.size := ⟨_, rfl⟩
  obtain ⟨t, htt⟩ : ∃ t, t = w2.heap.size + 1 := ⟨_, rfl⟩
  obtain ⟨w3, hw3⟩ : ∃ u : World, u = (w2.alloc (.cells #[.int .i64 s.lea, .int .i64 s.tin, .int .i64 s.ant] 66)).alloc (.cells #[.int .i64 g, .int .i64 0, .int .i64 0] 66) := ⟨_, rfl⟩
  have hb3 : Below w2.heap.size w2 w3 := by rw [hw3]; exact ((Below.refl _ _).alloc (Nat.le_refl _) _).alloc (by simp) _
  have HR3 : Hid (MeAt w3 r 66 s) := Lib.hid (by rw [hw3, hr]; exact (MeAt.new _ _ _).alloc _)
  have HT3 : Hid (MeAt w3 t 66 (takK g t1 t2 0)) := Lib.hid (by rw [hw3, htt]; exact (show MeAt _ _ _ ⟨g, 0, 0⟩ from heap_alloc2_new _ _ _))
  have HB3 : Hid (Below w.heap.size w w3) := Lib.hid (HB2.out.trans (hb3.mono HB2.out.size))
  have HX3 := Lib.hid (HX2.out.next hb3); have HP3 := Lib.hid (HP2.out.next hb3); have HQ3 := Lib.hid (HQ2.out.next hb3)
  have hrl : w.heap.size + 2 < r := by rw [hr]; exact HQ2.out.lt
  have htr : t = r + 1 := by omega
  have hrt : r ≠ t := by omega
  have hpt : w.heap.size + 1 ≠ t := by omega
  have hqt : w.heap.size + 2 ≠ t := by omega
  have hpr : w.heap.size + 1 ≠ r := by omega
  have hqr : w.heap.size + 2 ≠ r := by omega
  have htl : w.heap.size + 2 < t := by omega
  clear htr
  have hmx := HD.out
  have hD0 : D ≠ 0 := by omega
  have hq1 : s.tin * g / D = t1 := HS1.out.symm
  have hq2 : s.ant * g / D = t2 := HS2.out.symm
  have HHR := Lib.hid hr; have HTT := Lib.hid htt; have HW3 := Lib.hid hw3
  clear hr htt hw3 hb3 HS1 HS2 HX2 HP2 HQ2 HB2 HX3 HTt
  go_wp2_with fail
  rw [← HW3.out, ← HTT.out, ← HHR.out]
  clear HW3 HTT HHR tt0 tt1 ttl
  go_loopw [38] (fun i wr => ∃ k : Nat, k ≤ 2 ∧ i = .int .i64 k ∧ MeAt wr t 66 (takK g t1 t2 k) ∧ MeAt wr r 66 s ∧ MeAt wr (w.heap.size + 1) 32 zMe ∧ MeAt wr (w.heap.size + 2) 32 zMe ∧ Below w.heap.size w wr) (fun i _ => 2 - (intOf i).toNat)
  case atStart => exact ⟨0, Nat.zero_le _, rfl, HT3.out, HR3.out, HP3.out, HQ3.out, HB3.out⟩
  case round =>
    obtain ⟨k, hk, rfl, ht', hr', hp', hq', hb'⟩ := hrel
    have HRr := Lib.hid hr'; have HPr := Lib.hid hp'; have HQr := Lib.hid hq'; have HBr := Lib.hid hb'
    have HTk := Lib.hid ht'
    clear ht' hr' hp' hq' hb' HT3 HR3 HP3 HQ3 HB3
    rcases (by omega : k = 0 ∨ k = 1 ∨ k = 2) with rfl | rfl | rfl
    · have hix := run_indexB0
      have HTr : Hid (MeAt wr t 66 ⟨g, 0, 0⟩) := Lib.hid (by simpa [takK] using HTk.out)
      clear HTk
      obtain ⟨w7, hw7⟩ : ∃ u : World, u = wr.setCell ⟨t, 1, none⟩ (.int .i64 t1) := ⟨_, rfl⟩
      have HT7 : Hid (MeAt w7 t 66 ⟨g, t1, 0⟩) := Lib.hid (by rw [hw7]; exact MeAt.put1 HTr.out _)
      have HR7 : Hid (MeAt w7 r 66 s) := Lib.hid (by rw [hw7]; exact put_far HRr.out hrt _)
      have HP7 : Hid (MeAt w7 (w.heap.size + 1) 32 zMe) := Lib.hid (by rw [hw7]; exact put_far HPr.out hpt _)
      have HQ7 : Hid (MeAt w7 (w.heap.size + 2) 32 zMe) := Lib.hid (by rw [hw7]; exact put_far HQr.out hqt _)
      have HB7 : Hid (Below w.heap.size w w7) := Lib.hid (by rw [hw7]; exact HBr.out.setCell (by show _ ≤ t; omega) _)
      have HW7 := Lib.hid hw7; clear hw7
      obtain ⟨a0, a1, a2⟩ := HTr.out.cells
      have af0 := HTr.out.free 0; have af1 := HTr.out.free 1; have af2 := HTr.out.free 2
      have al := HTr.out.lt
      obtain ⟨c0, c1, c2⟩ := HRr.out.cells
      have cl := HRr.out.lt
      go_wp2_with fail
      rw [← HW7.out]
      clear a0 a1 a2 af0 af1 af2 al c0 c1 c2 cl HTr HRr HPr HQr HBr HW7
      obtain ⟨a0, a1, a2⟩ := HT7.out.cells
      have af0 := HT7.out.free 0; have af1 := HT7.out.free 1; have af2 := HT7.out.free 2
      have al := HT7.out.lt
      have HT8 : Hid (MeAt (w7.setCell ⟨t, 0, none⟩ (.int .i64 (g - t1))) t 66 ⟨g - t1, t1, 0⟩) := Lib.hid (MeAt.put0 HT7.out _)
      have HR8 : Hid (MeAt (w7.setCell ⟨t, 0, none⟩ (.int .i64 (g - t1))) r 66 s) := Lib.hid (put_far HR7.out hrt _)
      have HP8 : Hid (MeAt (w7.setCell ⟨t, 0, none⟩ (.int .i64 (g - t1))) (w.heap.size + 1) 32 zMe) := Lib.hid (put_far HP7.out hpt _)
      have HQ8 : Hid (MeAt (w7.setCell ⟨t, 0, none⟩ (.int .i64 (g - t1))) (w.heap.size + 2) 32 zMe) := Lib.hid (put_far HQ7.out hqt _)
      have HB8 : Hid (Below w.heap.size w (w7.setCell ⟨t, 0, none⟩ (.int .i64 (g - t1)))) := Lib.hid (HB7.out.setCell (by show _ ≤ t; omega) _)
      clear HT7 HR7 HP7 HQ7 HB7
      go_region
      all_goals
        go_wp2
        go_roundw
        case rel => exact ⟨1, by omega, by go_num, by simpa [takK] using drewM HT8.out, drewM HR8.out, drewM HP8.out, drewM HQ8.out, HB8.out.drew⟩
        case measure => simp [intOf]
    · have hix := run_indexB1
      have HTr : Hid (MeAt wr t 66 ⟨g - t1, t1, 0⟩) := Lib.hid (by simpa [takK] using HTk.out)
      clear HTk
      obtain ⟨w7, hw7⟩ : ∃ u : World, u = wr.setCell ⟨t, 2, none⟩ (.int .i64 t2) := ⟨_, rfl⟩
      have HT7 : Hid (MeAt w7 t 66 ⟨g - t1, t1, t2⟩) := Lib.hid (by rw [hw7]; exact MeAt.put2 HTr.out _)
      have HR7 : Hid (MeAt w7 r 66 s) := Lib.hid (by rw [hw7]; exact put_far HRr.out hrt _)
      have HP7 : Hid (MeAt w7 (w.heap.size + 1) 32 zMe) := Lib.hid (by rw [hw7]; exact put_far HPr.out hpt _)
      have HQ7 : Hid (MeAt w7 (w.heap.size + 2) 32 zMe) := Lib.hid (by rw [hw7]; exact put_far HQr.out hqt _)
      have HB7 : Hid (Below w.heap.size w w7) := Lib.hid (by rw [hw7]; exact HBr.out.setCell (by show _ ≤ t; omega) _)
      have HW7 := Lib.hid hw7; clear hw7
      obtain ⟨a0, a1, a2⟩ := HTr.out.cells
      have af0 := HTr.out.free 0; have af1 := HTr.out.free 1; have af2 := HTr.out.free 2
      have al := HTr.out.lt
      obtain ⟨c0, c1, c2⟩ := HRr.out.cells
      have cl := HRr.out.lt
      go_wp2_with fail
      rw [← HW7.out]
      clear a0 a1 a2 af0 af1 af2 al c0 c1 c2 cl HTr HRr HPr HQr HBr HW7
      obtain ⟨a0, a1, a2⟩ := HT7.out.cells
      have af0 := HT7.out.free 0; have af1 := HT7.out.free 1; have af2 := HT7.out.free 2
      have al := HT7.out.lt
      have HT8 : Hid (MeAt (w7.setCell ⟨t, 0, none⟩ (.int .i64 (g - t1 - t2))) t 66 ⟨g - t1 - t2, t1, t2⟩) := Lib.hid (MeAt.put0 HT7.out _)
      have HR8 : Hid (MeAt (w7.setCell ⟨t, 0, none⟩ (.int .i64 (g - t1 - t2))) r 66 s) := Lib.hid (put_far HR7.out hrt _)
      have HP8 : Hid (MeAt (w7.setCell ⟨t, 0, none⟩ (.int .i64 (g - t1 - t2))) (w.heap.size + 1) 32 zMe) := Lib.hid (put_far HP7.out hpt _)
      have HQ8 : Hid (MeAt (w7.setCell ⟨t, 0, none⟩ (.int .i64 (g - t1 - t2))) (w.heap.size + 2) 32 zMe) := Lib.hid (put_far HQ7.out hqt _)
      have HB8 : Hid (Below w.heap.size w (w7.setCell ⟨t, 0, none⟩ (.int .i64 (g - t1 - t2)))) := Lib.hid (HB7.out.setCell (by show _ ≤ t; omega) _)
      clear HT7 HR7 HP7 HQ7 HB7
      go_region
      all_goals
        go_wp2
        go_roundw
        case rel => exact ⟨2, by omega, by go_num, by simpa [takK] using drewM HT8.out, drewM HR8.out, drewM HP8.out, drewM HQ8.out, HB8.out.drew⟩
        case measure => simp [intOf]
    · have HTr : Hid (MeAt wr t 66 ⟨g - t1 - t2, t1, t2⟩) := Lib.hid (by simpa [takK] using HTk.out)
      clear HTk hmx hq1 hq2
      obtain ⟨M, hM⟩ : ∃ M : Me, M = ⟨g - t1 - t2, t1, t2⟩ := ⟨_, rfl⟩
      have M0 : -2000000 ≤ M.lea ∧ M.lea ≤ 3000000 := by rw [hM]; dsimp only; omega
      have M1 : 0 ≤ M.tin ∧ M.tin ≤ 1000000 := by rw [hM]; dsimp only; omega
      have M2 : 0 ≤ M.ant ∧ M.ant ≤ 1000000 := by rw [hM]; dsimp only; omega
      rw [← hM] at HTr
      have HM : Hid (takM s g = M) := Lib.hid (by rw [HTM.out, hM])
      clear hM c1 d1 c2 d2 e1 f1 e2 f2 HTM hD0 hD1 hD2 HD
      obtain ⟨a0, a1, a2⟩ := HTr.out.cells
      have al := HTr.out.lt
      obtain ⟨s0, s1, s2⟩ := HRr.out.cells
      have sl := HRr.out.lt
      obtain ⟨p0, p1, p2⟩ := HPr.out.cells
      obtain ⟨q0, q1, q2⟩ := HQr.out.cells
      have pf0 := HPr.out.free 0; have pf1 := HPr.out.free 1; have pf2 := HPr.out.free 2
      have qf0 := HQr.out.free 0; have qf1 := HQr.out.free 1; have qf2 := HQr.out.free 2
      have pl := HPr.out.lt; have ql := HQr.out.lt
      simp only [zMe] at p0 p1 p2 q0 q1 q2
      rcases Int.lt_or_le s.lea M.lea with hgt | hle
      · have HV := Lib.hid (tak_no (m := s) (g := g) (by rw [HTB.out, HM.out]; simp; omega))
        go_wp2
        refine bodyPost_ret (v := .tuple #[.agg #[.int .i64 zMe.lea, .int .i64 zMe.tin, .int .i64 zMe.ant], .agg #[.int .i64 zMe.lea, .int .i64 zMe.tin, .int .i64 zMe.ant], .bool false]) (by simp [results, Tryd.results20, go_sem, p0, p1, p2, q0, q1, q2, pf0, pf1, pf2, qf0, qf1, qf2, zMe]) rfl ⟨ret_mmb (a := zMe) (b := zMe) HV.out.1.symm HV.out.2.1.symm HV.out.2.2.symm, by repeat (first | (with_reducible exact HBr.out) | (refine Below.setCell ?_ (by first | (simp; done) | (simp; omega)) _) | (refine Below.drew ?_))⟩
      have HV := Lib.hid (tak_yes (m := s) (g := g) (by rw [HTB.out, HM.out]; simp; omega))
      rw [HM.out] at HV
      have HML : Hid (takM s g = M) := HM
      clear HTB HM
      go_wp2
      clear a0 a1 a2 al s0 s1 s2 sl p0 p1 p2 q0 q1 q2 pf0 pf1 pf2 qf0 qf1 qf2 pl ql
      go_loopw [67] (fun i wr => ∃ k : Nat, k ≤ 3 ∧ i = .int .i64 k ∧ MeAt wr t 66 M ∧ MeAt wr r 66 (lsK s M k) ∧ MeAt wr (w.heap.size + 1) 32 zMe ∧ MeAt wr (w.heap.size + 2) 32 zMe ∧ Below w.heap.size w wr) (fun i _ => 3 - (intOf i).toNat)
      case atStart => exact ⟨0, Nat.zero_le _, rfl, HTr.out, HRr.out, HPr.out, HQr.out, HBr.out⟩
      case round =>
        obtain ⟨k, hk, rfl, ht', hr', hp', hq', hb'⟩ := hrel
        have HTv := Lib.hid ht'; have HRk := Lib.hid hr'; have HPv := Lib.hid hp'; have HQv := Lib.hid hq'; have HBv := Lib.hid hb'
        clear ht' hr' hp' hq' hb' HTr HRr HPr HQr HBr
        rcases (by omega : k = 0 ∨ k = 1 ∨ k = 2 ∨ k = 3) with rfl | rfl | rfl | rfl
        · skip
          have HRr : Hid (MeAt wr r 66 ⟨s.lea, s.tin, s.ant⟩) := Lib.hid (by simpa [lsK] using HRk.out)
          clear HRk
          have HRn : Hid (MeAt (wr.setCell ⟨r, 0, none⟩ (.int .i64 (s.lea - M.lea))) r 66 ⟨s.lea - M.lea, s.tin, s.ant⟩) := Lib.hid (MeAt.put0 HRr.out _)
          have HTn : Hid (MeAt (wr.setCell ⟨r, 0, none⟩ (.int .i64 (s.lea - M.lea))) t 66 M) := Lib.hid (put_far HTv.out hrt.symm _)
          have HPn : Hid (MeAt (wr.setCell ⟨r, 0, none⟩ (.int .i64 (s.lea - M.lea))) (w.heap.size + 1) 32 zMe) := Lib.hid (put_far HPv.out hpr _)
          have HQn : Hid (MeAt (wr.setCell ⟨r, 0, none⟩ (.int .i64 (s.lea - M.lea))) (w.heap.size + 2) 32 zMe) := Lib.hid (put_far HQv.out hqr _)
          have HBn : Hid (Below w.heap.size w (wr.setCell ⟨r, 0, none⟩ (.int .i64 (s.lea - M.lea)))) := Lib.hid (HBv.out.setCell (by show _ ≤ r; omega) _)
          have hix : ∀ u : World, (Instr.index 66 (.agg #[.int .i64 M.lea, .int .i64 M.tin, .int .i64 M.ant]) (.int .i64 0)).run Tryd.prog u = .ok (.int .i64 M.lea) u := fun u => run_index3 M 0 (by rw [zsM_len]; decide) u
          obtain ⟨s0, s1, s2⟩ := HRr.out.cells
          have sf0 := HRr.out.free 0; have sf1 := HRr.out.free 1; have sf2 := HRr.out.free 2
          have sl := HRr.out.lt
          clear HRr HTv HPv HQv HBv
          go_wp2
          go_roundw
          case rel => exact ⟨0 + 1, by omega, by go_num, HTn.out, by simpa [lsK] using HRn.out, HPn.out, HQn.out, HBn.out⟩
          case measure => simp [intOf]
        · skip
          have HRr : Hid (MeAt wr r 66 ⟨s.lea - M.lea, s.tin, s.ant⟩) := Lib.hid (by simpa [lsK] using HRk.out)
          clear HRk
          have HRn : Hid (MeAt (wr.setCell ⟨r, 1, none⟩ (.int .i64 (s.tin - M.tin))) r 66 ⟨s.lea - M.lea, s.tin - M.tin, s.ant⟩) := Lib.hid (MeAt.put1 HRr.out _)
          have HTn : Hid (MeAt (wr.setCell ⟨r, 1, none⟩ (.int .i64 (s.tin - M.tin))) t 66 M) := Lib.hid (put_far HTv.out hrt.symm _)
          have HPn : Hid (MeAt (wr.setCell ⟨r, 1, none⟩ (.int .i64 (s.tin - M.tin))) (w.heap.size + 1) 32 zMe) := Lib.hid (put_far HPv.out hpr _)
          have HQn : Hid (MeAt (wr.setCell ⟨r, 1, none⟩ (.int .i64 (s.tin - M.tin))) (w.heap.size + 2) 32 zMe) := Lib.hid (put_far HQv.out hqr _)
          have HBn : Hid (Below w.heap.size w (wr.setCell ⟨r, 1, none⟩ (.int .i64 (s.tin - M.tin)))) := Lib.hid (HBv.out.setCell (by show _ ≤ r; omega) _)
          have hix : ∀ u : World, (Instr.index 66 (.agg #[.int .i64 M.lea, .int .i64 M.tin, .int .i64 M.ant]) (.int .i64 1)).run Tryd.prog u = .ok (.int .i64 M.tin) u := fun u => run_index3 M 1 (by rw [zsM_len]; decide) u
          obtain ⟨s0, s1, s2⟩ := HRr.out.cells
          have sf0 := HRr.out.free 0; have sf1 := HRr.out.free 1; have sf2 := HRr.out.free 2
          have sl := HRr.out.lt
          clear HRr HTv HPv HQv HBv
          go_wp2
          go_roundw
          case rel => exact ⟨1 + 1, by omega, by go_num, HTn.out, by simpa [lsK] using HRn.out, HPn.out, HQn.out, HBn.out⟩
          case measure => simp [intOf]
        · skip
          have HRr : Hid (MeAt wr r 66 ⟨s.lea - M.lea, s.tin - M.tin, s.ant⟩) := Lib.hid (by simpa [lsK] using HRk.out)
          clear HRk
          have HRn : Hid (MeAt (wr.setCell ⟨r, 2, none⟩ (.int .i64 (s.ant - M.ant))) r 66 ⟨s.lea - M.lea, s.tin - M.tin, s.ant - M.ant⟩) := Lib.hid (MeAt.put2 HRr.out _)
          have HTn : Hid (MeAt (wr.setCell ⟨r, 2, none⟩ (.int .i64 (s.ant - M.ant))) t 66 M) := Lib.hid (put_far HTv.out hrt.symm _)
          have HPn : Hid (MeAt (wr.setCell ⟨r, 2, none⟩ (.int .i64 (s.ant - M.ant))) (w.heap.size + 1) 32 zMe) := Lib.hid (put_far HPv.out hpr _)
          have HQn : Hid (MeAt (wr.setCell ⟨r, 2, none⟩ (.int .i64 (s.ant - M.ant))) (w.heap.size + 2) 32 zMe) := Lib.hid (put_far HQv.out hqr _)
          have HBn : Hid (Below w.heap.size w (wr.setCell ⟨r, 2, none⟩ (.int .i64 (s.ant - M.ant)))) := Lib.hid (HBv.out.setCell (by show _ ≤ r; omega) _)
          have hix : ∀ u : World, (Instr.index 66 (.agg #[.int .i64 M.lea, .int .i64 M.tin, .int .i64 M.ant]) (.int .i64 2)).run Tryd.prog u = .ok (.int .i64 M.ant) u := fun u => run_index3 M 2 (by rw [zsM_len]; decide) u
          obtain ⟨s0, s1, s2⟩ := HRr.out.cells
          have sf0 := HRr.out.free 0; have sf1 := HRr.out.free 1; have sf2 := HRr.out.free 2
          have sl := HRr.out.lt
          clear HRr HTv HPv HQv HBv
          go_wp2
          go_roundw
          case rel => exact ⟨2 + 1, by omega, by go_num, HTn.out, by simpa [lsK] using HRn.out, HPn.out, HQn.out, HBn.out⟩
          case measure => simp [intOf]
        · have HRv : Hid (MeAt wr r 66 (lessM s M)) := Lib.hid (by have := HRk.out; rwa [lsK_all] at this)
          clear HRk
          generalize lessM s M = N at *
          obtain ⟨a0, a1, a2⟩ := HTv.out.cells
          obtain ⟨s0, s1, s2⟩ := HRv.out.cells
          have HBd : Hid (Below w.heap.size w wr.drew) := Lib.hid HBv.out.drew
          have HTd : Hid (MeAt wr.drew t 66 M) := Lib.hid (drewM HTv.out)
          have HRd : Hid (MeAt wr.drew r 66 N) := Lib.hid (drewM HRv.out)
          have HPd : Hid (MeAt wr.drew (w.heap.size + 1) 32 zMe) := Lib.hid (drewM HPv.out)
          have HQd : Hid (MeAt wr.drew (w.heap.size + 1 + 1) 32 zMe) := Lib.hid (drewM HQv.out)
          have htp : ¬ t = w.heap.size + 1 := by omega
          have htq : ¬ t = w.heap.size + 1 + 1 := by omega
          have hrp : ¬ r = w.heap.size + 1 := by omega
          have hrq : ¬ r = w.heap.size + 1 + 1 := by omega
          have hpt2 : ¬ w.heap.size + 1 = t := by omega
          have hqt2 : ¬ w.heap.size + 1 + 1 = t := by omega
          have hpr2 : ¬ w.heap.size + 1 = r := by omega
          have hqr2 : ¬ w.heap.size + 1 + 1 = r := by omega
          obtain ⟨da0, da1, da2⟩ := HTd.out.cells
          obtain ⟨ds0, ds1, ds2⟩ := HRd.out.cells
          clear HTv HRv HPv HQv HBv
          go_wp2_with fail
          go_cut [6] (fun s6 wx => s6 = .bool true ∧ MeAt wx (w.heap.size + 1) 32 M ∧ MeAt wx (w.heap.size + 1 + 1) 32 N ∧ Below w.heap.size w wx)
          case first =>
            go_region_held3 (fun x => (x.cell? ⟨t, 0, none⟩ = some (.int .i64 M.lea) ∧ x.cell? ⟨t, 1, none⟩ = some (.int .i64 M.tin) ∧ x.cell? ⟨t, 2, none⟩ = some (.int .i64 M.ant)) ∧ x.cell? ⟨r, 0, none⟩ = some (.int .i64 N.lea) ∧ x.cell? ⟨r, 1, none⟩ = some (.int .i64 N.tin) ∧ x.cell? ⟨r, 2, none⟩ = some (.int .i64 N.ant)) (first | with_reducible exact ⟨⟨xx0, xx1, xx2⟩, yy0, yy1, yy2⟩ | with_reducible exact ⟨⟨da0, da1, da2⟩, ds0, ds1, ds2⟩ | go_keep) (first | (go_at_call_of 50 (Value.agg #[.int .i64 M.lea, .int .i64 M.tin, .int .i64 M.ant]); refine (melt_any M _).mono ?_; rintro e w' ⟨rfl, hb⟩; (have HBn := nextB (w0 := w) (by assumption) hb; have HTn := nextM (b := t) (t := 66) (m := M) (by assumption) hb; have HRn := nextM (b := r) (t := 66) (m := N) (by assumption) hb; have HPn := nextM (b := w.heap.size + 1) (t := 32) (m := zMe) (by assumption) hb; have HQn := nextM (b := w.heap.size + 1 + 1) (t := 32) (m := zMe) (by assumption) hb; obtain ⟨xx0, xx1, xx2⟩ := HTn.out.cells; obtain ⟨yy0, yy1, yy2⟩ := HRn.out.cells; obtain ⟨p0, p1, p2⟩ := HPn.out.cells; obtain ⟨q0, q1, q2⟩ := HQn.out.cells; dsimp only [zMe] at p0 p1 p2 q0 q1 q2; have pf0 := HPn.out.free 0; have pf1 := HPn.out.free 1; have pf2 := HPn.out.free 2; have qf0 := HQn.out.free 0; have qf1 := HQn.out.free 1; have qf2 := HQn.out.free 2; have pl := HPn.out.lt; have ql := HQn.out.lt; clear hb)) | (go_at_call_of 50 (Value.agg #[.int .i64 N.lea, .int .i64 N.tin, .int .i64 N.ant]); refine (melt_any N _).mono ?_; rintro e w' ⟨rfl, hb⟩; (have HBn := nextB (w0 := w) (by assumption) hb; have HTn := nextM (b := t) (t := 66) (m := M) (by assumption) hb; have HRn := nextM (b := r) (t := 66) (m := N) (by assumption) hb; have HPn := nextM (b := w.heap.size + 1) (t := 32) (m := zMe) (by assumption) hb; have HQn := nextM (b := w.heap.size + 1 + 1) (t := 32) (m := zMe) (by assumption) hb; obtain ⟨xx0, xx1, xx2⟩ := HTn.out.cells; obtain ⟨yy0, yy1, yy2⟩ := HRn.out.cells; obtain ⟨p0, p1, p2⟩ := HPn.out.cells; obtain ⟨q0, q1, q2⟩ := HQn.out.cells; dsimp only [zMe] at p0 p1 p2 q0 q1 q2; have pf0 := HPn.out.free 0; have pf1 := HPn.out.free 1; have pf2 := HPn.out.free 2; have qf0 := HQn.out.free 0; have qf1 := HQn.out.free 1; have qf2 := HQn.out.free 2; have pl := HPn.out.lt; have ql := HQn.out.lt; clear hb)))
            all_goals
              go_wp2_with fail
              go_meet
              with_reducible refine ⟨rfl, ?_, ?_, ?_⟩
              · with_reducible exact (two_putM HPn.out HQn.out (by omega) M N).1
              · with_reducible exact (two_putM HPn.out HQn.out (by omega) M N).2
              · with_reducible exact put3_below (put3_below HBn.out (by omega) (.int .i64 M.lea) (.int .i64 M.tin) (.int .i64 M.ant)) (by omega) (.int .i64 N.lea) (.int .i64 N.tin) (.int .i64 N.ant)
          case rest =>
          obtain ⟨rfl, hp, hq, hbb⟩ := hcut
          obtain ⟨wz, hwz⟩ : ∃ u, u = wc := ⟨_, rfl⟩
          subst hwz
          have HBZ := Lib.hid hbb
          clear a0 a1 a2 s0 s1 s2 HBd HTd HRd HPd HQd da0 da1 da2 ds0 ds1 ds2 hbb htp htq hrp hrq hpt2 hqt2 hpr2 hqr2
          obtain ⟨p0, p1, p2⟩ := hp.cells
          obtain ⟨q0, q1, q2⟩ := hq.cells
          clear hp hq
          go_wp2
          refine bodyPost_ret (v := .tuple #[.agg #[.int .i64 M.lea, .int .i64 M.tin, .int .i64 M.ant], .agg #[.int .i64 N.lea, .int .i64 N.tin, .int .i64 N.ant], .bool true]) (by simp [results, Tryd.results20, go_sem, p0, p1, p2, q0, q1, q2]) rfl ⟨ret_mmb (a := M) (b := N) HV.out.1.symm HV.out.2.1.symm HV.out.2.2.symm, by repeat (first | (with_reducible exact HBZ.out) | (refine Below.setCell ?_ (by first | (simp; done) | (simp; omega)) _) | (refine Below.drew ?_))⟩
end Go.Proofs.YtebbgdihifihnaaDoor

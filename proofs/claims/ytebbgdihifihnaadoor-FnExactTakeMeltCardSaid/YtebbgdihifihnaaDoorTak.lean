/-
  The contract of TakeMelt, in spec and in impl (in impl where the table of the blended metals is as the program lays it): it answers what the plain words here say and changes nothing that was there.
-/
import Derived.Test.YtebbgdihifihnaaDoorOth
import Derived.RegionTactic
import Derived.ChangeAlike
import Derived.BigRegion
namespace Go.Proofs.YtebbgdihifihnaaDoor
open Go.RowKit
set_option linter.unusedVariables false

def shrT (z g a : Int) : Int := if 0 < a then z * g / a else 0
def takM (m : Me) (g : Int) : Me := ⟨g - shrT m.tin g (grM m) - shrT m.ant g (grM m), shrT m.tin g (grM m), shrT m.ant g (grM m)⟩
def lessM (a b : Me) : Me := ⟨a.lea - b.lea, a.tin - b.tin, a.ant - b.ant⟩
def takB (m : Me) (g : Int) : Bool := goodM m && inB 0 (grM m) g && decide ((takM m g).lea ≤ m.lea)
def takV (m : Me) (g : Int) : Me := if takB m g then takM m g else zMe
def takW (m : Me) (g : Int) : Me := if takB m g then lessM m (takM m g) else zMe
theorem tak_no {m : Me} {g : Int} (h : takB m g = false) : takV m g = zMe ∧ takW m g = zMe ∧ takB m g = false := by
  unfold takV takW; rw [h]; exact ⟨rfl, rfl, rfl⟩
theorem tak_yes {m : Me} {g : Int} (h : takB m g = true) : takV m g = takM m g ∧ takW m g = lessM m (takM m g) ∧ takB m g = true := by
  unfold takV takW; rw [h]; exact ⟨rfl, rfl, rfl⟩
theorem shr_bound {z g a : Int} (h : 0 ≤ z ∧ z ≤ 1000000) (hg : 0 ≤ g) (hga : g ≤ a) (ha : a ≤ 3000000) : (0 ≤ z * g ∧ z * g ≤ 3000000000000) ∧ 0 ≤ shrT z g a ∧ shrT z g a ≤ z := by
  have h1 : 0 ≤ z * g := Int.mul_nonneg h.1 hg
  have h2 : z * g ≤ 1000000 * g := Int.mul_le_mul_of_nonneg_right h.2 hg
  refine ⟨⟨h1, by omega⟩, ?_⟩
  unfold shrT
  split
  · rename_i hp
    refine ⟨Int.ediv_nonneg h1 (by omega), Int.ediv_le_of_le_mul hp (Int.mul_le_mul_of_nonneg_left hga h.1)⟩
  · exact ⟨Int.le_refl _, h.1⟩
theorem shr_max {z g a : Int} (hg : 0 ≤ g) (hga : g ≤ a) : shrT z g a = z * g / max a 1 := by
  unfold shrT
  split
  · rename_i hp; rw [show max a 1 = a by omega]
  · obtain rfl : g = 0 := by omega
    simp
theorem ret_mmb {a a' b b' : Me} {c c' : Bool} (h1 : a = a') (h2 : b = b') (h3 : c = c') : Ending.returned (.tuple #[.agg #[.int .i64 a.lea, .int .i64 a.tin, .int .i64 a.ant], .agg #[.int .i64 b.lea, .int .i64 b.tin, .int .i64 b.ant], .bool c]) = .returned (.tuple #[.agg #[.int .i64 a'.lea, .int .i64 a'.tin, .int .i64 a'.ant], .agg #[.int .i64 b'.lea, .int .i64 b'.tin, .int .i64 b'.ant], .bool c']) := by rw [h1, h2, h3]
theorem put_far {w : World} {b c i : Nat} {o : Obj} (h : w.heap[c]? = some o) (hne : c ≠ b) (x : Value) : (w.setCell ⟨b, i, none⟩ x).heap[c]? = some o := set_far h hne
theorem MeAt.put0 {w : World} {b : Nat} {t : TypeId} {m : Me} (h : MeAt w b t m) (x : Int) : MeAt (w.setCell ⟨b, 0, none⟩ (.int .i64 x)) b t ⟨x, m.tin, m.ant⟩ := heap_set (i := 0) h _
theorem MeAt.put1 {w : World} {b : Nat} {t : TypeId} {m : Me} (h : MeAt w b t m) (x : Int) : MeAt (w.setCell ⟨b, 1, none⟩ (.int .i64 x)) b t ⟨m.lea, x, m.ant⟩ := heap_set (i := 1) h _
theorem MeAt.put2 {w : World} {b : Nat} {t : TypeId} {m : Me} (h : MeAt w b t m) (x : Int) : MeAt (w.setCell ⟨b, 2, none⟩ (.int .i64 x)) b t ⟨m.lea, m.tin, x⟩ := heap_set (i := 2) h _

theorem drewM {w : World} {b : Nat} {t : TypeId} {m : Me} (h : MeAt w b t m) : MeAt w.drew b t m := h
theorem two_put {W : World} {p q : Nat} {t : TypeId} {m n : Me} (hp : MeAt W p t m) (hq : MeAt W q t n) (hne : p ≠ q) (x y z a b c : Int) :
    MeAt ((((((W.setCell ⟨p, 0, none⟩ (.int .i64 x)).setCell ⟨p, 1, none⟩ (.int .i64 y)).setCell ⟨p, 2, none⟩ (.int .i64 z)).setCell ⟨q, 0, none⟩ (.int .i64 a)).setCell ⟨q, 1, none⟩ (.int .i64 b)).setCell ⟨q, 2, none⟩ (.int .i64 c)).drew p t ⟨x, y, z⟩ ∧
    MeAt ((((((W.setCell ⟨p, 0, none⟩ (.int .i64 x)).setCell ⟨p, 1, none⟩ (.int .i64 y)).setCell ⟨p, 2, none⟩ (.int .i64 z)).setCell ⟨q, 0, none⟩ (.int .i64 a)).setCell ⟨q, 1, none⟩ (.int .i64 b)).setCell ⟨q, 2, none⟩ (.int .i64 c)).drew q t ⟨a, b, c⟩ :=
  ⟨drewM (put3_far (MeAt.put3 hp x y z) hne (.int .i64 a) (.int .i64 b) (.int .i64 c)), drewM (MeAt.put3 (put3_far hq hne.symm (.int .i64 x) (.int .i64 y) (.int .i64 z)) a b c)⟩
theorem two_below {w W : World} {B p q : Nat} (h : Below B w W) (hp : B ≤ p) (hq : B ≤ q) (x y z a b c : Int) :
    Below B w ((((((W.setCell ⟨p, 0, none⟩ (.int .i64 x)).setCell ⟨p, 1, none⟩ (.int .i64 y)).setCell ⟨p, 2, none⟩ (.int .i64 z)).setCell ⟨q, 0, none⟩ (.int .i64 a)).setCell ⟨q, 1, none⟩ (.int .i64 b)).setCell ⟨q, 2, none⟩ (.int .i64 c)).drew :=
  (put3_below (put3_below h hp _ _ _) hq _ _ _).drew
set_option maxRecDepth 100000 in
set_option maxHeartbeats 8000000 in
theorem specTake_any (s : Me) (g : Int) (w : World) :
    Calls Tryd.prog 19 #[.agg #[.int .i64 s.lea, .int .i64 s.tin, .int .i64 s.ant], .int .i64 g] w fun e w' => e = .returned (.tuple #[.agg #[.int .i64 (takV s g).lea, .int .i64 (takV s g).tin, .int .i64 (takV s g).ant], .agg #[.int .i64 (takW s g).lea, .int .i64 (takW s g).tin, .int .i64 (takW s g).ant], .bool (takB s g)]) ∧ Below w.heap.size w w' := by
  have HX : Hid (MeAt (((w.alloc (.cells #[.int .i64 s.lea, .int .i64 s.tin, .int .i64 s.ant] 32)).alloc (.cells #[.int .i64 0, .int .i64 0, .int .i64 0] 32)).alloc (.cells #[.int .i64 0, .int .i64 0, .int .i64 0] 32)) w.heap.size 32 s) := Lib.hid (((MeAt.new w _ s).alloc _).alloc _)
  have HP : Hid (MeAt (((w.alloc (.cells #[.int .i64 s.lea, .int .i64 s.tin, .int .i64 s.ant] 32)).alloc (.cells #[.int .i64 0, .int .i64 0, .int .i64 0] 32)).alloc (.cells #[.int .i64 0, .int .i64 0, .int .i64 0] 32)) (w.heap.size + 1) 32 zMe) := Lib.hid (MeAt.alloc (s := zMe) (show MeAt _ _ _ zMe from heap_alloc2_new _ _ _) _)
  have HQ : Hid (MeAt (((w.alloc (.cells #[.int .i64 s.lea, .int .i64 s.tin, .int .i64 s.ant] 32)).alloc (.cells #[.int .i64 0, .int .i64 0, .int .i64 0] 32)).alloc (.cells #[.int .i64 0, .int .i64 0, .int .i64 0] 32)) (w.heap.size + 2) 32 zMe) := Lib.hid (heap_alloc3_new _ _ _ _)
  have HA : Hid (Below w.heap.size w (((w.alloc (.cells #[.int .i64 s.lea, .int .i64 s.tin, .int .i64 s.ant] 32)).alloc (.cells #[.int .i64 0, .int .i64 0, .int .i64 0] 32)).alloc (.cells #[.int .i64 0, .int .i64 0, .int .i64 0] 32))) := Lib.hid ((((Below.refl _ _).alloc (Nat.le_refl _) _).alloc (by simp) _).alloc (by simp; omega) _)
  go_enter Tryd.func19, Tryd.ntmps19
  go_wp2_with fail
  refine (meGood_any s _).mono ?_
  rintro e w1 ⟨rfl, hb1⟩
  have HB1 : Hid (Below w.heap.size w w1) := Lib.hid (HA.out.trans (hb1.mono HA.out.size))
  have HX1 := Lib.hid (HX.out.next hb1); have HP1 := Lib.hid (HP.out.next hb1); have HQ1 := Lib.hid (HQ.out.next hb1)
  clear hb1 HX HP HQ HA
  cases hg : goodM s
  · have HV := Lib.hid (tak_no (m := s) (g := g) (by unfold takB; rw [hg]; rfl))
    clear hg
    obtain ⟨p0, p1, p2⟩ := HP1.out.cells
    obtain ⟨q0, q1, q2⟩ := HQ1.out.cells
    have pf0 := HP1.out.free 0; have pf1 := HP1.out.free 1; have pf2 := HP1.out.free 2
    have qf0 := HQ1.out.free 0; have qf1 := HQ1.out.free 1; have qf2 := HQ1.out.free 2
    have pl := HP1.out.lt; have ql := HQ1.out.lt
    simp only [zMe] at p0 p1 p2 q0 q1 q2
    go_wp2
    refine bodyPost_ret (v := .tuple #[.agg #[.int .i64 zMe.lea, .int .i64 zMe.tin, .int .i64 zMe.ant], .agg #[.int .i64 zMe.lea, .int .i64 zMe.tin, .int .i64 zMe.ant], .bool false]) (by simp [results, Tryd.results19, go_sem, p0, p1, p2, q0, q1, q2, pf0, pf1, pf2, qf0, qf1, qf2, zMe]) rfl ⟨ret_mmb (a := zMe) (b := zMe) HV.out.1.symm HV.out.2.1.symm HV.out.2.2.symm, by repeat (first | (with_reducible exact HB1.out) | (refine Below.setCell ?_ (by first | (simp; done) | (simp; omega)) _) | (refine Below.drew ?_))⟩
  have HG := Lib.hid hg
  have HSM := Lib.hid (small_of hg)
  clear hg
  obtain ⟨x0, x1, x2⟩ := HX1.out.cells
  have xl := HX1.out.lt
  go_wp2_with fail
  refine (meGrams_any s _ HSM.out).mono ?_
  clear x0 x1 x2 xl
  rintro e w2 ⟨rfl, hb2⟩
  have HB2 : Hid (Below w.heap.size w w2) := Lib.hid (HB1.out.trans (hb2.mono HB1.out.size))
  have HX2 := Lib.hid (HX1.out.next hb2); have HP2 := Lib.hid (HP1.out.next hb2); have HQ2 := Lib.hid (HQ1.out.next hb2)
  clear hb2 HX1 HP1 HQ1 HB1
  go_wp2_with fail
  refine (l1In_any _ _ _ _).mono ?_
  rintro e w' ⟨rfl, rfl⟩
  cases hi : inB 0 (grM s) g
  · have HV := Lib.hid (tak_no (m := s) (g := g) (by unfold takB; rw [hi]; simp))
    clear hi
    obtain ⟨p0, p1, p2⟩ := HP2.out.cells
    obtain ⟨q0, q1, q2⟩ := HQ2.out.cells
    have pf0 := HP2.out.free 0; have pf1 := HP2.out.free 1; have pf2 := HP2.out.free 2
    have qf0 := HQ2.out.free 0; have qf1 := HQ2.out.free 1; have qf2 := HQ2.out.free 2
    have pl := HP2.out.lt; have ql := HQ2.out.lt
    simp only [zMe] at p0 p1 p2 q0 q1 q2
    go_wp2
    refine bodyPost_ret (v := .tuple #[.agg #[.int .i64 zMe.lea, .int .i64 zMe.tin, .int .i64 zMe.ant], .agg #[.int .i64 zMe.lea, .int .i64 zMe.tin, .int .i64 zMe.ant], .bool false]) (by simp [results, Tryd.results19, go_sem, p0, p1, p2, q0, q1, q2, pf0, pf1, pf2, qf0, qf1, qf2, zMe]) rfl ⟨ret_mmb (a := zMe) (b := zMe) HV.out.1.symm HV.out.2.1.symm HV.out.2.2.symm, by repeat (first | (with_reducible exact HB2.out) | (refine Below.setCell ?_ (by first | (simp; done) | (simp; omega)) _) | (refine Below.drew ?_))⟩
  have hgr : 0 ≤ g ∧ g ≤ grM s := by simpa [inB] using hi
  have HI := Lib.hid hi
  clear hi
  obtain ⟨b0, b1, b2⟩ := goodM_bounds HG.out
  obtain ⟨hgl, hgl1⟩ := grM_le HG.out
  obtain ⟨⟨c1, d1⟩, e1, f1⟩ := shr_bound (z := s.tin) b1 hgr.1 hgr.2 hgl1
  obtain ⟨⟨c2, d2⟩, e2, f2⟩ := shr_bound (z := s.ant) b2 hgr.1 hgr.2 hgl1
  obtain ⟨g0, g1⟩ := hgr
  obtain ⟨w3, hw3⟩ : ∃ u : World, u = w2.alloc (.cells #[.int .i64 0, .int .i64 0, .int .i64 0] 32) := ⟨_, rfl⟩
  obtain ⟨o, ho⟩ : ∃ o, o = w2.heap.size := ⟨_, rfl⟩
  have hb3 : Below w2.heap.size w2 w3 := by rw [hw3]; exact (Below.refl _ _).alloc (Nat.le_refl _) _
  have HO3 : Hid (MeAt w3 o 32 zMe) := Lib.hid (by rw [hw3, ho]; exact MeAt.new _ _ zMe)
  have HOL : Hid (w.heap.size + 2 < o) := Lib.hid (by rw [ho]; exact HQ2.out.lt)
  have HB3 : Hid (Below w.heap.size w w3) := Lib.hid (HB2.out.trans (hb3.mono HB2.out.size))
  have HX3 := Lib.hid (HX2.out.next hb3); have HP3 := Lib.hid (HP2.out.next hb3); have HQ3 := Lib.hid (HQ2.out.next hb3)
  have HW3 := Lib.hid hw3; have HOO := Lib.hid ho
  obtain ⟨x0, x1, x2⟩ := HX2.out.cells
  have xl := HX2.out.lt
  clear hb3 hw3 ho HX2 HP2 HQ2 HB2
  go_wp2_with fail
  rw [← HW3.out, ← HOO.out]
  refine (meGrams_any s _ HSM.out).mono ?_
  clear x0 x1 x2 xl
  rintro e w4 ⟨rfl, hb4⟩
  have HB4 : Hid (Below w.heap.size w w4) := Lib.hid (HB3.out.trans (hb4.mono HB3.out.size))
  have HX4 := Lib.hid (HX3.out.next hb4); have HP4 := Lib.hid (HP3.out.next hb4); have HQ4 := Lib.hid (HQ3.out.next hb4); have HO4 := Lib.hid (HO3.out.next hb4)
  clear hb4 HX3 HP3 HQ3 HB3 HO3 HW3 HOO
  have hol := HOL.out
  have HTB : Hid (takB s g = decide ((takM s g).lea ≤ s.lea)) := Lib.hid (by unfold takB; rw [HG.out, HI.out]; simp)
  have HTM : Hid (takM s g = ⟨g - shrT s.tin g (grM s) - shrT s.ant g (grM s), shrT s.tin g (grM s), shrT s.ant g (grM s)⟩) := Lib.hid rfl
  have HS1 : Hid (∀ h : 0 < grM s, shrT s.tin g (grM s) = s.tin * g / grM s) := Lib.hid (fun h => by unfold shrT; rw [if_pos h])
  have HS2 : Hid (∀ h : 0 < grM s, shrT s.ant g (grM s) = s.ant * g / grM s) := Lib.hid (fun h => by unfold shrT; rw [if_pos h])
  have HZ1 : Hid (∀ h : ¬ 0 < grM s, shrT s.tin g (grM s) = 0) := Lib.hid (fun h => by unfold shrT; rw [if_neg h])
  have HZ2 : Hid (∀ h : ¬ 0 < grM s, shrT s.ant g (grM s) = 0) := Lib.hid (fun h => by unfold shrT; rw [if_neg h])
  generalize hT1 : shrT s.tin g (grM s) = t1 at *
  generalize hT2 : shrT s.ant g (grM s) = t2 at *
  clear hT1 hT2
  generalize grM s = G at *
  have HQ1 : Hid (0 < G → s.tin * g / G = t1) := Lib.hid (fun h => (HS1.out h).symm)
  have HQ2 : Hid (0 < G → s.ant * g / G = t2) := Lib.hid (fun h => (HS2.out h).symm)
  clear HS1 HS2
  obtain ⟨o0, o1, o2⟩ := HO4.out.cells
  have of0 := HO4.out.free 0; have of1 := HO4.out.free 1; have of2 := HO4.out.free 2
  have hol2 := HO4.out.lt
  simp only [zMe] at o0 o1 o2
  obtain ⟨x0, x1, x2⟩ := HX4.out.cells
  have xl := HX4.out.lt
  obtain ⟨p0, p1, p2⟩ := HP4.out.cells
  obtain ⟨q0, q1, q2⟩ := HQ4.out.cells
  have pf0 := HP4.out.free 0; have pf1 := HP4.out.free 1; have pf2 := HP4.out.free 2
  have qf0 := HQ4.out.free 0; have qf1 := HQ4.out.free 1; have qf2 := HQ4.out.free 2
  have pl := HP4.out.lt; have ql := HQ4.out.lt
  simp only [zMe] at p0 p1 p2 q0 q1 q2
  have hox : ¬ o = w.heap.size := by omega
  have hxo : ¬ w.heap.size = o := by omega
  have hop : ¬ o = w.heap.size + 1 := by omega
  have hpo : ¬ w.heap.size + 1 = o := by omega
  have hoq : ¬ o = w.heap.size + 2 := by omega
  have hqo : ¬ w.heap.size + 2 = o := by omega
  have hoq' : ¬ o = w.heap.size + 1 + 1 := by omega
  have hqo' : ¬ w.heap.size + 1 + 1 = o := by omega
  by_cases hp : 0 < G
  · have hq1 := HQ1.out hp; have hq2 := HQ2.out hp
    have hGne : G ≠ 0 := by omega
    clear HZ1 HZ2 HQ1 HQ2
    have HWQ : Hid (∃ u : World, u = ((w4.setCell ⟨o, 1, none⟩ (.int .i64 t1)).setCell ⟨o, 2, none⟩ (.int .i64 t2)).setCell ⟨o, 0, none⟩ (.int .i64 (g - t1 - t2))) := Lib.hid ⟨_, rfl⟩
    obtain ⟨w5, hw5⟩ := HWQ.out
    have HO5 : Hid (MeAt w5 o 32 ⟨g - t1 - t2, t1, t2⟩) := Lib.hid (by rw [hw5]; exact MeAt.put0 (MeAt.put2 (MeAt.put1 HO4.out _) _) _)
    have HX5 : Hid (MeAt w5 w.heap.size 32 s) := Lib.hid (by rw [hw5]; exact put_far (put_far (put_far HX4.out hxo _) hxo _) hxo _)
    have HP5 : Hid (MeAt w5 (w.heap.size + 1) 32 zMe) := Lib.hid (by rw [hw5]; exact put_far (put_far (put_far HP4.out (by omega) _) (by omega) _) (by omega) _)
    have HQ5 : Hid (MeAt w5 (w.heap.size + 1 + 1) 32 zMe) := Lib.hid (by rw [hw5]; exact put_far (put_far (put_far HQ4.out (by omega) _) (by omega) _) (by omega) _)
    have HB5 : Hid (Below w.heap.size w w5) := Lib.hid (by rw [hw5]; exact ((HB4.out.setCell (by show _ ≤ o; omega) _).setCell (by show _ ≤ o; omega) _).setCell (by show _ ≤ o; omega) _)
    have HW5 := Lib.hid hw5
    have HBW := HB4
    clear hw5 HWQ HX4 HP4 HQ4 HO4
    rcases Int.lt_or_le s.lea (g - t1 - t2) with hgt | hle
    · have HV := Lib.hid (tak_no (m := s) (g := g) (by rw [HTB.out, HTM.out]; simp; omega))
      go_wp2
      refine bodyPost_ret (v := .tuple #[.agg #[.int .i64 zMe.lea, .int .i64 zMe.tin, .int .i64 zMe.ant], .agg #[.int .i64 zMe.lea, .int .i64 zMe.tin, .int .i64 zMe.ant], .bool false]) (by simp [results, Tryd.results19, go_sem, p0, p1, p2, q0, q1, q2, pf0, pf1, pf2, qf0, qf1, qf2, zMe, hop, hpo, hoq, hqo, hoq', hqo']) rfl ⟨ret_mmb (a := zMe) (b := zMe) HV.out.1.symm HV.out.2.1.symm HV.out.2.2.symm, by repeat (first | (with_reducible exact HBW.out) | (refine Below.setCell ?_ (by show _ ≤ _; first | (simp; done) | (simp; omega) | omega) _))⟩
    · have HV := Lib.hid (tak_yes (m := s) (g := g) (by rw [HTB.out, HTM.out]; simp; omega))
      go_wp2_with fail
      rw [← HW5.out]
      clear o0 o1 o2 of0 of1 of2 hol2 x0 x1 x2 xl p0 p1 p2 q0 q1 q2 pf0 pf1 pf2 qf0 qf1 qf2 pl ql HW5
      have HM : Hid (takM s g = ⟨g - t1 - t2, t1, t2⟩) := Lib.hid (by rw [HTM.out]; first | done | simp)
      have HL : Hid (lessM s (takM s g) = ⟨s.lea - (g - t1 - t2), s.tin - t1, s.ant - t2⟩) := Lib.hid (by rw [HM.out]; first | done | simp [lessM])
      obtain ⟨o0, o1, o2⟩ := HO5.out.cells
      obtain ⟨x0, x1, x2⟩ := HX5.out.cells
      have xl := HX5.out.lt
      obtain ⟨p0, p1, p2⟩ := HP5.out.cells
      obtain ⟨q0, q1, q2⟩ := HQ5.out.cells
      have pf0 := HP5.out.free 0; have pf1 := HP5.out.free 1; have pf2 := HP5.out.free 2
      have qf0 := HQ5.out.free 0; have qf1 := HQ5.out.free 1; have qf2 := HQ5.out.free 2
      have pl := HP5.out.lt; have ql := HQ5.out.lt
      have ol := HO5.out.lt
      simp only [zMe] at p0 p1 p2 q0 q1 q2
      dsimp only at o0 o1 o2
      have HE := Lib.hid (two_put HP5.out HQ5.out (by omega) (g - t1 - t2) t1 t2 (s.lea - (g - t1 - t2)) (s.tin - t1) (s.ant - t2))
      have HF := Lib.hid (two_below (p := w.heap.size + 1) (q := w.heap.size + 1 + 1) HB5.out (by omega) (by omega) (g - t1 - t2) t1 t2 (s.lea - (g - t1 - t2)) (s.tin - t1) (s.ant - t2))
      go_cut [6] (fun s6 wx => s6 = .bool true ∧ MeAt wx (w.heap.size + 1) 32 (⟨g - t1 - t2, t1, t2⟩ : Me) ∧ MeAt wx (w.heap.size + 1 + 1) 32 (⟨s.lea - (g - t1 - t2), s.tin - t1, s.ant - t2⟩ : Me) ∧ Below w.heap.size w wx)
      case first =>
        have nh1 : ¬ w.heap.size = w.heap.size + 1 := by omega
        have nh2 : ¬ w.heap.size = w.heap.size + 1 + 1 := by omega
        have nh3 : ¬ w.heap.size + 1 + 1 = w.heap.size := by omega
        have nh4 : ¬ w.heap.size + 1 = w.heap.size := by omega
        have k3 : IntKind.i64.wrap (s.lea - (g - t1 - t2)) = (s.lea - (g - t1 - t2)) := by rw [show s.lea - (g - t1 - t2) = (s.lea - (g - t1 - t2)) by first | rfl | omega]; exact IntWalk.i64_in _ (by omega)
        have k4 : IntKind.i64.wrap (s.tin - t1) = (s.tin - t1) := by rw [show s.tin - t1 = (s.tin - t1) by first | rfl | omega]; exact IntWalk.i64_in _ (by omega)
        have k5 : IntKind.i64.wrap (s.ant - t2) = (s.ant - t2) := by rw [show s.ant - t2 = (s.ant - t2) by first | rfl | omega]; exact IntWalk.i64_in _ (by omega)
        have m3 : IntKind.i64.wrap s.lea = s.lea := IntWalk.i64_in _ (by omega)
        have m4 : IntKind.i64.wrap s.tin = s.tin := IntWalk.i64_in _ (by omega)
        have m5 : IntKind.i64.wrap s.ant = s.ant := IntWalk.i64_in _ (by omega)
        go_region_held3 (fun x => (x.cell? ⟨w.heap.size, 0, none⟩ = some (.int .i64 s.lea) ∧ x.cell? ⟨w.heap.size, 1, none⟩ = some (.int .i64 s.tin) ∧ x.cell? ⟨w.heap.size, 2, none⟩ = some (.int .i64 s.ant)) ∧ x.cell? ⟨o, 0, none⟩ = some (.int .i64 (g - t1 - t2)) ∧ x.cell? ⟨o, 1, none⟩ = some (.int .i64 t1) ∧ x.cell? ⟨o, 2, none⟩ = some (.int .i64 t2)) (go_keep) (fail)
        all_goals
          clear k3 k4 k5 m3 m4 m5
          go_wp2_with fail
          go_meet
          with_reducible exact ⟨rfl, HE.out.1, HE.out.2, HF.out⟩
      case rest =>
      obtain ⟨rfl, hp, hq, hbb⟩ := hcut
      obtain ⟨wz, hwz⟩ : ∃ u, u = wc := ⟨_, rfl⟩
      subst hwz
      have HBZ := Lib.hid hbb
      clear o0 o1 o2 x0 x1 x2 p0 p1 p2 q0 q1 q2 pf0 pf1 pf2 qf0 qf1 qf2 pl ql ol xl HB5 HX5 HP5 HQ5 HO5 hbb HE HF
      obtain ⟨p0, p1, p2⟩ := hp.cells
      obtain ⟨q0, q1, q2⟩ := hq.cells
      have pf0 := hp.free 0; have pf1 := hp.free 1; have pf2 := hp.free 2
      have qf0 := hq.free 0; have qf1 := hq.free 1; have qf2 := hq.free 2
      clear hp hq
      dsimp only at p0 p1 p2 q0 q1 q2
      go_wp2
      refine bodyPost_ret (v := .tuple #[.agg #[.int .i64 (g - t1 - t2), .int .i64 t1, .int .i64 t2], .agg #[.int .i64 (s.lea - (g - t1 - t2)), .int .i64 (s.tin - t1), .int .i64 (s.ant - t2)], .bool true]) (by simp [results, Tryd.results19, go_sem, p0, p1, p2, q0, q1, q2]) rfl ⟨ret_mmb (a := (⟨g - t1 - t2, t1, t2⟩ : Me)) (b := (⟨s.lea - (g - t1 - t2), s.tin - t1, s.ant - t2⟩ : Me)) (by rw [HV.out.1, HM.out]) (by rw [HV.out.2.1, HL.out]) HV.out.2.2.symm, by repeat (first | (with_reducible exact HBZ.out) | (refine Below.setCell ?_ (by first | (simp; done) | (simp; omega)) _) | (refine Below.drew ?_))⟩
  · obtain rfl : G = 0 := by omega
    obtain rfl : g = 0 := by omega
    have z1 := HZ1.out (by omega); have z2 := HZ2.out (by omega)
    clear HZ1 HZ2 HQ1 HQ2
    subst z1; subst z2
    have HWQ : Hid (∃ u : World, u = w4.setCell ⟨o, 0, none⟩ (.int .i64 0)) := Lib.hid ⟨_, rfl⟩
    obtain ⟨w5, hw5⟩ := HWQ.out
    have HO5 : Hid (MeAt w5 o 32 ⟨0, 0, 0⟩) := Lib.hid (by rw [hw5]; exact MeAt.put0 HO4.out _)
    have HX5 : Hid (MeAt w5 w.heap.size 32 s) := Lib.hid (by rw [hw5]; exact put_far HX4.out hxo _)
    have HP5 : Hid (MeAt w5 (w.heap.size + 1) 32 zMe) := Lib.hid (by rw [hw5]; exact put_far HP4.out hpo _)
    have HQ5 : Hid (MeAt w5 (w.heap.size + 1 + 1) 32 zMe) := Lib.hid (by rw [hw5]; exact put_far HQ4.out hqo _)
    have HB5 : Hid (Below w.heap.size w w5) := Lib.hid (by rw [hw5]; exact HB4.out.setCell (by show _ ≤ o; omega) _)
    have HW5 := Lib.hid hw5
    clear hw5 HWQ HX4 HP4 HQ4 HB4 HO4
    have HV := Lib.hid (tak_yes (m := s) (g := 0) (by rw [HTB.out, HTM.out]; simp; omega))
    have hz0 : (0 : Int) ≤ s.lea := by omega
    go_wp2_with fail
    rw [← HW5.out]
    clear o0 o1 o2 of0 of1 of2 hol2 x0 x1 x2 xl p0 p1 p2 q0 q1 q2 pf0 pf1 pf2 qf0 qf1 qf2 pl ql HW5
    have HM : Hid (takM s 0 = ⟨0, 0, 0⟩) := Lib.hid (by rw [HTM.out]; first | done | simp)
    have HL : Hid (lessM s (takM s 0) = ⟨s.lea, s.tin, s.ant⟩) := Lib.hid (by rw [HM.out]; first | done | simp [lessM])
    obtain ⟨o0, o1, o2⟩ := HO5.out.cells
    obtain ⟨x0, x1, x2⟩ := HX5.out.cells
    have xl := HX5.out.lt
    obtain ⟨p0, p1, p2⟩ := HP5.out.cells
    obtain ⟨q0, q1, q2⟩ := HQ5.out.cells
    have pf0 := HP5.out.free 0; have pf1 := HP5.out.free 1; have pf2 := HP5.out.free 2
    have qf0 := HQ5.out.free 0; have qf1 := HQ5.out.free 1; have qf2 := HQ5.out.free 2
    have pl := HP5.out.lt; have ql := HQ5.out.lt
    have ol := HO5.out.lt
    simp only [zMe] at p0 p1 p2 q0 q1 q2
    dsimp only at o0 o1 o2
    have HE := Lib.hid (two_put HP5.out HQ5.out (by omega) 0 0 0 s.lea s.tin s.ant)
    have HF := Lib.hid (two_below (p := w.heap.size + 1) (q := w.heap.size + 1 + 1) HB5.out (by omega) (by omega) 0 0 0 s.lea s.tin s.ant)
    go_cut [6] (fun s6 wx => s6 = .bool true ∧ MeAt wx (w.heap.size + 1) 32 (⟨0, 0, 0⟩ : Me) ∧ MeAt wx (w.heap.size + 1 + 1) 32 (⟨s.lea, s.tin, s.ant⟩ : Me) ∧ Below w.heap.size w wx)
    case first =>
      have nh1 : ¬ w.heap.size = w.heap.size + 1 := by omega
      have nh2 : ¬ w.heap.size = w.heap.size + 1 + 1 := by omega
      have nh3 : ¬ w.heap.size + 1 + 1 = w.heap.size := by omega
      have nh4 : ¬ w.heap.size + 1 = w.heap.size := by omega
      have k3 : IntKind.i64.wrap (s.lea - 0) = s.lea := by rw [show s.lea - 0 = s.lea by first | rfl | omega]; exact IntWalk.i64_in _ (by omega)
      have k4 : IntKind.i64.wrap (s.tin - 0) = s.tin := by rw [show s.tin - 0 = s.tin by first | rfl | omega]; exact IntWalk.i64_in _ (by omega)
      have k5 : IntKind.i64.wrap (s.ant - 0) = s.ant := by rw [show s.ant - 0 = s.ant by first | rfl | omega]; exact IntWalk.i64_in _ (by omega)
      have m3 : IntKind.i64.wrap s.lea = s.lea := IntWalk.i64_in _ (by omega)
      have m4 : IntKind.i64.wrap s.tin = s.tin := IntWalk.i64_in _ (by omega)
      have m5 : IntKind.i64.wrap s.ant = s.ant := IntWalk.i64_in _ (by omega)
      go_region_held3 (fun x => (x.cell? ⟨w.heap.size, 0, none⟩ = some (.int .i64 s.lea) ∧ x.cell? ⟨w.heap.size, 1, none⟩ = some (.int .i64 s.tin) ∧ x.cell? ⟨w.heap.size, 2, none⟩ = some (.int .i64 s.ant)) ∧ x.cell? ⟨o, 0, none⟩ = some (.int .i64 0) ∧ x.cell? ⟨o, 1, none⟩ = some (.int .i64 0) ∧ x.cell? ⟨o, 2, none⟩ = some (.int .i64 0)) (go_keep) (fail)
      all_goals
        clear k3 k4 k5 m3 m4 m5
        go_wp2_with fail
        go_meet
        with_reducible exact ⟨rfl, HE.out.1, HE.out.2, HF.out⟩
    case rest =>
    obtain ⟨rfl, hp, hq, hbb⟩ := hcut
    obtain ⟨wz, hwz⟩ : ∃ u, u = wc := ⟨_, rfl⟩
    subst hwz
    have HBZ := Lib.hid hbb
    clear o0 o1 o2 x0 x1 x2 p0 p1 p2 q0 q1 q2 pf0 pf1 pf2 qf0 qf1 qf2 pl ql ol xl HB5 HX5 HP5 HQ5 HO5 hbb HE HF
    obtain ⟨p0, p1, p2⟩ := hp.cells
    obtain ⟨q0, q1, q2⟩ := hq.cells
    have pf0 := hp.free 0; have pf1 := hp.free 1; have pf2 := hp.free 2
    have qf0 := hq.free 0; have qf1 := hq.free 1; have qf2 := hq.free 2
    clear hp hq
    dsimp only at p0 p1 p2 q0 q1 q2
    go_wp2
    refine bodyPost_ret (v := .tuple #[.agg #[.int .i64 0, .int .i64 0, .int .i64 0], .agg #[.int .i64 s.lea, .int .i64 s.tin, .int .i64 s.ant], .bool true]) (by simp [results, Tryd.results19, go_sem, p0, p1, p2, q0, q1, q2]) rfl ⟨ret_mmb (a := (⟨0, 0, 0⟩ : Me)) (b := (⟨s.lea, s.tin, s.ant⟩ : Me)) (by rw [HV.out.1, HM.out]) (by rw [HV.out.2.1, HL.out]) HV.out.2.2.symm, by repeat (first | (with_reducible exact HBZ.out) | (refine Below.setCell ?_ (by first | (simp; done) | (simp; omega)) _) | (refine Below.drew ?_))⟩
end Go.Proofs.YtebbgdihifihnaaDoor

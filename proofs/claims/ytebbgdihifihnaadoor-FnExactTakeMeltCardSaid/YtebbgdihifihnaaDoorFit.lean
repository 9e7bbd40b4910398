/-
  The contracts of spec.meAsked, meFits, DoesFit and impl.isFitting, DoesFit (those of impl where the table of the blended metals is as the program lays it): each answers what the plain words here say and changes nothing that was there.
-/
import Derived.Test.YtebbgdihifihnaaDoorBle
namespace Go.Proofs.YtebbgdihifihnaaDoor
open Go.RowKit
set_option linter.unusedVariables false

theorem grM_le {m : Me} (h : goodM m = true) : 0 ≤ grM m ∧ grM m ≤ 3000000 := by
  obtain ⟨b0, b1, b2⟩ := goodM_bounds h
  unfold grM; omega
theorem mul_in {a b : Int} (h : 0 ≤ a ∧ a ≤ 1000) (g : 0 ≤ b ∧ b ≤ 3000000) : 0 ≤ a * b ∧ a * b ≤ 3000000000 := by
  refine ⟨Int.mul_nonneg h.1 g.1, ?_⟩
  have h1 : a * b ≤ 1000 * b := Int.mul_le_mul_of_nonneg_right h.2 g.1
  omega
def askM (m : Me) (b : Bd) : Bool := hasM m && goodBd b
theorem askM_parts {m : Me} {b : Bd} (h : askM m b = true) : hasM m = true ∧ goodBd b = true := by unfold askM at h; simpa using h
theorem meAsked_any (s : Me) (b : Bd) (w : World) :
    Calls Tryd.prog 41 #[.agg #[.int .i64 s.lea, .int .i64 s.tin, .int .i64 s.ant], .agg #[.int .i64 b.lot, .int .i64 b.hit, .int .i64 b.loa, .int .i64 b.hia]] w fun e w' => e = .returned (.bool (askM s b)) ∧ Below w.heap.size w w' := by
  have HX : Hid (MeAt ((w.alloc (.cells #[.int .i64 s.lea, .int .i64 s.tin, .int .i64 s.ant] 32)).alloc (.cells #[.int .i64 b.lot, .int .i64 b.hit, .int .i64 b.loa, .int .i64 b.hia] 25)) w.heap.size 32 s) := Lib.hid ((MeAt.new _ _ _).alloc _)
  have HY : Hid (BdAt ((w.alloc (.cells #[.int .i64 s.lea, .int .i64 s.tin, .int .i64 s.ant] 32)).alloc (.cells #[.int .i64 b.lot, .int .i64 b.hit, .int .i64 b.loa, .int .i64 b.hia] 25)) (w.heap.size + 1) 25 b) := Lib.hid (heap_alloc2_new _ _ _)
  have HA : Hid (Below w.heap.size w ((w.alloc (.cells #[.int .i64 s.lea, .int .i64 s.tin, .int .i64 s.ant] 32)).alloc (.cells #[.int .i64 b.lot, .int .i64 b.hit, .int .i64 b.loa, .int .i64 b.hia] 25))) := Lib.hid (((Below.refl _ _).alloc (Nat.le_refl _) _).alloc (by simp) _)
  go_enter Tryd.func41, Tryd.ntmps41
  go_wp2_with fail
  refine (meGood_any s _).mono ?_
  rintro e w1 ⟨rfl, hb1⟩
  have HB1 : Hid (Below w.heap.size w w1) := Lib.hid (HA.out.trans (hb1.mono HA.out.size))
  have HX1 := Lib.hid (HX.out.next hb1); have HY1 := Lib.hid (HY.out.next hb1)
  clear hb1 HX HY HA
  cases hg : goodM s
  · have HV : Hid (askM s b = false) := Lib.hid (by unfold askM; rw [hasM_no hg]; rfl)
    clear hg
    go_wp2
    go_ret
    exact ⟨ret_bool HV.out.symm, HB1.out⟩
  have HG := Lib.hid hg; have HSM := Lib.hid (small_of hg); clear hg
  obtain ⟨x0, x1, x2⟩ := HX1.out.cells
  have hl := HX1.out.lt
  go_wp2_with fail
  refine (meGrams_any s _ HSM.out).mono ?_
  rintro e w2 ⟨rfl, hb2⟩
  have HB2 : Hid (Below w.heap.size w w2) := Lib.hid (HB1.out.trans (hb2.mono HB1.out.size))
  have HY2 := Lib.hid (HY1.out.next hb2)
  clear hb2 HX1 HY1 HB1 x0 x1 x2 hl
  by_cases hp : 0 < grM s
  rotate_left
  · have HV : Hid (askM s b = false) := Lib.hid (by unfold askM; rw [hasM_zero hp]; rfl)
    go_wp2
    go_ret
    exact ⟨ret_bool HV.out.symm, HB2.out⟩
  have HM := Lib.hid (hasM_yes HG.out hp)
  obtain ⟨y0, y1, y2, y3⟩ := HY2.out.cells
  have hl := HY2.out.lt
  go_wp2_with fail
  refine (meBlend_any b _).mono ?_
  rintro e w3 ⟨rfl, hb3⟩
  have HB3 : Hid (Below w.heap.size w w3) := Lib.hid (HB2.out.trans (hb3.mono HB2.out.size))
  clear hb3 HY2 HB2 y0 y1 y2 y3 hl
  have HV : Hid (askM s b = goodBd b) := Lib.hid (by unfold askM; rw [HM.out]; rfl)
  generalize goodBd b = g at *
  go_wp2
  go_ret
  exact ⟨ret_bool HV.out.symm, HB3.out⟩

def fitB (m : Me) (b : Bd) : Bool := inB (b.lot * grM m) (b.hit * grM m) (1000 * m.tin) && inB (b.loa * grM m) (b.hia * grM m) (1000 * m.ant)
theorem meFits_any (s : Me) (b : Bd) (w : World) (hs : goodM s = true) (hb : goodBd b = true) :
    Calls Tryd.prog 42 #[.agg #[.int .i64 s.lea, .int .i64 s.tin, .int .i64 s.ant], .agg #[.int .i64 b.lot, .int .i64 b.hit, .int .i64 b.loa, .int .i64 b.hia]] w fun e w' => e = .returned (.bool (fitB s b)) ∧ Below w.heap.size w w' := by
  have HG := Lib.hid hs; have HBG := Lib.hid hb; clear hs hb
  have HSM := Lib.hid (small_of HG.out)
  have HX : Hid (MeAt ((w.alloc (.cells #[.int .i64 s.lea, .int .i64 s.tin, .int .i64 s.ant] 32)).alloc (.cells #[.int .i64 b.lot, .int .i64 b.hit, .int .i64 b.loa, .int .i64 b.hia] 25)) w.heap.size 32 s) := Lib.hid ((MeAt.new _ _ _).alloc _)
  have HY : Hid (BdAt ((w.alloc (.cells #[.int .i64 s.lea, .int .i64 s.tin, .int .i64 s.ant] 32)).alloc (.cells #[.int .i64 b.lot, .int .i64 b.hit, .int .i64 b.loa, .int .i64 b.hia] 25)) (w.heap.size + 1) 25 b) := Lib.hid (heap_alloc2_new _ _ _)
  have HA : Hid (Below w.heap.size w ((w.alloc (.cells #[.int .i64 s.lea, .int .i64 s.tin, .int .i64 s.ant] 32)).alloc (.cells #[.int .i64 b.lot, .int .i64 b.hit, .int .i64 b.loa, .int .i64 b.hia] 25))) := Lib.hid (((Below.refl _ _).alloc (Nat.le_refl _) _).alloc (by simp) _)
  have HU : Hid (fitB s b = (inB (b.lot * grM s) (b.hit * grM s) (1000 * s.tin) && inB (b.loa * grM s) (b.hia * grM s) (1000 * s.ant))) := Lib.hid rfl
  go_enter Tryd.func42, Tryd.ntmps42
  go_wp2_with fail
  refine (meGrams_any s _ HSM.out).mono ?_
  rintro e w1 ⟨rfl, hb1⟩
  have HB1 : Hid (Below w.heap.size w w1) := Lib.hid (HA.out.trans (hb1.mono HA.out.size))
  have HX1 := Lib.hid (HX.out.next hb1); have HY1 := Lib.hid (HY.out.next hb1)
  clear hb1 HX HY HA
  obtain ⟨⟨a0, a1⟩, ⟨a2, a3⟩, ⟨a4, a5⟩⟩ := goodM_bounds HG.out
  obtain ⟨b0, b1, b2, b3⟩ := goodBd_bounds HBG.out
  have hgl := grM_le HG.out
  have m0 := mul_in (a := b.lot) (b := grM s) (by omega) hgl
  have m1 := mul_in (a := b.hit) (b := grM s) (by omega) hgl
  have m2 := mul_in (a := b.loa) (b := grM s) (by omega) hgl
  have m3 := mul_in (a := b.hia) (b := grM s) (by omega) hgl
  obtain ⟨x0, x1, x2⟩ := HX1.out.cells
  obtain ⟨y0, y1, y2, y3⟩ := HY1.out.cells
  have hxl := HX1.out.lt; have hyl := HY1.out.lt
  obtain ⟨n0, n1⟩ := m0; obtain ⟨n2, n3⟩ := m1; obtain ⟨n4, n5⟩ := m2; obtain ⟨n6, n7⟩ := m3
  clear b0 b1 b2 b3
  generalize grM s = G at *
  go_wp2_with fail
  refine (l1In_any _ _ _ _).mono ?_
  rintro e w' ⟨rfl, rfl⟩
  cases h1 : inB (b.lot * G) (b.hit * G) (1000 * s.tin)
  · have HH := Lib.hid h1; clear h1
    go_wp2
    go_ret
    exact ⟨ret_bool (by rw [HU.out, HH.out]; rfl), HB1.out⟩
  have H1 := Lib.hid h1; clear h1
  go_wp2_with fail
  refine (l1In_any _ _ _ _).mono ?_
  rintro e w' ⟨rfl, rfl⟩
  generalize hq : inB (b.loa * G) (b.hia * G) (1000 * s.ant) = q at *
  have HQ := Lib.hid hq; clear hq
  go_wp2
  go_ret
  exact ⟨ret_bool (by rw [HU.out, H1.out]; rfl), HB1.out⟩

def fitV (m : Me) (b : Bd) : Bool := askM m b && fitB m b
theorem ret_bb2 {a a' : Bool} {b b' : Bool} (h1 : a = a') (h2 : b = b') : Ending.returned (.tuple #[.bool a, .bool b]) = .returned (.tuple #[.bool a', .bool b']) := by rw [h1, h2]
theorem fit_no {m : Me} {b : Bd} (h : askM m b = false) : fitV m b = false ∧ askM m b = false := by unfold fitV; rw [h]; exact ⟨rfl, rfl⟩
theorem fit_yes {m : Me} {b : Bd} (h : askM m b = true) : fitV m b = fitB m b ∧ askM m b = true := by unfold fitV; rw [h]; exact ⟨rfl, rfl⟩
theorem specFit_any (s : Me) (b : Bd) (w : World) :
    Calls Tryd.prog 16 #[.agg #[.int .i64 s.lea, .int .i64 s.tin, .int .i64 s.ant], .agg #[.int .i64 b.lot, .int .i64 b.hit, .int .i64 b.loa, .int .i64 b.hia]] w fun e w' => e = .returned (.tuple #[.bool (fitV s b), .bool (askM s b)]) ∧ Below w.heap.size w w' := by
  have HX : Hid (MeAt ((w.alloc (.cells #[.int .i64 s.lea, .int .i64 s.tin, .int .i64 s.ant] 32)).alloc (.cells #[.int .i64 b.lot, .int .i64 b.hit, .int .i64 b.loa, .int .i64 b.hia] 25)) w.heap.size 32 s) := Lib.hid ((MeAt.new _ _ _).alloc _)
  have HY : Hid (BdAt ((w.alloc (.cells #[.int .i64 s.lea, .int .i64 s.tin, .int .i64 s.ant] 32)).alloc (.cells #[.int .i64 b.lot, .int .i64 b.hit, .int .i64 b.loa, .int .i64 b.hia] 25)) (w.heap.size + 1) 25 b) := Lib.hid (heap_alloc2_new _ _ _)
  have HA : Hid (Below w.heap.size w ((w.alloc (.cells #[.int .i64 s.lea, .int .i64 s.tin, .int .i64 s.ant] 32)).alloc (.cells #[.int .i64 b.lot, .int .i64 b.hit, .int .i64 b.loa, .int .i64 b.hia] 25))) := Lib.hid (((Below.refl _ _).alloc (Nat.le_refl _) _).alloc (by simp) _)
  go_enter Tryd.func16, Tryd.ntmps16
  go_wp2_with fail
  refine (meAsked_any s b _).mono ?_
  rintro e w1 ⟨rfl, hb1⟩
  have HB1 : Hid (Below w.heap.size w w1) := Lib.hid (HA.out.trans (hb1.mono HA.out.size))
  have HX1 := Lib.hid (HX.out.next hb1); have HY1 := Lib.hid (HY.out.next hb1)
  clear hb1 HX HY HA
  cases hg : askM s b
  · have HV := Lib.hid (fit_no hg); clear hg
    go_wp2
    go_ret2
    exact ⟨ret_bb2 HV.out.1.symm HV.out.2.symm, HB1.out⟩
  have HV := Lib.hid (fit_yes hg)
  have HP := Lib.hid (askM_parts hg)
  clear hg
  obtain ⟨x0, x1, x2⟩ := HX1.out.cells
  obtain ⟨y0, y1, y2, y3⟩ := HY1.out.cells
  have hxl := HX1.out.lt; have hyl := HY1.out.lt
  go_wp2_with fail
  refine (meFits_any s b _ (hasM_parts HP.out.1).1 HP.out.2).mono ?_
  rintro e w2 ⟨rfl, hb2⟩
  have HB2 : Hid (Below w.heap.size w w2) := Lib.hid (HB1.out.trans (hb2.mono HB1.out.size))
  clear hb2 HX1 HY1 HB1 x0 x1 x2 y0 y1 y2 y3 hxl hyl
  generalize fitB s b = q at *
  go_wp2
  go_ret2
  exact ⟨ret_bb2 HV.out.1.symm HV.out.2.symm, HB2.out⟩

end Go.Proofs.YtebbgdihifihnaaDoor

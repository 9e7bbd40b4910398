/-
  The contracts of impl.isFitting, impl.DoesFit, where the table of the blended metals is as the program lays it: each answers what the plain words here say and changes nothing that was there.
-/
import Derived.Test.YtebbgdihifihnaaDoorFit
import Derived.Test.YtebbgdihifihnaaDoorNew
import Derived.Deep.DeepCutAuto
namespace Go.Proofs.YtebbgdihifihnaaDoor
open Go.RowKit
set_option linter.unusedVariables false

/-- What the region 'grams, bounds := gramsByMetal(m), boundsOf(b)' leaves. -/
def TwoAt (w : World) (g h : Nat) (s : Me) (b : Bd) : Prop :=
  (g < w.heap.size ∧ h < w.heap.size) ∧ (w.cell? ⟨g, 0, none⟩ = some (.int .i64 s.lea) ∧ w.cell? ⟨g, 1, none⟩ = some (.int .i64 s.tin) ∧ w.cell? ⟨g, 2, none⟩ = some (.int .i64 s.ant)) ∧
  w.cell? ⟨h, 2, none⟩ = some (.int .i64 b.lot) ∧ w.cell? ⟨h, 3, none⟩ = some (.int .i64 b.hit) ∧ w.cell? ⟨h, 4, none⟩ = some (.int .i64 b.loa) ∧ w.cell? ⟨h, 5, none⟩ = some (.int .i64 b.hia)
theorem TwoAt.next {w w' : World} {g h : Nat} {s : Me} {b : Bd} (t : TwoAt w g h s b) (hb : Below w.heap.size w w') : TwoAt w' g h s b := by
  obtain ⟨⟨h1, h2⟩, ⟨c0, c1, c2⟩, d2, d3, d4, d5⟩ := t
  have hs := hb.size
  refine ⟨⟨by omega, by omega⟩, ⟨(hb.cell (p := ⟨g, 0, none⟩) h1).trans c0, (hb.cell (p := ⟨g, 1, none⟩) h1).trans c1, (hb.cell (p := ⟨g, 2, none⟩) h1).trans c2⟩, (hb.cell (p := ⟨h, 2, none⟩) h2).trans d2, (hb.cell (p := ⟨h, 3, none⟩) h2).trans d3, (hb.cell (p := ⟨h, 4, none⟩) h2).trans d4, (hb.cell (p := ⟨h, 5, none⟩) h2).trans d5⟩
theorem two_of {w : World} {p q : Nat} {s : Me} {b : Bd} {T U : TypeId} (hp : w.heap[p]? = some (.cells #[.int .i64 s.lea, .int .i64 s.tin, .int .i64 s.ant] T (0, 0))) (hq : w.heap[q]? = some (.cells #[.int .i64 0, .int .i64 0, .int .i64 b.lot, .int .i64 b.hit, .int .i64 b.loa, .int .i64 b.hia] U (0, 0))) : TwoAt w p q s b :=
  ⟨⟨lt_of_heap hp, lt_of_heap hq⟩, ⟨by rw [cell_of_heap hp]; rfl, by rw [cell_of_heap hp]; rfl, by rw [cell_of_heap hp]; rfl⟩, by rw [cell_of_heap hq]; rfl, by rw [cell_of_heap hq]; rfl, by rw [cell_of_heap hq]; rfl, by rw [cell_of_heap hq]; rfl⟩
theorem set_far {w : World} {b p i : Nat} {o : Obj} {u : Value} (h : w.heap[b]? = some o) (hne : b ≠ p) : (w.setCell ⟨p, i, none⟩ u).heap[b]? = some o := (Below.heap_setCell _ _ _ _ hne).trans h
theorem two_stored {x : World} {p q : Nat} {s : Me} {b : Bd} {T U : TypeId} (hp : x.heap[p]? = some (.cells #[.int .i64 0, .int .i64 0, .int .i64 0] T (0, 0))) (hq : x.heap[q]? = some (.cells #[.int .i64 0, .int .i64 0, .int .i64 0, .int .i64 0, .int .i64 0, .int .i64 0] U (0, 0))) (hne : p ≠ q) :
    TwoAt (((((((((x.setCell ⟨p, 0, none⟩ (.int .i64 s.lea)).setCell ⟨p, 1, none⟩ (.int .i64 s.tin)).setCell ⟨p, 2, none⟩ (.int .i64 s.ant)).setCell ⟨q, 0, none⟩ (.int .i64 0)).setCell ⟨q, 1, none⟩ (.int .i64 0)).setCell ⟨q, 2, none⟩ (.int .i64 b.lot)).setCell ⟨q, 3, none⟩ (.int .i64 b.hit)).setCell ⟨q, 4, none⟩ (.int .i64 b.loa)).setCell ⟨q, 5, none⟩ (.int .i64 b.hia)) p q s b :=
  two_of (set_far (set_far (set_far (set_far (set_far (set_far (heap_set (heap_set (heap_set hp _) _) _) hne) hne) hne) hne) hne) hne)
    (heap_set (heap_set (heap_set (heap_set (heap_set (heap_set (set_far (set_far (set_far hq hne.symm) hne.symm) hne.symm) _) _) _) _) _) _)
def fitR (m : Me) (b : Bd) : Bool := fitB m b && decide (0 < grM m)

theorem walkP_make {P : Program} {ops : Array Oper} {w : World} {al : Nat → Option Obj} {L : Act → (Nat → Option Obj) → Prop} {o : Oper} {l : List Oper} {k : Nat} {a : Act} {s : Nat → Option Obj} {z : Obj} (hal : al k = some z) (hm : Makes P ops o z)
    (h : ∀ p, s p = none → walkP P ops w al L l (k + 1) (a.put o.dst (.pointer (some ⟨p, 0, none⟩))) (upd s p z)) : walkP P ops w al L (o :: l) k a s := by
  simp only [walkP]
  rw [hal]
  exact ⟨hm, h⟩
set_option maxRecDepth 100000 in
set_option maxHeartbeats 1000000 in
theorem isFitting_any (s : Me) (b : Bd) (w : World) (hs : goodM s = true) (hb : goodBd b = true) (ht : TabM w) :
    Calls Tryd.prog 44 #[.agg #[.int .i64 s.lea, .int .i64 s.tin, .int .i64 s.ant], .agg #[.int .i64 b.lot, .int .i64 b.hit, .int .i64 b.loa, .int .i64 b.hia]] w fun e w' => e = .returned (.bool (fitR s b)) ∧ Below w.heap.size w w' := by
  have HG := Lib.hid hs; have HBG := Lib.hid hb; have HT := Lib.hid ht; clear hs hb ht
  have HSM := Lib.hid (small_of HG.out)
  obtain ⟨w0, hw0⟩ : ∃ x : World, x = (w.alloc (.cells #[.int .i64 s.lea, .int .i64 s.tin, .int .i64 s.ant] 32)).alloc (.cells #[.int .i64 b.lot, .int .i64 b.hit, .int .i64 b.loa, .int .i64 b.hia] 25) := ⟨_, rfl⟩
  have HX : Hid (MeAt w0 w.heap.size 32 s) := Lib.hid (by rw [hw0]; exact (MeAt.new _ _ _).alloc _)
  have HY : Hid (BdAt w0 (w.heap.size + 1) 25 b) := Lib.hid (by rw [hw0]; exact heap_alloc2_new _ _ _)
  have HA : Hid (Below w.heap.size w w0) := Lib.hid (by rw [hw0]; exact ((Below.refl _ _).alloc (Nat.le_refl _) _).alloc (by simp) _)
  have HW := Lib.hid hw0; clear hw0
  go_enter Tryd.func44, Tryd.ntmps44
  go_wp2_with fail
  rw [← HW.out]
  go_cut [5, 6] (fun s5 s6 wx => ∃ g h : Nat, s5 = .pointer (some ⟨g, 0, none⟩) ∧ s6 = .pointer (some ⟨h, 0, none⟩) ∧ TwoAt wx g h s b ∧ Below w.heap.size w wx)
  case first =>
    refine' region_new 4 [.cells #[.int .i64 0, .int .i64 0, .int .i64 0] 66, .cells #[.int .i64 0, .int .i64 0, .int .i64 0, .int .i64 0, .int .i64 0, .int .i64 0] 56] (by kernel_rfl) (by kernel_rfl) (by kernel_rfl) ?hq ?ht
    case hq =>
      intro x
      obtain ⟨x0, x1, x2⟩ := (HX.out.below x.below HX.out.lt).kept (B := x.at_.heap.size) (Nat.lt_of_lt_of_le HX.out.lt x.below.size)
      obtain ⟨y0, y1, y2, y3⟩ := (HY.out.below x.below HY.out.lt).kept (B := x.at_.heap.size) (Nat.lt_of_lt_of_le HY.out.lt x.below.size)
      unfold After
      simp only [List.take_succ_cons, List.take_zero]
      repeat (go_big_quiet_step (fail))
      go_big_quiet_step ((go_at_call 49; exact kept_call _ (Nat.le_refl _) (gramsBy_any s _)))
      repeat (go_big_quiet_step (fail))
      go_big_quiet_step ((go_at_call 40; exact kept_call _ (Nat.le_refl _) (boundsOf_any b _)))
      refine wpQuiet_nil ?_
      rfl
    case ht =>
      simp only [List.drop_succ_cons, List.drop_zero, List.take_succ_cons, List.take_zero, List.length_cons, List.length_nil]
      refine walkP_make rfl ?_ (fun p hp => walkP_make rfl ?_ (fun q hq => ?_))
      · exact fun a => ⟨rfl, fun w => by first | rfl | simp [execOp, go_sem] | kernel_rfl⟩
      · exact fun a => ⟨rfl, fun w => by first | rfl | simp [execOp, go_sem] | kernel_rfl⟩
      intro x hx
      have hne : p ≠ q := fun e => by subst e; simp [upd] at hq
      have hp1 : x.heap[p]? = some (.cells #[.int .i64 0, .int .i64 0, .int .i64 0] 66) := (hx.2 p _ (by simp [upd, hne])).2
      have hq1 : x.heap[q]? = some (.cells #[.int .i64 0, .int .i64 0, .int .i64 0, .int .i64 0, .int .i64 0, .int .i64 0] 56) := (hx.2 q _ (by simp [upd])).2
      have hpg : w0.heap.size ≤ p := (hx.2 p (.cells #[.int .i64 0, .int .i64 0, .int .i64 0] 66) (by simp [upd, hne])).1
      have hqg : w0.heap.size ≤ q := (hx.2 q (.cells #[.int .i64 0, .int .i64 0, .int .i64 0, .int .i64 0, .int .i64 0, .int .i64 0] 56) (by simp [upd])).1
      have HP1 := Lib.hid hp1; have HQ1 := Lib.hid hq1
      have HBx : Hid (Below w.heap.size w x) := Lib.hid (HA.out.trans (hx.1.mono HA.out.size))
      have hws : w.heap.size ≤ w0.heap.size := HA.out.size
      have c0 := cell_of_heap hp1 0; have c1 := cell_of_heap hp1 1; have c2 := cell_of_heap hp1 2
      have d0 := cell_of_heap hq1 0; have d1 := cell_of_heap hq1 1; have d2 := cell_of_heap hq1 2; have d3 := cell_of_heap hq1 3; have d4 := cell_of_heap hq1 4; have d5 := cell_of_heap hq1 5
      simp at c0 c1 c2 d0 d1 d2 d3 d4 d5
      have f0 := free_of_heap hp1 0; have f1 := free_of_heap hp1 1; have f2 := free_of_heap hp1 2
      have e0 := free_of_heap hq1 0; have e1 := free_of_heap hq1 1; have e2 := free_of_heap hq1 2; have e3 := free_of_heap hq1 3; have e4 := free_of_heap hq1 4; have e5 := free_of_heap hq1 5
      have hne2 : ¬ q = p := fun e => hne e.symm
      clear hp1 hq1 hx hp hq
      go_wp2_with fail
      go_meet
      exact ⟨p, q, rfl, rfl, two_stored HP1.out HQ1.out hne, by repeat (first | (with_reducible exact HBx.out) | (refine Below.setCell ?_ (by show _ ≤ _; first | (simp; omega) | omega) _))⟩
  case rest =>
  obtain ⟨g, h, rfl, rfl, htw, hbb⟩ := hcut
  obtain ⟨w2, hw2⟩ : ∃ u, u = wc := ⟨_, rfl⟩
  subst hw2
  have HTW := Lib.hid htw; have HB2 := Lib.hid hbb
  clear htw hbb HX HY HA HW
  obtain ⟨⟨hg0, hh0⟩, ⟨x0, x1, x2⟩, _⟩ := HTW.out
  go_wp2_with fail
  refine (sum_any s _ HSM.out).mono ?_
  rintro e w3 ⟨rfl, hb3⟩
  have HB3 : Hid (Below w.heap.size w w3) := Lib.hid (HB2.out.trans (hb3.mono HB2.out.size))
  have HTW3 := Lib.hid (HTW.out.next hb3)
  have HT3 : Hid (TabM w3) := Lib.hid (HT.out.next HB3.out)
  clear hb3 HB2 HTW x0 x1 x2 hg0 hh0
  obtain ⟨t0, t1⟩ := HT3.out.cells
  have htl := HT3.out.lt
  obtain ⟨⟨a0, a1⟩, ⟨a2, a3⟩, ⟨a4, a5⟩⟩ := goodM_bounds HG.out
  obtain ⟨⟨b0, b1⟩, ⟨b2, b3⟩, ⟨b4, b5⟩, ⟨b6, b7⟩⟩ := goodBd_bounds HBG.out
  obtain ⟨hgl, hgl1⟩ := grM_le HG.out
  obtain ⟨m0, m1⟩ := mul_in (a := b.lot) (b := grM s) (by omega) ⟨hgl, hgl1⟩
  obtain ⟨m2, m3⟩ := mul_in (a := b.hit) (b := grM s) (by omega) ⟨hgl, hgl1⟩
  obtain ⟨m4, m5⟩ := mul_in (a := b.loa) (b := grM s) (by omega) ⟨hgl, hgl1⟩
  obtain ⟨m6, m7⟩ := mul_in (a := b.hia) (b := grM s) (by omega) ⟨hgl, hgl1⟩
  have HU : Hid (∀ c d : Bool, inB (b.lot * grM s) (b.hit * grM s) (1000 * s.tin) = c → inB (b.loa * grM s) (b.hia * grM s) (1000 * s.ant) = d → fitR s b = (c && d && decide (0 < grM s))) := Lib.hid (fun c d h1 h2 => by unfold fitR fitB; rw [h1, h2])
  clear b0 b1 b2 b3 b4 b5 b6 b7
  generalize grM s = G at *
  go_wp2
  clear t0 t1
  go_loopw [18] (fun i wr => ∃ k : Nat, k ≤ 2 ∧ i = .int .i64 k ∧ ((1 ≤ k → inB (b.lot * G) (b.hit * G) (1000 * s.tin) = true) ∧ (2 ≤ k → inB (b.loa * G) (b.hia * G) (1000 * s.ant) = true)) ∧ TwoAt wr g h s b ∧ Below w.heap.size w wr) (fun i _ => 2 - (intOf i).toNat)
  case atStart => exact ⟨0, Nat.zero_le _, rfl, ⟨fun h => by omega, fun h => by omega⟩, HTW3.out, HB3.out⟩
  case round =>
    obtain ⟨k, hk, rfl, hin, htw, hb⟩ := hrel
    have HIN := Lib.hid hin; have HTWr := Lib.hid htw; have HBr := Lib.hid hb
    clear hin htw hb HTW3 HB3 HT3
    obtain ⟨⟨hg0, hh0⟩, ⟨x0, x1, x2⟩, y2, y3, y4, y5⟩ := HTWr.out
    rcases (by omega : k = 0 ∨ k = 1 ∨ k = 2) with rfl | rfl | rfl
    · have hix := run_indexB0
      clear x0 x2 y4 y5
      rcases (by omega : 1000 * s.tin < b.lot * G ∨ (b.lot * G ≤ 1000 * s.tin ∧ b.hit * G < 1000 * s.tin) ∨ (b.lot * G ≤ 1000 * s.tin ∧ 1000 * s.tin ≤ b.hit * G)) with h1 | ⟨h1, h2⟩ | ⟨h1, h2⟩
      · have HI : Hid (inB (b.lot * G) (b.hit * G) (1000 * s.tin) = false) := Lib.hid (by simp [inB]; omega)
        have HR : Hid (fitR s b = false) := Lib.hid (by rw [HU.out false _ HI.out rfl]; rfl)
        go_wp2
        go_ret
        exact ⟨ret_bool HR.out.symm, HBr.out⟩
      · have HI : Hid (inB (b.lot * G) (b.hit * G) (1000 * s.tin) = false) := Lib.hid (by simp [inB]; omega)
        have HR : Hid (fitR s b = false) := Lib.hid (by rw [HU.out false _ HI.out rfl]; rfl)
        go_wp2
        go_ret
        exact ⟨ret_bool HR.out.symm, HBr.out⟩
      · have HI : Hid (inB (b.lot * G) (b.hit * G) (1000 * s.tin) = true) := Lib.hid (by simp [inB]; omega)
        go_wp2
        go_roundw
        case rel => exact ⟨1, by omega, by go_num, ⟨(fun h => HI.out), (fun h => by omega)⟩, HTWr.out, HBr.out⟩
        case measure => simp [intOf]
    · have hix := run_indexB1
      clear x0 x1 y2 y3
      rcases (by omega : 1000 * s.ant < b.loa * G ∨ (b.loa * G ≤ 1000 * s.ant ∧ b.hia * G < 1000 * s.ant) ∨ (b.loa * G ≤ 1000 * s.ant ∧ 1000 * s.ant ≤ b.hia * G)) with h1 | ⟨h1, h2⟩ | ⟨h1, h2⟩
      · have HI : Hid (inB (b.loa * G) (b.hia * G) (1000 * s.ant) = false) := Lib.hid (by simp [inB]; omega)
        have HR : Hid (fitR s b = false) := Lib.hid (by rw [HU.out _ false rfl HI.out]; simp)
        go_wp2
        go_ret
        exact ⟨ret_bool HR.out.symm, HBr.out⟩
      · have HI : Hid (inB (b.loa * G) (b.hia * G) (1000 * s.ant) = false) := Lib.hid (by simp [inB]; omega)
        have HR : Hid (fitR s b = false) := Lib.hid (by rw [HU.out _ false rfl HI.out]; simp)
        go_wp2
        go_ret
        exact ⟨ret_bool HR.out.symm, HBr.out⟩
      · have HI : Hid (inB (b.loa * G) (b.hia * G) (1000 * s.ant) = true) := Lib.hid (by simp [inB]; omega)
        go_wp2
        go_roundw
        case rel => exact ⟨2, by omega, by go_num, ⟨(fun h => HIN.out.1 (by omega)), (fun h => HI.out)⟩, HTWr.out, HBr.out⟩
        case measure => simp [intOf]
    · have HR : Hid (fitR s b = decide (0 < G)) := Lib.hid (by rw [HU.out true true (HIN.out.1 (by omega)) (HIN.out.2 (by omega))]; rfl)
      clear x0 x1 x2 y2 y3 y4 y5
      by_cases hG : 0 < G
      · go_wp2
        go_ret
        exact ⟨ret_bool (by rw [HR.out]; simp [hG]), HBr.out⟩
      · go_wp2
        go_ret
        exact ⟨ret_bool (by rw [HR.out]; simp [hG]), HBr.out⟩

theorem implFit_any (s : Me) (b : Bd) (w : World) (ht : TabM w) :
    Calls Tryd.prog 18 #[.agg #[.int .i64 s.lea, .int .i64 s.tin, .int .i64 s.ant], .agg #[.int .i64 b.lot, .int .i64 b.hit, .int .i64 b.loa, .int .i64 b.hia]] w fun e w' => e = .returned (.tuple #[.bool (fitV s b), .bool (askM s b)]) ∧ Below w.heap.size w w' := by
  have HT := Lib.hid ht; clear ht
  have HX : Hid (MeAt ((w.alloc (.cells #[.int .i64 s.lea, .int .i64 s.tin, .int .i64 s.ant] 32)).alloc (.cells #[.int .i64 b.lot, .int .i64 b.hit, .int .i64 b.loa, .int .i64 b.hia] 25)) w.heap.size 32 s) := Lib.hid ((MeAt.new _ _ _).alloc _)
  have HY : Hid (BdAt ((w.alloc (.cells #[.int .i64 s.lea, .int .i64 s.tin, .int .i64 s.ant] 32)).alloc (.cells #[.int .i64 b.lot, .int .i64 b.hit, .int .i64 b.loa, .int .i64 b.hia] 25)) (w.heap.size + 1) 25 b) := Lib.hid (heap_alloc2_new _ _ _)
  have HA : Hid (Below w.heap.size w ((w.alloc (.cells #[.int .i64 s.lea, .int .i64 s.tin, .int .i64 s.ant] 32)).alloc (.cells #[.int .i64 b.lot, .int .i64 b.hit, .int .i64 b.loa, .int .i64 b.hia] 25))) := Lib.hid (((Below.refl _ _).alloc (Nat.le_refl _) _).alloc (by simp) _)
  go_enter Tryd.func18, Tryd.ntmps18
  go_wp2_with fail
  refine (gramsOfMetal_any s _).mono ?_
  rintro e w1 ⟨rfl, hb1⟩
  have HB1 : Hid (Below w.heap.size w w1) := Lib.hid (HA.out.trans (hb1.mono HA.out.size))
  have HX1 := Lib.hid (HX.out.next hb1); have HY1 := Lib.hid (HY.out.next hb1)
  clear hb1 HX HY HA
  cases hm : hasM s
  · have HV := Lib.hid (fit_no (m := s) (b := b) (by unfold askM; rw [hm]; rfl)); clear hm
    generalize gramsV s = z at *
    go_wp2
    go_ret2
    exact ⟨ret_bb2 HV.out.1.symm HV.out.2.symm, HB1.out⟩
  have HM := Lib.hid hm
  have HP := Lib.hid (hasM_parts hm)
  clear hm
  obtain ⟨y0, y1, y2, y3⟩ := HY1.out.cells
  have hl := HY1.out.lt
  generalize gramsV s = z at *
  go_wp2_with fail
  refine (implIsBlend_any b _ (HT.out.next HB1.out)).mono ?_
  rintro e w2 ⟨rfl, hb2⟩
  have HB2 : Hid (Below w.heap.size w w2) := Lib.hid (HB1.out.trans (hb2.mono HB1.out.size))
  have HX2 := Lib.hid (HX1.out.next hb2); have HY2 := Lib.hid (HY1.out.next hb2)
  clear hb2 HX1 HY1 HB1 y0 y1 y2 y3 hl
  cases hb : goodBd b
  · have HV := Lib.hid (fit_no (m := s) (b := b) (by unfold askM; rw [hb]; simp)); clear hb
    go_wp2
    go_ret2
    exact ⟨ret_bb2 HV.out.1.symm HV.out.2.symm, HB2.out⟩
  have HV := Lib.hid (fit_yes (m := s) (b := b) (by unfold askM; rw [HM.out, hb]; rfl))
  have HBG := Lib.hid hb; clear hb
  obtain ⟨x0, x1, x2⟩ := HX2.out.cells
  obtain ⟨y0, y1, y2, y3⟩ := HY2.out.cells
  have hxl := HX2.out.lt; have hyl := HY2.out.lt
  go_wp2_with fail
  refine (isFitting_any s b _ HP.out.1 HBG.out (HT.out.next HB2.out)).mono ?_
  rintro e w3 ⟨rfl, hb3⟩
  have HB3 : Hid (Below w.heap.size w w3) := Lib.hid (HB2.out.trans (hb3.mono HB2.out.size))
  clear hb3 HX2 HY2 HB2 x0 x1 x2 y0 y1 y2 y3 hxl hyl
  have HR : Hid (fitR s b = fitB s b) := Lib.hid (by unfold fitR; simp [HP.out.2])
  rw [HR.out]
  generalize fitB s b = q at *
  go_wp2
  go_ret2
  exact ⟨ret_bb2 HV.out.1.symm HV.out.2.symm, HB3.out⟩
end Go.Proofs.YtebbgdihifihnaaDoor

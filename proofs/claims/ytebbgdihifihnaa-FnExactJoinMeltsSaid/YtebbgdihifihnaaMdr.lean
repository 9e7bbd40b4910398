/-
  The contract of AfterDross, in spec and in impl, and of spec.meUp, impl.divideUp, spec.l1Most: each answers what the plain words here say and changes nothing that was there.
-/
import Derived.Test.YtebbgdihifihnaaMel
import Derived.Test.YtebbgdihifihnaaTail
import Derived.Deep.RegionHeld3
import Derived.IntWalk
import Derived.Deep.DeepCutAuto
namespace Go.Proofs.Ytebbgdihifihnaa
open Go.RowKit
set_option linter.unusedVariables false

theorem l1Most_any (a b : Int) (w : World) :
    Calls Try.prog 46 #[.int .i64 a, .int .i64 b] w fun e w' => e = .returned (.int .i64 (if b < a then a else b)) ∧ w = w' := by
  by_cases h : b < a
  · go_enter Try.func46, Try.ntmps46
    go_wp2
    go_ret
    exact ⟨rfl, rfl⟩
  · go_enter Try.func46, Try.ntmps46
    go_wp2
    go_ret
    exact ⟨rfl, rfl⟩
def upV (a b : Int) : Int := (a + b - 1) / b
theorem upV_nonneg {a b : Int} (h : 0 ≤ a) (hb : 0 < b) : 0 ≤ upV a b := Int.ediv_nonneg (by omega) (by omega)
theorem meUp_any (a b : Int) (w : World) (h0 : 0 ≤ a) (h1 : a ≤ 1000000000000) (hb : 0 < b) (hb1 : b ≤ 1000000) :
    Calls Try.prog 41 #[.int .i64 a, .int .i64 b] w fun e w' => e = .returned (.int .i64 (upV a b)) ∧ w = w' := by
  have HN := Lib.hid (upV_nonneg h0 hb)
  have HU : Hid (upV a b = (a + b - 1) / b) := Lib.hid rfl
  have hne : b ≠ 0 := by omega
  go_enter Try.func41, Try.ntmps41
  go_wp2_with fail
  refine (l1Most_any _ _ _).mono ?_
  rintro e w1 ⟨rfl, rfl⟩
  rw [← HU.out, if_neg (by have := HN.out; omega)]
  go_wp2
  go_ret
  exact ⟨rfl, rfl⟩
theorem divideUp_any (a b : Int) (w : World) (h0 : 0 ≤ a) (h1 : a ≤ 1000000000000) (hb : 0 < b) (hb1 : b ≤ 1000000) :
    Calls Try.prog 42 #[.int .i64 a, .int .i64 b] w fun e w' => e = .returned (.int .i64 (upV a b)) ∧ w = w' := by
  have hne : b ≠ 0 := by omega
  go_enter Try.func42, Try.ntmps42
  go_wp2
  go_ret
  exact ⟨rfl, rfl⟩

def dr (z p : Int) : Int := upV (z * p) 100
theorem meUp_dr (z p : Int) (w : World) (h : 0 ≤ z * p ∧ z * p ≤ 100000000) :
    Calls Try.prog 41 #[.int .i64 (z * p), .int .i64 100] w fun e w' => e = .returned (.int .i64 (dr z p)) ∧ w = w' :=
  meUp_any _ _ _ h.1 (by omega) (by omega) (by omega)
theorem divideUp_dr (z p : Int) (w : World) (h : 0 ≤ z * p ∧ z * p ≤ 100000000) :
    Calls Try.prog 42 #[.int .i64 (z * p), .int .i64 100] w fun e w' => e = .returned (.int .i64 (dr z p)) ∧ w = w' :=
  divideUp_any _ _ _ h.1 (by omega) (by omega) (by omega)
def leftM (m : Me) (p : Int) : Me := ⟨m.lea - dr m.lea p, m.tin - dr m.tin p, m.ant - dr m.ant p⟩
def zMe : Me := ⟨0, 0, 0⟩
def drossB (m : Me) (p : Int) : Bool := goodM m && inB 0 100 p
def drossM (m : Me) (p : Int) : Me := if drossB m p then leftM m p else zMe
def drossN (m : Me) (p : Int) : Int := if drossB m p then dr m.lea p + dr m.tin p + dr m.ant p else 0
theorem dr_bound {z p : Int} (h : 0 ≤ z ∧ z ≤ 1000000) (hp : 0 ≤ p ∧ p ≤ 100) : (0 ≤ z * p ∧ z * p ≤ 100000000) ∧ 0 ≤ dr z p ∧ dr z p ≤ z := by
  have h1 : 0 ≤ z * p := Int.mul_nonneg h.1 hp.1
  have h2 : z * p ≤ z * 100 := Int.mul_le_mul_of_nonneg_left hp.2 h.1
  refine ⟨⟨h1, by omega⟩, ?_⟩
  unfold dr upV
  generalize z * p = q at *
  omega
theorem dross_no1 {m : Me} {p : Int} (h : goodM m = false) : drossM m p = zMe ∧ drossN m p = 0 ∧ drossB m p = false := by
  have e : drossB m p = false := by unfold drossB; rw [h]; rfl
  unfold drossM drossN; rw [e]; exact ⟨rfl, rfl, rfl⟩
theorem dross_no2 {m : Me} {p : Int} (h : inB 0 100 p = false) : drossM m p = zMe ∧ drossN m p = 0 ∧ drossB m p = false := by
  have e : drossB m p = false := by unfold drossB; rw [h]; simp
  unfold drossM drossN; rw [e]; exact ⟨rfl, rfl, rfl⟩
theorem dross_yes {m : Me} {p : Int} (h : goodM m = true) (h2 : inB 0 100 p = true) : drossM m p = leftM m p ∧ drossN m p = dr m.lea p + dr m.tin p + dr m.ant p ∧ drossB m p = true := by
  have e : drossB m p = true := by unfold drossB; rw [h, h2]; rfl
  unfold drossM drossN; rw [e]; exact ⟨rfl, rfl, rfl⟩
theorem ret_mnb {a a' : Me} {n n' : Int} {b b' : Bool} (h1 : a = a') (h2 : n = n') (h3 : b = b') : Ending.returned (.tuple #[.agg #[.int .i64 a.lea, .int .i64 a.tin, .int .i64 a.ant], .int .i64 n, .bool b]) = .returned (.tuple #[.agg #[.int .i64 a'.lea, .int .i64 a'.tin, .int .i64 a'.ant], .int .i64 n', .bool b']) := by rw [h1, h2, h3]

theorem MeAt.put3 {w : World} {b : Nat} {t : TypeId} {m : Me} (h : MeAt w b t m) (x y z : Int) : MeAt (((w.setCell ⟨b, 0, none⟩ (.int .i64 x)).setCell ⟨b, 1, none⟩ (.int .i64 y)).setCell ⟨b, 2, none⟩ (.int .i64 z)) b t ⟨x, y, z⟩ := by
  have h1 := heap_set (i := 0) h (.int .i64 x)
  have h2 := heap_set (i := 1) h1 (.int .i64 y)
  have h3 := heap_set (i := 2) h2 (.int .i64 z)
  exact h3
theorem nextB {w0 x y : World} (h : Hid (Below w0.heap.size w0 x)) (hb : Below x.heap.size x y) : Hid (Below w0.heap.size w0 y) := Lib.hid (h.out.trans (hb.mono h.out.size))
theorem nextM {x y : World} {b : Nat} {t : TypeId} {m : Me} (h : Hid (MeAt x b t m)) (hb : Below x.heap.size x y) : Hid (MeAt y b t m) := Lib.hid (h.out.next hb)
set_option maxRecDepth 100000 in
set_option maxHeartbeats 1000000 in
theorem specDross_any (s : Me) (p : Int) (w : World) :
    Calls Try.prog 25 #[.agg #[.int .i64 s.lea, .int .i64 s.tin, .int .i64 s.ant], .int .i64 p] w fun e w' => e = .returned (.tuple #[.agg #[.int .i64 (drossM s p).lea, .int .i64 (drossM s p).tin, .int .i64 (drossM s p).ant], .int .i64 (drossN s p), .bool (drossB s p)]) ∧ Below w.heap.size w w' := by
  have HX : Hid (MeAt ((w.alloc (.cells #[.int .i64 s.lea, .int .i64 s.tin, .int .i64 s.ant] 25)).alloc (.cells #[.int .i64 0, .int .i64 0, .int .i64 0] 25)) w.heap.size 25 s) := Lib.hid ((MeAt.new w _ s).alloc _)
  have HZ : Hid (MeAt ((w.alloc (.cells #[.int .i64 s.lea, .int .i64 s.tin, .int .i64 s.ant] 25)).alloc (.cells #[.int .i64 0, .int .i64 0, .int .i64 0] 25)) (w.heap.size + 1) 25 zMe) := Lib.hid (heap_alloc2_new _ _ _)
  have HA : Hid (Below w.heap.size w ((w.alloc (.cells #[.int .i64 s.lea, .int .i64 s.tin, .int .i64 s.ant] 25)).alloc (.cells #[.int .i64 0, .int .i64 0, .int .i64 0] 25))) := Lib.hid (((Below.refl _ _).alloc (Nat.le_refl _) _).alloc (by simp) _)
  go_enter Try.func25, Try.ntmps25
  go_wp2_with fail
  refine (meGood_any s _).mono ?_
  rintro e w1 ⟨rfl, hb⟩
  have HB : Hid (Below w.heap.size w w1) := Lib.hid (HA.out.trans (hb.mono HA.out.size))
  have HX1 := Lib.hid (HX.out.next hb)
  have HZ1 := Lib.hid (HZ.out.next hb)
  clear hb HX HZ HA
  obtain ⟨h0, h1, h2⟩ := HX1.out.cells
  have hf0 := HX1.out.free 0; have hf1 := HX1.out.free 1; have hf2 := HX1.out.free 2
  obtain ⟨z0, z1, z2⟩ := HZ1.out.cells
  simp only [zMe] at z0 z1 z2
  have zf0 := HZ1.out.free 0; have zf1 := HZ1.out.free 1; have zf2 := HZ1.out.free 2
  have hbl := HZ1.out.lt
  have hbl' : w.heap.size < w1.heap.size := by omega
  cases hg : goodM s
  · have HV := Lib.hid (dross_no1 (p := p) hg)
    clear hg
    go_wp2
    refine bodyPost_ret (v := .tuple #[.agg #[.int .i64 zMe.lea, .int .i64 zMe.tin, .int .i64 zMe.ant], .int .i64 0, .bool false]) (by simp [results, Try.results25, go_sem, z0, z1, z2, zf0, zf1, zf2, h0, h1, h2, hf0, hf1, hf2, zMe, leftM]) rfl ⟨ret_mnb (a := zMe) (a' := drossM s p) HV.out.1.symm HV.out.2.1.symm HV.out.2.2.symm, by repeat (first | (with_reducible exact HB.out) | (refine Below.setCell ?_ (by first | (simp; done) | (simp; omega)) _) | (refine Below.drew ?_) | (refine Below.alloc ?_ (by first | (simp; done) | (simp; omega)) _))⟩
  have HG := Lib.hid hg; clear hg
  go_wp2_with fail
  refine (l1In_any _ _ _ _).mono ?_
  rintro e w' ⟨rfl, rfl⟩
  cases hi : inB 0 100 p
  · have HV := Lib.hid (dross_no2 (m := s) hi)
    clear hi
    go_wp2
    refine bodyPost_ret (v := .tuple #[.agg #[.int .i64 zMe.lea, .int .i64 zMe.tin, .int .i64 zMe.ant], .int .i64 0, .bool false]) (by simp [results, Try.results25, go_sem, z0, z1, z2, zf0, zf1, zf2, h0, h1, h2, hf0, hf1, hf2, zMe, leftM]) rfl ⟨ret_mnb (a := zMe) (a' := drossM s p) HV.out.1.symm HV.out.2.1.symm HV.out.2.2.symm, by repeat (first | (with_reducible exact HB.out) | (refine Below.setCell ?_ (by first | (simp; done) | (simp; omega)) _) | (refine Below.drew ?_) | (refine Below.alloc ?_ (by first | (simp; done) | (simp; omega)) _))⟩
  have HV := Lib.hid (dross_yes HG.out hi)
  have hp : 0 ≤ p ∧ p ≤ 100 := by simpa [inB] using hi
  obtain ⟨b0, b1, b2⟩ := goodM_bounds HG.out
  obtain ⟨⟨c0, d0⟩, e0, g0⟩ := dr_bound b0 hp
  obtain ⟨⟨c1, d1⟩, e1, g1⟩ := dr_bound b1 hp
  obtain ⟨⟨c2, d2⟩, e2, g2⟩ := dr_bound b2 hp
  have HL : Hid (leftM s p = ⟨s.lea - dr s.lea p, s.tin - dr s.tin p, s.ant - dr s.ant p⟩) := Lib.hid rfl
  clear hi
  go_wp2_with fail
  go_cut [7] (fun s7 wx => ∃ g : Nat, s7 = .pointer (some ⟨g, 0, none⟩) ∧ w.heap.size + 1 < g ∧ MeAt wx g 25 (leftM s p) ∧ MeAt wx w.heap.size 25 s ∧ MeAt wx (w.heap.size + 1) 25 zMe ∧ Below w.heap.size w wx)
  case first =>
    have k0 : IntKind.i64.wrap (s.lea * p) = s.lea * p := IntWalk.i64_in _ (by omega)
    have k1 : IntKind.i64.wrap (s.tin * p) = s.tin * p := IntWalk.i64_in _ (by omega)
    have k2 : IntKind.i64.wrap (s.ant * p) = s.ant * p := IntWalk.i64_in _ (by omega)
    have k3 : IntKind.i64.wrap (s.lea - dr s.lea p) = s.lea - dr s.lea p := IntWalk.i64_in _ (by omega)
    have k4 : IntKind.i64.wrap (s.tin - dr s.tin p) = s.tin - dr s.tin p := IntWalk.i64_in _ (by omega)
    have k5 : IntKind.i64.wrap (s.ant - dr s.ant p) = s.ant - dr s.ant p := IntWalk.i64_in _ (by omega)
    have q0 : 0 ≤ s.lea * p ∧ s.lea * p ≤ 100000000 := ⟨c0, d0⟩
    have q1 : 0 ≤ s.tin * p ∧ s.tin * p ≤ 100000000 := ⟨c1, d1⟩
    have q2 : 0 ≤ s.ant * p ∧ s.ant * p ≤ 100000000 := ⟨c2, d2⟩
    go_region_held3 (fun w' => w'.cell? ⟨w.heap.size, 0, none⟩ = some (.int .i64 s.lea) ∧ w'.cell? ⟨w.heap.size, 1, none⟩ = some (.int .i64 s.tin) ∧ w'.cell? ⟨w.heap.size, 2, none⟩ = some (.int .i64 s.ant)) (go_keep) (first | (go_at_call 41; refine (meUp_dr _ _ _ (by assumption)).mono ?_; rintro e w' ⟨rfl, rfl⟩))
    all_goals (clear k0 k1 k2 k3 k4 k5 q0 q1 q2; go_wp2_with fail; go_meet; exact ⟨_, rfl, hbl, heap_new _ _, HX1.out.next ((Below.refl _ _).alloc (Nat.le_refl _) _).drew, HZ1.out.next ((Below.refl _ _).alloc (Nat.le_refl _) _).drew, (HB.out.alloc HB.out.size _).drew⟩)
  case rest =>
  obtain ⟨g, rfl, hgz, hl, hx, hz, hbb⟩ := hcut
  obtain ⟨w2, hw2⟩ : ∃ u, u = wc := ⟨_, rfl⟩
  subst hw2
  have HLd : Hid (MeAt w2.drew g 25 (leftM s p)) := Lib.hid hl
  have HXd : Hid (MeAt w2.drew w.heap.size 25 s) := Lib.hid hx
  have HZd : Hid (MeAt w2.drew (w.heap.size + 1) 25 zMe) := Lib.hid hz
  have HBd : Hid (Below w.heap.size w w2.drew) := Lib.hid hbb.drew
  clear h0 h1 h2 hf0 hf1 hf2 z0 z1 z2 zf0 zf1 zf2 hbl hbl' HX1 HZ1 HB HL
  have k6 : IntKind.i64.wrap (grM s - grM (leftM s p)) = dr s.lea p + dr s.tin p + dr s.ant p := by
    rw [show grM s - grM (leftM s p) = dr s.lea p + dr s.tin p + dr s.ant p from by show s.lea + s.tin + s.ant - ((s.lea - dr s.lea p) + (s.tin - dr s.tin p) + (s.ant - dr s.ant p)) = _; omega]
    exact IntWalk.i64_in _ (by omega)
  have HSM := Lib.hid (small_of HG.out)
  have HSL : Hid (Small (leftM s p)) := Lib.hid (by unfold Small; show (_ ≤ s.lea - dr s.lea p ∧ s.lea - dr s.lea p ≤ _) ∧ (_ ≤ s.tin - dr s.tin p ∧ s.tin - dr s.tin p ≤ _) ∧ (_ ≤ s.ant - dr s.ant p ∧ s.ant - dr s.ant p ≤ _); omega)
  clear b0 b1 b2 c0 c1 c2 d0 d1 d2 e0 e1 e2 g0 g1 g2
  generalize dr s.lea p + dr s.tin p + dr s.ant p = N at *
  generalize leftM s p = L at *
  obtain ⟨x0, x1, x2⟩ := hx.cells
  obtain ⟨y0, y1, y2⟩ := hl.cells
  clear hx hl hz hbb
  have hgn : ¬ g = w.heap.size + 1 := by omega
  have hgn' : ¬ w.heap.size + 1 = g := by omega
  go_wp2_with fail
  go_cut [5, 6] (fun s5 s6 wx => s5 = .int .i64 N ∧ s6 = .bool true ∧ MeAt wx (w.heap.size + 1) 25 L ∧ Below w.heap.size w wx)
  case first =>
    go_region_held3 (fun x => (x.cell? ⟨w.heap.size, 0, none⟩ = some (.int .i64 s.lea) ∧ x.cell? ⟨w.heap.size, 1, none⟩ = some (.int .i64 s.tin) ∧ x.cell? ⟨w.heap.size, 2, none⟩ = some (.int .i64 s.ant)) ∧ x.cell? ⟨g, 0, none⟩ = some (.int .i64 L.lea) ∧ x.cell? ⟨g, 1, none⟩ = some (.int .i64 L.tin) ∧ x.cell? ⟨g, 2, none⟩ = some (.int .i64 L.ant)) (first | exact ⟨⟨xx0, xx1, xx2⟩, yy0, yy1, yy2⟩ | exact ⟨⟨x0, x1, x2⟩, y0, y1, y2⟩ | go_keep) (first | (go_at_call_of 32 (Value.agg #[.int .i64 s.lea, .int .i64 s.tin, .int .i64 s.ant]); refine (meGrams_any s _ HSM.out).mono ?_; rintro e w' ⟨rfl, hb⟩; (have HBn := nextB (w0 := w) (by assumption) hb; have HXn := nextM (b := w.heap.size) (t := 25) (m := s) (by assumption) hb; have HZn := nextM (b := w.heap.size + 1) (t := 25) (m := zMe) (by assumption) hb; have HLn := nextM (b := g) (t := 25) (m := L) (by assumption) hb; obtain ⟨xx0, xx1, xx2⟩ := HXn.out.cells; obtain ⟨yy0, yy1, yy2⟩ := HLn.out.cells; obtain ⟨z0, z1, z2⟩ := HZn.out.cells; dsimp only [zMe] at z0 z1 z2; have zf0 := HZn.out.free 0; have zf1 := HZn.out.free 1; have zf2 := HZn.out.free 2; have hbl := HZn.out.lt; clear hb)) | (go_at_call_of 32 (Value.agg #[.int .i64 L.lea, .int .i64 L.tin, .int .i64 L.ant]); refine (meGrams_any L _ HSL.out).mono ?_; rintro e w' ⟨rfl, hb⟩; (have HBn := nextB (w0 := w) (by assumption) hb; have HXn := nextM (b := w.heap.size) (t := 25) (m := s) (by assumption) hb; have HZn := nextM (b := w.heap.size + 1) (t := 25) (m := zMe) (by assumption) hb; have HLn := nextM (b := g) (t := 25) (m := L) (by assumption) hb; obtain ⟨xx0, xx1, xx2⟩ := HXn.out.cells; obtain ⟨yy0, yy1, yy2⟩ := HLn.out.cells; obtain ⟨z0, z1, z2⟩ := HZn.out.cells; dsimp only [zMe] at z0 z1 z2; have zf0 := HZn.out.free 0; have zf1 := HZn.out.free 1; have zf2 := HZn.out.free 2; have hbl := HZn.out.lt; clear hb)))
    all_goals (clear k6; go_wp2_with fail; go_meet; exact ⟨rfl, rfl, MeAt.put3 HZn.out _ _ _, by repeat (first | (with_reducible exact HBn.out) | (refine Below.setCell ?_ (by first | (simp; done) | (simp; omega)) _) | (refine Below.drew ?_))⟩)
  case rest =>
  obtain ⟨rfl, rfl, hz, hbb⟩ := hcut
  clear hgn hgn' x0 x1 x2 y0 y1 y2 k6 HLd HXd HZd HBd
  have HB := Lib.hid hbb
  obtain ⟨z0, z1, z2⟩ := hz.cells
  have zf0 := hz.free 0; have zf1 := hz.free 1; have zf2 := hz.free 2
  have hbl := hz.lt
  clear hz hbb
  go_wp2
  refine bodyPost_ret (v := .tuple #[.agg #[.int .i64 L.lea, .int .i64 L.tin, .int .i64 L.ant], .int .i64 N, .bool true]) (by simp [results, Try.results25, go_sem, z0, z1, z2, zf0, zf1, zf2]) rfl ⟨ret_mnb (a := L) (a' := drossM s p) HV.out.1.symm HV.out.2.1.symm HV.out.2.2.symm, by repeat (first | (with_reducible exact HB.out) | (refine Below.setCell ?_ (by first | (simp; done) | (simp; omega)) _) | (refine Below.drew ?_) | (refine Below.alloc ?_ (by first | (simp; done) | (simp; omega)) _))⟩

def drAt (m : Me) (p : Int) (k : Nat) : Int := dr (m.zs.getD k 0) p
def sumD (m : Me) (p : Int) : Nat → Int | 0 => 0 | k + 1 => sumD m p k + drAt m p k
/-- The first k rests are laid. -/
def lfK (m : Me) (p : Int) (k : Nat) : Me := ⟨if 0 < k then m.lea - dr m.lea p else 0, if 1 < k then m.tin - dr m.tin p else 0, if 2 < k then m.ant - dr m.ant p else 0⟩
theorem lfK_succ (m : Me) (p : Int) {k : Nat} (h : k < 3) : (intsZ (lfK m p k).zs).set k (.int .i64 (m.zs.getD k 0 - drAt m p k)) = intsZ (lfK m p (k + 1)).zs := by
  have hc : k = 0 ∨ k = 1 ∨ k = 2 := by omega
  rcases hc with rfl | rfl | rfl <;> rfl
theorem zsK_at (m : Me) {k : Nat} (h : k < 3) : ∃ v, (intsZ m.zs)[k]? = some v := by
  have hc : k = 0 ∨ k = 1 ∨ k = 2 := by omega
  rcases hc with rfl | rfl | rfl <;> exact ⟨_, rfl⟩
theorem zs_getD (s : Me) {k : Nat} (h : k < s.zs.length) : s.zs[k] = s.zs.getD k 0 := by rw [List.getD_eq_getElem?_getD, List.getElem?_eq_getElem h]; rfl
theorem zs_good {s : Me} (h : goodM s = true) (k : Nat) (hk : k < 3) : 0 ≤ s.zs.getD k 0 ∧ s.zs.getD k 0 ≤ 1000000 := by
  obtain ⟨b0, b1, b2⟩ := goodM_bounds h
  have hc : k = 0 ∨ k = 1 ∨ k = 2 := by omega
  rcases hc with rfl | rfl | rfl
  · exact b0
  · exact b1
  · exact b2
theorem own_put {w : World} {b : Nat} {t : TypeId} {cs : List Value} (h : Own w b t cs) (i : Nat) (v : Value) : Own (w.setCell ⟨b, i, none⟩ v) b t (cs.set i v) := by
  have h2 := heap_set (i := i) h v
  unfold Own
  rw [h2]
  simp
theorem own_me {w : World} {b : Nat} {t : TypeId} {s : Me} (h : Own w b t (intsZ s.zs)) : MeAt w b t s := h
theorem drM_full (m : Me) (p : Int) : lfK m p 3 = leftM m p := rfl

set_option maxRecDepth 100000 in
set_option maxHeartbeats 1000000 in
theorem implDross_any (s : Me) (p : Int) (w : World) :
    Calls Try.prog 26 #[.agg #[.int .i64 s.lea, .int .i64 s.tin, .int .i64 s.ant], .int .i64 p] w fun e w' => e = .returned (.tuple #[.agg #[.int .i64 (drossM s p).lea, .int .i64 (drossM s p).tin, .int .i64 (drossM s p).ant], .int .i64 (drossN s p), .bool (drossB s p)]) ∧ Below w.heap.size w w' := by
  have HX : Hid (MeAt ((w.alloc (.cells #[.int .i64 s.lea, .int .i64 s.tin, .int .i64 s.ant] 25)).alloc (.cells #[.int .i64 0, .int .i64 0, .int .i64 0] 25)) w.heap.size 25 s) := Lib.hid ((MeAt.new w _ s).alloc _)
  have HZ : Hid (MeAt ((w.alloc (.cells #[.int .i64 s.lea, .int .i64 s.tin, .int .i64 s.ant] 25)).alloc (.cells #[.int .i64 0, .int .i64 0, .int .i64 0] 25)) (w.heap.size + 1) 25 zMe) := Lib.hid (heap_alloc2_new _ _ _)
  have HA : Hid (Below w.heap.size w ((w.alloc (.cells #[.int .i64 s.lea, .int .i64 s.tin, .int .i64 s.ant] 25)).alloc (.cells #[.int .i64 0, .int .i64 0, .int .i64 0] 25))) := Lib.hid (((Below.refl _ _).alloc (Nat.le_refl _) _).alloc (by simp) _)
  go_enter Try.func26, Try.ntmps26
  go_wp2_with fail
  refine (implIsMelt_any s _).mono ?_
  rintro e w1 ⟨rfl, hb⟩
  have HB : Hid (Below w.heap.size w w1) := Lib.hid (HA.out.trans (hb.mono HA.out.size))
  have HX1 := Lib.hid (HX.out.next hb)
  have HZ1 := Lib.hid (HZ.out.next hb)
  clear hb HX HZ HA
  obtain ⟨h0, h1, h2⟩ := HX1.out.cells
  have hf0 := HX1.out.free 0; have hf1 := HX1.out.free 1; have hf2 := HX1.out.free 2
  obtain ⟨z0, z1, z2⟩ := HZ1.out.cells
  simp only [zMe] at z0 z1 z2
  have zf0 := HZ1.out.free 0; have zf1 := HZ1.out.free 1; have zf2 := HZ1.out.free 2
  have hbl := HZ1.out.lt
  have hbl' : w.heap.size < w1.heap.size := by omega
  cases hg : goodM s
  · have HV := Lib.hid (dross_no1 (p := p) hg)
    clear hg
    go_wp2
    refine bodyPost_ret (v := .tuple #[.agg #[.int .i64 zMe.lea, .int .i64 zMe.tin, .int .i64 zMe.ant], .int .i64 0, .bool false]) (by simp [results, Try.results26, go_sem, z0, z1, z2, zf0, zf1, zf2, h0, h1, h2, hf0, hf1, hf2, zMe, leftM]) rfl ⟨ret_mnb (a := zMe) (a' := drossM s p) HV.out.1.symm HV.out.2.1.symm HV.out.2.2.symm, by repeat (first | (with_reducible exact HB.out) | (refine Below.setCell ?_ (by first | (simp; done) | (simp; omega)) _) | (refine Below.drew ?_) | (refine Below.alloc ?_ (by first | (simp; done) | (simp; omega)) _))⟩
  have HG := Lib.hid hg; clear hg
  rcases (by omega : (0 ≤ p ∧ p ≤ 100) ∨ p < 0 ∨ (0 ≤ p ∧ 100 < p)) with ⟨p0, p1⟩ | p0 | ⟨p0, p1⟩
  rotate_left
  · have HV := Lib.hid (dross_no2 (m := s) (p := p) (by simp [inB]; omega))
    go_wp2
    refine bodyPost_ret (v := .tuple #[.agg #[.int .i64 zMe.lea, .int .i64 zMe.tin, .int .i64 zMe.ant], .int .i64 0, .bool false]) (by simp [results, Try.results26, go_sem, z0, z1, z2, zf0, zf1, zf2, h0, h1, h2, hf0, hf1, hf2, zMe, leftM]) rfl ⟨ret_mnb (a := zMe) (a' := drossM s p) HV.out.1.symm HV.out.2.1.symm HV.out.2.2.symm, by repeat (first | (with_reducible exact HB.out) | (refine Below.setCell ?_ (by first | (simp; done) | (simp; omega)) _) | (refine Below.drew ?_) | (refine Below.alloc ?_ (by first | (simp; done) | (simp; omega)) _))⟩
  · have HV := Lib.hid (dross_no2 (m := s) (p := p) (by simp [inB]; omega))
    go_wp2
    refine bodyPost_ret (v := .tuple #[.agg #[.int .i64 zMe.lea, .int .i64 zMe.tin, .int .i64 zMe.ant], .int .i64 0, .bool false]) (by simp [results, Try.results26, go_sem, z0, z1, z2, zf0, zf1, zf2, h0, h1, h2, hf0, hf1, hf2, zMe, leftM]) rfl ⟨ret_mnb (a := zMe) (a' := drossM s p) HV.out.1.symm HV.out.2.1.symm HV.out.2.2.symm, by repeat (first | (with_reducible exact HB.out) | (refine Below.setCell ?_ (by first | (simp; done) | (simp; omega)) _) | (refine Below.drew ?_) | (refine Below.alloc ?_ (by first | (simp; done) | (simp; omega)) _))⟩
  have HV := Lib.hid (dross_yes HG.out (p := p) (by simp [inB, p0, p1]))
  obtain ⟨w2, hw2⟩ : ∃ x : World, x = w1.alloc (.cells #[.int .i64 0, .int .i64 0, .int .i64 0] 51) := ⟨_, rfl⟩
  have hb2 : Below w1.heap.size w1 w2 := by rw [hw2]; exact (Below.refl _ _).alloc (Nat.le_refl _) _
  have HO2 : Hid (Own w2 w1.heap.size 51 (intsZ (lfK s p 0).zs)) := Lib.hid (show Own _ _ _ _ by rw [hw2]; exact heap_new _ _)
  have HB2 : Hid (Below w.heap.size w w2) := Lib.hid (HB.out.trans (hb2.mono HB.out.size))
  have HX2 := Lib.hid (HX1.out.next hb2)
  have HZ2 := Lib.hid (HZ1.out.next hb2)
  have HLT : Hid (w.heap.size + 1 < w1.heap.size) := Lib.hid hbl
  have HW2 := Lib.hid hw2
  clear hb2 hw2 HX1 HZ1 HB z0 z1 z2 zf0 zf1 zf2
  go_wp2_with fail
  rw [← HW2.out]
  refine (gramsBy_any s _).mono ?_
  rintro e w3 ⟨rfl, hb3⟩
  have HB3 : Hid (Below w.heap.size w w3) := Lib.hid (HB2.out.trans (hb3.mono HB2.out.size))
  have HZ3 := Lib.hid (HZ2.out.next hb3)
  have HO3 := Lib.hid (HO2.out.below hb3 HO2.out.lt)
  clear hb3 h0 h1 h2 hf0 hf1 hf2 hbl hbl' HX2 HZ2 HO2 HB2 HW2
  obtain ⟨g, hg⟩ : ∃ g, g = w1.heap.size := ⟨_, rfl⟩
  rw [← hg] at HO3 HLT ⊢
  clear hg
  go_wp2
  go_loopw [8, 26] (fun q i wr => ∃ k : Nat, k ≤ 3 ∧ i = .int .i64 k ∧ q = .int .i64 (sumD s p k) ∧ (0 ≤ sumD s p k ∧ sumD s p k ≤ 1000000 * (k : Int)) ∧ Own wr g 51 (intsZ (lfK s p k).zs) ∧ MeAt wr (w.heap.size + 1) 25 zMe ∧ Below w.heap.size w wr) (fun _ i _ => 3 - (intOf i).toNat)
  case atStart => exact ⟨0, Nat.zero_le _, rfl, rfl, by simp [sumD], HO3.out, HZ3.out, HB3.out⟩
  case round =>
    obtain ⟨k, hk, rfl, rfl, hsm, ho, hz, hb⟩ := hrel
    have HO := Lib.hid ho; have HB := Lib.hid hb; have HZ := Lib.hid hz
    clear ho hb hz HO3 HZ3 HB3
    by_cases hlt : k < 3
    · have hix := run_index3 s k hlt
      obtain ⟨v0, hv0⟩ := zsK_at (lfK s p k) hlt
      have hc0 : wr.cell? ⟨g, k, none⟩ = some v0 := by rw [HO.out.cell]; exact hv0
      have hf0 : wr.frozen? ⟨g, k, none⟩ = false := free_of_heap HO.out k
      have bz := zs_good HG.out k hlt
      have e1 := zs_getD s (k := k) hlt
      rw [e1] at hix
      obtain ⟨q0, d0, d1⟩ := dr_bound bz ⟨p0, p1⟩
      have HST := Lib.hid (lfK_succ s p hlt)
      have HSD : Hid (sumD s p (k + 1) = sumD s p k + dr (s.zs.getD k 0) p) := Lib.hid rfl
      have HSA : Hid (drAt s p k = dr (s.zs.getD k 0) p) := Lib.hid rfl
      have HO' : Hid (Own (wr.setCell ⟨g, k, none⟩ (.int .i64 (s.zs.getD k 0 - dr (s.zs.getD k 0) p))) g 51 (intsZ (lfK s p (k + 1)).zs)) := by
        show Own _ _ _ _
        rw [← HST.out, HSA.out]; exact own_put HO.out _ _
      have HB' : Hid (Below w.heap.size w (wr.setCell ⟨g, k, none⟩ (.int .i64 (s.zs.getD k 0 - dr (s.zs.getD k 0) p)))) := Lib.hid (HB.out.setCell (p := ⟨g, k, none⟩) (by have := HLT.out; show _ ≤ g; omega) _)
      have HZ' : Hid (MeAt (wr.setCell ⟨g, k, none⟩ (.int .i64 (s.zs.getD k 0 - dr (s.zs.getD k 0) p))) (w.heap.size + 1) 25 zMe) := Lib.hid ((Below.heap_setCell _ _ _ _ (by have := HLT.out; show w.heap.size + 1 ≠ g; omega)).trans HZ.out)
      clear hv0 e1
      generalize s.zs.getD k 0 = x at *
      generalize sumD s p k = r at *
      obtain ⟨q1, q2⟩ := q0
      obtain ⟨r1, r2⟩ := hsm
      obtain ⟨bz0, bz1⟩ := bz
      go_wp2_with fail
      refine (divideUp_dr x p _ ⟨q1, q2⟩).mono ?_
      rintro e w' ⟨rfl, rfl⟩
      go_wp2
      go_roundw
      case rel => exact ⟨k + 1, by omega, by go_num, by rw [HSD.out], by rw [HSD.out]; omega, HO'.out, HZ'.out, HB'.out⟩
      case measure => simp [intOf]; omega
    · obtain rfl : k = 3 := by omega
      obtain ⟨h0, h1, h2⟩ := (own_me HO.out).cells
      have hl := (own_me HO.out).lt
      have HSN : Hid (drossN s p = sumD s p 3) := Lib.hid (by rw [HV.out.2.1]; simp [sumD, drAt, Me.zs])
      have HVM : Hid (drossM s p = lfK s p 3) := Lib.hid (HV.out.1)
      generalize sumD s p 3 = r at *
      go_wp2_with fail
      refine (melt_any (lfK s p 3) _).mono ?_
      rintro e w4 ⟨rfl, hb4⟩
      have HB4 : Hid (Below w.heap.size w w4) := Lib.hid (HB.out.trans (hb4.mono HB.out.size))
      have HZ4 := Lib.hid (HZ.out.next hb4)
      clear hb4 h0 h1 h2 hl
      generalize lfK s p 3 = L at *
      obtain ⟨z0, z1, z2⟩ := HZ4.out.cells
      simp only [zMe] at z0 z1 z2
      have zf0 := HZ4.out.free 0; have zf1 := HZ4.out.free 1; have zf2 := HZ4.out.free 2
      have hbl := HZ4.out.lt
      go_wp2
      refine bodyPost_ret (v := .tuple #[.agg #[.int .i64 L.lea, .int .i64 L.tin, .int .i64 L.ant], .int .i64 r, .bool true]) (by simp [results, Try.results26, go_sem, z0, z1, z2, zf0, zf1, zf2]) rfl ⟨ret_mnb (a := L) (a' := drossM s p) HVM.out.symm HSN.out.symm HV.out.2.2.symm, by repeat (first | (with_reducible exact HB4.out) | (refine Below.setCell ?_ (by first | (simp; done) | (simp; omega)) _) | (refine Below.drew ?_) | (refine Below.alloc ?_ (by first | (simp; done) | (simp; omega)) _))⟩
end Go.Proofs.Ytebbgdihifihnaa

/-
  The contract of JoinMelts, in spec and in impl, and of spec.meJoin, spec.meIf, impl.areMelts: each answers what the plain words here say and changes nothing that was there.
-/
import Derived.Test.YtebbgdihifihnaaDoorMdr
namespace Go.Proofs.YtebbgdihifihnaaDoor
open Go.RowKit
set_option linter.unusedVariables false

def joinM (a b : Me) : Me := ⟨a.lea + b.lea, a.tin + b.tin, a.ant + b.ant⟩
def sumM (f : List Me) : Nat → Me
  | 0 => zMe
  | k + 1 => joinM (sumM f k) (f.getD k zMe)
theorem sumM_succ {f : List Me} {k : Nat} (h : k < f.length) : sumM f (k + 1) = joinM (sumM f k) f[k] := by simp [sumM, h]
def goodTo (f : List Me) (k : Nat) : Bool := (f.take k).all goodM
theorem goodTo_succ {f : List Me} {k : Nat} (h : k < f.length) (hg : goodTo f k = true) : goodTo f (k + 1) = goodM f[k] := by
  unfold goodTo at *
  rw [List.take_succ_eq_append_getElem h, List.all_append, hg]; simp
theorem goodTo_no {f : List Me} {k : Nat} (h : k < f.length) (hf : goodM f[k] = false) : f.all goodM = false := by
  rw [List.all_eq_false]
  exact ⟨f[k], List.getElem_mem h, by simp [hf]⟩
theorem goodTo_full {f : List Me} (h : goodTo f f.length = true) : f.all goodM = true := by
  unfold goodTo at h; rwa [List.take_length] at h
theorem goodTo_at {f : List Me} {k : Nat} (h : f.all goodM = true) (hk : k < f.length) : goodM f[k] = true := List.all_eq_true.1 h _ (List.getElem_mem hk)
theorem goodTo_all {f : List Me} (h : f.all goodM = true) (k : Nat) : goodTo f k = true := by
  unfold goodTo
  rw [List.all_eq_true] at *
  exact fun x hx => h x (List.mem_of_mem_take hx)
def InK (m : Me) (k : Nat) : Prop := (0 ≤ m.lea ∧ m.lea ≤ 1000000 * (k : Int)) ∧ (0 ≤ m.tin ∧ m.tin ≤ 1000000 * (k : Int)) ∧ (0 ≤ m.ant ∧ m.ant ≤ 1000000 * (k : Int))
theorem sum_in {f : List Me} : ∀ (k : Nat), k ≤ f.length → goodTo f k = true → InK (sumM f k) k
  | 0, _, _ => by unfold InK sumM zMe; simp
  | k + 1, h, hg => by
    have hk : k < f.length := h
    have h0 : goodTo f k = true := by
      unfold goodTo at *
      rw [List.take_succ_eq_append_getElem hk, List.all_append, Bool.and_eq_true] at hg
      exact hg.1
    have ih := sum_in k (by omega) h0
    rw [goodTo_succ hk h0] at hg
    obtain ⟨b0, b1, b2⟩ := goodM_bounds hg
    rw [sumM_succ hk]
    unfold InK at *
    simp only [joinM]
    omega
theorem small_in {m : Me} {k : Nat} (h : InK m k) (hk : k ≤ 20) : Small m := by
  unfold InK at h; unfold Small; omega
def joinB (f : List Me) : Bool := decide (f.length ≤ 20) && f.all goodM && goodM (sumM f f.length)
def joinV (f : List Me) : Me := if joinB f then sumM f f.length else zMe
theorem join_no1 {f : List Me} (h : ¬ f.length ≤ 20) : joinV f = zMe ∧ joinB f = false := by
  have e : joinB f = false := by unfold joinB; simp [h]
  unfold joinV; rw [e]; exact ⟨rfl, rfl⟩
theorem join_no2 {f : List Me} (h : f.all goodM = false) : joinV f = zMe ∧ joinB f = false := by
  have e : joinB f = false := by unfold joinB; rw [h]; simp
  unfold joinV; rw [e]; exact ⟨rfl, rfl⟩
theorem join_no3 {f : List Me} (h : goodM (sumM f f.length) = false) : joinV f = zMe ∧ joinB f = false := by
  have e : joinB f = false := by unfold joinB; rw [h]; simp
  unfold joinV; rw [e]; exact ⟨rfl, rfl⟩
theorem join_yes {f : List Me} (h : f.length ≤ 20) (h2 : f.all goodM = true) (h3 : goodM (sumM f f.length) = true) : joinV f = sumM f f.length ∧ joinB f = true := by
  have e : joinB f = true := by unfold joinB; rw [h2, h3]; simp [h]
  unfold joinV; rw [e]; exact ⟨rfl, rfl⟩
theorem ret_meb {a a' : Me} {b b' : Bool} (h1 : a = a') (h2 : b = b') : Ending.returned (.tuple #[.agg #[.int .i64 a.lea, .int .i64 a.tin, .int .i64 a.ant], .bool b]) = .returned (.tuple #[.agg #[.int .i64 a'.lea, .int .i64 a'.tin, .int .i64 a'.ant], .bool b']) := by rw [h1, h2]

theorem meJoin_any (s t : Me) (w : World) (hs : Small s) (ht : Small t) :
    Calls Tryd.prog 56 #[.agg #[.int .i64 s.lea, .int .i64 s.tin, .int .i64 s.ant], .agg #[.int .i64 t.lea, .int .i64 t.tin, .int .i64 t.ant]] w fun e w' => e = .returned (.agg #[.int .i64 (joinM s t).lea, .int .i64 (joinM s t).tin, .int .i64 (joinM s t).ant]) ∧ Below w.heap.size w w' := by
  obtain ⟨a0, a1, a2⟩ := s; obtain ⟨b0, b1, b2⟩ := t
  obtain ⟨h1, h2, h3⟩ := hs
  obtain ⟨g1, g2, g3⟩ := ht
  dsimp only at h1 h2 h3 g1 g2 g3
  show Calls Tryd.prog 56 #[.agg #[.int .i64 a0, .int .i64 a1, .int .i64 a2], .agg #[.int .i64 b0, .int .i64 b1, .int .i64 b2]] w _
  go_enter Tryd.func56, Tryd.ntmps56
  go_wp2
  refine bodyPost_ret (v := .agg #[.int .i64 (a0 + b0), .int .i64 (a1 + b1), .int .i64 (a2 + b2)]) (by simp [results, Tryd.results56, go_sem]) rfl ⟨rfl, ?_⟩
  repeat (first | (with_reducible exact Below.refl _ _) | (refine Below.setCell ?_ (by first | (simp; done) | (simp; omega)) _) | (refine Below.alloc ?_ (by first | (simp; done) | (simp; omega)) _))

def ifM (m : Me) : Me := if goodM m then m else zMe
theorem meIf_any (s : Me) (w : World) :
    Calls Tryd.prog 63 #[.agg #[.int .i64 s.lea, .int .i64 s.tin, .int .i64 s.ant]] w fun e w' => e = .returned (.tuple #[.agg #[.int .i64 (ifM s).lea, .int .i64 (ifM s).tin, .int .i64 (ifM s).ant], .bool (goodM s)]) ∧ Below w.heap.size w w' := by
  have HX : Hid (MeAt ((w.alloc (.cells #[.int .i64 s.lea, .int .i64 s.tin, .int .i64 s.ant] 32)).alloc (.cells #[.int .i64 0, .int .i64 0, .int .i64 0] 32)) w.heap.size 32 s) := Lib.hid ((MeAt.new w _ s).alloc _)
  have HZ : Hid (MeAt ((w.alloc (.cells #[.int .i64 s.lea, .int .i64 s.tin, .int .i64 s.ant] 32)).alloc (.cells #[.int .i64 0, .int .i64 0, .int .i64 0] 32)) (w.heap.size + 1) 32 zMe) := Lib.hid (heap_alloc2_new _ _ _)
  have HA : Hid (Below w.heap.size w ((w.alloc (.cells #[.int .i64 s.lea, .int .i64 s.tin, .int .i64 s.ant] 32)).alloc (.cells #[.int .i64 0, .int .i64 0, .int .i64 0] 32))) := Lib.hid (((Below.refl _ _).alloc (Nat.le_refl _) _).alloc (by simp) _)
  go_enter Tryd.func63, Tryd.ntmps63
  go_wp2_with fail
  refine (meGood_any s _).mono ?_
  rintro e w1 ⟨rfl, hb⟩
  have HB : Hid (Below w.heap.size w w1) := Lib.hid (HA.out.trans (hb.mono HA.out.size))
  have HX1 := Lib.hid (HX.out.next hb)
  have HZ1 := Lib.hid (HZ.out.next hb)
  clear hb HX HZ HA
  obtain ⟨h0, h1, h2⟩ := HX1.out.cells
  have hf0 := HX1.out.free 0; have hf1 := HX1.out.free 1; have hf2 := HX1.out.free 2
  obtain ⟨z0, z1, z2⟩ := HZ1.out.cells
  simp only [zMe] at z0 z1 z2
  have zf0 := HZ1.out.free 0; have zf1 := HZ1.out.free 1; have zf2 := HZ1.out.free 2
  have hbl := HZ1.out.lt
  have hbl' : w.heap.size < w1.heap.size := by omega
  cases hg : goodM s
  · have HV : Hid (ifM s = zMe) := Lib.hid (by unfold ifM; rw [hg]; rfl)
    have HG := Lib.hid hg; clear hg
    go_wp2
    refine bodyPost_ret (v := .tuple #[.agg #[.int .i64 zMe.lea, .int .i64 zMe.tin, .int .i64 zMe.ant], .bool false]) (by simp [results, Tryd.results63, go_sem, z0, z1, z2, zf0, zf1, zf2, h0, h1, h2, hf0, hf1, hf2, zMe]) rfl ⟨ret_meb (a := zMe) (a' := (ifM s)) HV.out.symm HG.out.symm, by repeat (first | (with_reducible exact HB.out) | (with_reducible exact Below.refl _ _) | (refine Below.setCell ?_ (by first | (simp; done) | (simp; omega)) _) | (refine Below.drew ?_) | (refine Below.alloc ?_ (by first | (simp; done) | (simp; omega)) _))⟩
  · have HV : Hid (ifM s = s) := Lib.hid (by unfold ifM; rw [hg]; rfl)
    have HG := Lib.hid hg; clear hg
    go_wp2
    refine bodyPost_ret (v := .tuple #[.agg #[.int .i64 s.lea, .int .i64 s.tin, .int .i64 s.ant], .bool true]) (by simp [results, Tryd.results63, go_sem, z0, z1, z2, zf0, zf1, zf2, h0, h1, h2, hf0, hf1, hf2, zMe]) rfl ⟨ret_meb (a := s) (a' := (ifM s)) HV.out.symm HG.out.symm, by repeat (first | (with_reducible exact HB.out) | (with_reducible exact Below.refl _ _) | (refine Below.setCell ?_ (by first | (simp; done) | (simp; omega)) _) | (refine Below.drew ?_) | (refine Below.alloc ?_ (by first | (simp; done) | (simp; omega)) _))⟩

def areB (f : List Me) : Bool := decide (f.length ≤ 20) && f.all goodM
set_option maxRecDepth 100000 in
set_option maxHeartbeats 1000000 in
theorem areMelts_any (f : List Me) (A : Option Addr) (c : Nat) (w : World) (hf : MesIn w A f) (hn : f.length ≤ 1048576) :
    Calls Tryd.prog 80 #[.slice A f.length c] w fun e w' => e = .returned (.bool (areB f)) ∧ Below w.heap.size w w' := by
  have HF := Lib.hid hf; clear hf
  by_cases h20 : f.length ≤ 20
  rotate_left
  · have HV : Hid (areB f = false) := Lib.hid (by unfold areB; simp [h20])
    have h20' : (20 : Int) < (f.length : Int) := by omega
    clear h20
    go_enter Tryd.func80, Tryd.ntmps80
    go_wp2
    go_ret
    exact ⟨ret_bool HV.out.symm, Below.refl _ _⟩
  have h20' : ¬ (20 : Int) < (f.length : Int) := by omega
  go_enter Tryd.func80, Tryd.ntmps80
  go_wp2
  clear h20'
  go_loopw [10] (fun i wr => ∃ k : Nat, k ≤ f.length ∧ i = .int .i64 k ∧ goodTo f k = true ∧ Below w.heap.size w wr) (fun i _ => f.length - (intOf i).toNat)
  case atStart => exact ⟨0, Nat.zero_le _, rfl, rfl, Below.refl _ _⟩
  case round =>
    obtain ⟨k, hk, rfl, hgt, hb⟩ := hrel
    have HGT := Lib.hid hgt; have HB := Lib.hid hb
    clear hgt hb
    by_cases hlt : k < f.length
    · obtain ⟨b, off, rfl, hbl, hc⟩ := HF.out (by omega)
      obtain ⟨hc0, hc1, hc2⟩ := hc k hlt
      clear hc
      rw [← HB.out.cell (p := ⟨b, off + k * 3, none⟩) hbl] at hc0; rw [← HB.out.cell (p := ⟨b, off + k * 3 + 1, none⟩) hbl] at hc1; rw [← HB.out.cell (p := ⟨b, off + k * 3 + 2, none⟩) hbl] at hc2
      have HGS := Lib.hid (goodTo_succ hlt HGT.out)
      have HNO := Lib.hid (fun h => goodTo_no (f := f) (k := k) hlt h)
      generalize f[k] = s at *
      obtain ⟨wb, hwb⟩ : ∃ x : World, x = wr.alloc (.cells #[.int .i64 s.lea, .int .i64 s.tin, .int .i64 s.ant] 32) := ⟨_, rfl⟩
      have HBb : Hid (Below w.heap.size w wb) := Lib.hid (by rw [hwb]; exact HB.out.alloc HB.out.size _)
      have HWB := Lib.hid hwb; clear hwb
      go_wp2_with fail
      rw [← HWB.out]
      refine (implIsMelt_any s _).mono ?_
      rintro e w2 ⟨rfl, hb2⟩
      have HB2 : Hid (Below w.heap.size w w2) := Lib.hid (HBb.out.trans (hb2.mono HBb.out.size))
      clear hb2 HBb HWB hc0 hc1 hc2 HB
      cases hg : goodM s
      · have HV : Hid (areB f = false) := Lib.hid (by unfold areB; rw [HNO.out hg]; simp)
        clear hg
        go_wp2
        go_ret
        exact ⟨ret_bool HV.out.symm, HB2.out⟩
      have HG := Lib.hid hg; clear hg
      go_wp2
      go_roundw
      case rel => exact ⟨k + 1, by omega, by go_num, by rw [HGS.out]; exact HG.out, HB2.out⟩
      case measure => simp [intOf]; omega
    · obtain rfl : k = f.length := by omega
      have HV : Hid (areB f = true) := Lib.hid (by unfold areB; rw [goodTo_full HGT.out]; simp [h20])
      go_wp2
      go_ret
      exact ⟨ret_bool HV.out.symm, HB.out⟩

/-- The first j parts have got what m has. -/
def addK (S m : Me) (j : Nat) : Me := ⟨if 0 < j then S.lea + m.lea else S.lea, if 1 < j then S.tin + m.tin else S.tin, if 2 < j then S.ant + m.ant else S.ant⟩
theorem addK_succ (S m : Me) {j : Nat} (h : j < 3) : (intsZ (addK S m j).zs).set j (.int .i64 (S.zs.getD j 0 + m.zs.getD j 0)) = intsZ (addK S m (j + 1)).zs := by
  have hc : j = 0 ∨ j = 1 ∨ j = 2 := by omega
  rcases hc with rfl | rfl | rfl <;> rfl
theorem addK_at (S m : Me) {j : Nat} (h : j < 3) : (intsZ (addK S m j).zs)[j]? = some (.int .i64 (S.zs.getD j 0)) := by
  have hc : j = 0 ∨ j = 1 ∨ j = 2 := by omega
  rcases hc with rfl | rfl | rfl <;> rfl
theorem addK_zero (S m : Me) : addK S m 0 = S := rfl
theorem addK_full (S m : Me) : addK S m 3 = joinM S m := rfl
theorem small_getD {m : Me} (h : Small m) {k : Nat} (hk : k < 3) : -1000000000 ≤ m.zs.getD k 0 ∧ m.zs.getD k 0 ≤ 1000000000 := by
  have hc : k = 0 ∨ k = 1 ∨ k = 2 := by omega
  rcases hc with rfl | rfl | rfl
  · exact h.1
  · exact h.2.1
  · exact h.2.2
set_option maxRecDepth 100000 in
set_option maxHeartbeats 2000000 in
theorem implJoin_any (f : List Me) (A : Option Addr) (c : Nat) (w : World) (hf : MesIn w A f) (hn : f.length ≤ 1048576) :
    Calls Tryd.prog 58 #[.slice A f.length c] w fun e w' => e = .returned (.tuple #[.agg #[.int .i64 (joinV f).lea, .int .i64 (joinV f).tin, .int .i64 (joinV f).ant], .bool (joinB f)]) ∧ Below w.heap.size w w' := by
  have HF := Lib.hid hf; clear hf
  have HZ0 : Hid (MeAt (w.alloc (.cells #[.int .i64 0, .int .i64 0, .int .i64 0] 32)) w.heap.size 32 zMe) := Lib.hid (MeAt.new _ _ zMe)
  have HA : Hid (Below w.heap.size w (w.alloc (.cells #[.int .i64 0, .int .i64 0, .int .i64 0] 32))) := Lib.hid ((Below.refl _ _).alloc (Nat.le_refl _) _)
  go_enter Tryd.func58, Tryd.ntmps58
  go_wp2_with fail
  refine (areMelts_any f A c _ (HF.out.below HA.out (Nat.le_refl _)) hn).mono ?_
  rintro e w1 ⟨rfl, hb1⟩
  have HB1 : Hid (Below w.heap.size w w1) := Lib.hid (HA.out.trans (hb1.mono HA.out.size))
  have HZ1 := Lib.hid (HZ0.out.next hb1)
  clear hb1 HA HZ0
  cases har : areB f
  · have HV : Hid (joinV f = zMe ∧ joinB f = false) := Lib.hid (by
      unfold areB at har
      rw [Bool.and_eq_false_iff] at har
      rcases har with h | h
      · exact join_no1 (by simpa using h)
      · exact join_no2 h)
    clear har
    obtain ⟨z0, z1, z2⟩ := HZ1.out.cells
    simp only [zMe] at z0 z1 z2
    have zf0 := HZ1.out.free 0; have zf1 := HZ1.out.free 1; have zf2 := HZ1.out.free 2
    have hl := HZ1.out.lt
    go_wp2
    refine bodyPost_ret (v := .tuple #[.agg #[.int .i64 zMe.lea, .int .i64 zMe.tin, .int .i64 zMe.ant], .bool false]) (by simp [results, Tryd.results58, go_sem, z0, z1, z2, zf0, zf1, zf2, zMe]) rfl ⟨ret_meb (a := zMe) (a' := joinV f) HV.out.1.symm HV.out.2.symm, by repeat (first | (with_reducible exact HB1.out) | (with_reducible exact Below.refl _ _) | (refine Below.setCell ?_ (by first | (simp; done) | (simp; omega)) _) | (refine Below.drew ?_) | (refine Below.alloc ?_ (by first | (simp; done) | (simp; omega)) _))⟩
  have har' : f.length ≤ 20 ∧ f.all goodM = true := by unfold areB at har; simpa using har
  obtain ⟨h20, hall⟩ := har'
  have HALL := Lib.hid hall
  clear har hall
  obtain ⟨w2, hw2⟩ : ∃ x : World, x = w1.alloc (.cells #[.int .i64 0, .int .i64 0, .int .i64 0] 66) := ⟨_, rfl⟩
  have HB2 : Hid (Below w.heap.size w w2) := Lib.hid (by rw [hw2]; exact HB1.out.alloc HB1.out.size _)
  have HZ2 : Hid (MeAt w2 w.heap.size 32 zMe) := Lib.hid (by rw [hw2]; exact HZ1.out.alloc _)
  have HO2 : Hid (Own w2 w1.heap.size 66 (intsZ (sumM f 0).zs)) := Lib.hid (by rw [hw2]; exact heap_new _ _)
  have HLT : Hid (w.heap.size < w1.heap.size) := Lib.hid HZ1.out.lt
  have HW2 := Lib.hid hw2
  clear hw2 HB1 HZ1
  obtain ⟨g, hg⟩ : ∃ g, g = w1.heap.size := ⟨_, rfl⟩
  go_wp2
  rw [← HW2.out]
  rw [← hg] at HO2 HLT ⊢
  clear HW2 hg
  go_loopw [16] (fun i wr => ∃ k : Nat, k ≤ f.length ∧ i = .int .i64 k ∧ Own wr g 66 (intsZ (sumM f k).zs) ∧ MeAt wr w.heap.size 32 zMe ∧ Below w.heap.size w wr) (fun i _ => f.length - (intOf i).toNat)
  case atStart => exact ⟨0, Nat.zero_le _, rfl, HO2.out, HZ2.out, HB2.out⟩
  case round =>
    obtain ⟨k, hk, rfl, ho, hz, hb⟩ := hrel
    have HO := Lib.hid ho; have HZ := Lib.hid hz; have HB := Lib.hid hb
    clear ho hz hb HO2 HZ2 HB2
    by_cases hlt : k < f.length
    · obtain ⟨b, off, rfl, hbl, hc⟩ := HF.out (by omega)
      obtain ⟨hc0, hc1, hc2⟩ := hc k hlt
      clear hc
      rw [← HB.out.cell (p := ⟨b, off + k * 3, none⟩) hbl] at hc0; rw [← HB.out.cell (p := ⟨b, off + k * 3 + 1, none⟩) hbl] at hc1; rw [← HB.out.cell (p := ⟨b, off + k * 3 + 2, none⟩) hbl] at hc2
      have HST := Lib.hid (sumM_succ hlt)
      have HSI := Lib.hid (small_in (sum_in k hk (goodTo_all HALL.out k)) (by omega))
      have HSM := Lib.hid (small_of (goodTo_at HALL.out hlt))
      generalize f[k] = s at *
      generalize sumM f k = S at *
      obtain ⟨wb, hwb⟩ : ∃ x : World, x = wr.alloc (.cells #[.int .i64 s.lea, .int .i64 s.tin, .int .i64 s.ant] 32) := ⟨_, rfl⟩
      have HBb : Hid (Below w.heap.size w wb) := Lib.hid (by rw [hwb]; exact HB.out.alloc HB.out.size _)
      have HOb : Hid (Own wb g 66 (intsZ S.zs)) := Lib.hid (by rw [hwb]; exact (HO.out.below ((Below.refl wr.heap.size wr).alloc (Nat.le_refl _) _) HO.out.lt))
      have HZb : Hid (MeAt wb w.heap.size 32 zMe) := Lib.hid (by rw [hwb]; exact HZ.out.alloc _)
      have HWB := Lib.hid hwb; clear hwb
      go_wp2_with fail
      rw [← HWB.out]
      refine (gramsBy_any s _).mono ?_
      rintro e w2 ⟨rfl, hb2⟩
      have HB2 : Hid (Below w.heap.size w w2) := Lib.hid (HBb.out.trans (hb2.mono HBb.out.size))
      have HO2 := Lib.hid (HOb.out.below hb2 HOb.out.lt); have HZ2 := Lib.hid (HZb.out.next hb2)
      clear hb2 HBb HOb HZb HWB hc0 hc1 hc2 HB HO HZ
      go_wp2
      go_loopw [22] (fun i wx => ∃ j : Nat, j ≤ 3 ∧ i = .int .i64 j ∧ Own wx g 66 (intsZ (addK S s j).zs) ∧ MeAt wx w.heap.size 32 zMe ∧ Below w.heap.size w wx) (fun i _ => 3 - (intOf i).toNat)
      case atStart => exact ⟨0, Nat.zero_le _, rfl, HO2.out, HZ2.out, HB2.out⟩
      case round =>
        rename_i wx _ _
        obtain ⟨j, hj, rfl, ho, hz, hb⟩ := hrel
        have HO := Lib.hid ho; have HZ := Lib.hid hz; have HB := Lib.hid hb
        clear ho hz hb HO2 HZ2 HB2
        by_cases hj3 : j < 3
        · have hix := run_index3 s j hj3
          have e1 := zs_getD s (k := j) hj3
          rw [e1] at hix
          have hc0 := (HO.out.cell j).trans (addK_at S s hj3)
          have hf0 := free_of_heap HO.out j
          have p1 := small_getD HSM.out hj3
          have p2 := small_getD HSI.out hj3
          have HAS := Lib.hid (addK_succ S s hj3)
          clear e1
          generalize s.zs.getD j 0 = x at *
          generalize S.zs.getD j 0 = y at *
          have HO' := Lib.hid (own_put HO.out j (.int .i64 (y + x)))
          have HB' := Lib.hid (HB.out.setCell (p := ⟨g, j, none⟩) (by have := HLT.out; show _ ≤ g; omega) (.int .i64 (y + x)))
          have HZ' := Lib.hid ((Below.heap_setCell _ ⟨g, j, none⟩ (.int .i64 (y + x)) w.heap.size (by have := HLT.out; show w.heap.size ≠ g; omega)).trans HZ.out)
          go_wp2
          go_roundw
          case rel => exact ⟨j + 1, by omega, by go_num, by rw [← HAS.out]; exact HO'.out, HZ'.out, HB'.out⟩
          case measure => simp [intOf]; omega
        · obtain rfl : j = 3 := by omega
          go_wp2
          go_roundw
          case rel => exact ⟨k + 1, by omega, by go_num, by rw [HST.out]; exact HO.out, HZ.out, HB.out⟩
          case measure => simp [intOf]; omega
    · obtain rfl : k = f.length := by omega
      have HV : Hid (joinV f = ifM (sumM f f.length) ∧ joinB f = goodM (sumM f f.length)) := Lib.hid (by
        cases hg : goodM (sumM f f.length)
        · have h := join_no3 hg
          rw [h.1, h.2]; unfold ifM; rw [hg]; exact ⟨rfl, rfl⟩
        · have h := join_yes h20 HALL.out hg
          rw [h.1, h.2]; unfold ifM; rw [hg]; exact ⟨rfl, rfl⟩)
      generalize sumM f f.length = S at *
      obtain ⟨y0, y1, y2⟩ := (own_me HO.out).cells
      have hyl := (own_me HO.out).lt
      go_wp2_with fail
      refine (melt_any S _).mono ?_
      rintro e w3 ⟨rfl, hb3⟩
      have HB3 : Hid (Below w.heap.size w w3) := Lib.hid (HB.out.trans (hb3.mono HB.out.size))
      have HZ3 := Lib.hid (HZ.out.next hb3)
      clear hb3 HB HZ HO y0 y1 y2 hyl
      obtain ⟨w4, hw4⟩ : ∃ x : World, x = w3.alloc (.cells #[.int .i64 S.lea, .int .i64 S.tin, .int .i64 S.ant] 32) := ⟨_, rfl⟩
      have HB4 : Hid (Below w.heap.size w w4) := Lib.hid (by rw [hw4]; exact HB3.out.alloc HB3.out.size _)
      have HS4 : Hid (MeAt w4 w3.heap.size 32 S) := Lib.hid (by rw [hw4]; exact MeAt.new _ _ _)
      have HZ4 : Hid (MeAt w4 w.heap.size 32 zMe) := Lib.hid (by rw [hw4]; exact HZ3.out.alloc _)
      have HW4 := Lib.hid hw4; clear hw4
      go_wp2_with fail
      rw [← HW4.out]
      refine (implIsMelt_any S _).mono ?_
      rintro e w5 ⟨rfl, hb5⟩
      have HB5 : Hid (Below w.heap.size w w5) := Lib.hid (HB4.out.trans (hb5.mono HB4.out.size))
      have HS5 := Lib.hid (HS4.out.next hb5); have HZ5 := Lib.hid (HZ4.out.next hb5)
      clear hb5 HB4 HS4 HZ4 HW4 HB3 HZ3
      obtain ⟨y0, y1, y2⟩ := HS5.out.cells
      have hyl := HS5.out.lt
      obtain ⟨z0, z1, z2⟩ := HZ5.out.cells
      simp only [zMe] at z0 z1 z2
      have zf0 := HZ5.out.free 0; have zf1 := HZ5.out.free 1; have zf2 := HZ5.out.free 2
      have hl := HZ5.out.lt
      cases hg : goodM S
      · have HV2 : Hid (joinV f = zMe ∧ joinB f = false) := Lib.hid (by have h := HV.out; unfold ifM at h; rw [hg] at h; exact h)
        clear hg
        go_wp2
        refine bodyPost_ret (v := .tuple #[.agg #[.int .i64 zMe.lea, .int .i64 zMe.tin, .int .i64 zMe.ant], .bool false]) (by simp [results, Tryd.results58, go_sem, z0, z1, z2, zf0, zf1, zf2, zMe]) rfl ⟨ret_meb (a := zMe) (a' := joinV f) HV2.out.1.symm HV2.out.2.symm, by repeat (first | (with_reducible exact HB5.out) | (with_reducible exact Below.refl _ _) | (refine Below.setCell ?_ (by first | (simp; done) | (simp; omega)) _) | (refine Below.drew ?_) | (refine Below.alloc ?_ (by first | (simp; done) | (simp; omega)) _))⟩
      · have HV2 : Hid (joinV f = S ∧ joinB f = true) := Lib.hid (by have h := HV.out; unfold ifM at h; rw [hg] at h; exact h)
        clear hg
        go_wp2
        refine bodyPost_ret (v := .tuple #[.agg #[.int .i64 S.lea, .int .i64 S.tin, .int .i64 S.ant], .bool true]) (by simp [results, Tryd.results58, go_sem, z0, z1, z2, zf0, zf1, zf2]) rfl ⟨ret_meb (a := S) (a' := joinV f) HV2.out.1.symm HV2.out.2.symm, by repeat (first | (with_reducible exact HB5.out) | (with_reducible exact Below.refl _ _) | (refine Below.setCell ?_ (by first | (simp; done) | (simp; omega)) _) | (refine Below.drew ?_) | (refine Below.alloc ?_ (by first | (simp; done) | (simp; omega)) _))⟩
end Go.Proofs.YtebbgdihifihnaaDoor

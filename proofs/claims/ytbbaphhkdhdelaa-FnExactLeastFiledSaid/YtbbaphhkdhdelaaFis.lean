/-
  The contracts of FileStrike, in spec and in impl, of spec.maOf and of the method strike: each answers what the plain words here say and changes nothing that was there.
-/
import Derived.Test.YtbbaphhkdhdelaaCen
import Derived.Test.YtbbaphhkdhdelaaCan
import Derived.Test.YtbbaphhkdhdelaaTail
namespace Go.Proofs.Ytbbaphhkdhdelaa
open Go.RowKit
set_option linter.unusedVariables false

def ofL (l : List Int) : Sk := ⟨l.getD 0 0, l.getD 1 0, l.getD 2 0, l.getD 3 0, l.getD 4 0⟩
theorem ofL_zs {l : List Int} (h : l.length = 5) : (ofL l).zs = l := by
  match l, h with
  | [c0, c1, c2, c3, c4], _ => rfl
/-- The strike with part k less by n. -/
def filK (s : Sk) (k : Nat) (n : Int) : Sk := ofL (s.zs.set k (pt s k - n))
theorem filK_zs (s : Sk) (k : Nat) (n : Int) : (filK s k n).zs = s.zs.set k (pt s k - n) := ofL_zs (by simp [Sk.zs])
def fileB (s : Sk) (p n : Int) : Bool := goodB s && inB 0 4 p && !(p == 2) && inB 1 999 n && goodB (filK s p.toNat n)
def fileV (s : Sk) (p n : Int) : Sk := if fileB s p n then filK s p.toNat n else zSk
theorem file_no {s : Sk} {p n : Int} (h : fileB s p n = false) : zSk = fileV s p n ∧ false = fileB s p n := ⟨by unfold fileV; rw [h]; rfl, h.symm⟩
theorem file_no' {s : Sk} {p n : Int} (h : fileB s p n = false) : fileV s p n = zSk ∧ fileB s p n = false := ⟨by unfold fileV; rw [h]; rfl, h⟩
theorem file_yes' {s : Sk} {p n : Int} (h : fileB s p n = true) : fileV s p n = filK s p.toNat n ∧ fileB s p n = true := ⟨by unfold fileV; rw [h]; rfl, h⟩

set_option maxRecDepth 100000 in
theorem strike_any (u : Sk) (w : World) :
    Calls Try.prog 57 #[.agg #[.int .i64 u.dep, .int .i64 u.lef, .int .i64 u.fac, .int .i64 u.rig, .int .i64 u.foo]] w fun e w' => e = .returned (.agg #[.int .i64 u.dep, .int .i64 u.lef, .int .i64 u.fac, .int .i64 u.rig, .int .i64 u.foo]) ∧ Below w.heap.size w w' := by
  go_enter Try.func57, Try.ntmps57
  go_wp2
  refine bodyPost_ret (v := .agg #[.int .i64 u.dep, .int .i64 u.lef, .int .i64 u.fac, .int .i64 u.rig, .int .i64 u.foo]) (by simp [results, Try.results57, go_sem]) rfl ⟨rfl, ?_⟩
  exact ((Below.refl _ _).alloc (Nat.le_refl _) _).alloc (by simp) _

set_option maxRecDepth 100000 in
theorem maOf_any (u : Sk) (b : Nat) (T : TypeId) (w : World) (h : SkAt w b T u) :
    Calls Try.prog 54 #[.slice (some ⟨b, 0, none⟩) 5 5] w fun e w' => e = .returned (.agg #[.int .i64 u.dep, .int .i64 u.lef, .int .i64 u.fac, .int .i64 u.rig, .int .i64 u.foo]) ∧ Below w.heap.size w w' := by
  obtain ⟨w1, hw1⟩ : ∃ x : World, x = w.alloc (.cells #[.int .i64 0, .int .i64 0, .int .i64 0, .int .i64 0, .int .i64 0] 25) := ⟨_, rfl⟩
  have HA : Hid (Below w.heap.size w w1) := by show Below _ _ _; rw [hw1]; exact (Below.refl _ _).alloc (Nat.le_refl _) _
  have hu : SkAt w1 b T u := by rw [hw1]; exact h.alloc _
  have HZ : Hid (SkAt w1 w.heap.size 25 zSk) := by show SkAt _ _ _ _; rw [hw1]; exact SkAt.new _ _ zSk
  obtain ⟨h0, h1, h2, h3, h4⟩ := hu.kept (B := w1.heap.size) hu.lt
  have HW := Lib.hid hw1
  clear hw1 hu h
  go_enter Try.func54, Try.ntmps54
  go_wp2_with fail
  rw [← HW.out]
  refine region_mid w1.heap.size 16 (by kernel_rfl) (by kernel_rfl) rfl ?_
  simp only [List.take_succ_cons, List.take_zero]
  repeat (go_big_quiet_step (fail))
  refine wpQuiet_nil ?_
  intro w2 hb2 K hK
  have HB := Lib.hid (HA.out.trans (hb2.mono HA.out.size))
  have HZ2 := Lib.hid (HZ.out.next hb2)
  obtain ⟨z0, z1, z2, z3, z4⟩ := HZ2.out.cells; simp only [zSk] at z0 z1 z2 z3 z4; have zf0 := HZ2.out.free 0; have zf1 := HZ2.out.free 1; have zf2 := HZ2.out.free 2; have zf3 := HZ2.out.free 3; have zf4 := HZ2.out.free 4
  have zl := HZ2.out.lt
  clear hb2 h0 h1 h2 h3 h4 HZ HA HW
  go_simp
  refine hK _ _ ?_
  clear hK
  simp only [List.drop_succ_cons, List.drop_zero]
  refine wpQuiet_nil ?_
  go_wp2
  refine bodyPost_ret (v := .agg #[.int .i64 u.dep, .int .i64 u.lef, .int .i64 u.fac, .int .i64 u.rig, .int .i64 u.foo]) (by simp [results, Try.results54, go_sem, z0, z1, z2, z3, z4, zf0, zf1, zf2, zf3, zf4]) rfl ⟨rfl, ?_⟩
  repeat (first | (with_reducible exact HB.out) | (refine Below.setCell ?_ (by first | (simp; done) | (simp; omega)) _))
theorem inB_no {lo hi a : Int} (h : a < lo ∨ hi < a) : inB lo hi a = false := by simp [inB]; omega
theorem file_nop {s : Sk} {p n : Int} (h : p < 0 ∨ 4 < p) : fileV s p n = zSk ∧ fileB s p n = false := file_no' (by unfold fileB; rw [inB_no h]; simp)
theorem file_non {s : Sk} {p n : Int} (h : n < 1 ∨ 999 < n) : fileV s p n = zSk ∧ fileB s p n = false := file_no' (by unfold fileB; rw [inB_no h]; simp)
theorem pt_good' {s : Sk} (h : goodB s = true) (k : Nat) (hk : k < 5) : 1 ≤ pt s k ∧ pt s k ≤ 999 := by
  obtain ⟨b0, b1, b2, b3, b4⟩ := good_bounds h
  have hc : k = 0 ∨ k = 1 ∨ k = 2 ∨ k = 3 ∨ k = 4 := by omega
  rcases hc with rfl | rfl | rfl | rfl | rfl <;> simp [pt, Sk.zs] <;> omega
theorem file_k {s : Sk} {k : Nat} {n : Int} (h1 : goodB s = true) (h2 : k < 5) (h3 : k ≠ 2) (h4 : inB 1 999 n = true) : fileB s (k : Int) n = goodB (filK s k n) := by
  unfold fileB
  have e1 : inB 0 4 (k : Int) = true := by simp [inB]; omega
  have e2 : ((k : Int) == 2) = false := by simp; omega
  rw [h1, e1, e2, h4, Int.toNat_natCast]; simp

set_option maxRecDepth 100000 in
set_option maxHeartbeats 2000000 in
theorem specFile_any (s : Sk) (p n : Int) (w : World) :
    Calls Try.prog 37 #[.agg #[.int .i64 s.dep, .int .i64 s.lef, .int .i64 s.fac, .int .i64 s.rig, .int .i64 s.foo], .int .i64 p, .int .i64 n] w fun e w' => e = .returned (.tuple #[.agg #[.int .i64 (fileV s p n).dep, .int .i64 (fileV s p n).lef, .int .i64 (fileV s p n).fac, .int .i64 (fileV s p n).rig, .int .i64 (fileV s p n).foo], .bool (fileB s p n)]) ∧ Below w.heap.size w w' := by
  have HX : Hid (SkAt ((w.alloc (.cells #[.int .i64 s.dep, .int .i64 s.lef, .int .i64 s.fac, .int .i64 s.rig, .int .i64 s.foo] 25)).alloc (.cells #[.int .i64 0, .int .i64 0, .int .i64 0, .int .i64 0, .int .i64 0] 25)) w.heap.size 25 s) := Lib.hid ((SkAt.new w _ s).alloc _)
  have HZ : Hid (SkAt ((w.alloc (.cells #[.int .i64 s.dep, .int .i64 s.lef, .int .i64 s.fac, .int .i64 s.rig, .int .i64 s.foo] 25)).alloc (.cells #[.int .i64 0, .int .i64 0, .int .i64 0, .int .i64 0, .int .i64 0] 25)) (w.heap.size + 1) 25 zSk) := Lib.hid (heap_alloc2_new _ _ _)
  have HA : Hid (Below w.heap.size w ((w.alloc (.cells #[.int .i64 s.dep, .int .i64 s.lef, .int .i64 s.fac, .int .i64 s.rig, .int .i64 s.foo] 25)).alloc (.cells #[.int .i64 0, .int .i64 0, .int .i64 0, .int .i64 0, .int .i64 0] 25))) := Lib.hid (((Below.refl _ _).alloc (Nat.le_refl _) _).alloc (by simp) _)
  go_enter Try.func37, Try.ntmps37
  go_wp2_with fail
  refine (maGood_any s _).mono ?_
  rintro e w1 ⟨rfl, hb1⟩
  have HA1 : Hid (Below w.heap.size w w1) := Lib.hid (HA.out.trans (hb1.mono HA.out.size))
  have HX1 := Lib.hid (HX.out.next hb1)
  have HZ1 := Lib.hid (HZ.out.next hb1)
  clear hb1 HX HZ HA
  obtain ⟨z0, z1, z2, z3, z4⟩ := HZ1.out.cells; simp only [zSk] at z0 z1 z2 z3 z4; have zf0 := HZ1.out.free 0; have zf1 := HZ1.out.free 1; have zf2 := HZ1.out.free 2; have zf3 := HZ1.out.free 3; have zf4 := HZ1.out.free 4; have zl := HZ1.out.lt; have zl' : w.heap.size < w1.heap.size := by omega
  cases hg : goodB s
  · have HV : Hid (fileV s p n = zSk ∧ fileB s p n = false) := Lib.hid (file_no' (by unfold fileB; rw [hg]; rfl))
    clear hg
    go_wp2
    refine bodyPost_ret (v := .tuple #[.agg #[.int .i64 zSk.dep, .int .i64 zSk.lef, .int .i64 zSk.fac, .int .i64 zSk.rig, .int .i64 zSk.foo], .bool false]) (by simp [results, Try.results37, go_sem, z0, z1, z2, z3, z4, zf0, zf1, zf2, zf3, zf4, zSk]) rfl ⟨ret_kb (a := zSk) (a' := fileV s p n) HV.out.1.symm HV.out.2.symm, by repeat (first | (with_reducible exact HA1.out) | (refine Below.setCell ?_ (by first | (simp; done) | (simp; omega)) _))⟩
  have HG := Lib.hid hg; clear hg
  go_wp2_with fail
  refine (l1In_any _ _ _ _).mono ?_
  rintro e w' ⟨rfl, rfl⟩
  cases hp : inB 0 4 p
  · have HV : Hid (fileV s p n = zSk ∧ fileB s p n = false) := Lib.hid (file_no' (by unfold fileB; rw [HG.out, hp]; rfl))
    clear hp
    go_wp2
    refine bodyPost_ret (v := .tuple #[.agg #[.int .i64 zSk.dep, .int .i64 zSk.lef, .int .i64 zSk.fac, .int .i64 zSk.rig, .int .i64 zSk.foo], .bool false]) (by simp [results, Try.results37, go_sem, z0, z1, z2, z3, z4, zf0, zf1, zf2, zf3, zf4, zSk]) rfl ⟨ret_kb (a := zSk) (a' := fileV s p n) HV.out.1.symm HV.out.2.symm, by repeat (first | (with_reducible exact HA1.out) | (refine Below.setCell ?_ (by first | (simp; done) | (simp; omega)) _))⟩
  have hpr : 0 ≤ p ∧ p ≤ 4 := by simpa [inB] using hp
  clear hp
  obtain ⟨k, rfl⟩ := Int.eq_ofNat_of_zero_le hpr.1
  have hk : k < 5 := by omega
  clear hpr
  by_cases h2 : k = 2
  · have HV : Hid (fileV s (k : Int) n = zSk ∧ fileB s (k : Int) n = false) := Lib.hid (file_no' (by unfold fileB; subst h2; simp))
    have e2 : ((k : Int) == 2) = true := by simp; omega
    clear h2
    go_wp2
    refine bodyPost_ret (v := .tuple #[.agg #[.int .i64 zSk.dep, .int .i64 zSk.lef, .int .i64 zSk.fac, .int .i64 zSk.rig, .int .i64 zSk.foo], .bool false]) (by simp [results, Try.results37, go_sem, z0, z1, z2, z3, z4, zf0, zf1, zf2, zf3, zf4, zSk]) rfl ⟨ret_kb (a := zSk) (a' := fileV s (k : Int) n) HV.out.1.symm HV.out.2.symm, by repeat (first | (with_reducible exact HA1.out) | (refine Below.setCell ?_ (by first | (simp; done) | (simp; omega)) _))⟩
  have e2 : ((k : Int) == 2) = false := by simp; omega
  have H2 := Lib.hid h2; clear h2
  go_wp2_with fail
  refine (l1In_any _ _ _ _).mono ?_
  rintro e w' ⟨rfl, rfl⟩
  cases hn : inB 1 999 n
  · have HV : Hid (fileV s (k : Int) n = zSk ∧ fileB s (k : Int) n = false) := Lib.hid (file_no' (by unfold fileB; rw [hn]; simp))
    clear hn
    go_wp2
    refine bodyPost_ret (v := .tuple #[.agg #[.int .i64 zSk.dep, .int .i64 zSk.lef, .int .i64 zSk.fac, .int .i64 zSk.rig, .int .i64 zSk.foo], .bool false]) (by simp [results, Try.results37, go_sem, z0, z1, z2, z3, z4, zf0, zf1, zf2, zf3, zf4, zSk]) rfl ⟨ret_kb (a := zSk) (a' := fileV s (k : Int) n) HV.out.1.symm HV.out.2.symm, by repeat (first | (with_reducible exact HA1.out) | (refine Below.setCell ?_ (by first | (simp; done) | (simp; omega)) _))⟩
  have HK : Hid (fileB s (k : Int) n = goodB (filK s k n)) := Lib.hid (file_k HG.out hk H2.out hn)
  have hnr : 1 ≤ n ∧ n ≤ 999 := by simpa [inB] using hn
  obtain ⟨n1, n2⟩ := hnr
  have hpt := pt_good' HG.out k hk
  clear hn
  obtain ⟨x0, x1, x2, x3, x4⟩ := HX1.out.cells
  clear z0 z1 z2 z3 z4 zf0 zf1 zf2 zf3 zf4 zl zl'
  have hxl := HX1.out.lt
  go_wp2_with fail
  refine (maParts_any s _).mono ?_
  rintro e w2 ⟨b, rfl, hb2, hbge, ho2⟩
  have HA2 : Hid (Below w.heap.size w w2) := Lib.hid (HA1.out.trans (hb2.mono HA1.out.size))
  have HZ2 := Lib.hid (HZ1.out.next hb2)
  have hge : w.heap.size + 1 < b := Nat.lt_of_lt_of_le HZ1.out.lt hbge
  have hc : w2.cell? ⟨b, k, none⟩ = some (.int .i64 (pt s k)) := ho2.pt hk
  have hf := ho2.free k
  have hl2 := ho2.lt
  obtain ⟨w3, hw3⟩ : ∃ x : World, x = w2.setCell ⟨b, k, none⟩ (.int .i64 (pt s k - n)) := ⟨_, rfl⟩
  have HA3 : Hid (Below w.heap.size w w3) := by show Below _ _ _; rw [hw3]; exact HA2.out.setCell (by show w.heap.size ≤ b; omega) _
  have HZ3 : Hid (SkAt w3 (w.heap.size + 1) 25 zSk) := by show SkAt _ _ _ _; rw [hw3]; exact Own.other HZ2.out (by show w.heap.size + 1 ≠ b; omega) _
  have HO3 : Hid (SkAt w3 b 3 (filK s k n)) := by
    show Own _ _ _ (intsZ (filK s k n).zs)
    rw [hw3, filK_zs]; exact ho2.set k _
  have HYES : Hid (goodB (filK s k n) = true → fileV s (k : Int) n = filK s k n ∧ fileB s (k : Int) n = true) := by
    show _ → _
    intro h
    have h1 := file_yes' (HK.out.trans h)
    rw [Int.toNat_natCast] at h1
    exact h1
  have HW3 := Lib.hid hw3
  clear hw3 hb2 ho2 HZ1 HX1 HA1 x0 x1 x2 x3 x4 hxl hbge
  generalize filK s k n = u at *
  generalize pt s k = x at *
  go_wp2_with fail
  rw [← HW3.out]
  clear hc hf hl2 HA2 HZ2 HW3
  refine (maOf_any u b _ _ HO3.out).mono ?_
  rintro e w4 ⟨rfl, hb4⟩
  have HA4 : Hid (Below w.heap.size w w4) := Lib.hid (HA3.out.trans (hb4.mono HA3.out.size))
  have HZ4 := Lib.hid (HZ3.out.next hb4)
  have HO4 := Lib.hid (HO3.out.next hb4)
  clear hb4 HA3 HZ3 HO3
  go_wp2_with fail
  refine (maGood_any u _).mono ?_
  rintro e w5 ⟨rfl, hb5⟩
  have HA5 : Hid (Below w.heap.size w w5) := Lib.hid (HA4.out.trans (hb5.mono HA4.out.size))
  have HZ5 := Lib.hid (HZ4.out.next hb5)
  have HO5 := Lib.hid (HO4.out.next hb5)
  clear hb5 HA4 HZ4 HO4
  cases hu : goodB u
  · have HV : Hid (fileV s (k : Int) n = zSk ∧ fileB s (k : Int) n = false) := Lib.hid (file_no' (by rw [HK.out, hu]))
    clear hu
    obtain ⟨z0, z1, z2, z3, z4⟩ := HZ5.out.cells; simp only [zSk] at z0 z1 z2 z3 z4; have zf0 := HZ5.out.free 0; have zf1 := HZ5.out.free 1; have zf2 := HZ5.out.free 2; have zf3 := HZ5.out.free 3; have zf4 := HZ5.out.free 4; have zl := HZ5.out.lt; have zl' : w.heap.size < w5.heap.size := by omega
    go_wp2
    refine bodyPost_ret (v := .tuple #[.agg #[.int .i64 zSk.dep, .int .i64 zSk.lef, .int .i64 zSk.fac, .int .i64 zSk.rig, .int .i64 zSk.foo], .bool false]) (by simp [results, Try.results37, go_sem, z0, z1, z2, z3, z4, zf0, zf1, zf2, zf3, zf4, zSk]) rfl ⟨ret_kb (a := zSk) (a' := fileV s (k : Int) n) HV.out.1.symm HV.out.2.symm, by repeat (first | (with_reducible exact HA5.out) | (refine Below.setCell ?_ (by first | (simp; done) | (simp; omega)) _))⟩
  have HU := Lib.hid hu; clear hu
  go_wp2_with fail
  refine (maOf_any u b _ _ HO5.out).mono ?_
  rintro e w6 ⟨rfl, hb6⟩
  have HA6 : Hid (Below w.heap.size w w6) := Lib.hid (HA5.out.trans (hb6.mono HA5.out.size))
  have HZ6 := Lib.hid (HZ5.out.next hb6)
  clear hb6 HA5 HZ5 HO5
  obtain ⟨z0, z1, z2, z3, z4⟩ := HZ6.out.cells; simp only [zSk] at z0 z1 z2 z3 z4; have zf0 := HZ6.out.free 0; have zf1 := HZ6.out.free 1; have zf2 := HZ6.out.free 2; have zf3 := HZ6.out.free 3; have zf4 := HZ6.out.free 4; have zl := HZ6.out.lt; have zl' : w.heap.size < w6.heap.size := by omega
  have HV := Lib.hid (HYES.out HU.out)
  go_wp2
  refine bodyPost_ret (v := .tuple #[.agg #[.int .i64 u.dep, .int .i64 u.lef, .int .i64 u.fac, .int .i64 u.rig, .int .i64 u.foo], .bool true]) (by simp [results, Try.results37, go_sem, z0, z1, z2, z3, z4, zf0, zf1, zf2, zf3, zf4, zSk]) rfl ⟨ret_kb (a := u) (a' := fileV s (k : Int) n) HV.out.1.symm HV.out.2.symm, by repeat (first | (with_reducible exact HA6.out) | (refine Below.setCell ?_ (by first | (simp; done) | (simp; omega)) _))⟩

set_option maxRecDepth 100000 in
set_option maxHeartbeats 2000000 in
theorem implFile_any (s : Sk) (p n : Int) (w : World) :
    Calls Try.prog 38 #[.agg #[.int .i64 s.dep, .int .i64 s.lef, .int .i64 s.fac, .int .i64 s.rig, .int .i64 s.foo], .int .i64 p, .int .i64 n] w fun e w' => e = .returned (.tuple #[.agg #[.int .i64 (fileV s p n).dep, .int .i64 (fileV s p n).lef, .int .i64 (fileV s p n).fac, .int .i64 (fileV s p n).rig, .int .i64 (fileV s p n).foo], .bool (fileB s p n)]) ∧ Below w.heap.size w w' := by
  have HX : Hid (SkAt ((w.alloc (.cells #[.int .i64 s.dep, .int .i64 s.lef, .int .i64 s.fac, .int .i64 s.rig, .int .i64 s.foo] 25)).alloc (.cells #[.int .i64 0, .int .i64 0, .int .i64 0, .int .i64 0, .int .i64 0] 25)) w.heap.size 25 s) := Lib.hid ((SkAt.new w _ s).alloc _)
  have HZ : Hid (SkAt ((w.alloc (.cells #[.int .i64 s.dep, .int .i64 s.lef, .int .i64 s.fac, .int .i64 s.rig, .int .i64 s.foo] 25)).alloc (.cells #[.int .i64 0, .int .i64 0, .int .i64 0, .int .i64 0, .int .i64 0] 25)) (w.heap.size + 1) 25 zSk) := Lib.hid (heap_alloc2_new _ _ _)
  have HA : Hid (Below w.heap.size w ((w.alloc (.cells #[.int .i64 s.dep, .int .i64 s.lef, .int .i64 s.fac, .int .i64 s.rig, .int .i64 s.foo] 25)).alloc (.cells #[.int .i64 0, .int .i64 0, .int .i64 0, .int .i64 0, .int .i64 0] 25))) := Lib.hid (((Below.refl _ _).alloc (Nat.le_refl _) _).alloc (by simp) _)
  go_enter Try.func38, Try.ntmps38
  go_wp2_with fail
  refine (implIsStrike_any s _).mono ?_
  rintro e w1 ⟨rfl, hb1⟩
  have HA1 : Hid (Below w.heap.size w w1) := Lib.hid (HA.out.trans (hb1.mono HA.out.size))
  have HX1 := Lib.hid (HX.out.next hb1)
  have HZ1 := Lib.hid (HZ.out.next hb1)
  clear hb1 HX HZ HA
  obtain ⟨z0, z1, z2, z3, z4⟩ := HZ1.out.cells; simp only [zSk] at z0 z1 z2 z3 z4; have zf0 := HZ1.out.free 0; have zf1 := HZ1.out.free 1; have zf2 := HZ1.out.free 2; have zf3 := HZ1.out.free 3; have zf4 := HZ1.out.free 4; have zl := HZ1.out.lt; have zl' : w.heap.size < w1.heap.size := by omega
  cases hg : goodB s
  · have HV : Hid (fileV s p n = zSk ∧ fileB s p n = false) := Lib.hid (file_no' (by unfold fileB; rw [hg]; rfl))
    clear hg
    go_wp2
    refine bodyPost_ret (v := .tuple #[.agg #[.int .i64 zSk.dep, .int .i64 zSk.lef, .int .i64 zSk.fac, .int .i64 zSk.rig, .int .i64 zSk.foo], .bool false]) (by simp [results, Try.results38, go_sem, z0, z1, z2, z3, z4, zf0, zf1, zf2, zf3, zf4, zSk]) rfl ⟨ret_kb (a := zSk) (a' := fileV s p n) HV.out.1.symm HV.out.2.symm, by repeat (first | (with_reducible exact HA1.out) | (refine Below.setCell ?_ (by first | (simp; done) | (simp; omega)) _))⟩
  have HG := Lib.hid hg; clear hg
  rcases (by omega : (0 ≤ p ∧ p < 5) ∨ p < 0 ∨ (0 ≤ p ∧ 5 ≤ p)) with ⟨hp1, hp2⟩ | hp1 | ⟨hp1, hp2⟩
  rotate_left
  · have HV : Hid (fileV s p n = zSk ∧ fileB s p n = false) := Lib.hid (file_nop (by omega))
    go_wp2
    refine bodyPost_ret (v := .tuple #[.agg #[.int .i64 zSk.dep, .int .i64 zSk.lef, .int .i64 zSk.fac, .int .i64 zSk.rig, .int .i64 zSk.foo], .bool false]) (by simp [results, Try.results38, go_sem, z0, z1, z2, z3, z4, zf0, zf1, zf2, zf3, zf4, zSk]) rfl ⟨ret_kb (a := zSk) (a' := fileV s p n) HV.out.1.symm HV.out.2.symm, by repeat (first | (with_reducible exact HA1.out) | (refine Below.setCell ?_ (by first | (simp; done) | (simp; omega)) _))⟩
  · have HV : Hid (fileV s p n = zSk ∧ fileB s p n = false) := Lib.hid (file_nop (by omega))
    go_wp2
    refine bodyPost_ret (v := .tuple #[.agg #[.int .i64 zSk.dep, .int .i64 zSk.lef, .int .i64 zSk.fac, .int .i64 zSk.rig, .int .i64 zSk.foo], .bool false]) (by simp [results, Try.results38, go_sem, z0, z1, z2, z3, z4, zf0, zf1, zf2, zf3, zf4, zSk]) rfl ⟨ret_kb (a := zSk) (a' := fileV s p n) HV.out.1.symm HV.out.2.symm, by repeat (first | (with_reducible exact HA1.out) | (refine Below.setCell ?_ (by first | (simp; done) | (simp; omega)) _))⟩
  obtain ⟨k, rfl⟩ := Int.eq_ofNat_of_zero_le hp1
  have hk : k < 5 := by omega
  by_cases h2 : k = 2
  · have HV : Hid (fileV s (k : Int) n = zSk ∧ fileB s (k : Int) n = false) := Lib.hid (file_no' (by unfold fileB; subst h2; simp))
    have e2 : ((k : Int) == 2) = true := by simp; omega
    clear h2
    go_wp2
    refine bodyPost_ret (v := .tuple #[.agg #[.int .i64 zSk.dep, .int .i64 zSk.lef, .int .i64 zSk.fac, .int .i64 zSk.rig, .int .i64 zSk.foo], .bool false]) (by simp [results, Try.results38, go_sem, z0, z1, z2, z3, z4, zf0, zf1, zf2, zf3, zf4, zSk]) rfl ⟨ret_kb (a := zSk) (a' := fileV s (k : Int) n) HV.out.1.symm HV.out.2.symm, by repeat (first | (with_reducible exact HA1.out) | (refine Below.setCell ?_ (by first | (simp; done) | (simp; omega)) _))⟩
  have e2 : ((k : Int) == 2) = false := by simp; omega
  have H2 := Lib.hid h2; clear h2
  rcases (by omega : (1 ≤ n ∧ n ≤ 999) ∨ n < 1 ∨ (1 ≤ n ∧ 999 < n)) with ⟨n1, n2⟩ | n1 | ⟨n1, n2⟩
  rotate_left
  · have HV : Hid (fileV s (k : Int) n = zSk ∧ fileB s (k : Int) n = false) := Lib.hid (file_non (by omega))
    go_wp2
    refine bodyPost_ret (v := .tuple #[.agg #[.int .i64 zSk.dep, .int .i64 zSk.lef, .int .i64 zSk.fac, .int .i64 zSk.rig, .int .i64 zSk.foo], .bool false]) (by simp [results, Try.results38, go_sem, z0, z1, z2, z3, z4, zf0, zf1, zf2, zf3, zf4, zSk]) rfl ⟨ret_kb (a := zSk) (a' := fileV s (k : Int) n) HV.out.1.symm HV.out.2.symm, by repeat (first | (with_reducible exact HA1.out) | (refine Below.setCell ?_ (by first | (simp; done) | (simp; omega)) _))⟩
  · have HV : Hid (fileV s (k : Int) n = zSk ∧ fileB s (k : Int) n = false) := Lib.hid (file_non (by omega))
    go_wp2
    refine bodyPost_ret (v := .tuple #[.agg #[.int .i64 zSk.dep, .int .i64 zSk.lef, .int .i64 zSk.fac, .int .i64 zSk.rig, .int .i64 zSk.foo], .bool false]) (by simp [results, Try.results38, go_sem, z0, z1, z2, z3, z4, zf0, zf1, zf2, zf3, zf4, zSk]) rfl ⟨ret_kb (a := zSk) (a' := fileV s (k : Int) n) HV.out.1.symm HV.out.2.symm, by repeat (first | (with_reducible exact HA1.out) | (refine Below.setCell ?_ (by first | (simp; done) | (simp; omega)) _))⟩
  have HK : Hid (fileB s (k : Int) n = goodB (filK s k n)) := Lib.hid (file_k HG.out hk H2.out (by simp [inB, n1, n2]))
  have HYES : Hid (goodB (filK s k n) = true → fileV s (k : Int) n = filK s k n ∧ fileB s (k : Int) n = true) := by
    show _ → _
    intro h
    have h1 := file_yes' (HK.out.trans h)
    rw [Int.toNat_natCast] at h1
    exact h1
  obtain ⟨⟨c0, d0⟩, ⟨c1, d1⟩, ⟨c2, d2⟩, ⟨c3, d3⟩, c4, d4⟩ := good_bounds HG.out
  obtain ⟨x0, x1, x2, x3, x4⟩ := HX1.out.cells
  clear z0 z1 z2 z3 z4 zf0 zf1 zf2 zf3 zf4 zl zl'
  have hxl := HX1.out.lt
  obtain ⟨u, hu⟩ : ∃ u, u = filK s k n := ⟨_, rfl⟩
  have HS : Hid (∀ W, Calls Try.prog 57 #[.agg #[.int .i64 (filK s k n).dep, .int .i64 (filK s k n).lef, .int .i64 (filK s k n).fac, .int .i64 (filK s k n).rig, .int .i64 (filK s k n).foo]] W fun e w' => e = .returned (.agg #[.int .i64 u.dep, .int .i64 u.lef, .int .i64 u.fac, .int .i64 u.rig, .int .i64 u.foo]) ∧ Below W.heap.size W w') := by
    show ∀ W, _
    subst hu
    exact fun W => strike_any _ W
  rw [← hu] at HYES HK
  clear hu
  go_wp2_with fail
  refine (numberParts_any s _).mono ?_
  rintro e w2 ⟨rfl, hb2⟩
  have HA2 : Hid (Below w.heap.size w w2) := Lib.hid (HA1.out.trans (hb2.mono HA1.out.size))
  have HZ2 := Lib.hid (HZ1.out.next hb2)
  have hzl := HZ2.out.lt
  have HK4 : Hid (k = 0 ∨ k = 1 ∨ k = 3 ∨ k = 4) := by have := H2.out; show _ ∨ _; omega
  clear hb2 HZ1 HX1 HA1 x0 x1 x2 x3 x4 hxl hk hp1 hp2 e2 H2
  rcases HK4.out with rfl | rfl | rfl | rfl
  all_goals
    clear HK4
    go_wp2_with fail
    refine (HS.out _).mono ?_
    rintro e w4 ⟨rfl, hb4⟩
    have HA4 : Hid (Below w.heap.size w w4) := Lib.hid ((HA2.out.alloc HA2.out.size _).trans (hb4.mono (HA2.out.alloc HA2.out.size _).size))
    have HZ4 := Lib.hid ((HZ2.out.alloc _).next hb4)
    obtain ⟨w5, hw5⟩ : ∃ x : World, x = w4.alloc (.cells #[.int .i64 u.dep, .int .i64 u.lef, .int .i64 u.fac, .int .i64 u.rig, .int .i64 u.foo] 25) := ⟨_, rfl⟩
    have HA5 : Hid (Below w.heap.size w w5) := by show Below _ _ _; rw [hw5]; exact HA4.out.alloc HA4.out.size _
    have HZ5 : Hid (SkAt w5 (w.heap.size + 1) 25 zSk) := by show SkAt _ _ _ _; rw [hw5]; exact HZ4.out.alloc _
    have HU5 : Hid (SkAt w5 w4.heap.size 25 u) := by show SkAt _ _ _ _; rw [hw5]; exact SkAt.new _ _ _
    have HLT : Hid (w.heap.size + 1 < w4.heap.size) := Lib.hid HZ4.out.lt
    have HW5 := Lib.hid hw5
    clear hb4 hw5 HS HA2 HZ2 hzl HA4 HZ4
    go_wp2_with fail
    rw [← HW5.out]
    refine (implIsStrike_any u _).mono ?_
    rintro e w6 ⟨rfl, hb6⟩
    have HA6 : Hid (Below w.heap.size w w6) := Lib.hid (HA5.out.trans (hb6.mono HA5.out.size))
    have HZ6 := Lib.hid (HZ5.out.next hb6)
    have HU6 := Lib.hid (HU5.out.next hb6)
    clear hb6 HA5 HZ5 HU5 HW5
    obtain ⟨z0, z1, z2, z3, z4⟩ := HZ6.out.cells; simp only [zSk] at z0 z1 z2 z3 z4; have zf0 := HZ6.out.free 0; have zf1 := HZ6.out.free 1; have zf2 := HZ6.out.free 2; have zf3 := HZ6.out.free 3; have zf4 := HZ6.out.free 4; have zl := HZ6.out.lt; have zl' : w.heap.size < w6.heap.size := by omega
    cases hgu : goodB u
    · have HV := Lib.hid (file_no' (HK.out.trans hgu))
      clear hgu
      go_wp2
      refine bodyPost_ret (v := .tuple #[.agg #[.int .i64 zSk.dep, .int .i64 zSk.lef, .int .i64 zSk.fac, .int .i64 zSk.rig, .int .i64 zSk.foo], .bool false]) (by simp [results, Try.results38, go_sem, z0, z1, z2, z3, z4, zf0, zf1, zf2, zf3, zf4, zSk]) rfl ⟨ret_kb (a := zSk) (a' := fileV s _ n) HV.out.1.symm HV.out.2.symm, by repeat (first | (with_reducible exact HA6.out) | (refine Below.setCell ?_ (by first | (simp; done) | (simp; omega)) _))⟩
    · have HV := Lib.hid (HYES.out hgu)
      obtain ⟨y0, y1, y2, y3, y4⟩ := HU6.out.cells
      have hyl := HU6.out.lt
      have hlt := HLT.out
      clear hgu
      go_wp2
      refine bodyPost_ret (v := .tuple #[.agg #[.int .i64 u.dep, .int .i64 u.lef, .int .i64 u.fac, .int .i64 u.rig, .int .i64 u.foo], .bool true]) (by simp [results, Try.results38, go_sem, z0, z1, z2, z3, z4, zf0, zf1, zf2, zf3, zf4, zSk]) rfl ⟨ret_kb (a := u) (a' := fileV s _ n) HV.out.1.symm HV.out.2.symm, by repeat (first | (with_reducible exact HA6.out) | (refine Below.setCell ?_ (by first | (simp; done) | (simp; omega)) _))⟩
end Go.Proofs.Ytbbaphhkdhdelaa

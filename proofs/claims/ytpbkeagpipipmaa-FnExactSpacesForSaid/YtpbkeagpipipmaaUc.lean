/-
  The contracts of NaturalWidth, WidthBounds and spec.juAsked: each answers what the plain words here say and changes nothing that was there.
-/
import Derived.Test.YtpbkeagpipipmaaUb
namespace Go.Proofs.Ytpbkeagpipipmaa
open Go.RowKit
set_option linter.unusedVariables false

/-- Line and rule are valid. -/
def lrB (l : List Int) (r : Ru) : Bool := juL l && juB r
def askB (l : List Int) (r : Ru) (m : Int) : Bool := lrB l r && inB 1 2000 m
theorem lrB_iff {l : List Int} {r : Ru} : lrB l r = true ↔ GoodL l ∧ GoodR r := by unfold lrB; rw [Bool.and_eq_true, juL_iff, juB_iff]
theorem askB_iff {l : List Int} {r : Ru} {m : Int} : askB l r m = true ↔ GoodL l ∧ GoodR r ∧ 1 ≤ m ∧ m ≤ 2000 := by unfold askB; rw [Bool.and_eq_true, lrB_iff, inB_iff, and_assoc]
def nwV (l : List Int) (r : Ru) : Int := if lrB l r then widV l r.nrm else 0
def wbL (l : List Int) (r : Ru) : Int := if lrB l r then widV l r.lst else 0
def wbH (l : List Int) (r : Ru) : Int := if lrB l r then widV l r.mst else 0
theorem lr_no {l : List Int} {r : Ru} (h : lrB l r = false) : nwV l r = 0 ∧ wbL l r = 0 ∧ wbH l r = 0 := by unfold nwV wbL wbH; rw [h]; exact ⟨rfl, rfl, rfl⟩
theorem lr_yes {l : List Int} {r : Ru} (h : lrB l r = true) : nwV l r = widV l r.nrm ∧ wbL l r = widV l r.lst ∧ wbH l r = widV l r.mst := by unfold nwV wbL wbH; rw [h]; exact ⟨rfl, rfl, rfl⟩
theorem lr_not1 {l : List Int} {r : Ru} (h : juL l = false) : lrB l r = false := by unfold lrB; rw [h]; rfl
theorem lr_not2 {l : List Int} {r : Ru} (h : juB r = false) : lrB l r = false := by unfold lrB; rw [h, Bool.and_false]

set_option maxRecDepth 100000 in
theorem implNaturalWidth_any (l : List Int) (A : Option Addr) (c : Nat) (r : Ru) (w : World) (hf : IntsIn w A l) (hn : l.length ≤ 1048576) : Calls Try.prog 23 #[.slice A l.length c, .agg #[.int .i64 r.lst, .int .i64 r.nrm, .int .i64 r.mst]] w fun e w' => e = .returned (.tuple #[.int .i64 (nwV l r), .bool (lrB l r)]) ∧ Below w.heap.size w w' := by
  have HF := Lib.hid hf; clear hf
  have HA : Hid (Below w.heap.size w (w.alloc (.cells #[.int .i64 r.lst, .int .i64 r.nrm, .int .i64 r.mst] 25))) := Lib.hid ((Below.refl _ _).alloc (Nat.le_refl _) _)
  have HR : Hid (RuAt (w.alloc (.cells #[.int .i64 r.lst, .int .i64 r.nrm, .int .i64 r.mst] 25)) w.heap.size 25 r) := Lib.hid (RuAt.new _ _ _)
  go_enter Try.func23, Try.ntmps23
  go_wp2_with fail
  refine (isLine_any l A c _ (HF.out.below HA.out (Nat.le_refl _)) hn).mono ?_
  rintro e w' ⟨rfl, rfl⟩
  cases hg1 : juL l
  · have H := Lib.hid (lr_not1 (r := r) hg1); clear hg1
    have HV := Lib.hid (lr_no H.out)
    go_wp2
    (refine bodyPost_ret (v := .tuple #[.int .i64 (0), .bool false]) (by simp [results, Try.results23, go_sem]) rfl ?_; exact ⟨ret_ib HV.out.1.symm H.out.symm, HA.out⟩)
  have HG1 := Lib.hid hg1; clear hg1
  go_wp2_with fail
  refine (implIsRule_any r _).mono ?_
  rintro e w1 ⟨rfl, hb1⟩
  have HB1 := Lib.hid (HA.out.trans (hb1.mono HA.out.size))
  have HR1 := Lib.hid (HR.out.next hb1)
  have HF1 := Lib.hid (HF.out.below HB1.out (Nat.le_refl _))
  clear hb1
  cases hg2 : juB r
  · have H := Lib.hid (lr_not2 (l := l) hg2); clear hg2
    have HV := Lib.hid (lr_no H.out)
    go_wp2
    (refine bodyPost_ret (v := .tuple #[.int .i64 (0), .bool false]) (by simp [results, Try.results23, go_sem]) rfl ?_; exact ⟨ret_ib HV.out.1.symm H.out.symm, HB1.out⟩)
  have hy : lrB l r = true := by unfold lrB; rw [HG1.out, hg2]; rfl
  clear hg2
  obtain ⟨gl, gr⟩ := lrB_iff.1 hy
  have HGL := Lib.hid gl; have HGR := Lib.hid gr
  have HV := Lib.hid (lr_yes hy)
  have HY := Lib.hid hy
  clear hy gl gr
  obtain ⟨m0, m1, m2⟩ := HR1.out.cells
  have ml := HR1.out.lt
  have hs := HGR.out.a; have hs1 := HGR.out.b; have hs2 := HGR.out.c; have hs3 := HGR.out.d
  go_wp2_with fail
  refine (widthOfLine_any l A c r.nrm _ HF1.out HGL.out (by omega) (by omega)).mono ?_
  rintro e w' ⟨rfl, rfl⟩
  generalize widV l r.nrm = V at *
  go_wp2
  refine bodyPost_ret (v := .tuple #[.int .i64 (V), .bool true]) (by simp [results, Try.results23, go_sem]) rfl ?_
  exact ⟨ret_ib HV.out.1.symm HY.out.symm, HB1.out⟩
set_option maxRecDepth 100000 in
theorem specNaturalWidth_any (l : List Int) (A : Option Addr) (c : Nat) (r : Ru) (w : World) (hf : IntsIn w A l) (hn : l.length ≤ 1048576) : Calls Try.prog 24 #[.slice A l.length c, .agg #[.int .i64 r.lst, .int .i64 r.nrm, .int .i64 r.mst]] w fun e w' => e = .returned (.tuple #[.int .i64 (nwV l r), .bool (lrB l r)]) ∧ Below w.heap.size w w' := by
  have HF := Lib.hid hf; clear hf
  have HA : Hid (Below w.heap.size w (w.alloc (.cells #[.int .i64 r.lst, .int .i64 r.nrm, .int .i64 r.mst] 25))) := Lib.hid ((Below.refl _ _).alloc (Nat.le_refl _) _)
  have HR : Hid (RuAt (w.alloc (.cells #[.int .i64 r.lst, .int .i64 r.nrm, .int .i64 r.mst] 25)) w.heap.size 25 r) := Lib.hid (RuAt.new _ _ _)
  go_enter Try.func24, Try.ntmps24
  go_wp2_with fail
  refine (juLine_any l A c _ (HF.out.below HA.out (Nat.le_refl _)) hn).mono ?_
  rintro e w' ⟨rfl, rfl⟩
  cases hg1 : juL l
  · have H := Lib.hid (lr_not1 (r := r) hg1); clear hg1
    have HV := Lib.hid (lr_no H.out)
    go_wp2
    (refine bodyPost_ret (v := .tuple #[.int .i64 (0), .bool false]) (by simp [results, Try.results24, go_sem]) rfl ?_; exact ⟨ret_ib HV.out.1.symm H.out.symm, HA.out⟩)
  have HG1 := Lib.hid hg1; clear hg1
  go_wp2_with fail
  refine (juRule_any r _).mono ?_
  rintro e w1 ⟨rfl, hb1⟩
  have HB1 := Lib.hid (HA.out.trans (hb1.mono HA.out.size))
  have HR1 := Lib.hid (HR.out.next hb1)
  have HF1 := Lib.hid (HF.out.below HB1.out (Nat.le_refl _))
  clear hb1
  cases hg2 : juB r
  · have H := Lib.hid (lr_not2 (l := l) hg2); clear hg2
    have HV := Lib.hid (lr_no H.out)
    go_wp2
    (refine bodyPost_ret (v := .tuple #[.int .i64 (0), .bool false]) (by simp [results, Try.results24, go_sem]) rfl ?_; exact ⟨ret_ib HV.out.1.symm H.out.symm, HB1.out⟩)
  have hy : lrB l r = true := by unfold lrB; rw [HG1.out, hg2]; rfl
  clear hg2
  obtain ⟨gl, gr⟩ := lrB_iff.1 hy
  have HGL := Lib.hid gl; have HGR := Lib.hid gr
  have HV := Lib.hid (lr_yes hy)
  have HY := Lib.hid hy
  clear hy gl gr
  obtain ⟨m0, m1, m2⟩ := HR1.out.cells
  have ml := HR1.out.lt
  have hs := HGR.out.a; have hs1 := HGR.out.b; have hs2 := HGR.out.c; have hs3 := HGR.out.d
  have hw1 := HGL.out.one; have hw2 := HGL.out.most
  have hsum := HGL.out.sum
  have hp := gaps_mul (s := r.nrm) (g := (l.length : Int) - 1) (by omega) (by omega) (by omega) (by omega)
  rw [Int.mul_comm] at hp
  have HW := Lib.hid (widV_comm l r.nrm)
  generalize hS : l.sum = S at *
  have hj : ∀ x : KeptW w1.heap.size w1, Calls Try.prog 66 #[.slice A l.length c] x.at_ fun e w' => e = .returned (.int .i64 S) ∧ ∃ y : KeptW w1.heap.size w1, w' = y.at_ := fun x =>
    kept_same x (by rw [← hS]; exact juSum_any l A c x.at_ (HF1.out.below x.below (Nat.le_refl _)) HGL.out)
  obtain ⟨-, k1, -⟩ := HR1.out.kept ml
  clear m0 m1 m2 hS
  go_wp2_with fail
  refine region_kept w1.heap.size (by kernel_rfl) (by kernel_rfl) ?_
  repeat (go_big_quiet_step ((go_at_call 66; exact hj _)))
  refine wpQuiet_nil ?_
  intro w2 hb2
  have HB2 := Lib.hid (HB1.out.trans (hb2.mono HB1.out.size))
  clear hb2 hj k1
  go_wp2
  refine bodyPost_ret (v := .tuple #[.int .i64 (S + ((l.length : Int) - 1) * r.nrm), .bool true]) (by simp [results, Try.results24, go_sem]) rfl ?_
  exact ⟨ret_ib (HW.out.trans HV.out.1.symm) HY.out.symm, HB2.out⟩
set_option maxRecDepth 100000 in
theorem implWidthBounds_any (l : List Int) (A : Option Addr) (c : Nat) (r : Ru) (w : World) (hf : IntsIn w A l) (hn : l.length ≤ 1048576) : Calls Try.prog 21 #[.slice A l.length c, .agg #[.int .i64 r.lst, .int .i64 r.nrm, .int .i64 r.mst]] w fun e w' => e = .returned (.tuple #[.int .i64 (wbL l r), .int .i64 (wbH l r), .bool (lrB l r)]) ∧ Below w.heap.size w w' := by
  have HF := Lib.hid hf; clear hf
  have HA : Hid (Below w.heap.size w (w.alloc (.cells #[.int .i64 r.lst, .int .i64 r.nrm, .int .i64 r.mst] 25))) := Lib.hid ((Below.refl _ _).alloc (Nat.le_refl _) _)
  have HR : Hid (RuAt (w.alloc (.cells #[.int .i64 r.lst, .int .i64 r.nrm, .int .i64 r.mst] 25)) w.heap.size 25 r) := Lib.hid (RuAt.new _ _ _)
  go_enter Try.func21, Try.ntmps21
  go_wp2_with fail
  refine (isLine_any l A c _ (HF.out.below HA.out (Nat.le_refl _)) hn).mono ?_
  rintro e w' ⟨rfl, rfl⟩
  cases hg1 : juL l
  · have H := Lib.hid (lr_not1 (r := r) hg1); clear hg1
    have HV := Lib.hid (lr_no H.out)
    go_wp2
    (refine bodyPost_ret (v := .tuple #[.int .i64 (0), .int .i64 (0), .bool false]) (by simp [results, Try.results21, go_sem]) rfl ?_; exact ⟨ret_iib HV.out.2.1.symm HV.out.2.2.symm H.out.symm, HA.out⟩)
  have HG1 := Lib.hid hg1; clear hg1
  go_wp2_with fail
  refine (implIsRule_any r _).mono ?_
  rintro e w1 ⟨rfl, hb1⟩
  have HB1 := Lib.hid (HA.out.trans (hb1.mono HA.out.size))
  have HR1 := Lib.hid (HR.out.next hb1)
  have HF1 := Lib.hid (HF.out.below HB1.out (Nat.le_refl _))
  clear hb1
  cases hg2 : juB r
  · have H := Lib.hid (lr_not2 (l := l) hg2); clear hg2
    have HV := Lib.hid (lr_no H.out)
    go_wp2
    (refine bodyPost_ret (v := .tuple #[.int .i64 (0), .int .i64 (0), .bool false]) (by simp [results, Try.results21, go_sem]) rfl ?_; exact ⟨ret_iib HV.out.2.1.symm HV.out.2.2.symm H.out.symm, HB1.out⟩)
  have hy : lrB l r = true := by unfold lrB; rw [HG1.out, hg2]; rfl
  clear hg2
  obtain ⟨gl, gr⟩ := lrB_iff.1 hy
  have HGL := Lib.hid gl; have HGR := Lib.hid gr
  have HV := Lib.hid (lr_yes hy)
  have HY := Lib.hid hy
  clear hy gl gr
  obtain ⟨m0, m1, m2⟩ := HR1.out.cells
  have ml := HR1.out.lt
  have hs := HGR.out.a; have hs1 := HGR.out.b; have hs2 := HGR.out.c; have hs3 := HGR.out.d
  have hj : ∀ (s : Int), 0 ≤ s → s ≤ 54 → ∀ x : KeptW w1.heap.size w1, Calls Try.prog 63 #[.slice A l.length c, .int .i64 s] x.at_ fun e w' => e = .returned (.int .i64 (widV l s)) ∧ ∃ y : KeptW w1.heap.size w1, w' = y.at_ := fun s h1 h2 x =>
    kept_same x (widthOfLine_any l A c s x.at_ (HF1.out.below x.below (Nat.le_refl _)) HGL.out h1 h2)
  obtain ⟨k0, -, k2⟩ := HR1.out.kept ml
  clear m0 m1 m2
  have hj1 := hj r.lst (by omega) (by omega)
  have hj2 := hj r.mst (by omega) (by omega)
  clear hj
  generalize widV l r.lst = V at *
  generalize widV l r.mst = V' at *
  go_wp2_with fail
  refine region_kept w1.heap.size (by kernel_rfl) (by kernel_rfl) ?_
  repeat (go_big_quiet_step (fail))
  go_big_quiet_step ((go_at_call 63; exact hj1 _))
  repeat (go_big_quiet_step (fail))
  go_big_quiet_step ((go_at_call 63; exact hj2 _))
  repeat (go_big_quiet_step (fail))
  refine wpQuiet_nil ?_
  intro w2 hb2
  have HB2 := Lib.hid (HB1.out.trans (hb2.mono HB1.out.size))
  clear hb2 hj1 hj2 k0 k2
  go_wp2
  refine bodyPost_ret (v := .tuple #[.int .i64 (V), .int .i64 (V'), .bool true]) (by simp [results, Try.results21, go_sem]) rfl ?_
  exact ⟨ret_iib HV.out.2.1.symm HV.out.2.2.symm HY.out.symm, HB2.out⟩
set_option maxRecDepth 100000 in
theorem specWidthBounds_any (l : List Int) (A : Option Addr) (c : Nat) (r : Ru) (w : World) (hf : IntsIn w A l) (hn : l.length ≤ 1048576) : Calls Try.prog 22 #[.slice A l.length c, .agg #[.int .i64 r.lst, .int .i64 r.nrm, .int .i64 r.mst]] w fun e w' => e = .returned (.tuple #[.int .i64 (wbL l r), .int .i64 (wbH l r), .bool (lrB l r)]) ∧ Below w.heap.size w w' := by
  have HF := Lib.hid hf; clear hf
  have HA : Hid (Below w.heap.size w (w.alloc (.cells #[.int .i64 r.lst, .int .i64 r.nrm, .int .i64 r.mst] 25))) := Lib.hid ((Below.refl _ _).alloc (Nat.le_refl _) _)
  have HR : Hid (RuAt (w.alloc (.cells #[.int .i64 r.lst, .int .i64 r.nrm, .int .i64 r.mst] 25)) w.heap.size 25 r) := Lib.hid (RuAt.new _ _ _)
  go_enter Try.func22, Try.ntmps22
  go_wp2_with fail
  refine (juLine_any l A c _ (HF.out.below HA.out (Nat.le_refl _)) hn).mono ?_
  rintro e w' ⟨rfl, rfl⟩
  cases hg1 : juL l
  · have H := Lib.hid (lr_not1 (r := r) hg1); clear hg1
    have HV := Lib.hid (lr_no H.out)
    go_wp2
    (refine bodyPost_ret (v := .tuple #[.int .i64 (0), .int .i64 (0), .bool false]) (by simp [results, Try.results22, go_sem]) rfl ?_; exact ⟨ret_iib HV.out.2.1.symm HV.out.2.2.symm H.out.symm, HA.out⟩)
  have HG1 := Lib.hid hg1; clear hg1
  go_wp2_with fail
  refine (juRule_any r _).mono ?_
  rintro e w1 ⟨rfl, hb1⟩
  have HB1 := Lib.hid (HA.out.trans (hb1.mono HA.out.size))
  have HR1 := Lib.hid (HR.out.next hb1)
  have HF1 := Lib.hid (HF.out.below HB1.out (Nat.le_refl _))
  clear hb1
  cases hg2 : juB r
  · have H := Lib.hid (lr_not2 (l := l) hg2); clear hg2
    have HV := Lib.hid (lr_no H.out)
    go_wp2
    (refine bodyPost_ret (v := .tuple #[.int .i64 (0), .int .i64 (0), .bool false]) (by simp [results, Try.results22, go_sem]) rfl ?_; exact ⟨ret_iib HV.out.2.1.symm HV.out.2.2.symm H.out.symm, HB1.out⟩)
  have hy : lrB l r = true := by unfold lrB; rw [HG1.out, hg2]; rfl
  clear hg2
  obtain ⟨gl, gr⟩ := lrB_iff.1 hy
  have HGL := Lib.hid gl; have HGR := Lib.hid gr
  have HV := Lib.hid (lr_yes hy)
  have HY := Lib.hid hy
  clear hy gl gr
  obtain ⟨m0, m1, m2⟩ := HR1.out.cells
  have ml := HR1.out.lt
  have hs := HGR.out.a; have hs1 := HGR.out.b; have hs2 := HGR.out.c; have hs3 := HGR.out.d
  have hw1 := HGL.out.one; have hw2 := HGL.out.most
  have hsum := HGL.out.sum
  have hp := gaps_mul (s := r.lst) (g := (l.length : Int) - 1) (by omega) (by omega) (by omega) (by omega)
  have hq := gaps_mul (s := r.mst) (g := (l.length : Int) - 1) (by omega) (by omega) (by omega) (by omega)
  rw [Int.mul_comm] at hp hq
  have HW := Lib.hid (widV_comm l r.lst)
  have HW2 := Lib.hid (widV_comm l r.mst)
  generalize hS : l.sum = S at *
  have hj : ∀ x : KeptW w1.heap.size w1, Calls Try.prog 66 #[.slice A l.length c] x.at_ fun e w' => e = .returned (.int .i64 S) ∧ ∃ y : KeptW w1.heap.size w1, w' = y.at_ := fun x =>
    kept_same x (by rw [← hS]; exact juSum_any l A c x.at_ (HF1.out.below x.below (Nat.le_refl _)) HGL.out)
  obtain ⟨k0, -, k2⟩ := HR1.out.kept ml
  clear m0 m1 m2 hS
  go_wp2_with fail
  refine region_kept w1.heap.size (by kernel_rfl) (by kernel_rfl) ?_
  repeat (go_big_quiet_step ((go_at_call 66; exact hj _)))
  refine wpQuiet_nil ?_
  intro w2 hb2
  have HB2 := Lib.hid (HB1.out.trans (hb2.mono HB1.out.size))
  clear hb2 hj k0 k2
  go_wp2
  refine bodyPost_ret (v := .tuple #[.int .i64 (S + ((l.length : Int) - 1) * r.lst), .int .i64 (S + ((l.length : Int) - 1) * r.mst), .bool true]) (by simp [results, Try.results22, go_sem]) rfl ?_
  exact ⟨ret_iib (HW.out.trans HV.out.2.1.symm) (HW2.out.trans HV.out.2.2.symm) HY.out.symm, HB2.out⟩
set_option maxRecDepth 100000 in
theorem juAsked_any (l : List Int) (A : Option Addr) (c : Nat) (r : Ru) (m : Int) (w : World) (hf : IntsIn w A l) (hn : l.length ≤ 1048576) :
    Calls Try.prog 59 #[.slice A l.length c, .agg #[.int .i64 r.lst, .int .i64 r.nrm, .int .i64 r.mst], .int .i64 m] w fun e w' => e = .returned (.bool (askB l r m)) ∧ Below w.heap.size w w' := by
  have HF := Lib.hid hf; clear hf
  have HA : Hid (Below w.heap.size w (w.alloc (.cells #[.int .i64 r.lst, .int .i64 r.nrm, .int .i64 r.mst] 25))) := Lib.hid ((Below.refl _ _).alloc (Nat.le_refl _) _)
  have HR : Hid (RuAt (w.alloc (.cells #[.int .i64 r.lst, .int .i64 r.nrm, .int .i64 r.mst] 25)) w.heap.size 25 r) := Lib.hid (RuAt.new _ _ _)
  go_enter Try.func59, Try.ntmps59
  go_wp2_with fail
  refine (juLine_any l A c _ (HF.out.below HA.out (Nat.le_refl _)) hn).mono ?_
  rintro e w' ⟨rfl, rfl⟩
  cases hg1 : juL l
  · have H := Lib.hid (lr_not1 (r := r) hg1); clear hg1
    go_wp2
    go_ret
    exact ⟨ret_bool (by unfold askB; rw [H.out]; rfl), HA.out⟩
  have HG1 := Lib.hid hg1; clear hg1
  go_wp2_with fail
  refine (juRule_any r _).mono ?_
  rintro e w1 ⟨rfl, hb1⟩
  have HB1 := Lib.hid (HA.out.trans (hb1.mono HA.out.size))
  have HR1 := Lib.hid (HR.out.next hb1)
  have HF1 := Lib.hid (HF.out.below HB1.out (Nat.le_refl _))
  clear hb1
  cases hg2 : juB r
  · have H := Lib.hid (lr_not2 (l := l) hg2); clear hg2
    go_wp2
    go_ret
    exact ⟨ret_bool (by unfold askB; rw [H.out]; rfl), HB1.out⟩
  have HY : Hid (lrB l r = true) := Lib.hid (by unfold lrB; rw [HG1.out, hg2]; rfl)
  clear hg2
  go_wp2_with fail
  refine (juMeasure_any _ _).mono ?_
  rintro e w' ⟨rfl, rfl⟩
  generalize hq : inB 1 2000 m = q at *
  have HQ := Lib.hid hq; clear hq
  go_wp2
  go_ret
  exact ⟨ret_bool (by unfold askB; rw [HY.out, HQ.out]; rfl), HB1.out⟩
end Go.Proofs.Ytpbkeagpipipmaa

/-
  The contracts of WhyNotJustified and JustifyLine, in spec and in impl.
-/
import Derived.Test.YtpbkeagpipipmaaMxb
namespace Go.Proofs.Ytpbkeagpipipmaa
open Go.RowKit
set_option linter.unusedVariables false

def wnV (l : List Int) (r : Ru) (m : Int) : Int := if askB l r m then whyV l r m else 0
def jsB (l : List Int) (r : Ru) (m : Int) : Bool := askB l r m && decide (whyV l r m = 0)
def jsL (l : List Int) (r : Ru) (m : Int) : List Int := if jsB l r m then evL (rmI l m) (l.length - 1) else []
theorem wn_no {l : List Int} {r : Ru} {m : Int} (h : askB l r m = false) : wnV l r m = 0 := by unfold wnV; rw [h]; rfl
theorem wn_yes {l : List Int} {r : Ru} {m : Int} (h : askB l r m = true) : wnV l r m = whyV l r m := by unfold wnV; rw [h]; rfl
theorem js_no {l : List Int} {r : Ru} {m : Int} (h : jsB l r m = false) : jsL l r m = [] := by unfold jsL; rw [h]; rfl
theorem js_yes {l : List Int} {r : Ru} {m : Int} (h : jsB l r m = true) : jsL l r m = evL (rmI l m) (l.length - 1) := by unfold jsL; rw [h]; rfl
theorem js_not1 {l : List Int} {r : Ru} {m : Int} (h : askB l r m = false) : jsB l r m = false := by unfold jsB; rw [h]; rfl
theorem js_not2 {l : List Int} {r : Ru} {m : Int} (h : ¬ whyV l r m = 0) : jsB l r m = false := by unfold jsB; rw [decide_eq_false h, Bool.and_false]
theorem js_is {l : List Int} {r : Ru} {m : Int} (h : askB l r m = true) (h2 : whyV l r m = 0) : jsB l r m = true := by unfold jsB; rw [h, decide_eq_true h2]; rfl
theorem jsB_iff {l : List Int} {r : Ru} {m : Int} : jsB l r m = true ↔ askB l r m = true ∧ whyV l r m = 0 := by unfold jsB; rw [Bool.and_eq_true, decide_eq_true_eq]
theorem ask_not1 {l : List Int} {r : Ru} {m : Int} (h : juL l = false) : askB l r m = false := by unfold askB; rw [lr_not1 h]; rfl
theorem ask_not2 {l : List Int} {r : Ru} {m : Int} (h : juB r = false) : askB l r m = false := by unfold askB; rw [lr_not2 h]; rfl
theorem ask_not3 {l : List Int} {r : Ru} {m : Int} (h : inB 1 2000 m = false) : askB l r m = false := by unfold askB; rw [h, Bool.and_false]
theorem jsL_len (l : List Int) (r : Ru) (m : Int) : (jsL l r m).length ≤ 1048576 := by
  cases h : jsB l r m
  · rw [js_no h]; simp
  · rw [js_yes h, evL_len]
    have := (askB_iff.1 (jsB_iff.1 h).1).1.most; omega
/-- What fills the gaps of a line that can be justified. -/
theorem fits_range {l : List Int} {r : Ru} {m : Int} (h : askB l r m = true) (h2 : whyV l r m = 0) : 0 ≤ rmI l m ∧ rmI l m ≤ 12000 ∧ gpI l = ((l.length - 1 : Nat) : Int) ∧ l.length - 1 ≤ 20 ∧ l.length = (l.length - 1) + 1 := by
  obtain ⟨gl, gr, hm1, hm2⟩ := askB_iff.1 h
  obtain ⟨f1, f2⟩ := why_fits.1 h2
  have a := gl.one; have b := gl.most
  have r1 := gr.a; have r2 := gr.b; have r3 := gr.c; have r4 := gr.d
  have hp := gaps_mul (s := r.lst) (g := gpI l) (by omega) (by omega) (by unfold gpI; omega) (by unfold gpI; omega)
  have hq := gaps_mul (s := r.mst) (g := gpI l) (by omega) (by omega) (by unfold gpI; omega) (by unfold gpI; omega)
  rw [Int.mul_comm] at hp hq
  refine ⟨by omega, by omega, by unfold gpI; omega, by omega, by omega⟩

set_option maxRecDepth 100000 in
theorem specWhyNotJustified_any (l : List Int) (A : Option Addr) (c : Nat) (r : Ru) (m : Int) (w : World) (hf : IntsIn w A l) (hn : l.length ≤ 1048576) : Calls Try.prog 18 #[.slice A l.length c, .agg #[.int .i64 r.lst, .int .i64 r.nrm, .int .i64 r.mst], .int .i64 m] w fun e w' => e = .returned (.tuple #[.int .i64 (wnV l r m), .bool (askB l r m)]) ∧ Below w.heap.size w w' := by
  have HF := Lib.hid hf; clear hf
  have HA : Hid (Below w.heap.size w (w.alloc (.cells #[.int .i64 r.lst, .int .i64 r.nrm, .int .i64 r.mst] 25))) := Lib.hid ((Below.refl _ _).alloc (Nat.le_refl _) _)
  have HR : Hid (RuAt (w.alloc (.cells #[.int .i64 r.lst, .int .i64 r.nrm, .int .i64 r.mst] 25)) w.heap.size 25 r) := Lib.hid (RuAt.new _ _ _)
  go_enter Try.func18, Try.ntmps18
  go_wp2_with fail
  refine (juAsked_any l A c r m _ (HF.out.below HA.out (Nat.le_refl _)) hn).mono ?_
  rintro e w1 ⟨rfl, hb1⟩
  have HB1 := Lib.hid (HA.out.trans (hb1.mono HA.out.size))
  have HR1 := Lib.hid (HR.out.next hb1)
  have HF1 := Lib.hid (HF.out.below HB1.out (Nat.le_refl _))
  clear hb1
  cases hg : askB l r m
  · have H := Lib.hid hg; clear hg
    go_wp2
    (refine bodyPost_ret (v := .tuple #[.int .i64 0, .bool false]) (by simp [results, Try.results18, go_sem]) rfl ?_; exact ⟨ret_ib (wn_no H.out).symm H.out.symm, HB1.out⟩)
  have HK := Lib.hid hg
  obtain ⟨gl, gr, hm1, hm2⟩ := askB_iff.1 hg
  have HGL := Lib.hid gl; have HGR := Lib.hid gr
  clear hg gl gr
  obtain ⟨m0, m1, m2⟩ := HR1.out.cells
  have ml := HR1.out.lt
  go_wp2_with fail
  refine (juWhy_any l A c r m _ HF1.out HGL.out HGR.out hm1 hm2).mono ?_
  rintro e w2 ⟨rfl, hb⟩
  have HB2 := Lib.hid (HB1.out.trans (hb.mono HB1.out.size))
  have HV := Lib.hid (wn_yes HK.out)
  clear hb m0 m1 m2 ml
  generalize whyV l r m = V at *
  go_wp2
  refine bodyPost_ret (v := .tuple #[.int .i64 V, .bool true]) (by simp [results, Try.results18, go_sem]) rfl ?_
  exact ⟨ret_ib HV.out.symm HK.out.symm, HB2.out⟩
set_option maxRecDepth 100000 in
theorem implWhyNotJustified_any (l : List Int) (A : Option Addr) (c : Nat) (r : Ru) (m : Int) (w : World) (hf : IntsIn w A l) (hn : l.length ≤ 1048576) : Calls Try.prog 17 #[.slice A l.length c, .agg #[.int .i64 r.lst, .int .i64 r.nrm, .int .i64 r.mst], .int .i64 m] w fun e w' => e = .returned (.tuple #[.int .i64 (wnV l r m), .bool (askB l r m)]) ∧ Below w.heap.size w w' := by
  have HF := Lib.hid hf; clear hf
  have HA : Hid (Below w.heap.size w (w.alloc (.cells #[.int .i64 r.lst, .int .i64 r.nrm, .int .i64 r.mst] 25))) := Lib.hid ((Below.refl _ _).alloc (Nat.le_refl _) _)
  have HR : Hid (RuAt (w.alloc (.cells #[.int .i64 r.lst, .int .i64 r.nrm, .int .i64 r.mst] 25)) w.heap.size 25 r) := Lib.hid (RuAt.new _ _ _)
  go_enter Try.func17, Try.ntmps17
  go_wp2_with fail
  refine (isLine_any l A c _ (HF.out.below HA.out (Nat.le_refl _)) hn).mono ?_
  rintro e w' ⟨rfl, rfl⟩
  cases hg1 : juL l
  · have H := Lib.hid (ask_not1 (r := r) (m := m) hg1); clear hg1
    go_wp2
    (refine bodyPost_ret (v := .tuple #[.int .i64 0, .bool false]) (by simp [results, Try.results17, go_sem]) rfl ?_; exact ⟨ret_ib (wn_no H.out).symm H.out.symm, HA.out⟩)
  have HG1 := Lib.hid hg1; clear hg1
  go_wp2_with fail
  refine (implIsRule_any r _).mono ?_
  rintro e w1 ⟨rfl, hb1⟩
  have HB1 := Lib.hid (HA.out.trans (hb1.mono HA.out.size))
  have HR1 := Lib.hid (HR.out.next hb1)
  have HF1 := Lib.hid (HF.out.below HB1.out (Nat.le_refl _))
  clear hb1
  cases hg2 : juB r
  · have H := Lib.hid (ask_not2 (l := l) (m := m) hg2); clear hg2
    go_wp2
    (refine bodyPost_ret (v := .tuple #[.int .i64 0, .bool false]) (by simp [results, Try.results17, go_sem]) rfl ?_; exact ⟨ret_ib (wn_no H.out).symm H.out.symm, HB1.out⟩)
  have HG2 := Lib.hid hg2; clear hg2
  go_wp2_with fail
  refine (isMeasure_any m _).mono ?_
  rintro e w' ⟨rfl, rfl⟩
  cases hg3 : inB 1 2000 m
  · have H := Lib.hid (ask_not3 (l := l) (r := r) hg3); clear hg3
    go_wp2
    (refine bodyPost_ret (v := .tuple #[.int .i64 0, .bool false]) (by simp [results, Try.results17, go_sem]) rfl ?_; exact ⟨ret_ib (wn_no H.out).symm H.out.symm, HB1.out⟩)
  have hg : askB l r m = true := by unfold askB lrB; rw [HG1.out, HG2.out, hg3]; rfl
  clear hg3
  have HK := Lib.hid hg
  obtain ⟨gl, gr, hm1, hm2⟩ := askB_iff.1 hg
  have HGL := Lib.hid gl; have HGR := Lib.hid gr
  clear hg gl gr
  obtain ⟨m0, m1, m2⟩ := HR1.out.cells
  have ml := HR1.out.lt
  go_wp2_with fail
  refine (attemptLine_any l A c r m _ HF1.out HGL.out HGR.out hm1 hm2).mono ?_
  rintro e w2 ⟨rfl, hb⟩
  have HB2 := Lib.hid (HB1.out.trans (hb.mono HB1.out.size))
  clear hb m0 m1 m2 ml
  have t1 : ∀ (w : World) (g x : Int), (method 228 100 (.agg #[.int .i64 g, .int .i64 x]) "loop.example/g01054/impl.reason").run Try.prog w = .ok (121, .agg #[.int .i64 g, .int .i64 x]) w := fun _ _ _ => by kernel_rfl
  have t2 : ∀ (w : World) (k : Int), (method 228 101 (.int .i64 k) "loop.example/g01054/impl.reason").run Try.prog w = .ok (124, .int .i64 k) w := fun _ _ => by kernel_rfl
  have t3 : ∀ (w : World) (g x : Int), (method 228 100 (.agg #[.int .i64 g, .int .i64 x]) "loop.example/g01054/impl.spaces").run Try.prog w = .ok (122, .agg #[.int .i64 g, .int .i64 x]) w := fun _ _ _ => by kernel_rfl
  have t4 : ∀ (w : World) (k : Int), (method 228 101 (.int .i64 k) "loop.example/g01054/impl.spaces").run Try.prog w = .ok (125, .int .i64 k) w := fun _ _ => by kernel_rfl
  have HV := Lib.hid (wn_yes HK.out)
  by_cases h0 : whyV l r m = 0
  · rw [attV_yes h0]
    rw [h0] at HV
    clear h0 t3 t4
    go_wp2_with fail
    refine (jReason_any _ _ _).mono ?_
    rintro e w3 ⟨rfl, hb⟩
    have HB3 := Lib.hid (HB2.out.trans (hb.mono HB2.out.size))
    clear hb
    go_wp2
    refine bodyPost_ret (v := .tuple #[.int .i64 0, .bool true]) (by simp [results, Try.results17, go_sem]) rfl ?_
    exact ⟨ret_ib HV.out.symm HK.out.symm, HB3.out⟩
  · rw [attV_no h0]
    clear h0 t3 t4
    generalize whyV l r m = V at *
    go_wp2_with fail
    refine (fReason_any _ _).mono ?_
    rintro e w3 ⟨rfl, hb⟩
    have HB3 := Lib.hid (HB2.out.trans (hb.mono HB2.out.size))
    clear hb
    go_wp2
    refine bodyPost_ret (v := .tuple #[.int .i64 V, .bool true]) (by simp [results, Try.results17, go_sem]) rfl ?_
    exact ⟨ret_ib HV.out.symm HK.out.symm, HB3.out⟩
set_option maxRecDepth 100000 in
theorem specJustifyLine_any (l : List Int) (A : Option Addr) (c : Nat) (r : Ru) (m : Int) (w : World) (hf : IntsIn w A l) (hn : l.length ≤ 1048576) : Calls Try.prog 16 #[.slice A l.length c, .agg #[.int .i64 r.lst, .int .i64 r.nrm, .int .i64 r.mst], .int .i64 m] w fun e w' => EnTo w w' e (jsL l r m) (jsB l r m) := by
  have HF := Lib.hid hf; clear hf
  have HA : Hid (Below w.heap.size w (w.alloc (.cells #[.int .i64 r.lst, .int .i64 r.nrm, .int .i64 r.mst] 25))) := Lib.hid ((Below.refl _ _).alloc (Nat.le_refl _) _)
  have HR : Hid (RuAt (w.alloc (.cells #[.int .i64 r.lst, .int .i64 r.nrm, .int .i64 r.mst] 25)) w.heap.size 25 r) := Lib.hid (RuAt.new _ _ _)
  go_enter Try.func16, Try.ntmps16
  go_wp2_with fail
  refine (juAsked_any l A c r m _ (HF.out.below HA.out (Nat.le_refl _)) hn).mono ?_
  rintro e w1 ⟨rfl, hb1⟩
  have HB1 := Lib.hid (HA.out.trans (hb1.mono HA.out.size))
  have HR1 := Lib.hid (HR.out.next hb1)
  have HF1 := Lib.hid (HF.out.below HB1.out (Nat.le_refl _))
  clear hb1
  cases hg : askB l r m
  · have H := Lib.hid hg; clear hg
    go_wp2
    (refine bodyPost_ret (v := .tuple #[.slice none 0 0, .bool false]) (by simp [results, Try.results16, go_sem]) rfl ?_; exact EnTo.no (js_no (js_not1 H.out)) (js_not1 H.out) HB1.out)
  have HK := Lib.hid hg
  obtain ⟨gl, gr, hm1, hm2⟩ := askB_iff.1 hg
  have HGL := Lib.hid gl; have HGR := Lib.hid gr
  clear hg gl gr
  obtain ⟨m0, m1, m2⟩ := HR1.out.cells
  have ml := HR1.out.lt
  go_wp2_with fail
  refine (juWhy_any l A c r m _ HF1.out HGL.out HGR.out hm1 hm2).mono ?_
  rintro e w2 ⟨rfl, hb⟩
  have HB2 := Lib.hid (HB1.out.trans (hb.mono HB1.out.size))
  clear hb m0 m1 m2 ml
  by_cases h0 : whyV l r m = 0
  · have HJ := Lib.hid (js_is HK.out h0)
    obtain ⟨f1, f2, f3, f4, f5⟩ := fits_range HK.out h0
    have HF5 := Lib.hid f5
    rw [h0]
    clear h0 f3 f4 f5
    go_wp2_with fail
    refine (juSpaces_any l A c m (l.length - 1) _ (HF.out.below HB2.out (Nat.le_refl _)) HGL.out HF5.out f1 f2).mono ?_
    rintro e w3 ⟨v, rfl, hb, ho⟩
    have HB3 := Lib.hid (HB2.out.trans (hb.mono HB2.out.size))
    have HO := Lib.hid (Joins.ownsRow_le ho HB2.out.size)
    clear hb ho
    go_wp2
    refine bodyPost_ret (v := .tuple #[v, .bool true]) (by simp [results, Try.results16, go_sem]) rfl ?_
    exact EnTo.yes (js_yes HJ.out) HJ.out HB3.out HO.out
  · have HJ := Lib.hid (js_not2 h0)
    have h1 : (whyV l r m != 0) = true := by simp [h0]
    clear h0
    generalize whyV l r m = V at *
    go_wp2
    refine bodyPost_ret (v := .tuple #[.slice none 0 0, .bool false]) (by simp [results, Try.results16, go_sem]) rfl ?_
    exact EnTo.no (js_no HJ.out) HJ.out HB2.out
set_option maxRecDepth 100000 in
theorem implJustifyLine_any (l : List Int) (A : Option Addr) (c : Nat) (r : Ru) (m : Int) (w : World) (hf : IntsIn w A l) (hn : l.length ≤ 1048576) : Calls Try.prog 15 #[.slice A l.length c, .agg #[.int .i64 r.lst, .int .i64 r.nrm, .int .i64 r.mst], .int .i64 m] w fun e w' => EnTo w w' e (jsL l r m) (jsB l r m) := by
  have HF := Lib.hid hf; clear hf
  have HA : Hid (Below w.heap.size w (w.alloc (.cells #[.int .i64 r.lst, .int .i64 r.nrm, .int .i64 r.mst] 25))) := Lib.hid ((Below.refl _ _).alloc (Nat.le_refl _) _)
  have HR : Hid (RuAt (w.alloc (.cells #[.int .i64 r.lst, .int .i64 r.nrm, .int .i64 r.mst] 25)) w.heap.size 25 r) := Lib.hid (RuAt.new _ _ _)
  go_enter Try.func15, Try.ntmps15
  go_wp2_with fail
  refine (isLine_any l A c _ (HF.out.below HA.out (Nat.le_refl _)) hn).mono ?_
  rintro e w' ⟨rfl, rfl⟩
  cases hg1 : juL l
  · have H := Lib.hid (ask_not1 (r := r) (m := m) hg1); clear hg1
    go_wp2
    (refine bodyPost_ret (v := .tuple #[.slice none 0 0, .bool false]) (by simp [results, Try.results15, go_sem]) rfl ?_; exact EnTo.no (js_no (js_not1 H.out)) (js_not1 H.out) HA.out)
  have HG1 := Lib.hid hg1; clear hg1
  go_wp2_with fail
  refine (implIsRule_any r _).mono ?_
  rintro e w1 ⟨rfl, hb1⟩
  have HB1 := Lib.hid (HA.out.trans (hb1.mono HA.out.size))
  have HR1 := Lib.hid (HR.out.next hb1)
  have HF1 := Lib.hid (HF.out.below HB1.out (Nat.le_refl _))
  clear hb1
  cases hg2 : juB r
  · have H := Lib.hid (ask_not2 (l := l) (m := m) hg2); clear hg2
    go_wp2
    (refine bodyPost_ret (v := .tuple #[.slice none 0 0, .bool false]) (by simp [results, Try.results15, go_sem]) rfl ?_; exact EnTo.no (js_no (js_not1 H.out)) (js_not1 H.out) HB1.out)
  have HG2 := Lib.hid hg2; clear hg2
  go_wp2_with fail
  refine (isMeasure_any m _).mono ?_
  rintro e w' ⟨rfl, rfl⟩
  cases hg3 : inB 1 2000 m
  · have H := Lib.hid (ask_not3 (l := l) (r := r) hg3); clear hg3
    go_wp2
    (refine bodyPost_ret (v := .tuple #[.slice none 0 0, .bool false]) (by simp [results, Try.results15, go_sem]) rfl ?_; exact EnTo.no (js_no (js_not1 H.out)) (js_not1 H.out) HB1.out)
  have hg : askB l r m = true := by unfold askB lrB; rw [HG1.out, HG2.out, hg3]; rfl
  clear hg3
  have HK := Lib.hid hg
  obtain ⟨gl, gr, hm1, hm2⟩ := askB_iff.1 hg
  have HGL := Lib.hid gl; have HGR := Lib.hid gr
  clear hg gl gr
  obtain ⟨m0, m1, m2⟩ := HR1.out.cells
  have ml := HR1.out.lt
  go_wp2_with fail
  refine (attemptLine_any l A c r m _ HF1.out HGL.out HGR.out hm1 hm2).mono ?_
  rintro e w2 ⟨rfl, hb⟩
  have HB2 := Lib.hid (HB1.out.trans (hb.mono HB1.out.size))
  clear hb m0 m1 m2 ml
  have t1 : ∀ (w : World) (g x : Int), (method 228 100 (.agg #[.int .i64 g, .int .i64 x]) "loop.example/g01054/impl.reason").run Try.prog w = .ok (121, .agg #[.int .i64 g, .int .i64 x]) w := fun _ _ _ => by kernel_rfl
  have t2 : ∀ (w : World) (k : Int), (method 228 101 (.int .i64 k) "loop.example/g01054/impl.reason").run Try.prog w = .ok (124, .int .i64 k) w := fun _ _ => by kernel_rfl
  have t3 : ∀ (w : World) (g x : Int), (method 228 100 (.agg #[.int .i64 g, .int .i64 x]) "loop.example/g01054/impl.spaces").run Try.prog w = .ok (122, .agg #[.int .i64 g, .int .i64 x]) w := fun _ _ _ => by kernel_rfl
  have t4 : ∀ (w : World) (k : Int), (method 228 101 (.int .i64 k) "loop.example/g01054/impl.spaces").run Try.prog w = .ok (125, .int .i64 k) w := fun _ _ => by kernel_rfl
  by_cases h0 : whyV l r m = 0
  · have HJ := Lib.hid (js_is HK.out h0)
    obtain ⟨f1, f2, f3, f4, f5⟩ := fits_range HK.out h0
    rw [attV_yes h0, f3]
    clear h0 f3 f5 t2 t4
    go_wp2_with fail
    refine (jSpaces_any (l.length - 1) _ _ f4 f1 f2).mono ?_
    rintro e w3 ⟨v, rfl, hb, ho⟩
    have HB3 := Lib.hid (HB2.out.trans (hb.mono HB2.out.size))
    have HO := Lib.hid (Joins.ownsRow_le ho HB2.out.size)
    clear hb ho
    go_wp2_with fail
    refine (jReason_any _ _ _).mono ?_
    rintro e w4 ⟨rfl, hb⟩
    have HB4 := Lib.hid (HB3.out.trans (hb.mono HB3.out.size))
    have HO4 := Lib.hid (own_below HO.out hb)
    clear hb
    go_wp2
    refine bodyPost_ret (v := .tuple #[v, .bool true]) (by simp [results, Try.results15, go_sem]) rfl ?_
    exact EnTo.yes (js_yes HJ.out) HJ.out HB4.out HO4.out
  · have HJ := Lib.hid (js_not2 h0)
    have h1 : (whyV l r m == 0) = false := by simp [h0]
    rw [attV_no h0]
    clear h0 t1 t3
    generalize whyV l r m = V at *
    go_wp2_with fail
    refine (fSpaces_any _ _).mono ?_
    rintro e w3 ⟨rfl, hb⟩
    have HB3 := Lib.hid (HB2.out.trans (hb.mono HB2.out.size))
    clear hb
    go_wp2_with fail
    refine (fReason_any _ _).mono ?_
    rintro e w4 ⟨rfl, hb⟩
    have HB4 := Lib.hid (HB3.out.trans (hb.mono HB3.out.size))
    clear hb
    go_wp2
    refine bodyPost_ret (v := .tuple #[.slice none 0 0, .bool false]) (by simp [results, Try.results15, go_sem]) rfl ?_
    exact EnTo.no (js_no HJ.out) HJ.out HB4.out
end Go.Proofs.Ytpbkeagpipipmaa

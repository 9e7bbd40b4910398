/-
  The contracts of CostOfLine, in spec and in impl.
-/
import Derived.Test.YtpbkeagpipipmaaUf
namespace Go.Proofs.Ytpbkeagpipipmaa
open Go.RowKit
set_option linter.unusedVariables false

theorem sq_tame {d : Int} (h1 : -12100 ≤ d) (h2 : d ≤ 12100) : 0 ≤ d * d ∧ d * d ≤ 146410000 := by
  have e : ((d.natAbs * d.natAbs : Nat) : Int) = d * d := Int.natAbs_mul_self
  have h : d.natAbs * d.natAbs ≤ 12100 * 12100 := Nat.mul_le_mul (by omega) (by omega)
  rw [← e]
  omega
/-- The sum of the squares of what the first k part from n. -/
def sqS (l : List Int) (n : Int) : Nat → Int
  | 0 => 0
  | k + 1 => sqS l n k + (l.getD k 0 - n) * (l.getD k 0 - n)
theorem sqS_succ {l : List Int} {k : Nat} (h : k < l.length) (n : Int) : sqS l n (k + 1) = sqS l n k + (l[k] - n) * (l[k] - n) := by
  show sqS l n k + _ = _
  rw [show l.getD k 0 = l[k] from by simp [List.getD, List.getElem?_eq_getElem h]]
theorem sqS_range {l : List Int} {n : Int} (hl : ∀ k (h : k < l.length), -12001 ≤ l[k] ∧ l[k] ≤ 12001) (h1 : 0 ≤ n) (h2 : n ≤ 54) : ∀ k, k ≤ l.length → 0 ≤ sqS l n k ∧ sqS l n k ≤ 146410000 * (k : Int)
  | 0, _ => by unfold sqS; omega
  | k + 1, h => by
    have ih := sqS_range hl h1 h2 k (by omega)
    have a := hl k (by omega)
    have b := sq_tame (d := l[k]'(by omega) - n) (by omega) (by omega)
    rw [sqS_succ (by omega)]
    omega
theorem evL_tame {t : Int} {n : Nat} (h0 : 0 ≤ t) (h1 : t ≤ 12000) : ∀ k (h : k < (evL t n).length), -12001 ≤ (evL t n)[k] ∧ (evL t n)[k] ≤ 12001 := fun k h => by
  rw [evL_at]
  have := tdiv_tame (g := (n : Int)) h0 h1
  unfold evI
  split <;> omega
/-- The cost of a line that can be justified. -/
def cstL (l : List Int) (r : Ru) (m : Int) : Int := sqS (evL (rmI l m) (l.length - 1)) r.nrm (l.length - 1)
def coV (l : List Int) (r : Ru) (m : Int) : Int := if jsB l r m then cstL l r m else 0
theorem co_no {l : List Int} {r : Ru} {m : Int} (h : jsB l r m = false) : coV l r m = 0 := by unfold coV; rw [h]; rfl
theorem co_yes {l : List Int} {r : Ru} {m : Int} (h : jsB l r m = true) : coV l r m = cstL l r m := by unfold coV; rw [h]; rfl
theorem cst_range {l : List Int} {r : Ru} {m : Int} (h : jsB l r m = true) : 0 ≤ cstL l r m ∧ cstL l r m ≤ 3000000000 := by
  obtain ⟨h1, h2⟩ := jsB_iff.1 h
  obtain ⟨f1, f2, f3, f4, f5⟩ := fits_range h1 h2
  have gr := (askB_iff.1 h1).2.1
  have r1 := gr.a; have r2 := gr.b; have r3 := gr.c; have r4 := gr.d
  have := sqS_range (evL_tame f1 f2) (n := r.nrm) (by omega) (by omega) (l.length - 1) (by rw [evL_len]; exact Nat.le_refl _)
  unfold cstL
  omega

theorem own_n' {w : World} {base n : Nat} {e : TypeId} {v : Value} {l : List Int} (h : w.ownsRow base e 1 v n (intsZ l)) : ∃ A c, v = .slice A n c ∧ IntsIn w A l := by
  obtain ⟨A, c, rfl, rfl, hi⟩ := own_ints h
  exact ⟨A, c, rfl, hi⟩
set_option maxRecDepth 100000 in
theorem juCost_any (l : List Int) (A : Option Addr) (c : Nat) (r : Ru) (m : Int) (w : World) (hf : IntsIn w A l) (hj : jsB l r m = true) : Calls Try.prog 62 #[.slice A l.length c, .agg #[.int .i64 r.lst, .int .i64 r.nrm, .int .i64 r.mst], .int .i64 m] w fun e w' => e = .returned (.int .i64 (cstL l r m)) ∧ Below w.heap.size w w' := by
  have HF := Lib.hid hf; clear hf
  have HA : Hid (Below w.heap.size w (w.alloc (.cells #[.int .i64 r.lst, .int .i64 r.nrm, .int .i64 r.mst] 25))) := Lib.hid ((Below.refl _ _).alloc (Nat.le_refl _) _)
  have HR : Hid (RuAt (w.alloc (.cells #[.int .i64 r.lst, .int .i64 r.nrm, .int .i64 r.mst] 25)) w.heap.size 25 r) := Lib.hid (RuAt.new _ _ _)
  obtain ⟨hK, h0⟩ := jsB_iff.1 hj
  obtain ⟨gl, gr, hm1, hm2⟩ := askB_iff.1 hK
  have r1 := gr.a; have r2 := gr.b; have r3 := gr.c; have r4 := gr.d
  obtain ⟨f1, f2, -, f4, f5⟩ := fits_range hK h0
  have HGL := Lib.hid gl
  obtain ⟨n, hn⟩ : ∃ n, n = l.length - 1 := ⟨_, rfl⟩
  obtain ⟨R, hR⟩ : ∃ R, R = rmI l m := ⟨_, rfl⟩
  have HCV : Hid (cstL l r m = sqS (evL R n) r.nrm n) := Lib.hid (by rw [hR, hn]; rfl)
  have HSP : Hid (∀ W, IntsIn W A l → Calls Try.prog 61 #[.slice A l.length c, .int .i64 m] W fun e W' => RowTo W W' e (evL R n)) := Lib.hid (fun W h => by
    rw [hR, hn]; exact juSpaces_any l A c m (l.length - 1) W h HGL.out f5 f1 f2)
  rw [← hR] at f1 f2
  rw [← hn] at f4
  clear hR hn hj hK h0 gl gr f5
  have HTM := Lib.hid (evL_tame (t := R) (n := n) f1 f2)
  have HSR : Hid (∀ k, k ≤ n → 0 ≤ sqS (evL R n) r.nrm k ∧ sqS (evL R n) r.nrm k ≤ 146410000 * (k : Int)) := Lib.hid (fun k hk => sqS_range HTM.out (by omega) (by omega) k (by rw [evL_len]; exact hk))
  go_enter Try.func62, Try.ntmps62
  go_wp2_with fail
  refine (HSP.out _ (HF.out.below HA.out (Nat.le_refl _))).mono ?_
  rintro e w1 ⟨v, rfl, hb, ho⟩
  have HB1 := Lib.hid (HA.out.trans (hb.mono HA.out.size))
  have HR1 := Lib.hid (HR.out.next hb)
  rw [evL_len] at ho
  obtain ⟨A1, c1, rfl, hin⟩ := own_n' ho
  have HIN := Lib.hid hin
  obtain ⟨m0, m1, m2⟩ := HR1.out.cells
  have ml := HR1.out.lt
  clear hb ho hin HR
  go_wp2
  go_loop [7, 14] (fun s i => ∃ k : Nat, k ≤ n ∧ i = .int .i64 (k : Int) ∧ s = .int .i64 (sqS (evL R n) r.nrm k)) (fun _ i => n - (intOf i).toNat)
  case atStart => exact ⟨0, by omega, rfl, rfl⟩
  case round =>
    obtain ⟨k, hk, rfl, rfl⟩ := hrel
    by_cases hlt : k < n
    · have hle : k < (evL R n).length := by rw [evL_len]; exact hlt
      obtain ⟨b, off, rfl, hbl, hc⟩ := HIN.out (by omega)
      have hc0 := hc k hle
      clear hc
      have HST := Lib.hid (sqS_succ hle r.nrm)
      have hx := HTM.out k hle
      have hq := HSR.out k hk
      generalize (evL R n)[k] = x at *
      generalize hcq : sqS (evL R n) r.nrm k = q at *
      have hsq := sq_tame (d := x - r.nrm) (by omega) (by omega)
      have hkl1 : (k : Int) < (n : Int) := by omega
      have hkl0 : (0 : Int) ≤ (k : Int) := by omega
      clear hle hcq
      go_wp2
      go_round
      case rel => exact ⟨k + 1, by omega, by go_num, by rw [HST.out]⟩
      case measure => simp [intOf]; omega
    · obtain rfl : k = n := by omega
      go_wp2
      go_ret
      exact ⟨ret_int HCV.out.symm, HB1.out⟩
set_option maxRecDepth 100000 in
theorem specCostOfLine_any (l : List Int) (A : Option Addr) (c : Nat) (r : Ru) (m : Int) (w : World) (hf : IntsIn w A l) (hn : l.length ≤ 1048576) : Calls Try.prog 20 #[.slice A l.length c, .agg #[.int .i64 r.lst, .int .i64 r.nrm, .int .i64 r.mst], .int .i64 m] w fun e w' => e = .returned (.tuple #[.int .i64 (coV l r m), .bool (jsB l r m)]) ∧ Below w.heap.size w w' := by
  have HF := Lib.hid hf; clear hf
  have HA : Hid (Below w.heap.size w (w.alloc (.cells #[.int .i64 r.lst, .int .i64 r.nrm, .int .i64 r.mst] 25))) := Lib.hid ((Below.refl _ _).alloc (Nat.le_refl _) _)
  have HR : Hid (RuAt (w.alloc (.cells #[.int .i64 r.lst, .int .i64 r.nrm, .int .i64 r.mst] 25)) w.heap.size 25 r) := Lib.hid (RuAt.new _ _ _)
  go_enter Try.func20, Try.ntmps20
  go_wp2_with fail
  refine (juAsked_any l A c r m _ (HF.out.below HA.out (Nat.le_refl _)) hn).mono ?_
  rintro e w1 ⟨rfl, hb1⟩
  have HB1 := Lib.hid (HA.out.trans (hb1.mono HA.out.size))
  have HR1 := Lib.hid (HR.out.next hb1)
  have HF1 := Lib.hid (HF.out.below HB1.out (Nat.le_refl _))
  clear hb1
  cases hg : askB l r m
  · have H := Lib.hid (js_not1 hg); clear hg
    go_wp2
    refine bodyPost_ret (v := .tuple #[.int .i64 0, .bool false]) (by simp [results, Try.results20, go_sem]) rfl ?_
    exact ⟨ret_ib (co_no H.out).symm H.out.symm, HB1.out⟩
  have HK := Lib.hid hg
  obtain ⟨gl, gr, hm1, hm2⟩ := askB_iff.1 hg
  have HGL := Lib.hid gl; have HGR := Lib.hid gr
  clear hg gl gr
  obtain ⟨m0, m1, m2⟩ := HR1.out.cells
  have ml := HR1.out.lt
  go_wp2_with fail
  refine (juWhy_any l A c r m _ HF1.out HGL.out HGR.out hm1 hm2).mono ?_
  rintro e w2 ⟨rfl, hb⟩
  have HB2 := Lib.hid (HB1.out.trans (hb.mono HB1.out.size))
  have HR2 := Lib.hid (HR1.out.next hb)
  clear hb m0 m1 m2 ml
  by_cases h0 : whyV l r m = 0
  · have HJ := Lib.hid (js_is HK.out h0)
    rw [h0]
    clear h0
    obtain ⟨m0, m1, m2⟩ := HR2.out.cells
    have ml := HR2.out.lt
    go_wp2_with fail
    refine (juCost_any l A c r m _ (HF.out.below HB2.out (Nat.le_refl _)) HJ.out).mono ?_
    rintro e w3 ⟨rfl, hb⟩
    have HB3 := Lib.hid (HB2.out.trans (hb.mono HB2.out.size))
    have HV := Lib.hid (co_yes HJ.out)
    clear hb m0 m1 m2 ml
    generalize cstL l r m = V at *
    go_wp2
    refine bodyPost_ret (v := .tuple #[.int .i64 V, .bool true]) (by simp [results, Try.results20, go_sem]) rfl ?_
    exact ⟨ret_ib HV.out.symm HJ.out.symm, HB3.out⟩
  · have HJ := Lib.hid (js_not2 h0)
    have h1 : (whyV l r m != 0) = true := by simp [h0]
    clear h0
    generalize whyV l r m = V at *
    go_wp2
    refine bodyPost_ret (v := .tuple #[.int .i64 0, .bool false]) (by simp [results, Try.results20, go_sem]) rfl ?_
    exact ⟨ret_ib (co_no HJ.out).symm HJ.out.symm, HB2.out⟩
set_option maxRecDepth 100000 in
theorem implCostOfLine_any (l : List Int) (A : Option Addr) (c : Nat) (r : Ru) (m : Int) (w : World) (hf : IntsIn w A l) (hn : l.length ≤ 1048576) : Calls Try.prog 19 #[.slice A l.length c, .agg #[.int .i64 r.lst, .int .i64 r.nrm, .int .i64 r.mst], .int .i64 m] w fun e w' => e = .returned (.tuple #[.int .i64 (coV l r m), .bool (jsB l r m)]) ∧ Below w.heap.size w w' := by
  have HF := Lib.hid hf; clear hf
  have HA : Hid (Below w.heap.size w (w.alloc (.cells #[.int .i64 r.lst, .int .i64 r.nrm, .int .i64 r.mst] 25))) := Lib.hid ((Below.refl _ _).alloc (Nat.le_refl _) _)
  have HR : Hid (RuAt (w.alloc (.cells #[.int .i64 r.lst, .int .i64 r.nrm, .int .i64 r.mst] 25)) w.heap.size 25 r) := Lib.hid (RuAt.new _ _ _)
  go_enter Try.func19, Try.ntmps19
  go_wp2_with fail
  refine (implJustifyLine_any l A c r m _ (HF.out.below HA.out (Nat.le_refl _)) hn).mono ?_
  rintro e w1 ⟨v, T, rfl, hb, ho⟩
  have HB1 := Lib.hid (HA.out.trans (hb.mono HA.out.size))
  have HR1 := Lib.hid (HR.out.next hb)
  cases hj : jsB l r m
  · have HJ := Lib.hid hj
    obtain ⟨A1, c1, rfl, hin⟩ := own_n' ho
    generalize (jsL l r m).length = q at *
    clear hj hb ho hin
    go_wp2
    refine bodyPost_ret (v := .tuple #[.int .i64 0, .bool false]) (by simp [results, Try.results19, go_sem]) rfl ?_
    exact ⟨ret_ib (co_no HJ.out).symm HJ.out.symm, HB1.out⟩
  have HJ := Lib.hid hj
  obtain ⟨hK, h0⟩ := jsB_iff.1 hj
  obtain ⟨gl, gr, hm1, hm2⟩ := askB_iff.1 hK
  have r1 := gr.a; have r2 := gr.b; have r3 := gr.c; have r4 := gr.d
  obtain ⟨f1, f2, -, f4, f5⟩ := fits_range hK h0
  rw [js_yes hj, evL_len] at ho
  have HV := co_yes hj
  obtain ⟨n, hn'⟩ : ∃ n, n = l.length - 1 := ⟨_, rfl⟩
  obtain ⟨R, hR⟩ : ∃ R, R = rmI l m := ⟨_, rfl⟩
  have HCV : Hid (coV l r m = sqS (evL R n) r.nrm n) := Lib.hid (by rw [HV, hR, hn']; rfl)
  rw [← hR, ← hn'] at ho
  rw [← hR] at f1 f2
  rw [← hn'] at f4
  clear hR hn' hj hK h0 gl gr f5 HV
  have HTM := Lib.hid (evL_tame (t := R) (n := n) f1 f2)
  have HSR : Hid (∀ k, k ≤ n → 0 ≤ sqS (evL R n) r.nrm k ∧ sqS (evL R n) r.nrm k ≤ 146410000 * (k : Int)) := Lib.hid (fun k hk => sqS_range HTM.out (by omega) (by omega) k (by rw [evL_len]; exact hk))
  obtain ⟨A1, c1, rfl, hin⟩ := own_n' ho
  have HIN := Lib.hid hin
  obtain ⟨m0, m1, m2⟩ := HR1.out.cells
  have ml := HR1.out.lt
  clear hb ho hin HR
  go_wp2
  go_loop [10, 25] (fun s i => ∃ k : Nat, k ≤ n ∧ i = .int .i64 (k : Int) ∧ s = .int .i64 (sqS (evL R n) r.nrm k)) (fun _ i => n - (intOf i).toNat)
  case atStart => exact ⟨0, by omega, rfl, rfl⟩
  case round =>
    obtain ⟨k, hk, rfl, rfl⟩ := hrel
    by_cases hlt : k < n
    · have hle : k < (evL R n).length := by rw [evL_len]; exact hlt
      obtain ⟨b, off, rfl, hbl, hc⟩ := HIN.out (by omega)
      have hc0 := hc k hle
      clear hc
      have HST := Lib.hid (sqS_succ hle r.nrm)
      have hx := HTM.out k hle
      have hq := HSR.out k hk
      generalize (evL R n)[k] = x at *
      generalize hcq : sqS (evL R n) r.nrm k = q at *
      have hsq := sq_tame (d := x - r.nrm) (by omega) (by omega)
      have hkl1 : (k : Int) < (n : Int) := by omega
      have hkl0 : (0 : Int) ≤ (k : Int) := by omega
      clear hle hcq
      go_wp2
      go_round
      case rel => exact ⟨k + 1, by omega, by go_num, by rw [HST.out]⟩
      case measure => simp [intOf]; omega
    · obtain rfl : k = n := by omega
      generalize sqS (evL R k) r.nrm k = V at *
      go_wp2
      refine bodyPost_ret (v := .tuple #[.int .i64 V, .bool true]) (by simp [results, Try.results19, go_sem]) rfl ?_
      exact ⟨ret_ib HCV.out.symm HJ.out.symm, HB1.out⟩
end Go.Proofs.Ytpbkeagpipipmaa

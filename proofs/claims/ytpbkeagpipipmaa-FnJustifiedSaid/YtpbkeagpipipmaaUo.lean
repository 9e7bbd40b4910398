/-
  The walk of FnJustified.
-/
import Derived.Test.YtpbkeagpipipmaaUm
import Derived.Test.YtpbkeagpipipmaaUn
namespace Go.Proofs.Ytpbkeagpipipmaa
open Go.RowKit
set_option linter.unusedVariables false

theorem BytesIn.under {w w' : World} {A : Option Addr} {l : List UInt8} {B : Nat} (h : BytesIn w A l) (hb : Below B w w') (hB : w.heap.size ≤ B) : BytesIn w' A l := fun hn => by
  obtain ⟨b, off, rfl, h2, h3⟩ := h hn
  exact ⟨b, off, rfl, Nat.lt_of_lt_of_le h2 hb.size, fun k hk => (hb.cell (by show b < B; omega)).trans (h3 k hk)⟩
set_option maxRecDepth 100000 in
set_option maxHeartbeats 8000000 in
theorem justWalk (A : Option Addr) (xs : List UInt8) (c : Nat) (Ay : Option Addr) (ys : List UInt8) (cy : Nat) (w : World) (hx : BytesIn w A xs) (hxs : xs.length ≤ maxLen) (hy : BytesIn w Ay ys) (hys : ys.length ≤ maxLen) :
    Calls Try.prog 3 #[.slice A xs.length c, .slice Ay ys.length cy] w fun e w' => e = .returned (.bool true) ∧ Below w.heap.size w w' := by
  have HX := Lib.hid hx; have HY := Lib.hid hy; clear hx hy
  have hlongs : (1048576 : Int) < wrap64 ((xs.length : Int) + (ys.length : Int)) ∨ ¬ (1048576 : Int) < wrap64 ((xs.length : Int) + (ys.length : Int)) := by omega
  go_enter Try.func3, Try.ntmps3
  by_cases hlong : (1048576 : Int) < wrap64 ((xs.length : Int) + (ys.length : Int))
  · go_wp2
    go_ret
    exact ⟨rfl, Below.refl _ _⟩
  clear hlongs
  go_wp2_with fail
  refine (drawJustifyLine_any A c xs w HX.out hxs).mono ?_
  rintro e w1 ⟨l, B, d, r, m, rfl, hl, hcap, hmr, hin, hb⟩
  obtain ⟨w2, hw2⟩ : ∃ w2 : World, w2 = w1.alloc (.cells #[.int .i64 r.lst, .int .i64 r.nrm, .int .i64 r.mst] 25) := ⟨_, rfl⟩
  have hb2 : Below w1.heap.size w1 w2 := by rw [hw2]; exact (Below.refl _ _).alloc (Nat.le_refl _) _
  have HR : Hid (RuAt w2 w1.heap.size 25 r) := Lib.hid (by rw [hw2]; exact heap_new _ _)
  have HA : Hid (Below w.heap.size w w2) := Lib.hid (hb.trans (hb2.mono hb.size))
  have HL : Hid (IntsIn w2 B l) := Lib.hid (hin.below hb2 (Nat.le_refl _))
  have HW2 := Lib.hid hw2
  have hn : l.length ≤ 1048576 := by omega
  clear HX hlong hxs hb hb2 hw2 hin
  obtain ⟨L, hL⟩ : ∃ F, F = jsL l r m := ⟨_, rfl⟩
  obtain ⟨J, hJ⟩ : ∃ F, F = jsB l r m := ⟨_, rfl⟩
  obtain ⟨wn, hwn⟩ : ∃ F, F = wnV l r m := ⟨_, rfl⟩
  obtain ⟨ak, hak⟩ : ∃ F, F = askB l r m := ⟨_, rfl⟩
  obtain ⟨co, hco⟩ : ∃ F, F = coV l r m := ⟨_, rfl⟩
  obtain ⟨lo, hlo⟩ : ∃ F, F = wbL l r := ⟨_, rfl⟩
  obtain ⟨hi, hhi⟩ : ∃ F, F = wbH l r := ⟨_, rfl⟩
  obtain ⟨lr, hlr⟩ : ∃ F, F = lrB l r := ⟨_, rfl⟩
  obtain ⟨nw, hnw⟩ : ∃ F, F = nwV l r := ⟨_, rfl⟩
  have hLl : L.length ≤ 1048576 := by rw [hL]; exact jsL_len l r m
  have KJi := Lib.hid (fun (W : World) (h : IntsIn W B l) => (by have h2 := implJustifyLine_any l B d r m W h hn; rw [← hL, ← hJ] at h2; exact h2 : Calls Try.prog 15 #[.slice B l.length d, .agg #[.int .i64 r.lst, .int .i64 r.nrm, .int .i64 r.mst], .int .i64 m] W fun e W' => ∃ v T, e = .returned (.tuple #[v, .bool J]) ∧ Below W.heap.size W W' ∧ W'.ownsRow W.heap.size T 1 v L.length (intsZ L)))
  have KJs := Lib.hid (fun (W : World) (h : IntsIn W B l) => (by have h2 := specJustifyLine_any l B d r m W h hn; rw [← hL, ← hJ] at h2; exact h2 : Calls Try.prog 16 #[.slice B l.length d, .agg #[.int .i64 r.lst, .int .i64 r.nrm, .int .i64 r.mst], .int .i64 m] W fun e W' => ∃ v T, e = .returned (.tuple #[v, .bool J]) ∧ Below W.heap.size W W' ∧ W'.ownsRow W.heap.size T 1 v L.length (intsZ L)))
  have KWi := Lib.hid (fun (W : World) (h : IntsIn W B l) => (by have h2 := implWhyNotJustified_any l B d r m W h hn; rw [← hwn, ← hak] at h2; exact h2 : Calls Try.prog 17 #[.slice B l.length d, .agg #[.int .i64 r.lst, .int .i64 r.nrm, .int .i64 r.mst], .int .i64 m] W fun e W' => e = .returned (.tuple #[.int .i64 wn, .bool ak]) ∧ Below W.heap.size W W'))
  have KWs := Lib.hid (fun (W : World) (h : IntsIn W B l) => (by have h2 := specWhyNotJustified_any l B d r m W h hn; rw [← hwn, ← hak] at h2; exact h2 : Calls Try.prog 18 #[.slice B l.length d, .agg #[.int .i64 r.lst, .int .i64 r.nrm, .int .i64 r.mst], .int .i64 m] W fun e W' => e = .returned (.tuple #[.int .i64 wn, .bool ak]) ∧ Below W.heap.size W W'))
  have KCi := Lib.hid (fun (W : World) (h : IntsIn W B l) => (by have h2 := implCostOfLine_any l B d r m W h hn; rw [← hco, ← hJ] at h2; exact h2 : Calls Try.prog 19 #[.slice B l.length d, .agg #[.int .i64 r.lst, .int .i64 r.nrm, .int .i64 r.mst], .int .i64 m] W fun e W' => e = .returned (.tuple #[.int .i64 co, .bool J]) ∧ Below W.heap.size W W'))
  have KCs := Lib.hid (fun (W : World) (h : IntsIn W B l) => (by have h2 := specCostOfLine_any l B d r m W h hn; rw [← hco, ← hJ] at h2; exact h2 : Calls Try.prog 20 #[.slice B l.length d, .agg #[.int .i64 r.lst, .int .i64 r.nrm, .int .i64 r.mst], .int .i64 m] W fun e W' => e = .returned (.tuple #[.int .i64 co, .bool J]) ∧ Below W.heap.size W W'))
  have KBi := Lib.hid (fun (W : World) (h : IntsIn W B l) => (by have h2 := implWidthBounds_any l B d r W h hn; rw [← hlo, ← hhi, ← hlr] at h2; exact h2 : Calls Try.prog 21 #[.slice B l.length d, .agg #[.int .i64 r.lst, .int .i64 r.nrm, .int .i64 r.mst]] W fun e W' => e = .returned (.tuple #[.int .i64 lo, .int .i64 hi, .bool lr]) ∧ Below W.heap.size W W'))
  have KBs := Lib.hid (fun (W : World) (h : IntsIn W B l) => (by have h2 := specWidthBounds_any l B d r W h hn; rw [← hlo, ← hhi, ← hlr] at h2; exact h2 : Calls Try.prog 22 #[.slice B l.length d, .agg #[.int .i64 r.lst, .int .i64 r.nrm, .int .i64 r.mst]] W fun e W' => e = .returned (.tuple #[.int .i64 lo, .int .i64 hi, .bool lr]) ∧ Below W.heap.size W W'))
  have KNi := Lib.hid (fun (W : World) (h : IntsIn W B l) => (by have h2 := implNaturalWidth_any l B d r W h hn; rw [← hnw, ← hlr] at h2; exact h2 : Calls Try.prog 23 #[.slice B l.length d, .agg #[.int .i64 r.lst, .int .i64 r.nrm, .int .i64 r.mst]] W fun e W' => e = .returned (.tuple #[.int .i64 nw, .bool lr]) ∧ Below W.heap.size W W'))
  have KNs := Lib.hid (fun (W : World) (h : IntsIn W B l) => (by have h2 := specNaturalWidth_any l B d r W h hn; rw [← hnw, ← hlr] at h2; exact h2 : Calls Try.prog 24 #[.slice B l.length d, .agg #[.int .i64 r.lst, .int .i64 r.nrm, .int .i64 r.mst]] W fun e W' => e = .returned (.tuple #[.int .i64 nw, .bool lr]) ∧ Below W.heap.size W W'))
  have EL := Lib.hid hL; have EJ := Lib.hid hJ; have EW := Lib.hid hwn; have EK := Lib.hid hak; have EC := Lib.hid hco; have ELO := Lib.hid hlo; have EHI := Lib.hid hhi; have ELR := Lib.hid hlr; have EN := Lib.hid hnw
  clear hL hJ hwn hak hco hlo hhi hlr hnw
  obtain ⟨m0, m1, m2⟩ := HR.out.cells
  have ml := HR.out.lt
  have HW3 := HW2
  go_wp2_with fail
  rw [← HW2.out]
  refine (KJi.out _ HL.out).mono ?_
  rintro e w3 ⟨v, T, rfl, hb, ho⟩
  obtain ⟨BPi, dPi, rfl⟩ := own_formI ho
  have HPi := Lib.hid (own_in ho)
  clear ho m0 m1 m2 ml
  replace HA := Lib.hid (HA.out.trans (hb.mono HA.out.size)); replace HL := Lib.hid (HL.out.below hb (Nat.le_refl _)); replace HR := Lib.hid (HR.out.next hb)
  clear hb
  obtain ⟨m0, m1, m2⟩ := HR.out.cells
  have ml := HR.out.lt
  go_wp2_with fail
  refine (KJs.out _ HL.out).mono ?_
  rintro e w4 ⟨v, T, rfl, hb, ho⟩
  obtain ⟨BPs, dPs, rfl⟩ := own_formI ho
  have HPs := Lib.hid (own_in ho)
  clear ho m0 m1 m2 ml
  replace HA := Lib.hid (HA.out.trans (hb.mono HA.out.size)); replace HL := Lib.hid (HL.out.below hb (Nat.le_refl _)); replace HR := Lib.hid (HR.out.next hb)
  replace HPi := Lib.hid (HPi.out.below hb (Nat.le_refl _))
  clear hb
  obtain ⟨m0, m1, m2⟩ := HR.out.cells
  have ml := HR.out.lt
  go_wp2_with fail
  refine (KWi.out _ HL.out).mono ?_
  rintro e w5 ⟨rfl, hb⟩
  clear m0 m1 m2 ml
  replace HA := Lib.hid (HA.out.trans (hb.mono HA.out.size)); replace HL := Lib.hid (HL.out.below hb (Nat.le_refl _)); replace HR := Lib.hid (HR.out.next hb); replace HPi := Lib.hid (HPi.out.below hb (Nat.le_refl _)); replace HPs := Lib.hid (HPs.out.below hb (Nat.le_refl _))
  clear hb
  obtain ⟨m0, m1, m2⟩ := HR.out.cells
  have ml := HR.out.lt
  go_wp2_with fail
  refine (KWs.out _ HL.out).mono ?_
  rintro e w6 ⟨rfl, hb⟩
  clear m0 m1 m2 ml
  replace HA := Lib.hid (HA.out.trans (hb.mono HA.out.size)); replace HL := Lib.hid (HL.out.below hb (Nat.le_refl _)); replace HR := Lib.hid (HR.out.next hb); replace HPi := Lib.hid (HPi.out.below hb (Nat.le_refl _)); replace HPs := Lib.hid (HPs.out.below hb (Nat.le_refl _))
  clear hb
  obtain ⟨m0, m1, m2⟩ := HR.out.cells
  have ml := HR.out.lt
  go_wp2_with fail
  refine (KCi.out _ HL.out).mono ?_
  rintro e w7 ⟨rfl, hb⟩
  clear m0 m1 m2 ml
  replace HA := Lib.hid (HA.out.trans (hb.mono HA.out.size)); replace HL := Lib.hid (HL.out.below hb (Nat.le_refl _)); replace HR := Lib.hid (HR.out.next hb); replace HPi := Lib.hid (HPi.out.below hb (Nat.le_refl _)); replace HPs := Lib.hid (HPs.out.below hb (Nat.le_refl _))
  clear hb
  obtain ⟨m0, m1, m2⟩ := HR.out.cells
  have ml := HR.out.lt
  go_wp2_with fail
  refine (KCs.out _ HL.out).mono ?_
  rintro e w8 ⟨rfl, hb⟩
  clear m0 m1 m2 ml
  replace HA := Lib.hid (HA.out.trans (hb.mono HA.out.size)); replace HL := Lib.hid (HL.out.below hb (Nat.le_refl _)); replace HR := Lib.hid (HR.out.next hb); replace HPi := Lib.hid (HPi.out.below hb (Nat.le_refl _)); replace HPs := Lib.hid (HPs.out.below hb (Nat.le_refl _))
  clear hb
  obtain ⟨m0, m1, m2⟩ := HR.out.cells
  have ml := HR.out.lt
  go_wp2_with fail
  refine (KBi.out _ HL.out).mono ?_
  rintro e w9 ⟨rfl, hb⟩
  clear m0 m1 m2 ml
  replace HA := Lib.hid (HA.out.trans (hb.mono HA.out.size)); replace HL := Lib.hid (HL.out.below hb (Nat.le_refl _)); replace HR := Lib.hid (HR.out.next hb); replace HPi := Lib.hid (HPi.out.below hb (Nat.le_refl _)); replace HPs := Lib.hid (HPs.out.below hb (Nat.le_refl _))
  clear hb
  obtain ⟨m0, m1, m2⟩ := HR.out.cells
  have ml := HR.out.lt
  go_wp2_with fail
  refine (KBs.out _ HL.out).mono ?_
  rintro e w10 ⟨rfl, hb⟩
  clear m0 m1 m2 ml
  replace HA := Lib.hid (HA.out.trans (hb.mono HA.out.size)); replace HL := Lib.hid (HL.out.below hb (Nat.le_refl _)); replace HR := Lib.hid (HR.out.next hb); replace HPi := Lib.hid (HPi.out.below hb (Nat.le_refl _)); replace HPs := Lib.hid (HPs.out.below hb (Nat.le_refl _))
  clear hb
  obtain ⟨m0, m1, m2⟩ := HR.out.cells
  have ml := HR.out.lt
  go_wp2_with fail
  refine (KNi.out _ HL.out).mono ?_
  rintro e w11 ⟨rfl, hb⟩
  clear m0 m1 m2 ml
  replace HA := Lib.hid (HA.out.trans (hb.mono HA.out.size)); replace HL := Lib.hid (HL.out.below hb (Nat.le_refl _)); replace HR := Lib.hid (HR.out.next hb); replace HPi := Lib.hid (HPi.out.below hb (Nat.le_refl _)); replace HPs := Lib.hid (HPs.out.below hb (Nat.le_refl _))
  clear hb
  obtain ⟨m0, m1, m2⟩ := HR.out.cells
  have ml := HR.out.lt
  go_wp2_with fail
  refine (KNs.out _ HL.out).mono ?_
  rintro e w12 ⟨rfl, hb⟩
  clear m0 m1 m2 ml
  replace HA := Lib.hid (HA.out.trans (hb.mono HA.out.size)); replace HL := Lib.hid (HL.out.below hb (Nat.le_refl _)); replace HR := Lib.hid (HR.out.next hb); replace HPi := Lib.hid (HPi.out.below hb (Nat.le_refl _)); replace HPs := Lib.hid (HPs.out.below hb (Nat.le_refl _))
  clear hb
  obtain ⟨m0, m1, m2⟩ := HR.out.cells
  have ml := HR.out.lt
  have e1 : (wn != wn) = false := by simp
  have e2 : (co != co) = false := by simp
  have e3 : (lo != lo) = false := by simp
  have e4 : (hi != hi) = false := by simp
  have e5 : (nw != nw) = false := by simp
  cases lr with
  | false =>
    have hk : ak = false := by rw [EK.out]; unfold askB; rw [← ELR.out]; rfl
    have hj : J = false := by rw [EJ.out]; exact js_not1 (by rw [← EK.out, hk])
    subst hk hj
    go_wp2_with fail
    refine (qInts_any L BPi BPs dPi dPs _ HPi.out HPs.out hLl).mono ?_
    rintro e w15 ⟨rfl, hb⟩
    clear m0 m1 m2 ml
    replace HA := Lib.hid (HA.out.trans (hb.mono HA.out.size)); replace HL := Lib.hid (HL.out.below hb (Nat.le_refl _)); replace HR := Lib.hid (HR.out.next hb); replace HPi := Lib.hid (HPi.out.below hb (Nat.le_refl _)); replace HPs := Lib.hid (HPs.out.below hb (Nat.le_refl _))
    clear hb
    obtain ⟨m0, m1, m2⟩ := HR.out.cells
    have ml := HR.out.lt
    go_wp2_with fail
    refine (drawIsRule_any Ay cy ys _ (HY.out.under HA.out (Nat.le_refl _)) hys).mono ?_
    rintro e w20 ⟨⟨u, rfl⟩, hb⟩
    replace HA := Lib.hid (HA.out.trans (hb.mono HA.out.size))
    clear hb
    obtain ⟨w21, hw21⟩ : ∃ w21 : World, w21 = w20.alloc (.cells #[.int .i64 u.lst, .int .i64 u.nrm, .int .i64 u.mst] 25) := ⟨_, rfl⟩
    have hb : Below w20.heap.size w20 w21 := by rw [hw21]; exact (Below.refl _ _).alloc (Nat.le_refl _) _
    have HU : Hid (RuAt w21 w20.heap.size 25 u) := Lib.hid (by rw [hw21]; exact heap_new _ _)
    replace HA := Lib.hid (HA.out.trans (hb.mono HA.out.size))
    have HW21 := Lib.hid hw21
    clear hb hw21
    obtain ⟨k0, k1, k2⟩ := HU.out.kept HU.out.lt
    obtain ⟨q, hq⟩ : ∃ q, q = juB u := ⟨_, rfl⟩
    have hi : ∀ x : KeptW w21.heap.size w21, Calls Try.prog 26 #[.agg #[.int .i64 u.lst, .int .i64 u.nrm, .int .i64 u.mst]] x.at_ fun e w' => e = .returned (.bool q) ∧ Below x.at_.heap.size x.at_ w' := fun x => by rw [hq]; exact implIsRule_any u _
    have hs : ∀ x : KeptW w21.heap.size w21, Calls Try.prog 29 #[.agg #[.int .i64 u.lst, .int .i64 u.nrm, .int .i64 u.mst]] x.at_ fun e w' => e = .returned (.bool q) ∧ Below x.at_.heap.size x.at_ w' := fun x => by rw [hq]; exact specIsRule_any u _
    have hqq : (q == q) = true := by simp
    clear hq
    go_wp2_with fail
    rw [← HW21.out]
    refine region_kept w21.heap.size (by kernel_rfl) (by kernel_rfl) ?_
    repeat (go_big_quiet_step (fail))
    go_big_quiet_step ((go_at_call 26; exact kept_call _ (Nat.le_refl _) (hi _)))
    repeat (go_big_quiet_step (fail))
    go_big_quiet_step ((go_at_call 29; exact kept_call _ (Nat.le_refl _) (hs _)))
    repeat (go_big_quiet_step (fail))
    refine wpQuiet_nil ?_
    intro w22 hb
    replace HA := Lib.hid (HA.out.trans (hb.mono HA.out.size))
    clear hb k0 k1 k2 hi hs
    go_wp2
    go_ret
    exact ⟨rfl, HA.out⟩
  | true =>
  have hlr := ELR.out.symm
  obtain ⟨gl, gr⟩ := lrB_iff.1 hlr
  obtain ⟨y1, y2, y3⟩ := lr_yes hlr
  have HJU : Hid (juB r = true) := Lib.hid (juB_iff.2 gr)
  have o1 : ¬ nw < lo := by rw [EN.out, ELO.out, y1, y2]; exact Int.not_lt.2 (widV_mono gl.one gr.b)
  have o2 : ¬ hi < nw := by rw [EN.out, EHI.out, y1, y3]; exact Int.not_lt.2 (widV_mono gl.one gr.c)
  cases ak with
  | false =>
    have hj : J = false := by rw [EJ.out]; exact js_not1 EK.out.symm
    subst hj
    clear hlr gl gr y1 y2 y3
    go_wp2_with fail
    refine (qInts_any L BPi BPs dPi dPs _ HPi.out HPs.out hLl).mono ?_
    rintro e w15 ⟨rfl, hb⟩
    clear m0 m1 m2 ml
    replace HA := Lib.hid (HA.out.trans (hb.mono HA.out.size)); replace HL := Lib.hid (HL.out.below hb (Nat.le_refl _)); replace HR := Lib.hid (HR.out.next hb); replace HPi := Lib.hid (HPi.out.below hb (Nat.le_refl _)); replace HPs := Lib.hid (HPs.out.below hb (Nat.le_refl _))
    clear hb
    obtain ⟨m0, m1, m2⟩ := HR.out.cells
    have ml := HR.out.lt
    go_wp2_with fail
    refine (implIsRule_any r _).mono ?_
    rintro e w16 ⟨rfl, hb⟩
    rw [HJU.out]
    clear m0 m1 m2 ml
    replace HA := Lib.hid (HA.out.trans (hb.mono HA.out.size)); replace HL := Lib.hid (HL.out.below hb (Nat.le_refl _)); replace HR := Lib.hid (HR.out.next hb); replace HPi := Lib.hid (HPi.out.below hb (Nat.le_refl _)); replace HPs := Lib.hid (HPs.out.below hb (Nat.le_refl _))
    clear hb
    obtain ⟨m0, m1, m2⟩ := HR.out.cells
    have ml := HR.out.lt
    go_wp2_with fail
    refine (drawIsRule_any Ay cy ys _ (HY.out.under HA.out (Nat.le_refl _)) hys).mono ?_
    rintro e w20 ⟨⟨u, rfl⟩, hb⟩
    replace HA := Lib.hid (HA.out.trans (hb.mono HA.out.size))
    clear hb
    obtain ⟨w21, hw21⟩ : ∃ w21 : World, w21 = w20.alloc (.cells #[.int .i64 u.lst, .int .i64 u.nrm, .int .i64 u.mst] 25) := ⟨_, rfl⟩
    have hb : Below w20.heap.size w20 w21 := by rw [hw21]; exact (Below.refl _ _).alloc (Nat.le_refl _) _
    have HU : Hid (RuAt w21 w20.heap.size 25 u) := Lib.hid (by rw [hw21]; exact heap_new _ _)
    replace HA := Lib.hid (HA.out.trans (hb.mono HA.out.size))
    have HW21 := Lib.hid hw21
    clear hb hw21
    obtain ⟨k0, k1, k2⟩ := HU.out.kept HU.out.lt
    obtain ⟨q, hq⟩ : ∃ q, q = juB u := ⟨_, rfl⟩
    have hi : ∀ x : KeptW w21.heap.size w21, Calls Try.prog 26 #[.agg #[.int .i64 u.lst, .int .i64 u.nrm, .int .i64 u.mst]] x.at_ fun e w' => e = .returned (.bool q) ∧ Below x.at_.heap.size x.at_ w' := fun x => by rw [hq]; exact implIsRule_any u _
    have hs : ∀ x : KeptW w21.heap.size w21, Calls Try.prog 29 #[.agg #[.int .i64 u.lst, .int .i64 u.nrm, .int .i64 u.mst]] x.at_ fun e w' => e = .returned (.bool q) ∧ Below x.at_.heap.size x.at_ w' := fun x => by rw [hq]; exact specIsRule_any u _
    have hqq : (q == q) = true := by simp
    clear hq
    go_wp2_with fail
    rw [← HW21.out]
    refine region_kept w21.heap.size (by kernel_rfl) (by kernel_rfl) ?_
    repeat (go_big_quiet_step (fail))
    go_big_quiet_step ((go_at_call 26; exact kept_call _ (Nat.le_refl _) (hi _)))
    repeat (go_big_quiet_step (fail))
    go_big_quiet_step ((go_at_call 29; exact kept_call _ (Nat.le_refl _) (hs _)))
    repeat (go_big_quiet_step (fail))
    refine wpQuiet_nil ?_
    intro w22 hb
    replace HA := Lib.hid (HA.out.trans (hb.mono HA.out.size))
    clear hb k0 k1 k2 hi hs
    go_wp2
    go_ret
    exact ⟨rfl, HA.out⟩
  | true =>
  have hak := EK.out.symm
  have hwn : wn = whyV l r m := by rw [EW.out]; exact wn_yes hak
  have hlow : lo ≤ m ↔ gpI l * r.lst ≤ rmI l m := by rw [ELO.out, y2]; exact wid_rm l m r.lst
  have hhig : m ≤ hi ↔ rmI l m ≤ gpI l * r.mst := by rw [EHI.out, y3]; exact rm_wid l m r.mst
  have hfit : wn = 0 ↔ lo ≤ m ∧ m ≤ hi := by rw [hwn, why_fits, hlow, hhig]
  cases J with
  | false =>
    have hz : ¬ wn = 0 := fun h => by have := EJ.out; rw [js_is hak (by rw [← hwn, h])] at this; cases this
    have e6 : (wn == 0) = false := by simp [hz]
    have hno : ¬ (lo ≤ m ∧ m ≤ hi) := fun h => hz (hfit.2 h)
    clear hlr gl gr y1 y2 y3 hak hwn hlow hhig hfit hz
    rcases (by omega : ¬ lo ≤ m ∨ (lo ≤ m ∧ ¬ m ≤ hi)) with o3 | ⟨o3, o4⟩
    · clear hno
      go_wp2_with fail
      refine (qInts_any L BPi BPs dPi dPs _ HPi.out HPs.out hLl).mono ?_
      rintro e w15 ⟨rfl, hb⟩
      clear m0 m1 m2 ml
      replace HA := Lib.hid (HA.out.trans (hb.mono HA.out.size)); replace HL := Lib.hid (HL.out.below hb (Nat.le_refl _)); replace HR := Lib.hid (HR.out.next hb); replace HPi := Lib.hid (HPi.out.below hb (Nat.le_refl _)); replace HPs := Lib.hid (HPs.out.below hb (Nat.le_refl _))
      clear hb
      obtain ⟨m0, m1, m2⟩ := HR.out.cells
      have ml := HR.out.lt
      go_wp2_with fail
      refine (implIsRule_any r _).mono ?_
      rintro e w16 ⟨rfl, hb⟩
      rw [HJU.out]
      clear m0 m1 m2 ml
      replace HA := Lib.hid (HA.out.trans (hb.mono HA.out.size)); replace HL := Lib.hid (HL.out.below hb (Nat.le_refl _)); replace HR := Lib.hid (HR.out.next hb); replace HPi := Lib.hid (HPi.out.below hb (Nat.le_refl _)); replace HPs := Lib.hid (HPs.out.below hb (Nat.le_refl _))
      clear hb
      obtain ⟨m0, m1, m2⟩ := HR.out.cells
      have ml := HR.out.lt
      go_wp2_with fail
      refine (drawIsRule_any Ay cy ys _ (HY.out.under HA.out (Nat.le_refl _)) hys).mono ?_
      rintro e w20 ⟨⟨u, rfl⟩, hb⟩
      replace HA := Lib.hid (HA.out.trans (hb.mono HA.out.size))
      clear hb
      obtain ⟨w21, hw21⟩ : ∃ w21 : World, w21 = w20.alloc (.cells #[.int .i64 u.lst, .int .i64 u.nrm, .int .i64 u.mst] 25) := ⟨_, rfl⟩
      have hb : Below w20.heap.size w20 w21 := by rw [hw21]; exact (Below.refl _ _).alloc (Nat.le_refl _) _
      have HU : Hid (RuAt w21 w20.heap.size 25 u) := Lib.hid (by rw [hw21]; exact heap_new _ _)
      replace HA := Lib.hid (HA.out.trans (hb.mono HA.out.size))
      have HW21 := Lib.hid hw21
      clear hb hw21
      obtain ⟨k0, k1, k2⟩ := HU.out.kept HU.out.lt
      obtain ⟨q, hq⟩ : ∃ q, q = juB u := ⟨_, rfl⟩
      have hi : ∀ x : KeptW w21.heap.size w21, Calls Try.prog 26 #[.agg #[.int .i64 u.lst, .int .i64 u.nrm, .int .i64 u.mst]] x.at_ fun e w' => e = .returned (.bool q) ∧ Below x.at_.heap.size x.at_ w' := fun x => by rw [hq]; exact implIsRule_any u _
      have hs : ∀ x : KeptW w21.heap.size w21, Calls Try.prog 29 #[.agg #[.int .i64 u.lst, .int .i64 u.nrm, .int .i64 u.mst]] x.at_ fun e w' => e = .returned (.bool q) ∧ Below x.at_.heap.size x.at_ w' := fun x => by rw [hq]; exact specIsRule_any u _
      have hqq : (q == q) = true := by simp
      clear hq
      go_wp2_with fail
      rw [← HW21.out]
      refine region_kept w21.heap.size (by kernel_rfl) (by kernel_rfl) ?_
      repeat (go_big_quiet_step (fail))
      go_big_quiet_step ((go_at_call 26; exact kept_call _ (Nat.le_refl _) (hi _)))
      repeat (go_big_quiet_step (fail))
      go_big_quiet_step ((go_at_call 29; exact kept_call _ (Nat.le_refl _) (hs _)))
      repeat (go_big_quiet_step (fail))
      refine wpQuiet_nil ?_
      intro w22 hb
      replace HA := Lib.hid (HA.out.trans (hb.mono HA.out.size))
      clear hb k0 k1 k2 hi hs
      go_wp2
      go_ret
      exact ⟨rfl, HA.out⟩
    · clear hno
      go_wp2_with fail
      refine (qInts_any L BPi BPs dPi dPs _ HPi.out HPs.out hLl).mono ?_
      rintro e w15 ⟨rfl, hb⟩
      clear m0 m1 m2 ml
      replace HA := Lib.hid (HA.out.trans (hb.mono HA.out.size)); replace HL := Lib.hid (HL.out.below hb (Nat.le_refl _)); replace HR := Lib.hid (HR.out.next hb); replace HPi := Lib.hid (HPi.out.below hb (Nat.le_refl _)); replace HPs := Lib.hid (HPs.out.below hb (Nat.le_refl _))
      clear hb
      obtain ⟨m0, m1, m2⟩ := HR.out.cells
      have ml := HR.out.lt
      go_wp2_with fail
      refine (implIsRule_any r _).mono ?_
      rintro e w16 ⟨rfl, hb⟩
      rw [HJU.out]
      clear m0 m1 m2 ml
      replace HA := Lib.hid (HA.out.trans (hb.mono HA.out.size)); replace HL := Lib.hid (HL.out.below hb (Nat.le_refl _)); replace HR := Lib.hid (HR.out.next hb); replace HPi := Lib.hid (HPi.out.below hb (Nat.le_refl _)); replace HPs := Lib.hid (HPs.out.below hb (Nat.le_refl _))
      clear hb
      obtain ⟨m0, m1, m2⟩ := HR.out.cells
      have ml := HR.out.lt
      go_wp2_with fail
      refine (drawIsRule_any Ay cy ys _ (HY.out.under HA.out (Nat.le_refl _)) hys).mono ?_
      rintro e w20 ⟨⟨u, rfl⟩, hb⟩
      replace HA := Lib.hid (HA.out.trans (hb.mono HA.out.size))
      clear hb
      obtain ⟨w21, hw21⟩ : ∃ w21 : World, w21 = w20.alloc (.cells #[.int .i64 u.lst, .int .i64 u.nrm, .int .i64 u.mst] 25) := ⟨_, rfl⟩
      have hb : Below w20.heap.size w20 w21 := by rw [hw21]; exact (Below.refl _ _).alloc (Nat.le_refl _) _
      have HU : Hid (RuAt w21 w20.heap.size 25 u) := Lib.hid (by rw [hw21]; exact heap_new _ _)
      replace HA := Lib.hid (HA.out.trans (hb.mono HA.out.size))
      have HW21 := Lib.hid hw21
      clear hb hw21
      obtain ⟨k0, k1, k2⟩ := HU.out.kept HU.out.lt
      obtain ⟨q, hq⟩ : ∃ q, q = juB u := ⟨_, rfl⟩
      have hi : ∀ x : KeptW w21.heap.size w21, Calls Try.prog 26 #[.agg #[.int .i64 u.lst, .int .i64 u.nrm, .int .i64 u.mst]] x.at_ fun e w' => e = .returned (.bool q) ∧ Below x.at_.heap.size x.at_ w' := fun x => by rw [hq]; exact implIsRule_any u _
      have hs : ∀ x : KeptW w21.heap.size w21, Calls Try.prog 29 #[.agg #[.int .i64 u.lst, .int .i64 u.nrm, .int .i64 u.mst]] x.at_ fun e w' => e = .returned (.bool q) ∧ Below x.at_.heap.size x.at_ w' := fun x => by rw [hq]; exact specIsRule_any u _
      have hqq : (q == q) = true := by simp
      clear hq
      go_wp2_with fail
      rw [← HW21.out]
      refine region_kept w21.heap.size (by kernel_rfl) (by kernel_rfl) ?_
      repeat (go_big_quiet_step (fail))
      go_big_quiet_step ((go_at_call 26; exact kept_call _ (Nat.le_refl _) (hi _)))
      repeat (go_big_quiet_step (fail))
      go_big_quiet_step ((go_at_call 29; exact kept_call _ (Nat.le_refl _) (hs _)))
      repeat (go_big_quiet_step (fail))
      refine wpQuiet_nil ?_
      intro w22 hb
      replace HA := Lib.hid (HA.out.trans (hb.mono HA.out.size))
      clear hb k0 k1 k2 hi hs
      go_wp2
      go_ret
      exact ⟨rfl, HA.out⟩
  | true =>
    have hwy : whyV l r m = 0 := (jsB_iff.1 EJ.out.symm).2
    have e6 : (wn == 0) = true := by rw [hwn, hwy]; rfl
    obtain ⟨o3, o4⟩ := hfit.1 (by rw [hwn, hwy])
    have hSP := sp_ok hak hwy
    have hLE : L = evL (rmI l m) (l.length - 1) := by rw [EL.out]; exact js_yes EJ.out.symm
    have HLN : Hid (L.length = l.length - 1) := Lib.hid (by rw [hLE, evL_len])
    have HCO : Hid (co = sqS L r.nrm L.length) := Lib.hid (by rw [EC.out, co_yes EJ.out.symm, hLE, evL_len]; rfl)
    have HRM : Hid (l.sum + rmI l m = m) := Lib.hid (by unfold rmI; omega)
    rw [← hLE] at hSP
    have HSP := Lib.hid hSP
    have HGL := Lib.hid gl
    have HGR := Lib.hid gr
    clear hlr gl gr y1 y2 y3 hak hwn hlow hhig hfit hwy hSP hLE
    go_wp2_with fail
    refine (qInts_any L BPi BPs dPi dPs _ HPi.out HPs.out hLl).mono ?_
    rintro e w15 ⟨rfl, hb⟩
    clear m0 m1 m2 ml
    replace HA := Lib.hid (HA.out.trans (hb.mono HA.out.size)); replace HL := Lib.hid (HL.out.below hb (Nat.le_refl _)); replace HR := Lib.hid (HR.out.next hb); replace HPi := Lib.hid (HPi.out.below hb (Nat.le_refl _)); replace HPs := Lib.hid (HPs.out.below hb (Nat.le_refl _))
    clear hb
    obtain ⟨m0, m1, m2⟩ := HR.out.cells
    have ml := HR.out.lt
    go_wp2_with fail
    refine (implIsRule_any r _).mono ?_
    rintro e w16 ⟨rfl, hb⟩
    rw [HJU.out]
    clear m0 m1 m2 ml
    replace HA := Lib.hid (HA.out.trans (hb.mono HA.out.size)); replace HL := Lib.hid (HL.out.below hb (Nat.le_refl _)); replace HR := Lib.hid (HR.out.next hb); replace HPi := Lib.hid (HPi.out.below hb (Nat.le_refl _)); replace HPs := Lib.hid (HPs.out.below hb (Nat.le_refl _))
    clear hb
    obtain ⟨m0, m1, m2⟩ := HR.out.cells
    have ml := HR.out.lt
    have HPW := Lib.hid (fun k hk => HSP.out.sums (by have := HGR.out.a; omega) HGR.out.d k hk)
    have g1 := HGR.out.a; have g2 := HGR.out.b; have g3 := HGR.out.c; have g4 := HGR.out.d
    have HSQ : Hid (∀ k, k ≤ L.length → 0 ≤ sqS L r.nrm k ∧ sqS L r.nrm k ≤ 146410000 * (k : Int)) := Lib.hid (fun k hk => sqS_range (fun j hj => by have := HSP.out.inn j hj; omega) (by omega) (by omega) k hk)
    have hL19 := HSP.out.len
    go_wp2
    go_loop [30, 226] (fun sv i => ∃ k : Nat, k ≤ L.length ∧ i = .int .i64 (k : Int) ∧ sv = .int .i64 (sqS L r.nrm k)) (fun _ i => L.length - (intOf i).toNat)
    case atStart => exact ⟨0, Nat.zero_le _, rfl, rfl⟩
    case round =>
      obtain ⟨k, hk, rfl, rfl⟩ := hrel
      by_cases hlt : k < L.length
      · have HST := Lib.hid (sqS_succ hlt r.nrm)
        have hsr := HSQ.out k hk
        have hin := HSP.out.inn k hlt
        have hd0 := HSP.out.down 0 k (by omega) hlt (Nat.zero_le _)
        obtain ⟨b0, off, hBP, hbl, hc⟩ := HPs.out (by omega)
        have c0 := hc k hlt
        have c1 := hc 0 (by omega)
        have HC := Lib.hid hc
        have HDN := Lib.hid (HSP.out.down)
        clear hc
        rw [Nat.add_zero] at c1
        have hkl : (k : Int) < (L.length : Int) := by omega
        have hkn : (0 : Int) ≤ (k : Int) := by omega
        have hL0 : (0 : Int) < (L.length : Int) := by omega
        rcases Nat.eq_zero_or_pos k with hk0 | hk0
        · have hk00 : ¬ (0 : Int) < (k : Int) := by omega
          clear hk0 c1 hd0
          generalize L[k]'hlt = x at *
          generalize sqS L r.nrm k = q at *
          have hsq := sq_tame (d := x - r.nrm) (by omega) (by omega)
          have n1 : ¬ x < r.lst := by omega
          have n2 : ¬ r.mst < x := by omega
          subst hBP
          go_wp2
          go_round
          case rel => exact ⟨k + 1, by omega, by go_num, by rw [HST.out]⟩
          case measure => simp [intOf]; omega
        · obtain ⟨j, hj⟩ : ∃ j : Nat, j = k - 1 := ⟨_, rfl⟩
          have hjk : (k : Int) - 1 = (j : Int) := by omega
          have hjl : j < L.length := by omega
          have c2 := HC.out j hjl
          have hd1 := HDN.out j k hjl hlt (by omega)
          have hk00 : (0 : Int) < (k : Int) := by omega
          have hji : (j : Int) < (L.length : Int) := by omega
          have hjn : (0 : Int) ≤ (j : Int) := by omega
          clear hk0 hj
          generalize L[k]'hlt = x at *
          generalize L[j]'hjl = y at *
          generalize L[0] = z at *
          generalize sqS L r.nrm k = q at *
          have hsq := sq_tame (d := x - r.nrm) (by omega) (by omega)
          have n1 : ¬ x < r.lst := by omega
          have n2 : ¬ r.mst < x := by omega
          have n3 : ¬ y < x := by omega
          have n4 : ¬ x + 1 < z := by omega
          subst hBP
          go_wp2
          go_round
          case rel => exact ⟨k + 1, by omega, by go_num, by rw [HST.out]⟩
          case measure => simp [intOf]; omega
      · obtain rfl : k = L.length := by omega
        have hco := HCO.out.symm
        have hl1 := HGL.out.one
        have hlen : ((L.length : Int) != (l.length : Int) - 1) = false := by have := HLN.out; simp; omega
        have hs1 := HGL.out.sum
        have hsum : l.sum + L.sum = m := by rw [HSP.out.all]; exact HRM.out
        have HSW := Lib.hid hsum
        rw [hco]
        clear hco hsum
        go_wp2_with fail
        refine (qSum_any l B d _ HL.out hn (fun k hk => by have := HGL.out.sums k hk; omega)).mono ?_
        rintro e w9 ⟨rfl, rfl⟩
        go_wp2_with fail
        refine (qSum_any L BPs dPs _ HPs.out hLl HPW.out).mono ?_
        rintro e w9 ⟨rfl, rfl⟩
        have hsum := HSW.out
        have hmm : (m != m) = false := by simp
        generalize l.sum = S1 at *
        generalize L.sum = S2 at *
        go_wp2_with fail
        refine (drawIsRule_any Ay cy ys _ (HY.out.under HA.out (Nat.le_refl _)) hys).mono ?_
        rintro e w20 ⟨⟨u, rfl⟩, hb⟩
        replace HA := Lib.hid (HA.out.trans (hb.mono HA.out.size))
        clear hb
        obtain ⟨w21, hw21⟩ : ∃ w21 : World, w21 = w20.alloc (.cells #[.int .i64 u.lst, .int .i64 u.nrm, .int .i64 u.mst] 25) := ⟨_, rfl⟩
        have hb : Below w20.heap.size w20 w21 := by rw [hw21]; exact (Below.refl _ _).alloc (Nat.le_refl _) _
        have HU : Hid (RuAt w21 w20.heap.size 25 u) := Lib.hid (by rw [hw21]; exact heap_new _ _)
        replace HA := Lib.hid (HA.out.trans (hb.mono HA.out.size))
        have HW21 := Lib.hid hw21
        clear hb hw21
        obtain ⟨k0, k1, k2⟩ := HU.out.kept HU.out.lt
        obtain ⟨q, hq⟩ : ∃ q, q = juB u := ⟨_, rfl⟩
        have hi : ∀ x : KeptW w21.heap.size w21, Calls Try.prog 26 #[.agg #[.int .i64 u.lst, .int .i64 u.nrm, .int .i64 u.mst]] x.at_ fun e w' => e = .returned (.bool q) ∧ Below x.at_.heap.size x.at_ w' := fun x => by rw [hq]; exact implIsRule_any u _
        have hs : ∀ x : KeptW w21.heap.size w21, Calls Try.prog 29 #[.agg #[.int .i64 u.lst, .int .i64 u.nrm, .int .i64 u.mst]] x.at_ fun e w' => e = .returned (.bool q) ∧ Below x.at_.heap.size x.at_ w' := fun x => by rw [hq]; exact specIsRule_any u _
        have hqq : (q == q) = true := by simp
        clear hq
        go_wp2_with fail
        rw [← HW21.out]
        refine region_kept w21.heap.size (by kernel_rfl) (by kernel_rfl) ?_
        repeat (go_big_quiet_step (fail))
        go_big_quiet_step ((go_at_call 26; exact kept_call _ (Nat.le_refl _) (hi _)))
        repeat (go_big_quiet_step (fail))
        go_big_quiet_step ((go_at_call 29; exact kept_call _ (Nat.le_refl _) (hs _)))
        repeat (go_big_quiet_step (fail))
        refine wpQuiet_nil ?_
        intro w22 hb
        replace HA := Lib.hid (HA.out.trans (hb.mono HA.out.size))
        clear hb k0 k1 k2 hi hs
        go_wp2
        go_ret
        exact ⟨rfl, HA.out⟩
end Go.Proofs.Ytpbkeagpipipmaa

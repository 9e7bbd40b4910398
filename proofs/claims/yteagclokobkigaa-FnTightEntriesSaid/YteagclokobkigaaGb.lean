/-
  The draws of entries: each answers some values of its own and moves the cursor alone.
-/
import Derived.Test.YteagclokobkigaaCu
import Derived.Test.YteagclokobkigaaGa
import Derived.OwnWalk
import Derived.Maps.AppendAt
import Derived.Deep.RegionLaw
import Derived.Deep.DeepCutAuto
import Derived.Laws.Rows
namespace Go.Proofs.Yteagclokobkigaa
open Go.RowKit
set_option linter.unusedVariables false

theorem EnAt.s0 {w : World} {b : Nat} {t : TypeId} {r : En} (h : EnAt w b t r) (v : Int) : EnAt (w.setCell ⟨b, 0, none⟩ (.int .i64 v)) b t ⟨v, r.spa, r.wid⟩ := by unfold EnAt; rw [heap_set h]; simp
theorem EnAt.s1 {w : World} {b : Nat} {t : TypeId} {r : En} (h : EnAt w b t r) (v : Int) : EnAt (w.setCell ⟨b, 1, none⟩ (.int .i64 v)) b t ⟨r.col, v, r.wid⟩ := by unfold EnAt; rw [heap_set h]; simp
theorem EnAt.s2 {w : World} {b : Nat} {t : TypeId} {r : En} (h : EnAt w b t r) (v : Int) : EnAt (w.setCell ⟨b, 2, none⟩ (.int .i64 v)) b t ⟨r.col, r.spa, v⟩ := by unfold EnAt; rw [heap_set h]; simp
theorem EnAt.own {w w' : World} {b : Nat} {t : TypeId} {r : En} {row : Option Nat} (h : EnAt w b t r) (hg : w.grownBy w' row) (hne : row ≠ some b) : EnAt w' b t r := (hg.block b h.lt (fun e => hne e.symm)).trans h
theorem grown_newI {w w' : World} {row : Option Nat} (h : w.grownBy w' row) (u j : Nat) (hu : w.heap.size ≤ u) (x : Value) : w.grownBy (w'.setCell ⟨u, j, none⟩ x) row :=
  ⟨h.os, h.tape, h.output, by show w.heap.size ≤ (w'.heap.modify _ _).size; rw [Array.size_modify]; exact h.size, fun i hi hne => by
    have e : (w'.setCell ⟨u, j, none⟩ x).heap[i]? = w'.heap[i]? := by
      show (w'.heap.modify _ _)[i]? = _
      rw [Array.getElem?_modify, if_neg (by show ¬ u = i; omega)]
    rw [e]; exact h.block i hi hne⟩
set_option maxRecDepth 100000 in
set_option maxHeartbeats 4000000 in
theorem entry_any (n : Nat) (b c M : Nat) (A : Option Addr) (xs : List UInt8) (w : World) (hc : CurLe w b A c M xs) (hat : M ≤ 999900) (hxs : xs.length ≤ maxLen) (hn1 : 1 ≤ n) (hn2 : n ≤ 20) :
    Calls Try.prog 49 #[.pointer (some ⟨b, 0, none⟩), .int .i64 (n : Int)] w fun e w' => (∃ x : En, x.col ≤ 100 ∧ e = .returned (.agg #[.int .i64 x.col, .int .i64 x.spa, .int .i64 x.wid])) ∧ CurLe w' b A c (M + 7) xs ∧ w.grownBy w' (some b) := by
  have hbl := hc.lt
  obtain ⟨w0, hw0⟩ : ∃ w0 : World, w0 = w.alloc (.cells #[.int .i64 0, .int .i64 0, .int .i64 0] 36) := ⟨_, rfl⟩
  have hb0 : Below w.heap.size w w0 := by rw [hw0]; exact (Below.refl _ _).alloc (Nat.le_refl _) _
  have HC0 := Lib.hid (hc.below hb0)
  have HG0 := Lib.hid (grown_below (World.grownBy.refl w (some b)) hb0)
  have HR0 : Hid (EnAt w0 w.heap.size 36 ⟨0, 0, 0⟩) := Lib.hid (by rw [hw0]; exact heap_new _ _)
  have HW0 := Lib.hid hw0
  clear hw0 hb0 hc
  go_enter Try.func49, Try.ntmps49
  go_wp2_with fail
  rw [← HW0.out]
  refine (pick_any n b c M A xs _ HC0.out (by omega) hxs (by omega) (by omega)).mono ?_
  rintro e w1 ⟨⟨p, hp, rfl⟩, hc1, hg1⟩
  have HC1 := Lib.hid hc1; have HG1 := Lib.hid (grownBy_trans HG0.out hg1)
  have HR1 := Lib.hid (HR0.out.own hg1 (fun e => by have := Option.some.inj e; omega))
  clear hc1 hg1
  go_wp2_with fail
  refine (pick_any 90 b c (M + 1) A xs _ HC1.out (by omega) hxs (by omega) (by omega)).mono ?_
  rintro e w2 ⟨⟨q, hq, rfl⟩, hc2, hg2⟩
  have hb2 : Below w2.heap.size w2 (w2.alloc (.cells (intsZ [0, 10, 20, 30, (q : Int)]).toArray 3)) := (Below.refl _ _).alloc (Nat.le_refl _) _
  have HR2 := HR1.out.own hg2 (fun e => by have := Option.some.inj e; omega)
  have HC3 := Lib.hid (hc2.below hb2); have HG3 := Lib.hid (grown_below (grownBy_trans HG1.out hg2) hb2)
  have HL3 := Lib.hid (row_ints w2 [0, 10, 20, 30, (q : Int)])
  have HR3 := Lib.hid (HR2.next hb2)
  have hs2 : w.heap.size < w2.heap.size := HR2.lt
  clear hc2 hg2 hb2 HR2
  go_wp2_with fail
  refine (among_any [0, 10, 20, 30, (q : Int)] _ _ b c (M + 2) A xs _ HC3.out (by omega) hxs HL3.out (by omega) (by simp) (by simp)).mono ?_
  rintro e w4 ⟨⟨x, hx, rfl⟩, hc4, hg4⟩
  obtain ⟨w5, hw5⟩ : ∃ w5 : World, w5 = w4.alloc (.cells #[.int .i64 (p : Int), .int .i64 0, .int .i64 x] 36) := ⟨_, rfl⟩
  have hb5 : Below w4.heap.size w4 w5 := by rw [hw5]; exact (Below.refl _ _).alloc (Nat.le_refl _) _
  have HR4 := HR3.out.own hg4 (fun e => by have := Option.some.inj e; omega)
  have hs4 : w.heap.size < w4.heap.size := HR4.lt
  have HC5 := Lib.hid (hc4.below hb5); have HG5 := Lib.hid (grown_below (grownBy_trans HG3.out hg4) hb5)
  have HR5 := Lib.hid (HR4.next hb5)
  have HB5 : Hid (EnAt w5 w4.heap.size 36 ⟨(p : Int), 0, x⟩) := Lib.hid (by rw [hw5]; exact heap_new _ _)
  have HW5 := Lib.hid hw5
  have hb4 : b < w4.heap.size := hc4.lt
  clear hc4 hg4 hb5 HR4 hw5 HC3 HG3 HL3 HR3 HC1 HG1 HR1
  have hne : ¬ b = w4.heap.size := by omega
  have hne2 : ¬ w.heap.size = w4.heap.size := by omega
  obtain ⟨m0, m1, m2⟩ := HB5.out.cells
  simp only at m0 m1 m2
  go_wp2_with fail
  rw [← HW5.out]
  have hnp : (n : Int) - (p : Int) = ((n - p : Nat) : Int) := by omega
  rw [hnp]
  refine (pick_any (n - p) b c (M + 2 + 1) A xs _ HC5.out (by omega) hxs (by omega) (by omega)).mono ?_
  rintro e w6 ⟨⟨s, hs, rfl⟩, hc6, hg6⟩
  have HB6 := HB5.out.own hg6 (fun e => by have := Option.some.inj e; omega)
  have HR6 := HR5.out.own hg6 (fun e => by have := Option.some.inj e; omega)
  have HX6 := Lib.hid (HB6.s1 (1 + (s : Int)))
  have HY6 := Lib.hid (HR6.own (grown_set (World.grownBy.refl w6 (some w4.heap.size)) 1 (.int .i64 (1 + (s : Int)))) (fun e => hne2 (Option.some.inj e).symm))
  have HC6 := Lib.hid (hc6.own (grown_set (World.grownBy.refl w6 (some w4.heap.size)) 1 (.int .i64 (1 + (s : Int)))) (fun q hq => by have := Option.some.inj hq; omega))
  have HG6 := Lib.hid (grown_newI (grownBy_trans HG5.out hg6) w4.heap.size 1 (by omega) (.int .i64 (1 + (s : Int))))
  obtain ⟨k0, k1, k2⟩ := HB6.cells
  have kf := HB6.free 1; have kl := HB6.lt
  simp only at k0 k1 k2
  clear hc6 hg6 HC5 HG5 HR5 HB5 HW5 m0 m1 m2 HB6 HR6
  go_wp2_with fail
  refine (pick_any 30 b c (M + 2 + 1 + 1) A xs _ HC6.out (by omega) hxs (by omega) (by omega)).mono ?_
  rintro e w7 ⟨⟨z, hz, rfl⟩, hc7, hg7⟩
  have HC7 := Lib.hid hc7; have HG7 := Lib.hid (grownBy_trans HG6.out hg7)
  have HR7 := Lib.hid (HY6.out.own hg7 (fun e => by have := Option.some.inj e; omega))
  have HB7 := Lib.hid (HX6.out.own hg7 (fun e => by have := Option.some.inj e; omega))
  have bl := HB7.out.lt
  clear hc7 hg7 HC6 HG6 HX6 HY6 k0 k1 k2 kf kl
  rcases (by omega : z = 0 ∨ z = 1 ∨ z = 2 ∨ (¬ z = 0 ∧ ¬ z = 1 ∧ ¬ z = 2)) with rfl | rfl | rfl | ⟨h0, h1, h2⟩
  · skip
    have hb7 : Below w7.heap.size w7 (w7.alloc (.cells (intsZ [-1, (n : Int), (n : Int) - 1]).toArray 3)) := (Below.refl _ _).alloc (Nat.le_refl _) _
    have HC8 := Lib.hid (HC7.out.below hb7); have HL8 := Lib.hid (row_ints w7 [-1, (n : Int), (n : Int) - 1])
    have HR8 := Lib.hid (HR7.out.next hb7); have HB8 := Lib.hid (HB7.out.next hb7); have HG8 := Lib.hid (grown_below HG7.out hb7)
    clear hb7
    go_wp2_with fail
    refine (among_any [-1, (n : Int), (n : Int) - 1] _ _ b c (M + 2 + 1 + 1 + 1) A xs _ HC8.out (by omega) hxs HL8.out (by omega) (by simp) (by simp)).mono ?_
    rintro e w8 ⟨⟨y, hy, rfl⟩, hc8, hg8⟩
    have HC9 := Lib.hid hc8; have HG9 := Lib.hid (grownBy_trans HG8.out hg8)
    have HR9 := Lib.hid (HR8.out.own hg8 (fun e => by have := Option.some.inj e; omega))
    have HB9 := Lib.hid (HB8.out.own hg8 (fun e => by have := Option.some.inj e; omega))
    clear hc8 hg8 HC8 HL8 HR8 HB8 HG8 HC7 HR7 HB7 HG7
    have hy1 : y ≤ 100 := by simp at hy; omega
    have HBa := Lib.hid (HB9.out.s0 y)
    have HRa := Lib.hid (HR9.out.own (grown_set (World.grownBy.refl w8 (some w4.heap.size)) 0 (.int .i64 y)) (fun e => hne2 (Option.some.inj e).symm))
    have HCa := Lib.hid ((HC9.out.own (grown_set (World.grownBy.refl w8 (some w4.heap.size)) 0 (.int .i64 y)) (fun q hq => by have := Option.some.inj hq; omega)).more (show _ ≤ M + 6 by omega))
    have HGa := Lib.hid (grown_newI HG9.out w4.heap.size 0 (by omega) (.int .i64 y))
    obtain ⟨d0, d1, d2⟩ := HB9.out.cells
    obtain ⟨e0, e1, e2⟩ := HR9.out.cells
    have df := HB9.out.free 0
    have dl := HB9.out.lt
    have ef0 := HR9.out.free 0; have ef1 := HR9.out.free 1; have ef2 := HR9.out.free 2
    have el := HR9.out.lt
    simp only at e0 e1 e2 d0 d1 d2
    clear HC9 HG9 HR9 HB9
    have HRZ := Lib.hid (((HRa.out.s0 y).s1 (1 + (s : Int))).s2 x)
    have HCZ := Lib.hid (((HCa.out.own (grown_set (World.grownBy.refl _ (some w.heap.size)) 0 (.int .i64 y)) (fun q hq => by have := Option.some.inj hq; omega)).own (grown_set (World.grownBy.refl _ (some w.heap.size)) 1 (.int .i64 (1 + (s : Int)))) (fun q hq => by have := Option.some.inj hq; omega)).own (grown_set (World.grownBy.refl _ (some w.heap.size)) 2 (.int .i64 x)) (fun q hq => by have := Option.some.inj hq; omega))
    have HGZ := Lib.hid (grown_newI (grown_newI (grown_newI HGa.out w.heap.size 0 (Nat.le_refl _) (.int .i64 y)) w.heap.size 1 (Nat.le_refl _) (.int .i64 (1 + (s : Int)))) w.heap.size 2 (Nat.le_refl _) (.int .i64 x))
    clear HRa HCa HGa HBa
    go_wp2
    try simp only [Exit.inBlock, Exit.then]
    refine bodyPost_ret (results_cell_row rfl _ _ w.heap.size _ _ _ _ rfl HRZ.out Try.underlying36 rfl (by kernel_rfl)) rfl ?_
    exact ⟨⟨⟨y, (1 + (s : Int)), x⟩, by show y ≤ 100; omega, rfl⟩, HCZ.out.more (by omega), HGZ.out⟩
  · obtain ⟨b0, b1, b2⟩ := HB7.out.cells
    simp only at b0 b1 b2
    have hb7 : Below w7.heap.size w7 (w7.alloc (.cells (intsZ [0, ((n - p : Nat) : Int) + 1, 1]).toArray 3)) := (Below.refl _ _).alloc (Nat.le_refl _) _
    have HC8 := Lib.hid (HC7.out.below hb7); have HL8 := Lib.hid (row_ints w7 [0, ((n - p : Nat) : Int) + 1, 1])
    have HR8 := Lib.hid (HR7.out.next hb7); have HB8 := Lib.hid (HB7.out.next hb7); have HG8 := Lib.hid (grown_below HG7.out hb7)
    clear hb7
    go_wp2_with fail
    refine (among_any [0, ((n - p : Nat) : Int) + 1, 1] _ _ b c (M + 2 + 1 + 1 + 1) A xs _ HC8.out (by omega) hxs HL8.out (by omega) (by simp) (by simp)).mono ?_
    rintro e w8 ⟨⟨y, hy, rfl⟩, hc8, hg8⟩
    have HC9 := Lib.hid hc8; have HG9 := Lib.hid (grownBy_trans HG8.out hg8)
    have HR9 := Lib.hid (HR8.out.own hg8 (fun e => by have := Option.some.inj e; omega))
    have HB9 := Lib.hid (HB8.out.own hg8 (fun e => by have := Option.some.inj e; omega))
    clear hc8 hg8 HC8 HL8 HR8 HB8 HG8 HC7 HR7 HB7 HG7
    have HBa := Lib.hid (HB9.out.s1 y)
    have HRa := Lib.hid (HR9.out.own (grown_set (World.grownBy.refl w8 (some w4.heap.size)) 1 (.int .i64 y)) (fun e => hne2 (Option.some.inj e).symm))
    have HCa := Lib.hid ((HC9.out.own (grown_set (World.grownBy.refl w8 (some w4.heap.size)) 1 (.int .i64 y)) (fun q hq => by have := Option.some.inj hq; omega)).more (show _ ≤ M + 6 by omega))
    have HGa := Lib.hid (grown_newI HG9.out w4.heap.size 1 (by omega) (.int .i64 y))
    obtain ⟨d0, d1, d2⟩ := HB9.out.cells
    obtain ⟨e0, e1, e2⟩ := HR9.out.cells
    have df := HB9.out.free 1
    have dl := HB9.out.lt
    have ef0 := HR9.out.free 0; have ef1 := HR9.out.free 1; have ef2 := HR9.out.free 2
    have el := HR9.out.lt
    simp only at e0 e1 e2 d0 d1 d2
    clear HC9 HG9 HR9 HB9
    have HRZ := Lib.hid (((HRa.out.s0 (p : Int)).s1 y).s2 x)
    have HCZ := Lib.hid (((HCa.out.own (grown_set (World.grownBy.refl _ (some w.heap.size)) 0 (.int .i64 (p : Int))) (fun q hq => by have := Option.some.inj hq; omega)).own (grown_set (World.grownBy.refl _ (some w.heap.size)) 1 (.int .i64 y)) (fun q hq => by have := Option.some.inj hq; omega)).own (grown_set (World.grownBy.refl _ (some w.heap.size)) 2 (.int .i64 x)) (fun q hq => by have := Option.some.inj hq; omega))
    have HGZ := Lib.hid (grown_newI (grown_newI (grown_newI HGa.out w.heap.size 0 (Nat.le_refl _) (.int .i64 (p : Int))) w.heap.size 1 (Nat.le_refl _) (.int .i64 y)) w.heap.size 2 (Nat.le_refl _) (.int .i64 x))
    clear HRa HCa HGa HBa
    go_wp2
    try simp only [Exit.inBlock, Exit.then]
    refine bodyPost_ret (results_cell_row rfl _ _ w.heap.size _ _ _ _ rfl HRZ.out Try.underlying36 rfl (by kernel_rfl)) rfl ?_
    exact ⟨⟨⟨(p : Int), y, x⟩, by show (p : Int) ≤ 100; omega, rfl⟩, HCZ.out.more (by omega), HGZ.out⟩
  · skip
    have hb7 : Below w7.heap.size w7 (w7.alloc (.cells (intsZ [-1, 600, 601]).toArray 3)) := (Below.refl _ _).alloc (Nat.le_refl _) _
    have HC8 := Lib.hid (HC7.out.below hb7); have HL8 := Lib.hid (row_ints w7 [-1, 600, 601])
    have HR8 := Lib.hid (HR7.out.next hb7); have HB8 := Lib.hid (HB7.out.next hb7); have HG8 := Lib.hid (grown_below HG7.out hb7)
    clear hb7
    go_wp2_with fail
    refine (among_any [-1, 600, 601] _ _ b c (M + 2 + 1 + 1 + 1) A xs _ HC8.out (by omega) hxs HL8.out (by omega) (by simp) (by simp)).mono ?_
    rintro e w8 ⟨⟨y, hy, rfl⟩, hc8, hg8⟩
    have HC9 := Lib.hid hc8; have HG9 := Lib.hid (grownBy_trans HG8.out hg8)
    have HR9 := Lib.hid (HR8.out.own hg8 (fun e => by have := Option.some.inj e; omega))
    have HB9 := Lib.hid (HB8.out.own hg8 (fun e => by have := Option.some.inj e; omega))
    clear hc8 hg8 HC8 HL8 HR8 HB8 HG8 HC7 HR7 HB7 HG7
    have HBa := Lib.hid (HB9.out.s2 y)
    have HRa := Lib.hid (HR9.out.own (grown_set (World.grownBy.refl w8 (some w4.heap.size)) 2 (.int .i64 y)) (fun e => hne2 (Option.some.inj e).symm))
    have HCa := Lib.hid ((HC9.out.own (grown_set (World.grownBy.refl w8 (some w4.heap.size)) 2 (.int .i64 y)) (fun q hq => by have := Option.some.inj hq; omega)).more (show _ ≤ M + 6 by omega))
    have HGa := Lib.hid (grown_newI HG9.out w4.heap.size 2 (by omega) (.int .i64 y))
    obtain ⟨d0, d1, d2⟩ := HB9.out.cells
    obtain ⟨e0, e1, e2⟩ := HR9.out.cells
    have df := HB9.out.free 2
    have dl := HB9.out.lt
    have ef0 := HR9.out.free 0; have ef1 := HR9.out.free 1; have ef2 := HR9.out.free 2
    have el := HR9.out.lt
    simp only at e0 e1 e2 d0 d1 d2
    clear HC9 HG9 HR9 HB9
    have HRZ := Lib.hid (((HRa.out.s0 (p : Int)).s1 (1 + (s : Int))).s2 y)
    have HCZ := Lib.hid (((HCa.out.own (grown_set (World.grownBy.refl _ (some w.heap.size)) 0 (.int .i64 (p : Int))) (fun q hq => by have := Option.some.inj hq; omega)).own (grown_set (World.grownBy.refl _ (some w.heap.size)) 1 (.int .i64 (1 + (s : Int)))) (fun q hq => by have := Option.some.inj hq; omega)).own (grown_set (World.grownBy.refl _ (some w.heap.size)) 2 (.int .i64 y)) (fun q hq => by have := Option.some.inj hq; omega))
    have HGZ := Lib.hid (grown_newI (grown_newI (grown_newI HGa.out w.heap.size 0 (Nat.le_refl _) (.int .i64 (p : Int))) w.heap.size 1 (Nat.le_refl _) (.int .i64 (1 + (s : Int)))) w.heap.size 2 (Nat.le_refl _) (.int .i64 y))
    clear HRa HCa HGa HBa
    go_wp2
    try simp only [Exit.inBlock, Exit.then]
    refine bodyPost_ret (results_cell_row rfl _ _ w.heap.size _ _ _ _ rfl HRZ.out Try.underlying36 rfl (by kernel_rfl)) rfl ?_
    exact ⟨⟨⟨(p : Int), (1 + (s : Int)), y⟩, by show (p : Int) ≤ 100; omega, rfl⟩, HCZ.out.more (by omega), HGZ.out⟩
  · have e0 : ((z : Int) == 0) = false := by simp; omega
    have e1 : ((z : Int) == 1) = false := by simp; omega
    have e2 : ((z : Int) == 2) = false := by simp; omega
    have HBa := HB7; have HRa := HR7; have HCa := HC7; have HGa := HG7
    obtain ⟨d0, d1, d2⟩ := HB7.out.cells
    obtain ⟨e3, e4, e5⟩ := HR7.out.cells
    have dl := HB7.out.lt
    have ef0 := HR7.out.free 0; have ef1 := HR7.out.free 1; have ef2 := HR7.out.free 2
    have el := HR7.out.lt
    simp only at e3 e4 e5 d0 d1 d2
    clear HR7 HB7 HC7 HG7
    have HRZ := Lib.hid (((HRa.out.s0 (p : Int)).s1 (1 + (s : Int))).s2 x)
    have HCZ := Lib.hid (((HCa.out.own (grown_set (World.grownBy.refl _ (some w.heap.size)) 0 (.int .i64 (p : Int))) (fun q hq => by have := Option.some.inj hq; omega)).own (grown_set (World.grownBy.refl _ (some w.heap.size)) 1 (.int .i64 (1 + (s : Int)))) (fun q hq => by have := Option.some.inj hq; omega)).own (grown_set (World.grownBy.refl _ (some w.heap.size)) 2 (.int .i64 x)) (fun q hq => by have := Option.some.inj hq; omega))
    have HGZ := Lib.hid (grown_newI (grown_newI (grown_newI HGa.out w.heap.size 0 (Nat.le_refl _) (.int .i64 (p : Int))) w.heap.size 1 (Nat.le_refl _) (.int .i64 (1 + (s : Int)))) w.heap.size 2 (Nat.le_refl _) (.int .i64 x))
    clear HRa HCa HGa HBa
    go_wp2
    try simp only [Exit.inBlock, Exit.then]
    refine bodyPost_ret (results_cell_row rfl _ _ w.heap.size _ _ _ _ rfl HRZ.out Try.underlying36 rfl (by kernel_rfl)) rfl ?_
    exact ⟨⟨⟨(p : Int), (1 + (s : Int)), x⟩, by show (p : Int) ≤ 100; omega, rfl⟩, HCZ.out.more (by omega), HGZ.out⟩
end Go.Proofs.Yteagclokobkigaa

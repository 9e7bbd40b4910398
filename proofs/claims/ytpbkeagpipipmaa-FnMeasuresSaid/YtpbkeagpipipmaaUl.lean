/-
  The draws of rules and of widths: each answers some values of its own and moves the cursor alone.
-/
import Derived.Test.YtpbkeagpipipmaaUk
import Derived.Test.YtpbkeagpipipmaaUf
import Derived.OwnWalk
import Derived.Maps.AppendAt
import Derived.Deep.RegionLaw
import Derived.Deep.DeepCutAuto
import Derived.Laws.Rows
namespace Go.Proofs.Ytpbkeagpipipmaa
open Go.RowKit
set_option linter.unusedVariables false

theorem RuAt.s0 {w : World} {b : Nat} {t : TypeId} {r : Ru} (h : RuAt w b t r) (v : Int) : RuAt (w.setCell ⟨b, 0, none⟩ (.int .i64 v)) b t ⟨v, r.nrm, r.mst⟩ := by unfold RuAt; rw [heap_set h]; simp
theorem RuAt.s1 {w : World} {b : Nat} {t : TypeId} {r : Ru} (h : RuAt w b t r) (v : Int) : RuAt (w.setCell ⟨b, 1, none⟩ (.int .i64 v)) b t ⟨r.lst, v, r.mst⟩ := by unfold RuAt; rw [heap_set h]; simp
theorem RuAt.s2 {w : World} {b : Nat} {t : TypeId} {r : Ru} (h : RuAt w b t r) (v : Int) : RuAt (w.setCell ⟨b, 2, none⟩ (.int .i64 v)) b t ⟨r.lst, r.nrm, v⟩ := by unfold RuAt; rw [heap_set h]; simp
theorem RuAt.own {w w' : World} {b : Nat} {t : TypeId} {r : Ru} {row : Option Nat} (h : RuAt w b t r) (hg : w.grownBy w' row) (hne : row ≠ some b) : RuAt w' b t r := (hg.block b h.lt (fun e => hne e.symm)).trans h
theorem IntsIn.keep {w w' : World} {g : Nat} {l : List Int} {row : Option Nat} (h : IntsIn w (some ⟨g, 0, none⟩) l) (hg : w.grownBy w' row) (hne : row ≠ some g) : IntsIn w' (some ⟨g, 0, none⟩) l := fun hn => by
  obtain ⟨b', off, e, hl, hc⟩ := h hn
  obtain ⟨rfl, rfl⟩ : g = b' ∧ 0 = off := by simpa using e
  exact ⟨g, 0, rfl, Nat.lt_of_lt_of_le hl hg.size, fun k hk => (cell_keep hg hl hne).trans (hc k hk)⟩
/-- A pick out of more than 200. -/
theorem pick_big (n : Nat) (b c M : Nat) (A : Option Addr) (xs : List UInt8) (w : World) (hc : CurLe w b A c M xs) (hat : M ≤ 999990) (hxs : xs.length ≤ maxLen) (h1 : 1 ≤ n) (h2 : n ≤ 20000) :
    Calls Try.prog 81 #[.pointer (some ⟨b, 0, none⟩), .int .i64 (n : Int)] w fun e w' => (∃ k : Nat, k < n ∧ e = .returned (.int .i64 (k : Int))) ∧ CurLe w' b A c (M + 2) xs ∧ w.grownBy w' (some b) := by
  by_cases h200 : n ≤ 200
  · exact (pick_any n b c M A xs w hc (by omega) hxs h1 h200).mono fun e w' ⟨a, b', c'⟩ => ⟨a, b'.more (by omega), c'⟩
  have HC := Lib.hid hc; clear hc
  have hn1 : ¬ (n : Int) ≤ 1 := by omega
  have hn2 : (200 : Int) < (n : Int) := by omega
  have hn0 : (0 : Int) < (n : Int) := by omega
  have hnz : (n : Int) ≠ 0 := by omega
  go_enter Try.func81, Try.ntmps81
  go_wp2_with fail
  refine (next_le b c M A xs _ HC.out (by omega) hxs).mono ?_
  rintro e w1 ⟨⟨x, hx, rfl⟩, hc1, hg1⟩
  have HC1 := Lib.hid hc1
  have HG1 := Lib.hid hg1
  clear hc1 hg1
  have hx0 : (0 : Int) ≤ (x : Int) := by omega
  have hx1 : (x : Int) ≤ 255 := by omega
  go_wp2_with fail
  refine (next_le b c (M + 1) A xs _ HC1.out (by omega) hxs).mono ?_
  rintro e w2 ⟨⟨y, hy, rfl⟩, hc2, hg2⟩
  have HC2 := Lib.hid hc2
  have HG2 := Lib.hid (grownBy_trans HG1.out hg2)
  clear hc2 hg2
  have hy0 : (0 : Int) ≤ (y : Int) := by omega
  have hy1 : (y : Int) ≤ 255 := by omega
  go_wp2
  go_ret
  refine ⟨⟨(x * 256 + y) % n, Nat.mod_lt _ (by omega), ?_⟩, HC2.out, HG2.out⟩
  exact ret_int (by rw [Int.natCast_emod]; rfl)

theorem grown_newI {w w' : World} {row : Option Nat} (h : w.grownBy w' row) (u j : Nat) (hu : w.heap.size ≤ u) (x : Value) : w.grownBy (w'.setCell ⟨u, j, none⟩ x) row :=
  ⟨h.os, h.tape, h.output, by show w.heap.size ≤ (w'.heap.modify _ _).size; rw [Array.size_modify]; exact h.size, fun i hi hne => by
    have e : (w'.setCell ⟨u, j, none⟩ x).heap[i]? = w'.heap[i]? := by
      show (w'.heap.modify _ _)[i]? = _
      rw [Array.getElem?_modify, if_neg (by show ¬ u = i; omega)]
    rw [e]; exact h.block i hi hne⟩
set_option maxRecDepth 100000 in
set_option maxHeartbeats 2000000 in
theorem rule_any (b c M : Nat) (A : Option Addr) (xs : List UInt8) (w : World) (hc : CurLe w b A c M xs) (hat : M ≤ 999900) (hxs : xs.length ≤ maxLen) :
    Calls Try.prog 54 #[.pointer (some ⟨b, 0, none⟩)] w fun e w' => (∃ r : Ru, e = .returned (.agg #[.int .i64 r.lst, .int .i64 r.nrm, .int .i64 r.mst])) ∧ CurLe w' b A c (M + 8) xs ∧ w.grownBy w' (some b) := by
  have hbl := hc.lt
  obtain ⟨w0, hw0⟩ : ∃ w0 : World, w0 = w.alloc (.cells #[.int .i64 0, .int .i64 0, .int .i64 0] 25) := ⟨_, rfl⟩
  have hb0 : Below w.heap.size w w0 := by rw [hw0]; exact (Below.refl _ _).alloc (Nat.le_refl _) _
  have HC0 := Lib.hid (hc.below hb0)
  have HG0 := Lib.hid (grown_below (World.grownBy.refl w (some b)) hb0)
  have HR0 : Hid (RuAt w0 w.heap.size 25 ⟨0, 0, 0⟩) := Lib.hid (by rw [hw0]; exact heap_new _ _)
  have HW0 := Lib.hid hw0
  clear hw0 hb0 hc
  go_enter Try.func54, Try.ntmps54
  go_wp2_with fail
  rw [← HW0.out]
  refine (pick_any 4 b c M A xs _ HC0.out (by omega) hxs (by omega) (by omega)).mono ?_
  rintro e w1 ⟨⟨p, hp, rfl⟩, hc1, hg1⟩
  have HC1 := Lib.hid hc1; have HG1 := Lib.hid (grownBy_trans HG0.out hg1)
  have HR1 := Lib.hid (HR0.out.own hg1 (fun e => by have := Option.some.inj e; omega))
  clear hc1 hg1
  go_wp2_with fail
  refine (pick_any 4 b c (M + 1) A xs _ HC1.out (by omega) hxs (by omega) (by omega)).mono ?_
  rintro e w2 ⟨⟨q, hq, rfl⟩, hc2, hg2⟩
  obtain ⟨w3, hw3⟩ : ∃ w3 : World, w3 = w2.alloc (.cells #[.int .i64 (1 + (p : Int)), .int .i64 (1 + (p : Int) + (q : Int)), .int .i64 0] 25) := ⟨_, rfl⟩
  have hb3 : Below w2.heap.size w2 w3 := by rw [hw3]; exact (Below.refl _ _).alloc (Nat.le_refl _) _
  have HC3 := Lib.hid (hc2.below hb3); have HG3 := Lib.hid (grown_below (grownBy_trans HG1.out hg2) hb3)
  have HRR := HR1.out.own hg2 (fun e => by have := Option.some.inj e; omega)
  have HR3 := Lib.hid (HRR.next hb3)
  have HB3 : Hid (RuAt w3 w2.heap.size 25 ⟨1 + (p : Int), 1 + (p : Int) + (q : Int), 0⟩) := Lib.hid (by rw [hw3]; exact heap_new _ _)
  have hb2 : b < w2.heap.size := hc2.lt
  have hwg : w.heap.size < w2.heap.size := HRR.lt
  have HW3 := Lib.hid hw3
  clear hc2 hg2 HRR hb3 hw3
  go_wp2_with fail
  rw [← HW3.out]
  have hne : ¬ b = w2.heap.size := by omega
  have hne2 : ¬ w.heap.size = w2.heap.size := by omega
  have HD : Hid (CurLe w3.drew b A c (M + 1 + 1) xs) := Lib.hid (HC3.out.below (Below.refl _ _).drew)
  have HGD : Hid (w.grownBy w3.drew (some b)) := Lib.hid (grown_below HG3.out (Below.refl _ _).drew)
  have HRD : Hid (RuAt w3.drew w.heap.size 25 ⟨0, 0, 0⟩) := Lib.hid (HR3.out.next (Below.refl _ _).drew)
  have HBD : Hid (RuAt w3.drew w2.heap.size 25 ⟨1 + (p : Int), 1 + (p : Int) + (q : Int), 0⟩) := Lib.hid (HB3.out.next (Below.refl _ _).drew)
  have HS3 : Hid (w2.heap.size < w3.heap.size) := Lib.hid HB3.out.lt
  obtain ⟨-, m1, -⟩ := HB3.out.cells
  simp only at m1
  go_cut [] (fun wx => ∃ s : Nat, s < 5 ∧ RuAt wx w2.heap.size 25 ⟨1 + (p : Int), 1 + (p : Int) + (q : Int), 1 + (p : Int) + (q : Int) + (s : Int)⟩ ∧ RuAt wx w.heap.size 25 ⟨0, 0, 0⟩ ∧ CurLe wx b A c (M + 3) xs ∧ w.grownBy wx (some b))
  case first =>
    go_region_law (go_simp; go_at_call 81; refine (pick_any 5 b c (M + 1 + 1) A xs _ HD.out (by omega) hxs (by omega) (by omega)).mono ?_; rintro e w4 ⟨⟨s, hs, rfl⟩, hc4, hg4⟩; have HC4 := Lib.hid hc4; have HG4 := Lib.hid (grownBy_trans HGD.out hg4); have HR4 := Lib.hid (HRD.out.own hg4 (fun e => by have := Option.some.inj e; omega)); have HB4 := Lib.hid (HBD.out.own hg4 (fun e => by have := Option.some.inj e; omega)); obtain ⟨n0, n1, n2⟩ := HB4.out.cells; simp only at n0 n1 n2; have f2 := HB4.out.free 2; have hl4 := HB4.out.lt; have hwr : IntKind.i64.wrap (1 + (p : Int) + (q : Int) + (s : Int)) = 1 + (p : Int) + (q : Int) + (s : Int) := (by rw [IntKind.wrap_i64]; omega); clear hc4 hg4 m1)
    all_goals (go_wp2_with fail; go_meet; exact ⟨s, hs, HB4.out.s2 _, HR4.out.own (grown_set (World.grownBy.refl _ _) 2 _) (fun e => hne2 (Option.some.inj e).symm), (HC4.out.own (grown_set (World.grownBy.refl _ _) 2 _) (fun q hq => by have := Option.some.inj hq; omega)).more (by omega), grown_newI HG4.out _ _ (by omega) _⟩)
  case rest =>
    obtain ⟨s, hs, hbx, hrx, hcx, hgx⟩ := hcut
    have HBX := Lib.hid hbx; have HRX := Lib.hid hrx; have HCX := Lib.hid hcx; have HGX := Lib.hid hgx
    clear hbx hrx hcx hgx m1 HD HGD HRD HBD HC3 HG3 HR3 HB3
    obtain ⟨r0, hr0⟩ : ∃ r0 : Ru, r0 = ⟨1 + (p : Int), 1 + (p : Int) + (q : Int), 1 + (p : Int) + (q : Int) + (s : Int)⟩ := ⟨_, rfl⟩
    rw [← hr0] at HBX
    have hn : r0.nrm ≤ 100 ∧ 0 ≤ r0.nrm := by rw [hr0]; simp only; omega
    clear hr0
    obtain ⟨w5, hw5⟩ : ∃ u, u = wc := ⟨_, rfl⟩
    subst hw5
    go_wp2_with fail
    refine (pick_any 24 b c (M + 3) A xs _ HCX.out (by omega) hxs (by omega) (by omega)).mono ?_
    rintro e w6 ⟨⟨z, hz, rfl⟩, hc6, hg6⟩
    have HC6 := Lib.hid hc6; have HG6 := Lib.hid (grownBy_trans HGX.out hg6)
    have HR6 := Lib.hid (HRX.out.own hg6 (fun e => by have := Option.some.inj e; omega))
    have HB6 := Lib.hid (HBX.out.own hg6 (fun e => by have := Option.some.inj e; omega))
    clear hc6 hg6 HCX HGX HRX HBX
    rcases (by omega : z = 0 ∨ z = 1 ∨ (¬ z = 0 ∧ ¬ z = 1)) with rfl | rfl | ⟨h0, h1⟩
    · skip
      have hb7 : Below w6.heap.size w6 (w6.alloc (.cells (intsZ [54, 55, 0]).toArray 3)) := (Below.refl _ _).alloc (Nat.le_refl _) _
      have HC7 := Lib.hid (HC6.out.below hb7); have HL7 := Lib.hid (row_ints w6 [54, 55, 0])
      have HR7 := Lib.hid (HR6.out.next hb7); have HB7 := Lib.hid (HB6.out.next hb7); have HG7 := Lib.hid (grown_below HG6.out hb7)
      have hs6 := HB6.out.lt
      clear hb7
      go_wp2_with fail
      refine (among_any [54, 55, 0] _ _ b c (M + 4) A xs _ HC7.out (by omega) hxs HL7.out (by omega) (by simp) (by simp)).mono ?_
      rintro e w8 ⟨⟨x, hx, rfl⟩, hc8, hg8⟩
      have HC8 := Lib.hid hc8; have HG8 := Lib.hid (grownBy_trans HG7.out hg8)
      have HR8 := Lib.hid (HR7.out.own hg8 (fun e => by have := Option.some.inj e; omega))
      have HB8 := Lib.hid (HB7.out.own hg8 (fun e => by have := Option.some.inj e; omega))
      clear hc8 hg8 hx HC7 HL7 HR7 HB7 HG7 HC6 HR6 HB6 HG6
      have HB9 := Lib.hid (HB8.out.s2 x)
      have HR9 := Lib.hid (HR8.out.own (grown_set (World.grownBy.refl w8 (some w2.heap.size)) 2 (.int .i64 x)) (fun e => hne2 (Option.some.inj e).symm))
      have HC9 := Lib.hid ((HC8.out.own (grown_set (World.grownBy.refl w8 (some w2.heap.size)) 2 (.int .i64 x)) (fun q hq => by have := Option.some.inj hq; omega)).more (show M + 5 ≤ M + 5 by omega))
      have HG9 := Lib.hid (grown_newI HG8.out w2.heap.size 2 (by omega) (.int .i64 x))
      obtain ⟨d0, d1, d2⟩ := HB8.out.cells
      obtain ⟨e0, e1, e2⟩ := HR8.out.cells
      have df := HB8.out.free 2
      have dl := HB8.out.lt
      have ef0 := HR8.out.free 0; have ef1 := HR8.out.free 1; have ef2 := HR8.out.free 2
      have el := HR8.out.lt
      simp only at e0 e1 e2
      clear HC8 HG8 HR8 HB8
      have HRZ := Lib.hid (((HR9.out.s0 r0.lst).s1 r0.nrm).s2 x)
      have HCZ := Lib.hid (((HC9.out.own (grown_set (World.grownBy.refl _ (some w.heap.size)) 0 (.int .i64 r0.lst)) (fun q hq => by have := Option.some.inj hq; omega)).own (grown_set (World.grownBy.refl _ (some w.heap.size)) 1 (.int .i64 r0.nrm)) (fun q hq => by have := Option.some.inj hq; omega)).own (grown_set (World.grownBy.refl _ (some w.heap.size)) 2 (.int .i64 x)) (fun q hq => by have := Option.some.inj hq; omega))
      have HGZ := Lib.hid (grown_newI (grown_newI (grown_newI HG9.out w.heap.size 0 (Nat.le_refl _) (.int .i64 r0.lst)) w.heap.size 1 (Nat.le_refl _) (.int .i64 r0.nrm)) w.heap.size 2 (Nat.le_refl _) (.int .i64 x))
      clear HR9 HC9 HG9 HB9
      go_wp2
      try simp only [Exit.inBlock, Exit.then]
      refine bodyPost_ret (results_cell_row rfl _ _ w.heap.size _ _ _ _ rfl HRZ.out Try.underlying25 rfl (by kernel_rfl)) rfl ?_
      exact ⟨⟨⟨r0.lst, r0.nrm, x⟩, rfl⟩, HCZ.out.more (by omega), HGZ.out⟩
    · obtain ⟨b0, b1, b2⟩ := HB6.out.cells
      have bl := HB6.out.lt
      have hb7 : Below w6.heap.size w6 (w6.alloc (.cells (intsZ [0, -1, r0.nrm, r0.nrm + 1]).toArray 3)) := (Below.refl _ _).alloc (Nat.le_refl _) _
      have HC7 := Lib.hid (HC6.out.below hb7); have HL7 := Lib.hid (row_ints w6 [0, -1, r0.nrm, r0.nrm + 1])
      have HR7 := Lib.hid (HR6.out.next hb7); have HB7 := Lib.hid (HB6.out.next hb7); have HG7 := Lib.hid (grown_below HG6.out hb7)
      have hs6 := HB6.out.lt
      clear hb7
      go_wp2_with fail
      refine (among_any [0, -1, r0.nrm, r0.nrm + 1] _ _ b c (M + 4) A xs _ HC7.out (by omega) hxs HL7.out (by omega) (by simp) (by simp)).mono ?_
      rintro e w8 ⟨⟨x, hx, rfl⟩, hc8, hg8⟩
      have HC8 := Lib.hid hc8; have HG8 := Lib.hid (grownBy_trans HG7.out hg8)
      have HR8 := Lib.hid (HR7.out.own hg8 (fun e => by have := Option.some.inj e; omega))
      have HB8 := Lib.hid (HB7.out.own hg8 (fun e => by have := Option.some.inj e; omega))
      clear hc8 hg8 hx HC7 HL7 HR7 HB7 HG7 HC6 HR6 HB6 HG6
      have HB9 := Lib.hid (HB8.out.s0 x)
      have HR9 := Lib.hid (HR8.out.own (grown_set (World.grownBy.refl w8 (some w2.heap.size)) 0 (.int .i64 x)) (fun e => hne2 (Option.some.inj e).symm))
      have HC9 := Lib.hid ((HC8.out.own (grown_set (World.grownBy.refl w8 (some w2.heap.size)) 0 (.int .i64 x)) (fun q hq => by have := Option.some.inj hq; omega)).more (show M + 5 ≤ M + 5 by omega))
      have HG9 := Lib.hid (grown_newI HG8.out w2.heap.size 0 (by omega) (.int .i64 x))
      obtain ⟨d0, d1, d2⟩ := HB8.out.cells
      obtain ⟨e0, e1, e2⟩ := HR8.out.cells
      have df := HB8.out.free 0
      have dl := HB8.out.lt
      have ef0 := HR8.out.free 0; have ef1 := HR8.out.free 1; have ef2 := HR8.out.free 2
      have el := HR8.out.lt
      simp only at e0 e1 e2
      clear HC8 HG8 HR8 HB8
      have HRZ := Lib.hid (((HR9.out.s0 x).s1 r0.nrm).s2 r0.mst)
      have HCZ := Lib.hid (((HC9.out.own (grown_set (World.grownBy.refl _ (some w.heap.size)) 0 (.int .i64 x)) (fun q hq => by have := Option.some.inj hq; omega)).own (grown_set (World.grownBy.refl _ (some w.heap.size)) 1 (.int .i64 r0.nrm)) (fun q hq => by have := Option.some.inj hq; omega)).own (grown_set (World.grownBy.refl _ (some w.heap.size)) 2 (.int .i64 r0.mst)) (fun q hq => by have := Option.some.inj hq; omega))
      have HGZ := Lib.hid (grown_newI (grown_newI (grown_newI HG9.out w.heap.size 0 (Nat.le_refl _) (.int .i64 x)) w.heap.size 1 (Nat.le_refl _) (.int .i64 r0.nrm)) w.heap.size 2 (Nat.le_refl _) (.int .i64 r0.mst))
      clear HR9 HC9 HG9 HB9
      go_wp2
      try simp only [Exit.inBlock, Exit.then]
      refine bodyPost_ret (results_cell_row rfl _ _ w.heap.size _ _ _ _ rfl HRZ.out Try.underlying25 rfl (by kernel_rfl)) rfl ?_
      exact ⟨⟨⟨x, r0.nrm, r0.mst⟩, rfl⟩, HCZ.out.more (by omega), HGZ.out⟩
    · have e0 : ((z : Int) == 0) = false := by simp; omega
      have e1 : ((z : Int) == 1) = false := by simp; omega
      have HB9 := HB6; have HR9 := HR6; have HC9 := HC6; have HG9 := HG6
      obtain ⟨d0, d1, d2⟩ := HB6.out.cells
      obtain ⟨e2, e3, e4⟩ := HR6.out.cells
      have dl := HB6.out.lt
      have ef0 := HR6.out.free 0; have ef1 := HR6.out.free 1; have ef2 := HR6.out.free 2
      have el := HR6.out.lt
      simp only at e2 e3 e4
      clear HR6 HB6 HC6 HG6
      have HRZ := Lib.hid (((HR9.out.s0 r0.lst).s1 r0.nrm).s2 r0.mst)
      have HCZ := Lib.hid (((HC9.out.own (grown_set (World.grownBy.refl _ (some w.heap.size)) 0 (.int .i64 r0.lst)) (fun q hq => by have := Option.some.inj hq; omega)).own (grown_set (World.grownBy.refl _ (some w.heap.size)) 1 (.int .i64 r0.nrm)) (fun q hq => by have := Option.some.inj hq; omega)).own (grown_set (World.grownBy.refl _ (some w.heap.size)) 2 (.int .i64 r0.mst)) (fun q hq => by have := Option.some.inj hq; omega))
      have HGZ := Lib.hid (grown_newI (grown_newI (grown_newI HG9.out w.heap.size 0 (Nat.le_refl _) (.int .i64 r0.lst)) w.heap.size 1 (Nat.le_refl _) (.int .i64 r0.nrm)) w.heap.size 2 (Nat.le_refl _) (.int .i64 r0.mst))
      clear HR9 HC9 HG9 HB9
      go_wp2
      try simp only [Exit.inBlock, Exit.then]
      refine bodyPost_ret (results_cell_row rfl _ _ w.heap.size _ _ _ _ rfl HRZ.out Try.underlying25 rfl (by kernel_rfl)) rfl ?_
      exact ⟨⟨⟨r0.lst, r0.nrm, r0.mst⟩, rfl⟩, HCZ.out.more (by omega), HGZ.out⟩

theorem own_formI {w : World} {base n : Nat} {e : TypeId} {v : Value} {xs : List Value} (h : w.ownsRow base e 1 v n xs) : ∃ B d, v = .slice B n d := by
  rcases h.2 with ⟨rfl, hz⟩ | ⟨G, cap, cur, rfl, _⟩
  · exact ⟨none, 0, by rw [hz]⟩
  · exact ⟨_, cap, rfl⟩
theorem own_rowX {w : World} {base n i : Nat} {e : TypeId} {v : Value} {xs : List Value} (h : w.ownsRow base e 1 v n xs) (hi : i < n) : ∃ G cap, v = .slice (some ⟨G, 0, none⟩) n cap ∧ base ≤ G ∧ n ≤ cap ∧ (∃ u, w.cell? ⟨G, i, none⟩ = some u) ∧ w.frozen? ⟨G, i, none⟩ = false := by
  have hx := h.1
  rcases h.2 with ⟨rfl, hz⟩ | ⟨G, cap, cur, rfl, hg, hh, hc1, hc2, hc3, hc4⟩
  · omega
  · refine ⟨G, cap, rfl, hg, hc1, ?_, free_of_heap hh i⟩
    rw [cell_of_heap hh]
    have h0 : i < cur.size := by omega
    exact ⟨cur[i], by simp [h0]⟩
theorem own_setI {w : World} {base n cap g i : Nat} {e : TypeId} {xs : List Value} (h : w.ownsRow base e 1 (.slice (some ⟨g, 0, none⟩) n cap) n xs) (hi : i < xs.length) (u : Value) :
    (w.setCell ⟨g, i, none⟩ u).ownsRow base e 1 (.slice (some ⟨g, 0, none⟩) n cap) n (xs.set i u) := by
  refine ⟨by rw [List.length_set]; exact h.1, ?_⟩
  rcases h.2 with ⟨hv, _⟩ | ⟨g', cap', cur, hv, hg, hh, h1, h2, h3, h4⟩
  · cases hv
  · injection hv with e1 e2 e3
    injection e1 with e1
    injection e1 with e1
    subst e1
    refine .inr ⟨g, cap', _, by rw [e3], hg, heap_set hh u, h1, h2, by simpa using h3, ?_⟩
    rw [Array.toList_setIfInBounds, List.take_set, h4]
theorem intsZ_set (l : List Int) (i : Nat) (z : Int) : (intsZ l).set i (.int .i64 z) = intsZ (l.set i z) := by simp [intsZ, List.map_set]
def lenV : Value → Nat
  | .slice _ n _ => n
  | _ => 0
theorem own_lenV {w : World} {base n : Nat} {e : TypeId} {v : Value} {xs : List Value} (h : w.ownsRow base e 1 v n xs) : lenV v = n := by
  obtain ⟨B, d, rfl⟩ := own_formI h; rfl
/-- Some ints of the call's own come back; the cursor moves. -/
def DrawnI (w w' : World) (e : Ending) (b c M : Nat) (A : Option Addr) (xs : List UInt8) (most : Nat) : Prop :=
  (∃ (l : List Int) (B : Option Addr) (d : Nat), e = .returned (.slice B l.length d) ∧ l.length ≤ most ∧ w'.ownsRow w.heap.size 3 1 (.slice B l.length d) l.length (intsZ l)) ∧ CurLe w' b A c M xs ∧ w.grownBy w' (some b)
set_option maxRecDepth 100000 in
set_option maxHeartbeats 4000000 in
theorem widths_any (most : Nat) (b c M : Nat) (A : Option Addr) (xs : List UInt8) (w : World) (hc : CurLe w b A c M xs) (hat : M ≤ 999000) (hxs : xs.length ≤ maxLen) (hmo : 10 ≤ most ∧ most ≤ 100) :
    Calls Try.prog 53 #[.pointer (some ⟨b, 0, none⟩), .int .i64 (most : Int)] w fun e w' => DrawnI w w' e b c (M + most + 12) A xs (most + 1) := by
  have hbl := hc.lt
  obtain ⟨hm0, hm1⟩ := hmo
  obtain ⟨i0, hi, hz0, hz1, hz2⟩ := info_parts info3
  have HI := Lib.hid hi; have HZ0 := Lib.hid hz0; have HZ1 := Lib.hid hz1; have HZ2 := Lib.hid hz2
  clear hi hz0 hz1 hz2
  have HC := Lib.hid hc; clear hc
  go_enter Try.func53, Try.ntmps53
  go_wp2_with fail
  refine (pick_any 6 b c M A xs _ HC.out (by omega) hxs (by omega) (by omega)).mono ?_
  rintro e w1 ⟨⟨p, hp, rfl⟩, hc1, hg1⟩
  have HC1 := Lib.hid hc1; have HG1 := Lib.hid hg1
  clear hc1 hg1
  go_wp2_with fail
  refine (one_any 12 b c (M + 1) A xs _ HC1.out (by omega) hxs (by omega) (by omega)).mono ?_
  rintro e w2 ⟨⟨t, rfl⟩, hc2, hg2⟩
  have HC2 := Lib.hid hc2; have HG2 := Lib.hid (grownBy_trans HG1.out hg2)
  clear hc2 hg2
  cases t with
  | false =>
    obtain ⟨n, hn⟩ : ∃ n : Nat, n = 1 + p := ⟨_, rfl⟩
    have hn1 : 1 + (p : Int) = (n : Int) := by omega
    have hnm : n ≤ most + 1 := by omega
    have HCX := HC2; have HGX := HG2
    clear hn HC2 HG2 HC1 HG1
    go_wp2
    go_loopw [5] (fun v wr => ∃ (acc : List Int), acc.length ≤ n ∧ wr.ownsRow w.heap.size 3 1 v acc.length (intsZ acc) ∧ CurLe wr b A c (M + 3 + acc.length) xs ∧ w.grownBy wr (some b)) (fun v _ => n - lenV v)
    case atStart => exact ⟨[], by simp, own_nil _ _ _ _, HCX.out.more (by omega), HGX.out⟩
    case round =>
      obtain ⟨acc, hal, ho, hc, hg⟩ := hrel
      obtain ⟨B0, d0, hv⟩ := own_formI ho
      subst hv
      have hmx : acc.length + 1 ≤ maxLen := by unfold maxLen; omega
      have hws := hg.size
      have HO := Lib.hid ho; have HC := Lib.hid hc; have HG := Lib.hid hg
      clear ho hc hg
      by_cases hlt : acc.length < n
      · have hk8 : (acc.length : Int) < (n : Int) := by omega
        go_wp2_with fail
        refine (pick_any 30 b c (M + 3 + acc.length) A xs _ HC.out (by omega) hxs (by omega) (by omega)).mono ?_
        rintro e w1 ⟨⟨x, hs, rfl⟩, hc1, hg1⟩
        have HO1 := Lib.hid (own_grown HO.out hg1 (fun q hq e => by have := own_lt HO.out q hq; have := Option.some.inj e; omega))
        have hs1 := hg1.size
        have HG1 := Lib.hid (grownBy_trans HG.out hg1)
        have HC1 := Lib.hid hc1
        clear hc1 hg1
        go_wp2_with (at_builtin; refine wpList_append_own_at _ rfl _ _ 23 rfl w.heap.size 3 i0 (.int .i64 0) 1 8 Try.underlying23 HI.out HZ0.out HZ1.out HZ2.out rfl (by decide) _ _ _ rfl (HO1.out.alloc _) ⟨w1.heap.size, 0, none⟩ 1 1 [.int .i64 (5 + (x : Int))] rfl rfl (cell_one_new _ _ _) (by simp [Value.oneCell']) hmx (by first | omega | decide) (by first | (simp; done) | (simp; omega) | skip) ?_)
        intro v' w5 hown' hgrow _ hat
        have hb5 : Below w1.heap.size w1 (w1.alloc (.cells #[.int .i64 (5 + (x : Int))] 3)) := (Below.refl _ _).alloc (Nat.le_refl _) _
        have HG5 := Lib.hid (grownBy_own (grown_below HG1.out hb5) hgrow (fun q hq => by have := own_lt HO1.out q hq; omega))
        have HC5 := Lib.hid ((HC1.out.below hb5).own hgrow (fun q hq => by have := own_lt HO1.out q hq; omega))
        have HO6 : Hid (w5.ownsRow w.heap.size 3 1 v' (acc ++ [5 + (x : Int)]).length (intsZ (acc ++ [5 + (x : Int)]))) := Lib.hid (by rw [List.length_append, intsZ_snoc]; exact hown')
        have HLV := Lib.hid (own_lenV HO6.out)
        clear hown' hgrow hat hb5
        go_wp2
        go_roundw
        case rel => exact ⟨acc ++ [5 + (x : Int)], by simp; omega, HO6.out, HC5.out.more (by simp; omega), HG5.out⟩
        case measure => rw [HLV.out]; simp [lenV]; omega
      · have hE : acc.length = n := by omega
        have hk8 : ¬ (acc.length : Int) < (n : Int) := by omega
        have HE := Lib.hid hE
        clear hE hlt
        have HC' : Hid (CurLe wr b A c (M + 3 + most + 1) xs) := Lib.hid (HC.out.more (by omega))
        clear HC
        by_cases h0 : n = 0
        · have h00 : ¬ (0 : Int) < (n : Int) := by omega
          go_wp2
          all_goals (go_ret; exact ⟨⟨acc, B0, d0, rfl, by have := HE.out; omega, HO.out⟩, HC'.out.more (by omega), HG.out⟩)
        have h01 : (0 : Int) < (n : Int) := by omega
        go_wp2_with fail
        refine (one_any 16 b c (M + 3 + most + 1) A xs _ HC'.out (by omega) hxs (by omega) (by omega)).mono ?_
        rintro e w6 ⟨⟨t, rfl⟩, hc6, hg6⟩
        have HO6 := Lib.hid (own_grown HO.out hg6 (fun q hq e => by have := own_lt HO.out q hq; have := Option.some.inj e; omega))
        have HG6 := Lib.hid (grownBy_trans HG.out hg6); have HC6 := Lib.hid hc6; have hs6 := HG6.out.size
        clear hc6 hg6 HO HG HC'
        cases t with
        | false =>
          go_wp2
          go_ret
          exact ⟨⟨acc, B0, d0, rfl, by have := HE.out; omega, HO6.out⟩, HC6.out.more (by omega), HG6.out⟩
        | true =>
          go_wp2_with fail
          refine (pick_big n b c (M + 3 + most + 1 + 1) A xs _ HC6.out (by omega) hxs (by omega) (by omega)).mono ?_
          rintro e w7 ⟨⟨y, hy, rfl⟩, hc7, hg7⟩
          have HO7 := Lib.hid (own_grown HO6.out hg7 (fun q hq e => by have := own_lt HO6.out q hq; have := Option.some.inj e; omega))
          have HG7 := Lib.hid (grownBy_trans HG6.out hg7); have hs7 := HG7.out.size
          have hb8 : Below w7.heap.size w7 (w7.alloc (.cells (intsZ [1, 600, 601, 0]).toArray 3)) := (Below.refl _ _).alloc (Nat.le_refl _) _
          have HC8 := Lib.hid (hc7.below hb8); have HR8 := Lib.hid (row_ints w7 [1, 600, 601, 0])
          have HO8 := Lib.hid (own_below HO7.out hb8); have HG8 := Lib.hid (grown_below HG7.out hb8)
          clear hc7 hg7 hb8 HO6 HG6 HC6 HO7
          go_wp2_with fail
          refine (among_any [1, 600, 601, 0] _ _ b c (M + 3 + most + 1 + 1 + 2) A xs _ HC8.out (by omega) hxs HR8.out (by omega) (by decide) (by decide)).mono ?_
          rintro e w9 ⟨⟨s, hs, rfl⟩, hc9, hg9⟩
          have HO9 := Lib.hid (own_grown HO8.out hg9 (fun q hq e => by have := own_lt HO8.out q hq; have := Option.some.inj e; omega))
          have HG9 := Lib.hid (grownBy_trans HG8.out hg9); have HC9 := Lib.hid hc9; have hs9 := HG9.out.size
          clear hc9 hg9 hs
          obtain ⟨G', cap', hv, hbG, hcp, ⟨u0, hu0⟩, hfr⟩ := own_rowX HO9.out (show y < acc.length by have := HE.out; omega)
          injection hv with hv1 hv2 hv3
          subst hv1 hv3
          clear hv2
          have hy0 : (0 : Int) ≤ (y : Int) := by omega
          have hyl : (y : Int) < (acc.length : Int) := by have := HE.out; omega
          have HZ : Hid (∀ s', IntKind.i64.wrap s' = s' → True) := Lib.hid (fun _ _ => trivial)
          go_wp2
          go_ret
          exact ⟨⟨acc.set y s, some ⟨G', 0, none⟩, d0, by rw [List.length_set]; rfl, by rw [List.length_set]; have := HE.out; omega, by rw [List.length_set, ← intsZ_set]; exact own_setI HO9.out (by rw [intsZ_len]; omega) _⟩, (HC9.out.own (grown_set (World.grownBy.refl _ (some G')) y (.int .i64 s)) (fun q hq => by have := Option.some.inj hq; omega)).more (by omega), grown_newI HG9.out G' y hbG _⟩
  | true =>
    have hb3 : Below w2.heap.size w2 (w2.alloc (.cells (intsZ [0, (most : Int), (most : Int) + 1]).toArray 3)) := (Below.refl _ _).alloc (Nat.le_refl _) _
    have HC3 := Lib.hid (HC2.out.below hb3)
    have HG3 := Lib.hid (grown_below HG2.out hb3)
    have HR3 := Lib.hid (row_ints w2 [0, (most : Int), (most : Int) + 1])
    have hs2 := HG2.out.size
    clear hb3
    go_wp2_with fail
    refine (among_any [0, (most : Int), (most : Int) + 1] _ _ b c (M + 2) A xs _ HC3.out (by omega) hxs HR3.out (by omega) (by simp) (by simp)).mono ?_
    rintro e w4 ⟨⟨x, hx, rfl⟩, hc4, hg4⟩
    have HCX := Lib.hid hc4; have HGX := Lib.hid (grownBy_trans HG3.out hg4)
    obtain ⟨n, rfl, hnm⟩ : ∃ n : Nat, x = (n : Int) ∧ n ≤ most + 1 := by
      simp at hx
      rcases hx with rfl | rfl | rfl
      · exact ⟨0, rfl, by omega⟩
      · exact ⟨most, rfl, by omega⟩
      · exact ⟨most + 1, rfl, by omega⟩
    clear hc4 hg4 hx HC3 HG3 HR3 HC2 HG2 HC1 HG1
    go_wp2
    go_loopw [5] (fun v wr => ∃ (acc : List Int), acc.length ≤ n ∧ wr.ownsRow w.heap.size 3 1 v acc.length (intsZ acc) ∧ CurLe wr b A c (M + 3 + acc.length) xs ∧ w.grownBy wr (some b)) (fun v _ => n - lenV v)
    case atStart => exact ⟨[], by simp, own_nil _ _ _ _, HCX.out.more (by omega), HGX.out⟩
    case round =>
      obtain ⟨acc, hal, ho, hc, hg⟩ := hrel
      obtain ⟨B0, d0, hv⟩ := own_formI ho
      subst hv
      have hmx : acc.length + 1 ≤ maxLen := by unfold maxLen; omega
      have hws := hg.size
      have HO := Lib.hid ho; have HC := Lib.hid hc; have HG := Lib.hid hg
      clear ho hc hg
      by_cases hlt : acc.length < n
      · have hk8 : (acc.length : Int) < (n : Int) := by omega
        go_wp2_with fail
        refine (pick_any 30 b c (M + 3 + acc.length) A xs _ HC.out (by omega) hxs (by omega) (by omega)).mono ?_
        rintro e w1 ⟨⟨x, hs, rfl⟩, hc1, hg1⟩
        have HO1 := Lib.hid (own_grown HO.out hg1 (fun q hq e => by have := own_lt HO.out q hq; have := Option.some.inj e; omega))
        have hs1 := hg1.size
        have HG1 := Lib.hid (grownBy_trans HG.out hg1)
        have HC1 := Lib.hid hc1
        clear hc1 hg1
        go_wp2_with (at_builtin; refine wpList_append_own_at _ rfl _ _ 23 rfl w.heap.size 3 i0 (.int .i64 0) 1 8 Try.underlying23 HI.out HZ0.out HZ1.out HZ2.out rfl (by decide) _ _ _ rfl (HO1.out.alloc _) ⟨w1.heap.size, 0, none⟩ 1 1 [.int .i64 (5 + (x : Int))] rfl rfl (cell_one_new _ _ _) (by simp [Value.oneCell']) hmx (by first | omega | decide) (by first | (simp; done) | (simp; omega) | skip) ?_)
        intro v' w5 hown' hgrow _ hat
        have hb5 : Below w1.heap.size w1 (w1.alloc (.cells #[.int .i64 (5 + (x : Int))] 3)) := (Below.refl _ _).alloc (Nat.le_refl _) _
        have HG5 := Lib.hid (grownBy_own (grown_below HG1.out hb5) hgrow (fun q hq => by have := own_lt HO1.out q hq; omega))
        have HC5 := Lib.hid ((HC1.out.below hb5).own hgrow (fun q hq => by have := own_lt HO1.out q hq; omega))
        have HO6 : Hid (w5.ownsRow w.heap.size 3 1 v' (acc ++ [5 + (x : Int)]).length (intsZ (acc ++ [5 + (x : Int)]))) := Lib.hid (by rw [List.length_append, intsZ_snoc]; exact hown')
        have HLV := Lib.hid (own_lenV HO6.out)
        clear hown' hgrow hat hb5
        go_wp2
        go_roundw
        case rel => exact ⟨acc ++ [5 + (x : Int)], by simp; omega, HO6.out, HC5.out.more (by simp; omega), HG5.out⟩
        case measure => rw [HLV.out]; simp [lenV]; omega
      · have hE : acc.length = n := by omega
        have hk8 : ¬ (acc.length : Int) < (n : Int) := by omega
        have HE := Lib.hid hE
        clear hE hlt
        have HC' : Hid (CurLe wr b A c (M + 3 + most + 1) xs) := Lib.hid (HC.out.more (by omega))
        clear HC
        by_cases h0 : n = 0
        · have h00 : ¬ (0 : Int) < (n : Int) := by omega
          go_wp2
          all_goals (go_ret; exact ⟨⟨acc, B0, d0, rfl, by have := HE.out; omega, HO.out⟩, HC'.out.more (by omega), HG.out⟩)
        have h01 : (0 : Int) < (n : Int) := by omega
        go_wp2_with fail
        refine (one_any 16 b c (M + 3 + most + 1) A xs _ HC'.out (by omega) hxs (by omega) (by omega)).mono ?_
        rintro e w6 ⟨⟨t, rfl⟩, hc6, hg6⟩
        have HO6 := Lib.hid (own_grown HO.out hg6 (fun q hq e => by have := own_lt HO.out q hq; have := Option.some.inj e; omega))
        have HG6 := Lib.hid (grownBy_trans HG.out hg6); have HC6 := Lib.hid hc6; have hs6 := HG6.out.size
        clear hc6 hg6 HO HG HC'
        cases t with
        | false =>
          go_wp2
          go_ret
          exact ⟨⟨acc, B0, d0, rfl, by have := HE.out; omega, HO6.out⟩, HC6.out.more (by omega), HG6.out⟩
        | true =>
          go_wp2_with fail
          refine (pick_big n b c (M + 3 + most + 1 + 1) A xs _ HC6.out (by omega) hxs (by omega) (by omega)).mono ?_
          rintro e w7 ⟨⟨y, hy, rfl⟩, hc7, hg7⟩
          have HO7 := Lib.hid (own_grown HO6.out hg7 (fun q hq e => by have := own_lt HO6.out q hq; have := Option.some.inj e; omega))
          have HG7 := Lib.hid (grownBy_trans HG6.out hg7); have hs7 := HG7.out.size
          have hb8 : Below w7.heap.size w7 (w7.alloc (.cells (intsZ [1, 600, 601, 0]).toArray 3)) := (Below.refl _ _).alloc (Nat.le_refl _) _
          have HC8 := Lib.hid (hc7.below hb8); have HR8 := Lib.hid (row_ints w7 [1, 600, 601, 0])
          have HO8 := Lib.hid (own_below HO7.out hb8); have HG8 := Lib.hid (grown_below HG7.out hb8)
          clear hc7 hg7 hb8 HO6 HG6 HC6 HO7
          go_wp2_with fail
          refine (among_any [1, 600, 601, 0] _ _ b c (M + 3 + most + 1 + 1 + 2) A xs _ HC8.out (by omega) hxs HR8.out (by omega) (by decide) (by decide)).mono ?_
          rintro e w9 ⟨⟨s, hs, rfl⟩, hc9, hg9⟩
          have HO9 := Lib.hid (own_grown HO8.out hg9 (fun q hq e => by have := own_lt HO8.out q hq; have := Option.some.inj e; omega))
          have HG9 := Lib.hid (grownBy_trans HG8.out hg9); have HC9 := Lib.hid hc9; have hs9 := HG9.out.size
          clear hc9 hg9 hs
          obtain ⟨G', cap', hv, hbG, hcp, ⟨u0, hu0⟩, hfr⟩ := own_rowX HO9.out (show y < acc.length by have := HE.out; omega)
          injection hv with hv1 hv2 hv3
          subst hv1 hv3
          clear hv2
          have hy0 : (0 : Int) ≤ (y : Int) := by omega
          have hyl : (y : Int) < (acc.length : Int) := by have := HE.out; omega
          have HZ : Hid (∀ s', IntKind.i64.wrap s' = s' → True) := Lib.hid (fun _ _ => trivial)
          go_wp2
          go_ret
          exact ⟨⟨acc.set y s, some ⟨G', 0, none⟩, d0, by rw [List.length_set]; rfl, by rw [List.length_set]; have := HE.out; omega, by rw [List.length_set, ← intsZ_set]; exact own_setI HO9.out (by rw [intsZ_len]; omega) _⟩, (HC9.out.own (grown_set (World.grownBy.refl _ (some G')) y (.int .i64 s)) (fun q hq => by have := Option.some.inj hq; omega)).more (by omega), grown_newI HG9.out G' y hbG _⟩
end Go.Proofs.Ytpbkeagpipipmaa

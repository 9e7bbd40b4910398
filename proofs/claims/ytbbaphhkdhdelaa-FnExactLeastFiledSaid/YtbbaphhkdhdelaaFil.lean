/-
  The contracts of FilingsFor, in spec and in impl, and of spec.maFilings, impl.partDifferences: each answers what the plain words here say and changes nothing that was there.
-/
import Derived.Test.YtbbaphhkdhdelaaJus
import Derived.OwnWalk
import Derived.Maps.AppendAt
import Derived.Deep.RegionLaw
namespace Go.Proofs.Ytbbaphhkdhdelaa
open Go.RowKit
set_option linter.unusedVariables false

def difL (s t : Sk) : List Int := (List.range 5).map fun j => pt s j - pt t j
theorem difL_len (s t : Sk) : (difL s t).length = 5 := by simp [difL]
theorem difL_succ (s t : Sk) {k : Nat} (h : k < 5) : (difL s t).take (k + 1) = (difL s t).take k ++ [pt s k - pt t k] := by
  rw [List.take_succ_eq_append_getElem (by rw [difL_len]; exact h)]
  simp [difL]
theorem pt_good {s : Sk} (h : goodB s = true) (k : Nat) (hk : k < 5) : 1 ≤ pt s k ∧ pt s k ≤ 999 := by
  obtain ⟨b0, b1, b2, b3, b4⟩ := good_bounds h
  have hc : k = 0 ∨ k = 1 ∨ k = 2 ∨ k = 3 ∨ k = 4 := by omega
  rcases hc with rfl | rfl | rfl | rfl | rfl <;> simp [pt, Sk.zs] <;> omega
def RowTo (w : World) (e : Ending) (w' : World) (L : List Int) : Prop := ∃ v, e = .returned v ∧ Below w.heap.size w w' ∧ w'.ownsRow w.heap.size 3 1 v L.length (intsZ L)
def IntsTo (w : World) (e : Ending) (w' : World) (L : List Int) (B : Bool) : Prop := ∃ v, e = .returned (.tuple #[v, .bool B]) ∧ Below w.heap.size w w' ∧ w'.ownsRow w.heap.size 3 1 v L.length (intsZ L)
theorem own_len {w : World} {base n : Nat} {e : TypeId} {v : Value} {L : List Int} (h : w.ownsRow base e 1 v n (intsZ L)) : w.ownsRow base e 1 v L.length (intsZ L) := by
  have hn : n = L.length := by have := h.1; simp [intsZ] at this; omega
  subst hn; exact h
theorem IntsTo.no {w w' : World} {L : List Int} {B : Bool} (h : L = [] ∧ B = false) (hb : Below w.heap.size w w') : IntsTo w (.returned (.tuple #[.slice none 0 0, .bool false])) w' L B := by
  obtain ⟨rfl, rfl⟩ := h
  exact ⟨_, rfl, hb, own_nil _ _ _ _⟩
theorem IntsTo.yes {w w' : World} {L M : List Int} {B : Bool} {v : Value} (h : L = M ∧ B = true) (hb : Below w.heap.size w w') (ho : w'.ownsRow w.heap.size 3 1 v M.length (intsZ M)) : IntsTo w (.returned (.tuple #[v, .bool true])) w' L B := by
  obtain ⟨rfl, rfl⟩ := h
  exact ⟨_, rfl, hb, ho⟩

set_option maxRecDepth 100000 in
set_option maxHeartbeats 1000000 in
theorem maFilings_any (s t : Sk) (w : World) (hs : goodB s = true) (ht : goodB t = true) :
    Calls Try.prog 48 #[.agg #[.int .i64 s.dep, .int .i64 s.lef, .int .i64 s.fac, .int .i64 s.rig, .int .i64 s.foo], .agg #[.int .i64 t.dep, .int .i64 t.lef, .int .i64 t.fac, .int .i64 t.rig, .int .i64 t.foo]] w fun e w' => RowTo w e w' (difL s t) := by
  have HGS := Lib.hid hs; have HGT := Lib.hid ht; clear hs ht
  have HX : Hid (SkAt ((w.alloc (.cells #[.int .i64 s.dep, .int .i64 s.lef, .int .i64 s.fac, .int .i64 s.rig, .int .i64 s.foo] 25)).alloc (.cells #[.int .i64 t.dep, .int .i64 t.lef, .int .i64 t.fac, .int .i64 t.rig, .int .i64 t.foo] 25)) w.heap.size 25 s) := Lib.hid ((SkAt.new w _ s).alloc _)
  have HA : Hid (Below w.heap.size w ((w.alloc (.cells #[.int .i64 s.dep, .int .i64 s.lef, .int .i64 s.fac, .int .i64 s.rig, .int .i64 s.foo] 25)).alloc (.cells #[.int .i64 t.dep, .int .i64 t.lef, .int .i64 t.fac, .int .i64 t.rig, .int .i64 t.foo] 25))) := Lib.hid (((Below.refl _ _).alloc (Nat.le_refl _) _).alloc (by simp) _)
  obtain ⟨i0, hi, hz0, hz1, hz2⟩ := info_parts infoI
  have HI := Lib.hid hi; have HZ0 := Lib.hid hz0; have HZ1 := Lib.hid hz1; have HZ2 := Lib.hid hz2
  clear hi hz0 hz1 hz2
  go_enter Try.func48, Try.ntmps48
  go_wp2_with fail
  refine (maParts_any t _).mono ?_
  rintro e w1 ⟨b1, rfl, hb1, _, ho1⟩
  have HA1 : Hid (Below w.heap.size w w1) := Lib.hid (HA.out.trans (hb1.mono HA.out.size))
  have HX1 := Lib.hid (HX.out.next hb1)
  have HO1 := Lib.hid ho1
  obtain ⟨h0, h1, h2, h3, h4⟩ := HX1.out.cells
  have hl := HX1.out.lt
  clear hb1 ho1 HX HA
  go_wp2_with fail
  refine (maParts_any s _).mono ?_
  rintro e w2 ⟨b2, rfl, hb2, _, ho2⟩
  have HA2 : Hid (Below w.heap.size w w2) := Lib.hid (HA1.out.trans (hb2.mono HA1.out.size))
  have HO1' := Lib.hid (HO1.out.below hb2 HO1.out.lt)
  have HO2 := Lib.hid ho2
  clear hb2 ho2 h0 h1 h2 h3 h4 hl HX1 HA1 HO1
  go_wp2
  go_loopw [5, 14] (fun v i wr => ∃ k : Nat, k ≤ 5 ∧ i = .int .i64 k ∧ wr.ownsRow w2.heap.size 3 1 v k (intsZ ((difL s t).take k)) ∧ Below w2.heap.size w2 wr) (fun _ i _ => 5 - (intOf i).toNat)
  case atStart => exact ⟨0, Nat.zero_le _, rfl, own_nil _ _ _ _, Below.refl _ _⟩
  case round =>
    obtain ⟨k, hk, rfl, hown, hb⟩ := hrel
    have HOWN := Lib.hid hown; clear hown
    by_cases hlt : k < 5
    · have c1 := (hb.cell (p := ⟨b1, k, none⟩) HO1'.out.lt).trans (HO1'.out.pt hlt)
      have c2 := (hb.cell (p := ⟨b2, k, none⟩) HO2.out.lt).trans (HO2.out.pt hlt)
      have p1 := pt_good HGS.out k hlt
      have p2 := pt_good HGT.out k hlt
      have HST := Lib.hid (difL_succ s t hlt)
      have hownw := HOWN.out
      have hmx : k + 1 ≤ maxLen := by unfold maxLen; omega
      have HB := Lib.hid hb
      have hsz := hb.size
      clear hb
      generalize pt s k = x at *
      generalize pt t k = y at *
      go_wp2_with (at_builtin; refine wpList_append_own _ rfl _ _ 30 rfl w2.heap.size 3 i0 (.int .i64 0) 1 8 Try.underlying30 HI.out HZ0.out HZ1.out HZ2.out rfl (by decide) _ _ _ rfl (hownw.alloc _) ⟨wr.heap.size, 0, none⟩ 1 1 [.int .i64 (x - y)] rfl rfl (cell_one_new _ _ _) (by simp [Value.oneCell']) hmx (by omega) (by simp; omega) ?_)
      intro v' w4 hown' hgrow _
      have HB1 : Hid (Below w2.heap.size w2 w4) := Lib.hid ((HB.out.alloc HB.out.size _).grown hgrow (by have := HB.out.size; simp; omega) (own_lt hownw))
      have HO3 : Hid (w4.ownsRow w2.heap.size 3 1 v' (k + 1) (intsZ ((difL s t).take (k + 1)))) := by
        show w4.ownsRow _ _ _ _ _ _
        rw [HST.out, intsZ_snoc]; exact hown'
      clear hown' hgrow hownw HOWN
      go_wp2
      go_roundw
      case rel => exact ⟨k + 1, by omega, by go_num, HO3.out, HB1.out⟩
      case measure => simp [intOf]; omega
    · obtain rfl : k = 5 := by omega
      have HB := Lib.hid (HA2.out.trans (hb.mono HA2.out.size))
      have h := HOWN.out
      rw [List.take_of_length_le (by rw [difL_len]; exact Nat.le_refl _)] at h
      have HO := Lib.hid (own_len (Joins.ownsRow_le h HA2.out.size))
      clear h
      clear hb
      go_wp2
      go_ret
      exact ⟨_, rfl, HB.out, HO.out⟩

/-- The first k parts are differences. -/
def dixL (s t : Sk) (k : Nat) : List Int := (List.range 5).map fun j => if j < k then pt s j - pt t j else pt s j
theorem dixL_zero (s t : Sk) : dixL s t 0 = s.zs := by simp [dixL, pt, Sk.zs, List.range_succ]
theorem dixL_full (s t : Sk) : dixL s t 5 = difL s t := by simp [dixL, difL, List.range_succ]
theorem dixL_step (s t : Sk) (k : Nat) (h : k < 5) : (dixL s t k).set k (pt s k - pt t k) = dixL s t (k + 1) := by
  apply List.ext_getElem
  · simp [dixL]
  · intro j h1 h2
    have hj : j < 5 := by simpa [dixL] using h2
    rw [List.getElem_set]
    by_cases hjk : k = j
    · subst hjk; simp [dixL]
    · rw [if_neg hjk]
      simp only [dixL, List.getElem_map, List.getElem_range]
      by_cases h3 : j < k
      · rw [if_pos h3, if_pos (by omega)]
      · rw [if_neg h3, if_neg (by omega)]
theorem dixL_at (s t : Sk) (k : Nat) (h : k < 5) : (dixL s t k)[k]? = some (pt s k) := by
  simp [dixL, h]
def difK (s t : Sk) : Sk := ⟨s.dep - t.dep, s.lef - t.lef, s.fac - t.fac, s.rig - t.rig, s.foo - t.foo⟩
theorem difK_zs (s t : Sk) : difL s t = (difK s t).zs := by simp [difL, pt, Sk.zs, List.range_succ, difK]

set_option maxRecDepth 100000 in
set_option maxHeartbeats 1000000 in
theorem partDiff_any (s t : Sk) (w : World) (hs : goodB s = true) (ht : goodB t = true) :
    Calls Try.prog 50 #[.agg #[.int .i64 s.dep, .int .i64 s.lef, .int .i64 s.fac, .int .i64 s.rig, .int .i64 s.foo], .agg #[.int .i64 t.dep, .int .i64 t.lef, .int .i64 t.fac, .int .i64 t.rig, .int .i64 t.foo]] w fun e w' => e = .returned (.agg #[.int .i64 (difK s t).dep, .int .i64 (difK s t).lef, .int .i64 (difK s t).fac, .int .i64 (difK s t).rig, .int .i64 (difK s t).foo]) ∧ Below w.heap.size w w' := by
  have HGS := Lib.hid hs; have HGT := Lib.hid ht; clear hs ht
  have HY : Hid (SkAt (((w.alloc (.cells #[.int .i64 s.dep, .int .i64 s.lef, .int .i64 s.fac, .int .i64 s.rig, .int .i64 s.foo] 25)).alloc (.cells #[.int .i64 t.dep, .int .i64 t.lef, .int .i64 t.fac, .int .i64 t.rig, .int .i64 t.foo] 25)).alloc (.cells #[.int .i64 0, .int .i64 0, .int .i64 0, .int .i64 0, .int .i64 0] 60)) (w.heap.size + 1) 25 t) := Lib.hid (SkAt.alloc (heap_alloc2_new _ _ _) _)
  have HZ : Hid (SkAt (((w.alloc (.cells #[.int .i64 s.dep, .int .i64 s.lef, .int .i64 s.fac, .int .i64 s.rig, .int .i64 s.foo] 25)).alloc (.cells #[.int .i64 t.dep, .int .i64 t.lef, .int .i64 t.fac, .int .i64 t.rig, .int .i64 t.foo] 25)).alloc (.cells #[.int .i64 0, .int .i64 0, .int .i64 0, .int .i64 0, .int .i64 0] 60)) (w.heap.size + 2) 60 ⟨0, 0, 0, 0, 0⟩) := by
    show SkAt _ _ _ _
    have h := SkAt.new ((w.alloc (.cells #[.int .i64 s.dep, .int .i64 s.lef, .int .i64 s.fac, .int .i64 s.rig, .int .i64 s.foo] 25)).alloc (.cells #[.int .i64 t.dep, .int .i64 t.lef, .int .i64 t.fac, .int .i64 t.rig, .int .i64 t.foo] 25)) 60 ⟨0, 0, 0, 0, 0⟩
    rw [show ((w.alloc (.cells #[.int .i64 s.dep, .int .i64 s.lef, .int .i64 s.fac, .int .i64 s.rig, .int .i64 s.foo] 25)).alloc (.cells #[.int .i64 t.dep, .int .i64 t.lef, .int .i64 t.fac, .int .i64 t.rig, .int .i64 t.foo] 25)).heap.size = w.heap.size + 2 from by simp] at h
    exact h
  have HA : Hid (Below w.heap.size w (((w.alloc (.cells #[.int .i64 s.dep, .int .i64 s.lef, .int .i64 s.fac, .int .i64 s.rig, .int .i64 s.foo] 25)).alloc (.cells #[.int .i64 t.dep, .int .i64 t.lef, .int .i64 t.fac, .int .i64 t.rig, .int .i64 t.foo] 25)).alloc (.cells #[.int .i64 0, .int .i64 0, .int .i64 0, .int .i64 0, .int .i64 0] 60))) := Lib.hid ((((Below.refl _ _).alloc (Nat.le_refl _) _).alloc (by simp) _).alloc (by simp; omega) _)
  go_enter Try.func50, Try.ntmps50
  go_wp2_with fail
  refine (numberParts_any s _).mono ?_
  rintro e w1 ⟨rfl, hb1⟩
  have HA1 : Hid (Below w.heap.size w w1) := Lib.hid (HA.out.trans (hb1.mono HA.out.size))
  have HY1 := Lib.hid (HY.out.next hb1)
  have HZ1 := Lib.hid (HZ.out.next hb1)
  obtain ⟨y0, y1, y2, y3, y4⟩ := HY1.out.cells
  have hyl := HY1.out.lt
  obtain ⟨w2, hw2⟩ : ∃ x : World, x = w1.alloc (.cells #[.int .i64 s.dep, .int .i64 s.lef, .int .i64 s.fac, .int .i64 s.rig, .int .i64 s.foo] 60) := ⟨_, rfl⟩
  have HA2 : Hid (Below w.heap.size w w2) := by show Below _ _ _; rw [hw2]; exact HA1.out.alloc HA1.out.size _
  have HZ2 : Hid (SkAt w2 (w.heap.size + 2) 60 ⟨0, 0, 0, 0, 0⟩) := by show SkAt _ _ _ _; rw [hw2]; exact HZ1.out.alloc _
  have HN2 : Hid (SkAt w2 w1.heap.size 60 s) := by show SkAt _ _ _ _; rw [hw2]; exact SkAt.new _ _ _
  have HLT : Hid (w.heap.size + 2 < w1.heap.size) := Lib.hid HZ1.out.lt
  have HW2 := Lib.hid hw2
  have hfl := run_field5 s
  clear hb1 hw2 HY HZ HA HZ1 HY1
  go_wp2_with fail
  rw [← HW2.out]
  refine (numberParts_any t _).mono ?_
  rintro e w3 ⟨rfl, hb3⟩
  have HA3 : Hid (Below w.heap.size w w3) := Lib.hid (HA2.out.trans (hb3.mono HA2.out.size))
  have HZ3 := Lib.hid (HZ2.out.next hb3)
  have hst : Own w3 w1.heap.size 60 (intsZ (dixL s t 0)) := by rw [dixL_zero]; exact HN2.out.next hb3
  have HST := Lib.hid hst
  clear hb3 y0 y1 y2 y3 y4 hyl hst hfl HW2 HN2 HZ2 HA2
  have hfl := run_field5 t
  obtain ⟨g, hg⟩ : ∃ g, g = w1.heap.size := ⟨_, rfl⟩
  rw [← hg] at HST HLT ⊢
  clear hfl
  have hfl := run_field5 t
  have HLT := HLT.out
  have HG := Lib.hid hg
  clear hg
  go_wp2
  clear hfl
  go_loopw [14] (fun i wr => ∃ k : Nat, k ≤ 5 ∧ i = .int .i64 k ∧ Own wr g 60 (intsZ (dixL s t k)) ∧ SkAt wr (w.heap.size + 2) 60 ⟨0, 0, 0, 0, 0⟩ ∧ Below w.heap.size w wr) (fun i _ => 5 - (intOf i).toNat)
  case atStart => exact ⟨0, Nat.zero_le _, rfl, HST.out, HZ3.out, HA3.out⟩
  case round =>
    obtain ⟨k, hk, rfl, ho, hz, hb⟩ := hrel
    clear HST HZ3 HA3
    by_cases hlt : k < 5
    · have hix := run_index5 t k hlt
      rw [pt_of t hlt] at hix
      have hc : wr.cell? ⟨g, k, none⟩ = some (.int .i64 (pt s k)) := by rw [ho.cell]; simp [intsZ, dixL_at s t k hlt]
      have hf := ho.free k
      have hlw := ho.lt
      have p1 := pt_good HGS.out k hlt
      have p2 := pt_good HGT.out k hlt
      have HB := Lib.hid (hb.setCell (p := ⟨g, k, none⟩) (by show w.heap.size ≤ g; omega) (.int .i64 (pt s k - pt t k)))
      have HO : Hid (Own (wr.setCell ⟨g, k, none⟩ (.int .i64 (pt s k - pt t k))) g 60 (intsZ (dixL s t (k + 1)))) := by
        show Own _ _ _ _; rw [← dixL_step s t k hlt]; exact ho.set k _
      have HZ : Hid (SkAt (wr.setCell ⟨g, k, none⟩ (.int .i64 (pt s k - pt t k))) (w.heap.size + 2) 60 ⟨0, 0, 0, 0, 0⟩) := Lib.hid (Own.other hz (p := ⟨g, k, none⟩) (by show w.heap.size + 2 ≠ g; omega) _)
      clear hb ho hz
      generalize pt s k = x at *
      generalize pt t k = y at *
      go_wp2
      go_roundw
      case rel => exact ⟨k + 1, by omega, by go_num, HO.out, HZ.out, HB.out⟩
      case measure => simp [intOf]; omega
    · obtain rfl : k = 5 := by omega
      rw [dixL_full, difK_zs] at ho
      have hs : SkAt wr g 60 (difK s t) := ho
      obtain ⟨h0, h1, h2, h3, h4⟩ := hs.cells
      obtain ⟨z0, z1, z2, z3, z4⟩ := hz.cells
      have zf0 := hz.free 0; have zf1 := hz.free 1; have zf2 := hz.free 2; have zf3 := hz.free 3; have zf4 := hz.free 4
      have hl1 := hs.lt; have hl2 := hz.lt
      have HB := Lib.hid hb
      clear hb ho hs hz
      generalize hm : difK s t = m at *
      have HM := Lib.hid hm; clear hm
      go_wp2
      refine bodyPost_ret (v := .agg #[.int .i64 m.dep, .int .i64 m.lef, .int .i64 m.fac, .int .i64 m.rig, .int .i64 m.foo]) (by simp [results, Try.results50, go_sem, z0, z1, z2, z3, z4, zf0, zf1, zf2, zf3, zf4, h0, h1, h2, h3, h4]) rfl ⟨by rw [HM.out], ?_⟩
      repeat (first | (with_reducible exact HB.out) | (refine Below.setCell ?_ (by first | (simp; done) | (simp; omega)) _))
end Go.Proofs.Ytbbaphhkdhdelaa

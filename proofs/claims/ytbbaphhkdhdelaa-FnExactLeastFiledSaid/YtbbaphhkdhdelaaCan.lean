/-
  The contracts of spec.maCan, impl.lesserParts, impl.isJustifiable: each answers what the plain words here say and changes nothing that was there.
-/
import Derived.Test.YtbbaphhkdhdelaaWid
import Derived.ChangeKeysEq
namespace Go.Proofs.Ytbbaphhkdhdelaa
open Go.RowKit
set_option linter.unusedVariables false

def pt (s : Sk) (j : Nat) : Int := s.zs.getD j 0
theorem pt_of (s : Sk) {j : Nat} (h : j < s.zs.length) : s.zs[j] = pt s j := by simp [pt, h]
def leB (s t : Sk) (k : Nat) : Bool := (List.range k).all fun j => decide (pt t j ≤ pt s j)
theorem leB_succ (s t : Sk) (k : Nat) : leB s t (k + 1) = (leB s t k && decide (pt t k ≤ pt s k)) := by simp [leB, List.range_succ]
theorem leB_no {s t : Sk} {k : Nat} (h : k < 5) (hf : pt s k < pt t k) : leB s t 5 = false := by
  unfold leB
  rw [List.all_eq_false]
  exact ⟨k, List.mem_range.2 h, by simp; omega⟩
def canB (s t : Sk) : Bool := leB s t 5 && (s.fac == t.fac)
theorem Own.pt {w : World} {b : Nat} {e : TypeId} {s : Sk} (h : Own w b e (intsZ s.zs)) {k : Nat} (hk : k < 5) : w.cell? ⟨b, k, none⟩ = some (.int .i64 (pt s k)) := by
  rw [h.cell]
  have hl : k < s.zs.length := hk
  rw [← pt_of s hl]
  simp [intsZ, hl]

theorem maCan_any (s t : Sk) (w : World) :
    Calls Try.prog 47 #[.agg #[.int .i64 s.dep, .int .i64 s.lef, .int .i64 s.fac, .int .i64 s.rig, .int .i64 s.foo], .agg #[.int .i64 t.dep, .int .i64 t.lef, .int .i64 t.fac, .int .i64 t.rig, .int .i64 t.foo]] w fun e w' => e = .returned (.bool (canB s t)) ∧ Below w.heap.size w w' := by
  have HX : Hid (SkAt ((w.alloc (.cells #[.int .i64 s.dep, .int .i64 s.lef, .int .i64 s.fac, .int .i64 s.rig, .int .i64 s.foo] 25)).alloc (.cells #[.int .i64 t.dep, .int .i64 t.lef, .int .i64 t.fac, .int .i64 t.rig, .int .i64 t.foo] 25)) w.heap.size 25 s) := Lib.hid ((SkAt.new w _ s).alloc _)
  have HY : Hid (SkAt ((w.alloc (.cells #[.int .i64 s.dep, .int .i64 s.lef, .int .i64 s.fac, .int .i64 s.rig, .int .i64 s.foo] 25)).alloc (.cells #[.int .i64 t.dep, .int .i64 t.lef, .int .i64 t.fac, .int .i64 t.rig, .int .i64 t.foo] 25)) (w.heap.size + 1) 25 t) := Lib.hid (heap_alloc2_new _ _ _)
  have HA : Hid (Below w.heap.size w ((w.alloc (.cells #[.int .i64 s.dep, .int .i64 s.lef, .int .i64 s.fac, .int .i64 s.rig, .int .i64 s.foo] 25)).alloc (.cells #[.int .i64 t.dep, .int .i64 t.lef, .int .i64 t.fac, .int .i64 t.rig, .int .i64 t.foo] 25))) := Lib.hid (((Below.refl _ _).alloc (Nat.le_refl _) _).alloc (by simp) _)
  go_enter Try.func47, Try.ntmps47
  go_wp2_with fail
  refine (maParts_any t _).mono ?_
  rintro e w1 ⟨b1, rfl, hb1, _, ho1⟩
  have HA1 : Hid (Below w.heap.size w w1) := Lib.hid (HA.out.trans (hb1.mono HA.out.size))
  have HX1 := Lib.hid (HX.out.next hb1)
  have HY1 := Lib.hid (HY.out.next hb1)
  have HO1 := Lib.hid ho1
  obtain ⟨h0, h1, h2, h3, h4⟩ := HX1.out.cells
  have hl := HX1.out.lt
  clear hb1 ho1 HX HY HA
  go_wp2_with fail
  refine (maParts_any s _).mono ?_
  rintro e w2 ⟨b2, rfl, hb2, _, ho2⟩
  have HA2 : Hid (Below w.heap.size w w2) := Lib.hid (HA1.out.trans (hb2.mono HA1.out.size))
  have hx2 := (HX1.out.next hb2).cells.2.2.1
  have hy2 := (HY1.out.next hb2).cells.2.2.1
  have hlx := (HX1.out.next hb2).lt
  have hly := (HY1.out.next hb2).lt
  have HO1' := Lib.hid (HO1.out.below hb2 HO1.out.lt)
  have HO2 := Lib.hid ho2
  clear hb2 ho2 h0 h1 h2 h3 h4 hl HX1 HY1 HA1 HO1
  go_wp2
  go_loop [13] (fun i => ∃ k : Nat, k ≤ 5 ∧ i = .int .i64 k ∧ leB s t k = true) (fun i => 5 - (intOf i).toNat)
  case atStart => exact ⟨0, Nat.zero_le _, rfl, rfl⟩
  case round =>
    obtain ⟨k, hk, rfl, hs⟩ := hrel
    have HS := Lib.hid hs; clear hs
    by_cases hlt : k < 5
    · have c1 := HO1'.out.pt hlt
      have c2 := HO2.out.pt hlt
      have HST : Hid (leB s t (k + 1) = decide (pt t k ≤ pt s k)) := by show _ = _; rw [leB_succ, HS.out]; rfl
      have HNO : Hid (pt s k < pt t k → leB s t 5 = false) := Lib.hid (leB_no hlt)
      generalize pt s k = x at *
      generalize pt t k = y at *
      by_cases hxy : x < y
      · have HF : Hid (canB s t = false) := by show _ = _; unfold canB; rw [HNO.out hxy]; rfl
        go_wp2
        go_ret
        exact ⟨ret_bool HF.out.symm, HA2.out⟩
      · go_wp2
        go_round
        case rel => exact ⟨k + 1, by omega, by go_num, by rw [HST.out]; simp; omega⟩
        case measure => simp [intOf]; omega
    · obtain rfl : k = 5 := by omega
      have HF : Hid (canB s t = (s.fac == t.fac)) := by show _ = _; unfold canB; rw [HS.out]; rfl
      go_wp2
      go_ret
      exact ⟨ret_bool HF.out.symm, HA2.out⟩

def minK (s t : Sk) : Sk := ⟨min s.dep t.dep, min s.lef t.lef, min s.fac t.fac, min s.rig t.rig, min s.foo t.foo⟩
theorem minK_eq (s t : Sk) : decide (minK s t = t) = leB s t 5 := by
  obtain ⟨a0, a1, a2, a3, a4⟩ := s
  obtain ⟨b0, b1, b2, b3, b4⟩ := t
  have key : ∀ x y : Int, (min x y = y) ↔ y ≤ x := by intro x y; omega
  rw [Bool.eq_iff_iff]
  simp [minK, leB, pt, Sk.zs, key, List.range_succ]
/-- The first k parts are the lesser ones. -/
def mixL (s t : Sk) (k : Nat) : List Int := (List.range 5).map fun j => if j < k then min (pt s j) (pt t j) else pt s j
theorem mixL_zero (s t : Sk) : mixL s t 0 = s.zs := by simp [mixL, pt, Sk.zs, List.range_succ]
theorem mixL_full (s t : Sk) : mixL s t 5 = (minK s t).zs := by simp [mixL, pt, Sk.zs, List.range_succ, minK]
theorem mixL_len (s t : Sk) (k : Nat) : (mixL s t k).length = 5 := by simp [mixL]
theorem mixL_step (s t : Sk) (k : Nat) (h : k < 5) : (mixL s t k).set k (min (pt s k) (pt t k)) = mixL s t (k + 1) := by
  apply List.ext_getElem
  · simp [mixL]
  · intro j h1 h2
    have hj : j < 5 := by simpa [mixL] using h2
    rw [List.getElem_set]
    by_cases hjk : k = j
    · subst hjk; simp [mixL]
    · rw [if_neg hjk]
      simp only [mixL, List.getElem_map, List.getElem_range]
      by_cases h3 : j < k
      · rw [if_pos h3, if_pos (by omega)]
      · rw [if_neg h3, if_neg (by omega)]
theorem mixL_at (s t : Sk) (k : Nat) (h : k < 5) : (mixL s t k)[k]? = some (pt s k) := by
  simp [mixL, h]
theorem Own.set {w : World} {b : Nat} {e : TypeId} {l : List Int} (h : Own w b e (intsZ l)) (k : Nat) (z : Int) : Own (w.setCell ⟨b, k, none⟩ (.int .i64 z)) b e (intsZ (l.set k z)) := by
  unfold Own at h ⊢
  rw [heap_set h]
  congr 2
  apply Array.ext'
  simp [intsZ, List.map_set]
theorem Own.other {w : World} {b : Nat} {e : TypeId} {cs : List Value} (h : Own w b e cs) {p : Addr} (hp : b ≠ p.block) (v : Value) : Own (w.setCell p v) b e cs := (Below.heap_setCell w p v b hp).trans h
theorem Own.free {w : World} {b : Nat} {e : TypeId} {cs : List Value} (h : Own w b e cs) (i : Nat) : w.frozen? ⟨b, i, none⟩ = false := free_of_heap h i

set_option maxRecDepth 100000 in
theorem lesserParts_any (s t : Sk) (w : World) :
    Calls Try.prog 56 #[.agg #[.int .i64 s.dep, .int .i64 s.lef, .int .i64 s.fac, .int .i64 s.rig, .int .i64 s.foo], .agg #[.int .i64 t.dep, .int .i64 t.lef, .int .i64 t.fac, .int .i64 t.rig, .int .i64 t.foo]] w fun e w' => e = .returned (.agg #[.int .i64 (minK s t).dep, .int .i64 (minK s t).lef, .int .i64 (minK s t).fac, .int .i64 (minK s t).rig, .int .i64 (minK s t).foo]) ∧ Below w.heap.size w w' := by
  have hst : Own (((w.alloc (.cells #[.int .i64 s.dep, .int .i64 s.lef, .int .i64 s.fac, .int .i64 s.rig, .int .i64 s.foo] 62)).alloc (.cells #[.int .i64 t.dep, .int .i64 t.lef, .int .i64 t.fac, .int .i64 t.rig, .int .i64 t.foo] 62)).alloc (.cells #[.int .i64 0, .int .i64 0, .int .i64 0, .int .i64 0, .int .i64 0] 62)) w.heap.size 62 (intsZ (mixL s t 0)) := by
    rw [mixL_zero]; exact ((SkAt.new w _ s).alloc _).alloc _
  have hzz : Own (((w.alloc (.cells #[.int .i64 s.dep, .int .i64 s.lef, .int .i64 s.fac, .int .i64 s.rig, .int .i64 s.foo] 62)).alloc (.cells #[.int .i64 t.dep, .int .i64 t.lef, .int .i64 t.fac, .int .i64 t.rig, .int .i64 t.foo] 62)).alloc (.cells #[.int .i64 0, .int .i64 0, .int .i64 0, .int .i64 0, .int .i64 0] 62)) (w.heap.size + 2) 62 (intsZ [0, 0, 0, 0, 0]) := by
    have h := heap_new ((w.alloc (.cells #[.int .i64 s.dep, .int .i64 s.lef, .int .i64 s.fac, .int .i64 s.rig, .int .i64 s.foo] 62)).alloc (.cells #[.int .i64 t.dep, .int .i64 t.lef, .int .i64 t.fac, .int .i64 t.rig, .int .i64 t.foo] 62)) (.cells #[.int .i64 0, .int .i64 0, .int .i64 0, .int .i64 0, .int .i64 0] 62)
    rw [show ((w.alloc (.cells #[.int .i64 s.dep, .int .i64 s.lef, .int .i64 s.fac, .int .i64 s.rig, .int .i64 s.foo] 62)).alloc (.cells #[.int .i64 t.dep, .int .i64 t.lef, .int .i64 t.fac, .int .i64 t.rig, .int .i64 t.foo] 62)).heap.size = w.heap.size + 2 from by simp] at h
    exact h
  have HST := Lib.hid hst; have HZZ := Lib.hid hzz
  clear hst hzz
  go_enter Try.func56, Try.ntmps56
  go_wp2
  go_loopw [9] (fun i wr => ∃ k : Nat, k ≤ 5 ∧ i = .int .i64 k ∧ Own wr w.heap.size 62 (intsZ (mixL s t k)) ∧ Own wr (w.heap.size + 2) 62 (intsZ [0, 0, 0, 0, 0]) ∧ Below w.heap.size w wr) (fun i _ => 5 - (intOf i).toNat)
  case atStart => exact ⟨0, Nat.zero_le _, rfl, HST.out, HZZ.out, (((Below.refl _ _).alloc (Nat.le_refl _) _).alloc (by simp) _).alloc (by simp; omega) _⟩
  case round =>
    obtain ⟨k, hk, rfl, ho, hz, hb⟩ := hrel
    clear HST HZZ
    by_cases hlt : k < 5
    · have hix := run_index5 t k hlt
      rw [pt_of t hlt] at hix
      have hc : wr.cell? ⟨w.heap.size, k, none⟩ = some (.int .i64 (pt s k)) := by rw [ho.cell]; simp [intsZ, mixL_at s t k hlt]
      have hf := ho.free k
      have hlw := ho.lt
      have HB := Lib.hid (hb.setCell (p := ⟨w.heap.size, k, none⟩) (Nat.le_refl _) (.int .i64 (min (pt s k) (pt t k))))
      have HO : Hid (Own (wr.setCell ⟨w.heap.size, k, none⟩ (.int .i64 (min (pt s k) (pt t k)))) w.heap.size 62 (intsZ (mixL s t (k + 1)))) := by
        show Own _ _ _ _; rw [← mixL_step s t k hlt]; exact ho.set k _
      have HZ := Lib.hid (hz.other (p := ⟨w.heap.size, k, none⟩) (by show w.heap.size + 2 ≠ w.heap.size; omega) (.int .i64 (min (pt s k) (pt t k))))
      clear hb ho hz
      generalize pt s k = x at *
      generalize pt t k = y at *
      go_wp2
      go_roundw
      case rel => exact ⟨k + 1, by omega, by go_num, HO.out, HZ.out, HB.out⟩
      case measure => simp [intOf]; omega
    · obtain rfl : k = 5 := by omega
      rw [mixL_full] at ho
      have hs : SkAt wr w.heap.size 62 (minK s t) := ho
      obtain ⟨h0, h1, h2, h3, h4⟩ := hs.cells
      have hz' : SkAt wr (w.heap.size + 2) 62 ⟨0, 0, 0, 0, 0⟩ := hz
      obtain ⟨z0, z1, z2, z3, z4⟩ := hz'.cells
      have zf0 := hz'.free 0; have zf1 := hz'.free 1; have zf2 := hz'.free 2; have zf3 := hz'.free 3; have zf4 := hz'.free 4
      have hl1 := hs.lt; have hl2 := hz'.lt
      have HB := Lib.hid hb
      clear hb ho hz hs hz'
      generalize hm : minK s t = m at *
      have HM := Lib.hid hm; clear hm
      go_wp2
      refine bodyPost_ret (v := .agg #[.int .i64 m.dep, .int .i64 m.lef, .int .i64 m.fac, .int .i64 m.rig, .int .i64 m.foo]) (by simp [results, Try.results56, go_sem, z0, z1, z2, z3, z4, zf0, zf1, zf2, zf3, zf4, h0, h1, h2, h3, h4]) rfl ⟨by rw [HM.out], ?_⟩
      repeat (first | (with_reducible exact HB.out) | (refine Below.setCell ?_ (by first | (simp; done) | (simp; omega)) _))
end Go.Proofs.Ytbbaphhkdhdelaa

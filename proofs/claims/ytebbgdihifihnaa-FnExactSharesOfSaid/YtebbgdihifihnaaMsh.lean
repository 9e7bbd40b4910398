/-
  The contract of SharesOf, in spec and in impl: it answers what the plain words here say, in memory of its own, and changes nothing that was there.
-/
import Derived.Test.YtebbgdihifihnaaMel
import Derived.Test.YtebbgdihifihnaaIntsE
import Derived.OwnWalk
import Derived.Maps.AppendAt
import Derived.Deep.RegionLaw
namespace Go.Proofs.Ytebbgdihifihnaa
open Go.RowKit
set_option linter.unusedVariables false

theorem infoI : (Try.prog.info? 3).map (fun i => (i.zero, i.size, i.bytes)) = some (some (.int .i64 0), 1, 8) := by kernel_rfl
theorem Own.put {w : World} {b : Nat} {t : TypeId} {cs : List Value} (h : Own w b t cs) (i : Nat) (v : Value) : Own (w.setCell ⟨b, i, none⟩ v) b t (cs.set i v) := by
  have h2 := heap_set (i := i) h v
  unfold Own
  rw [h2]
  simp
theorem Own.free {w : World} {b : Nat} {t : TypeId} {cs : List Value} (h : Own w b t cs) (i : Nat) : w.frozen? ⟨b, i, none⟩ = false := free_of_heap h i
def RowToI (w : World) (e : Ending) (w' : World) (L : List Int) (B : Bool) : Prop := ∃ v T, e = .returned (.tuple #[v, .bool B]) ∧ Below w.heap.size w w' ∧ w'.ownsRow w.heap.size T 1 v L.length (intsZ L)
theorem own_len {w : World} {base n : Nat} {e : TypeId} {v : Value} {L : List Int} (h : w.ownsRow base e 1 v n (intsZ L)) : w.ownsRow base e 1 v L.length (intsZ L) := by
  have hn : n = L.length := by have := h.1; simp [intsZ] at this; omega
  subst hn; exact h
theorem RowToI.no {w w' : World} {L : List Int} {B : Bool} (h : L = [] ∧ B = false) (hb : Below w.heap.size w w') : RowToI w (.returned (.tuple #[.slice none 0 0, .bool false])) w' L B := by
  obtain ⟨rfl, rfl⟩ := h
  exact ⟨_, 3, rfl, hb, own_nil _ _ _ _⟩
theorem RowToI.yes {w w' : World} {L M : List Int} {B : Bool} {v : Value} (h : L = M ∧ B = true) (hb : Below w.heap.size w w') (ho : w'.ownsRow w.heap.size 3 1 v M.length (intsZ M)) : RowToI w (.returned (.tuple #[v, .bool true])) w' L B := by
  obtain ⟨rfl, rfl⟩ := h
  exact ⟨_, _, rfl, hb, ho⟩

theorem own_three {w : World} {b base : Nat} {t : TypeId} {x y z : Int} (h : Own w b t (intsZ [x, y, z])) (hb : base ≤ b) : w.ownsRow base t 1 (.slice (some ⟨b, 0, none⟩) 3 3) [x, y, z].length (intsZ [x, y, z]) :=
  ⟨rfl, .inr ⟨b, 3, _, rfl, hb, h, Nat.le_refl _, by decide, by simp [intsZ], by simp [intsZ]⟩⟩
def shAt (m : Me) (k : Nat) : Int := 1000 * m.zs.getD k 0 / grM m
def shL (m : Me) : List Int := [shAt m 0, shAt m 1, shAt m 2]
def shV (m : Me) : List Int := if hasM m then shL m else []
theorem shL_len (m : Me) : (shL m).length = 3 := rfl
theorem shV_short (m : Me) : (shV m).length ≤ 64 := by unfold shV; split <;> simp [shL]
theorem shV_no {m : Me} (h : hasM m = false) : shV m = [] ∧ hasM m = false := by unfold shV; rw [h]; exact ⟨rfl, rfl⟩
theorem shV_yes {m : Me} (h : hasM m = true) : shV m = shL m ∧ hasM m = true := by unfold shV; rw [h]; exact ⟨rfl, rfl⟩
theorem shL_succ (m : Me) {k : Nat} (h : k < 3) : (shL m).take (k + 1) = (shL m).take k ++ [shAt m k] := by
  have hc : k = 0 ∨ k = 1 ∨ k = 2 := by omega
  rcases hc with rfl | rfl | rfl <;> rfl
/-- The first k shares are laid. -/
def shK (m : Me) (k : Nat) : List Int := [if 0 < k then shAt m 0 else 0, if 1 < k then shAt m 1 else 0, if 2 < k then shAt m 2 else 0]
theorem shK_succ (m : Me) {k : Nat} (h : k < 3) : (intsZ (shK m k)).set k (.int .i64 (shAt m k)) = intsZ (shK m (k + 1)) := by
  have hc : k = 0 ∨ k = 1 ∨ k = 2 := by omega
  rcases hc with rfl | rfl | rfl <;> rfl
theorem shK_at (m : Me) {k : Nat} (h : k < 3) : ∃ v, (intsZ (shK m k))[k]? = some v := by
  have hc : k = 0 ∨ k = 1 ∨ k = 2 := by omega
  rcases hc with rfl | rfl | rfl <;> exact ⟨_, rfl⟩
theorem ptM {w : World} {b : Nat} {e : TypeId} {s : Me} (h : Own w b e (intsZ s.zs)) {k : Nat} (hk : k < 3) : w.cell? ⟨b, k, none⟩ = some (.int .i64 (s.zs.getD k 0)) := by
  rw [h.cell]
  have hc : k = 0 ∨ k = 1 ∨ k = 2 := by omega
  rcases hc with rfl | rfl | rfl <;> rfl
theorem pt_goodM {s : Me} (h : goodM s = true) (k : Nat) (hk : k < 3) : 0 ≤ s.zs.getD k 0 ∧ s.zs.getD k 0 ≤ 1000000 := by
  obtain ⟨b0, b1, b2⟩ := goodM_bounds h
  have hc : k = 0 ∨ k = 1 ∨ k = 2 := by omega
  rcases hc with rfl | rfl | rfl
  · exact b0
  · exact b1
  · exact b2
theorem grM_le {m : Me} (h : goodM m = true) : 0 ≤ grM m ∧ grM m ≤ 3000000 := by
  obtain ⟨b0, b1, b2⟩ := goodM_bounds h
  unfold grM; omega

set_option maxRecDepth 100000 in
set_option maxHeartbeats 1000000 in
theorem specShares_any (s : Me) (w : World) :
    Calls Try.prog 14 #[.agg #[.int .i64 s.lea, .int .i64 s.tin, .int .i64 s.ant]] w fun e w' => RowToI w e w' (shV s) (hasM s) := by
  have HX := Lib.hid (MeAt.new w 25 s)
  have HA : Hid (Below w.heap.size w (w.alloc (.cells #[.int .i64 s.lea, .int .i64 s.tin, .int .i64 s.ant] 25))) := Lib.hid ((Below.refl _ _).alloc (Nat.le_refl _) _)
  obtain ⟨i0, hi, hz0, hz1, hz2⟩ := info_parts infoI
  have HI := Lib.hid hi; have HZ0 := Lib.hid hz0; have HZ1 := Lib.hid hz1; have HZ2 := Lib.hid hz2
  clear hi hz0 hz1 hz2
  go_enter Try.func14, Try.ntmps14
  go_wp2_with fail
  refine (meGood_any s _).mono ?_
  rintro e w1 ⟨rfl, hb1⟩
  have HA1 : Hid (Below w.heap.size w w1) := Lib.hid (HA.out.trans (hb1.mono HA.out.size))
  have HX1 := Lib.hid (HX.out.next hb1)
  clear hb1 HX HA
  cases hg : goodM s
  · have HV := Lib.hid (shV_no (hasM_no hg))
    clear hg
    go_wp2
    go_ret2
    exact RowToI.no HV.out HA1.out
  have HG := Lib.hid hg
  have HSM := Lib.hid (small_of hg)
  clear hg
  obtain ⟨h0, h1, h2⟩ := HX1.out.cells
  have hl := HX1.out.lt
  go_wp2_with fail
  refine (meGrams_any s _ HSM.out).mono ?_
  rintro e w2 ⟨rfl, hb2⟩
  have HA2 : Hid (Below w.heap.size w w2) := Lib.hid (HA1.out.trans (hb2.mono HA1.out.size))
  have HX2 := Lib.hid (HX1.out.next hb2)
  clear hb2 HX1 HA1 h0 h1 h2 hl
  have hgl := grM_le HG.out
  rcases (by omega : grM s = 0 ∨ 0 < grM s) with hz | hp
  · have HV := Lib.hid (shV_no (hasM_zero (m := s) (by omega)))
    have hzz : (grM s == 0) = true := by simp [hz]
    have HZ := Lib.hid hz; clear hz
    go_wp2
    go_ret2
    exact RowToI.no HV.out HA2.out
  have HV := Lib.hid (shV_yes (hasM_yes HG.out hp))
  have hzz : (grM s == 0) = false := by simp; omega
  obtain ⟨h0, h1, h2⟩ := HX2.out.cells
  have hl := HX2.out.lt
  go_wp2_with fail
  refine (meParts_any s _).mono ?_
  rintro e w3 ⟨b3, rfl, hb3, hbb, ho3⟩
  have HA3 : Hid (Below w.heap.size w w3) := Lib.hid (HA2.out.trans (hb3.mono HA2.out.size))
  have HX3 := Lib.hid (HX2.out.next hb3)
  have HO3 := Lib.hid ho3
  have HBB := Lib.hid hbb
  clear hb3 ho3 hbb h0 h1 h2 hl HX2 HA2 hzz
  go_wp2
  go_loopw [4, 18] (fun v i wr => ∃ k : Nat, k ≤ 3 ∧ i = .int .i64 k ∧ wr.ownsRow w3.heap.size 3 1 v k (intsZ ((shL s).take k)) ∧ Below w3.heap.size w3 wr) (fun _ i _ => 3 - (intOf i).toNat)
  case atStart => exact ⟨0, Nat.zero_le _, rfl, own_nil _ _ _ _, Below.refl _ _⟩
  case round =>
    obtain ⟨k, hk, rfl, hown, hb⟩ := hrel
    have HOWN := Lib.hid hown; clear hown
    have HB := Lib.hid hb
    by_cases hlt : k < 3
    · have c1 := (hb.cell (p := ⟨b3, k, none⟩) HO3.out.lt).trans (ptM HO3.out hlt)
      have p1 := pt_goodM HG.out k hlt
      have HST := Lib.hid (shL_succ s hlt)
      have HSA : Hid (shAt s k = 1000 * s.zs.getD k 0 / grM s) := Lib.hid rfl
      have HXr : Hid (MeAt wr w.heap.size 25 s) := Lib.hid (HX3.out.below hb HX3.out.lt)
      obtain ⟨h0, h1, h2⟩ := HXr.out.cells
      have hl := HXr.out.lt
      have hlr : w.heap.size < w3.heap.size := HX3.out.lt
      have hsz := hb.size
      clear hb
      generalize s.zs.getD k 0 = x at *
      go_wp2_with fail
      refine (meGrams_any s _ HSM.out).mono ?_
      rintro e w4 ⟨rfl, hb4⟩
      have HB4 : Hid (Below w3.heap.size w3 w4) := Lib.hid (HB.out.trans (hb4.mono HB.out.size))
      have HO4 := Lib.hid (own_below HOWN.out hb4)
      clear hb4 h0 h1 h2 hl HXr c1 HOWN
      have hownw := HO4.out
      have hmx : k + 1 ≤ maxLen := by unfold maxLen; omega
      have hsz4 := HB4.out.size
      generalize hq : 1000 * x / grM s = q at *
      have hpp : grM s ≠ 0 := by omega
      go_wp2_with (at_builtin; refine wpList_append_own _ rfl _ _ 30 rfl w3.heap.size 3 i0 (.int .i64 0) 1 8 Try.underlying30 HI.out HZ0.out HZ1.out HZ2.out rfl (by decide) _ _ _ rfl (hownw.alloc _) ⟨w4.heap.size, 0, none⟩ 1 1 [.int .i64 q] rfl rfl (cell_one_new _ _ _) (by simp [Value.oneCell']) hmx (by omega) (by simp; omega) ?_)
      intro v' w5 hown' hgrow _
      have HB5 : Hid (Below w3.heap.size w3 w5) := Lib.hid ((HB4.out.alloc HB4.out.size _).grown hgrow (by have := HB4.out.size; simp; omega) (own_lt hownw))
      have HO5 : Hid (w5.ownsRow w3.heap.size 3 1 v' (k + 1) (intsZ ((shL s).take (k + 1)))) := by
        show w5.ownsRow _ _ _ _ _ _
        rw [HST.out, intsZ_snoc, HSA.out]; exact hown'
      clear hown' hgrow hownw HO4
      go_wp2
      go_roundw
      case rel => exact ⟨k + 1, by omega, by go_num, HO5.out, HB5.out⟩
      case measure => simp [intOf]; omega
    · obtain rfl : k = 3 := by omega
      have HB6 := Lib.hid (HA3.out.trans (hb.mono HA3.out.size))
      have h := HOWN.out
      rw [List.take_of_length_le (by rw [shL_len]; exact Nat.le_refl _)] at h
      have HO := Lib.hid (own_len (Joins.ownsRow_le h HA3.out.size))
      clear h hb
      go_wp2
      go_ret2
      exact RowToI.yes HV.out HB6.out HO.out

theorem run_make3 (w : World) : (Instr.makeSlice 30 (.int .i64 3) (.int .i64 3)).run Try.prog w = .ok (.slice (some ⟨w.heap.size, 0, none⟩) 3 3) (w.alloc (.cells #[.int .i64 0, .int .i64 0, .int .i64 0] 3)) := by
  obtain ⟨i0, hi, hz0, hz1, hz2⟩ := info_parts infoI
  have h := run_make (P := Try.prog) w 30 3 i0 _ Try.underlying30 hi hz0 .i64 .i64 (3 : Int) (3 : Int) (by omega) (Int.le_refl _) (by rw [hz2]; omega) (by omega)
  rw [hz1, show madeCells (Value.int IntKind.i64 0).cells (Int.toNat 3 * 1) = #[.int .i64 0, .int .i64 0, .int .i64 0] from by first | rfl | kernel_rfl | simp [madeCells]] at h
  exact h

set_option maxRecDepth 100000 in
set_option maxHeartbeats 1000000 in
theorem implShares_any (s : Me) (w : World) :
    Calls Try.prog 15 #[.agg #[.int .i64 s.lea, .int .i64 s.tin, .int .i64 s.ant]] w fun e w' => RowToI w e w' (shV s) (hasM s) := by
  have HX := Lib.hid (MeAt.new w 25 s)
  have HA : Hid (Below w.heap.size w (w.alloc (.cells #[.int .i64 s.lea, .int .i64 s.tin, .int .i64 s.ant] 25))) := Lib.hid ((Below.refl _ _).alloc (Nat.le_refl _) _)
  go_enter Try.func15, Try.ntmps15
  go_wp2_with fail
  refine (gramsOfMetal_any s _).mono ?_
  rintro e w1 ⟨rfl, hb1⟩
  have HA1 : Hid (Below w.heap.size w w1) := Lib.hid (HA.out.trans (hb1.mono HA.out.size))
  have HX1 := Lib.hid (HX.out.next hb1)
  clear hb1 HX HA
  cases hm : hasM s
  · have HV := Lib.hid (shV_no hm)
    clear hm
    generalize gramsV s = z at *
    go_wp2
    go_ret2
    exact RowToI.no HV.out HA1.out
  have HV := Lib.hid (shV_yes hm)
  obtain ⟨hg, hp⟩ := hasM_parts hm
  have HG := Lib.hid hg
  have HGV := Lib.hid (gramsV_yes hg)
  have hgl := grM_le hg
  rw [HGV.out]
  clear hm hg
  obtain ⟨h0, h1, h2⟩ := HX1.out.cells
  have hl := HX1.out.lt
  have hmk := run_make3 w1
  obtain ⟨w2, hw2⟩ : ∃ x : World, x = w1.alloc (.cells #[.int .i64 0, .int .i64 0, .int .i64 0] 3) := ⟨_, rfl⟩
  have HB2 : Hid (Below w.heap.size w w2) := by show Below _ _ _; rw [hw2]; exact HA1.out.alloc HA1.out.size _
  have HO2 : Hid (Own w2 w1.heap.size 3 (intsZ (shK s 0))) := by show Own _ _ _ _; rw [hw2]; exact heap_new _ _
  have HX2 : Hid (MeAt w2 w.heap.size 25 s) := by show MeAt _ _ _ _; rw [hw2]; exact HX1.out.alloc _
  rw [← hw2] at hmk
  have HW2 := Lib.hid hw2; clear hw2 h0 h1 h2 hl
  obtain ⟨h0, h1, h2⟩ := HX2.out.cells
  have hl := HX2.out.lt
  go_wp2_with fail
  refine (gramsBy_any s _).mono ?_
  rintro e w3 ⟨rfl, hb3⟩
  have HB3 : Hid (Below w.heap.size w w3) := Lib.hid (HB2.out.trans (hb3.mono HB2.out.size))
  have HO3 := Lib.hid (HO2.out.below hb3 HO2.out.lt)
  have HBS : Hid (w.heap.size ≤ w1.heap.size) := Lib.hid HA1.out.size
  clear hb3 h0 h1 h2 hl hmk HX2 HO2 HB2 HW2 HX1
  obtain ⟨g, hg⟩ : ∃ g, g = w1.heap.size := ⟨_, rfl⟩
  rw [← hg] at HO3 HBS ⊢
  clear HA1 hg
  go_wp2
  go_loopw [19] (fun i wr => ∃ k : Nat, k ≤ 3 ∧ i = .int .i64 k ∧ Own wr g 3 (intsZ (shK s k)) ∧ Below w.heap.size w wr) (fun i _ => 3 - (intOf i).toNat)
  case atStart => exact ⟨0, Nat.zero_le _, rfl, HO3.out, HB3.out⟩
  case round =>
    obtain ⟨k, hk, rfl, ho, hb⟩ := hrel
    have HO := Lib.hid ho; have HB := Lib.hid hb
    clear ho hb
    by_cases hlt : k < 3
    · have hix := run_index3 s k hlt
      obtain ⟨v0, hv0⟩ := shK_at s hlt
      have hc0 : wr.cell? ⟨g, k, none⟩ = some v0 := by rw [HO.out.cell]; exact hv0
      have hf0 := HO.out.free k
      have p1 := pt_goodM HG.out k hlt
      have hlz : k < s.zs.length := hlt
      have e1 : s.zs[k]'hlt = s.zs.getD k 0 := by rw [List.getD_eq_getElem?_getD, List.getElem?_eq_getElem hlz]; rfl
      clear hlz
      rw [e1] at hix
      have HST := Lib.hid (shK_succ s hlt)
      have HSA : Hid (shAt s k = 1000 * s.zs.getD k 0 / grM s) := Lib.hid rfl
      clear hv0 e1
      generalize s.zs.getD k 0 = x at *
      have HO' : Hid (Own (wr.setCell ⟨g, k, none⟩ (.int .i64 (1000 * x / grM s))) g 3 (intsZ (shK s (k + 1)))) := by
        show Own _ _ _ _
        rw [← HST.out, HSA.out]; exact HO.out.put _ _
      have HB' : Hid (Below w.heap.size w (wr.setCell ⟨g, k, none⟩ (.int .i64 (1000 * x / grM s)))) := Lib.hid (HB.out.setCell (p := ⟨g, k, none⟩) HBS.out _)
      go_wp2
      go_roundw
      case rel => exact ⟨k + 1, by omega, by go_num, HO'.out, HB'.out⟩
      case measure => simp [intOf]; omega
    · obtain rfl : k = 3 := by omega
      have HOL : Hid (wr.ownsRow w.heap.size 3 1 (.slice (some ⟨g, 0, none⟩) 3 3) (shL s).length (intsZ (shL s))) := Lib.hid (own_three HO.out HBS.out)
      go_wp2
      go_ret2
      exact RowToI.yes HV.out HB.out HOL.out
end Go.Proofs.Ytebbgdihifihnaa

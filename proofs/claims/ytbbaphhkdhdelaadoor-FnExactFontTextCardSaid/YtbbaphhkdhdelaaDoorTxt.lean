/-
  The text of a strike: the contracts of spec.maText, spec.StrikeText and impl.StrikeText: each answers what the plain words here say and changes nothing that was there.
-/
import Derived.Test.YtbbaphhkdhdelaaDoorMa
import Derived.Test.YtbbaphhkdhdelaaDoorNum
import Derived.Test.YtbbaphhkdhdelaaDoorBld
import Derived.Test.YtbbaphhkdhdelaaDoorShf
namespace Go.Proofs.YtbbaphhkdhdelaaDoor
open Go.RowKit
set_option linter.unusedVariables false

def numL (z : Int) : List UInt8 := Lib.decDigits z.toNat
def txtK (l : List Int) : Nat → List UInt8
  | 0 => []
  | k + 1 => txtK l k ++ ((if k = 0 then [] else [47]) ++ numL (l.getD k 0))
def textB (s : Sk) : ByteArray := if goodB s then ⟨(txtK s.zs 5).toArray⟩ else ⟨#[]⟩
theorem good_at {s : Sk} (h : goodB s = true) {k : Nat} (hk : k < s.zs.length) : 1 ≤ s.zs[k] ∧ s.zs[k] ≤ 999 := by
  unfold goodB allB at h
  have := List.all_eq_true.1 h _ (List.getElem_mem hk)
  simpa [inB] using this
theorem numL_len {z : Int} (h : z ≤ 999) : (numL z).length ≤ 1000 := by
  unfold numL; rw [Lib.decDigits_length]; exact Nat.le_trans (nDig_le _) (by omega)
theorem txtK_len {s : Sk} (h : goodB s = true) : ∀ k, k ≤ 5 → (txtK s.zs k).length ≤ k * 1001
  | 0, _ => by simp [txtK]
  | k + 1, hk => by
    have ih := txtK_len h k (by omega)
    have hlt : k < s.zs.length := by rw [zs_len]; omega
    have hz := good_at h hlt
    have hn := numL_len hz.2
    have e : s.zs.getD k 0 = s.zs[k] := by simp [List.getD, hlt]
    unfold txtK
    rw [e, List.length_append, List.length_append]
    split <;> simp <;> omega
theorem txtK_one {s : Sk} (h : 0 < s.zs.length) : txtK s.zs 1 = numL s.zs[0] := by
  simp [txtK, List.getD, h]
theorem txtK_more {s : Sk} {k : Nat} (h : k < s.zs.length) (h0 : k ≠ 0) : txtK s.zs (k + 1) = txtK s.zs k ++ [47] ++ numL s.zs[k] := by
  show txtK s.zs k ++ _ = _
  rw [if_neg h0]; simp [List.getD, h]

def baOf (l : List UInt8) : ByteArray := ⟨l.toArray⟩
theorem baOf_size (l : List UInt8) : (baOf l).size = l.length := rfl
theorem baOf_app (a b : List UInt8) : baOf a ++ baOf b = baOf (a ++ b) := by
  unfold baOf; congr 1

set_option maxRecDepth 100000 in
set_option maxHeartbeats 2000000 in
theorem maText_any (s : Sk) (w : World) (hg : goodB s = true) :
    Calls Tryd.prog 38 #[.agg #[.int .i64 s.dep, .int .i64 s.lef, .int .i64 s.fac, .int .i64 s.rig, .int .i64 s.foo]] w fun e w' => e = .returned (.string (baOf (txtK s.zs 5))) ∧ Below w.heap.size w w' := by
  have HG := Lib.hid hg; clear hg
  go_enter Tryd.func38, Tryd.ntmps38
  go_wp2_with fail
  refine (maParts_any s _).mono ?_
  rintro e w1 ⟨b, rfl, hb, _, ho⟩
  have HF := Lib.hid ho.ints
  have HA1 : Hid (Below w.heap.size w w1) := Lib.hid (((Below.refl _ _).alloc (Nat.le_refl _) _).trans (hb.mono (by simp)))
  clear hb ho
  have HT0 : Hid (baOf (txtK s.zs 0) = ⟨#[]⟩) := by show _ = _; rfl
  go_wp2
  rw [← HT0.out]
  go_loopw [3, 9] (fun t i wr => ∃ k : Nat, k ≤ 5 ∧ i = .int .i64 k ∧ t = .string (baOf (txtK s.zs k)) ∧ Below w1.heap.size w1 wr) (fun _ i _ => 5 - (intOf i).toNat)
  case atStart => exact ⟨0, Nat.zero_le _, rfl, rfl, Below.refl _ _⟩
  case round =>
    obtain ⟨k, hk, rfl, rfl, hb⟩ := hrel
    by_cases hlt : k < 5
    · obtain ⟨_, _, heq, hbl, hc⟩ := HF.out (by rw [zs_len]; decide)
      cases heq
      have hlz : k < s.zs.length := by rw [zs_len]; exact hlt
      have hc0 := hc k hlz
      clear hc
      simp only [Nat.zero_add] at hc0
      rw [← hb.cell (p := ⟨b, k, none⟩) hbl] at hc0
      obtain ⟨z1, z2⟩ := good_at HG.out hlz
      have HL := Lib.hid (txtK_len HG.out k (by omega))
      have HONE : Hid (k = 0 → baOf (txtK s.zs (k + 1)) = baOf (txtK s.zs k) ++ baOf (numL s.zs[k])) := by
        intro h; subst h; rw [txtK_one hlz, baOf_app]; rfl
      have HMORE : Hid (k ≠ 0 → baOf (txtK s.zs (k + 1)) = baOf (txtK s.zs k) ++ ⟨#[47]⟩ ++ baOf (numL s.zs[k])) := by
        intro h; rw [txtK_more hlz h, ← baOf_app, ← baOf_app]; rfl
      have HNUM : Hid (∀ W, Calls Tryd.prog 47 #[.int .i64 s.zs[k]] W fun e w' => e = .returned (.string (baOf (numL s.zs[k]))) ∧ Below W.heap.size W w') := by
        intro W
        have := l1Num_any s.zs[k].toNat s.zs[k].toNat W (Nat.le_refl _) (by omega)
        rw [Int.toNat_of_nonneg (by omega)] at this
        exact this
      have hnl : (baOf (numL s.zs[k])).size ≤ 1000 := numL_len z2
      have htl : (baOf (txtK s.zs k)).size ≤ 5005 := by have := HL.out; rw [baOf_size]; omega
      generalize baOf (numL s.zs[k]) = D at *
      generalize s.zs[k] = z at *
      generalize baOf (txtK s.zs k) = T at *
      have HB := Lib.hid hb; clear hb
      rcases Nat.eq_zero_or_pos k with h0 | h0
      · have HY := Lib.hid (HONE.out h0)
        have H0 := Lib.hid h0
        clear h0
        have hgt : ¬ (0 : Int) < (k : Int) := by have := H0.out; omega
        have hs1 : ¬ (9223372036854775807 : Nat) < T.size + D.size := by omega
        go_wp2_with fail
        refine (HNUM.out _).mono ?_
        rintro e w2 ⟨rfl, hb2⟩
        have HB2 : Hid (Below w1.heap.size w1 w2) := Lib.hid (HB.out.trans (hb2.mono HB.out.size))
        clear hb2 hc0
        go_wp2
        go_roundw
        case rel => exact ⟨k + 1, by omega, by go_num, by rw [HY.out], HB2.out⟩
        case measure => simp [intOf]; omega
      · have HY := Lib.hid (HMORE.out (by omega))
        have hgt : (0 : Int) < (k : Int) := by omega
        have hs1 : ¬ (9223372036854775807 : Nat) < T.size + 1 := by omega
        have hs2 : ¬ (9223372036854775807 : Nat) < (T ++ ⟨#[47]⟩).size + D.size := by rw [ByteArray.size_append]; show ¬ _ < T.size + 1 + _; omega
        have hs3 : ¬ (9223372036854775807 : Nat) < T.size + 1 + D.size := by omega
        go_wp2_with fail
        refine (HNUM.out _).mono ?_
        rintro e w2 ⟨rfl, hb2⟩
        have HB2 : Hid (Below w1.heap.size w1 w2) := Lib.hid (HB.out.trans (hb2.mono HB.out.size))
        clear hb2 hc0
        go_wp2
        go_roundw
        case rel => exact ⟨k + 1, by omega, by go_num, by rw [HY.out], HB2.out⟩
        case measure => simp [intOf]; omega
    · obtain rfl : k = 5 := by omega
      have HB := Lib.hid (HA1.out.trans (hb.mono HA1.out.size))
      clear hb
      go_wp2
      go_ret
      exact ⟨rfl, HB.out⟩

theorem ret_sb {a c : ByteArray} {b d : Bool} (h1 : a = c) (h2 : b = d) : Ending.returned (.tuple #[.string a, .bool b]) = .returned (.tuple #[.string c, .bool d]) := by rw [h1, h2]
theorem text_no {s : Sk} (h : goodB s = false) : textB s = baOf [] := by unfold textB; rw [h]; rfl
theorem text_yes {s : Sk} (h : goodB s = true) : textB s = baOf (txtK s.zs 5) := by unfold textB; rw [h]; rfl

set_option maxRecDepth 100000 in
set_option maxHeartbeats 2000000 in
theorem specText_any (s : Sk) (w : World) :
    Calls Tryd.prog 16 #[.agg #[.int .i64 s.dep, .int .i64 s.lef, .int .i64 s.fac, .int .i64 s.rig, .int .i64 s.foo]] w fun e w' => e = .returned (.tuple #[.string (textB s), .bool (goodB s)]) ∧ Below w.heap.size w w' := by
  obtain ⟨w0, hw0⟩ : ∃ x : World, x = w.alloc (.cells #[.int .i64 s.dep, .int .i64 s.lef, .int .i64 s.fac, .int .i64 s.rig, .int .i64 s.foo] 37) := ⟨_, rfl⟩
  have HA : Hid (Below w.heap.size w w0) := by show Below _ _ _; rw [hw0]; exact (Below.refl _ _).alloc (Nat.le_refl _) _
  have HX : Hid (SkAt w0 w.heap.size 37 s) := by show SkAt _ _ _ _; rw [hw0]; exact SkAt.new _ _ _
  have HW := Lib.hid hw0; clear hw0
  go_enter Tryd.func16, Tryd.ntmps16
  go_wp2_with fail
  rw [← HW.out]
  refine (maGood_any s _).mono ?_
  rintro e w1 ⟨rfl, hb1⟩
  have HA1 : Hid (Below w.heap.size w w1) := Lib.hid (HA.out.trans (hb1.mono HA.out.size))
  have HX1 := Lib.hid (HX.out.next hb1)
  clear hb1 HA HX HW
  cases hg : goodB s
  · have HV := Lib.hid (text_no hg)
    have HE := Lib.hid hg
    clear hg
    go_wp2
    go_ret2
    exact ⟨ret_sb HV.out.symm HE.out.symm, HA1.out⟩
  have HG := Lib.hid hg; clear hg
  obtain ⟨y0, y1, y2, y3, y4⟩ := HX1.out.cells
  have hyl := HX1.out.lt
  go_wp2_with fail
  refine (maText_any s _ HG.out).mono ?_
  rintro e w2 ⟨rfl, hb2⟩
  have HA2 : Hid (Below w.heap.size w w2) := Lib.hid (HA1.out.trans (hb2.mono HA1.out.size))
  clear hb2
  go_wp2
  go_ret2
  exact ⟨ret_sb (text_yes HG.out).symm HG.out.symm, HA2.out⟩

def Tab (w : World) : Prop := Lib.TabIs Tryd.prog w "internal/strconv.uint64pow10" .u64 Lib.pow10Tab
theorem Tab.below {w w' : World} (h : Tab w) (hb : Below w.heap.size w w') : Tab w' := by
  unfold Tab Lib.TabIs World.var? at h ⊢
  obtain ⟨g, hg⟩ : ∃ g, Tryd.prog.globalNamed "internal/strconv.uint64pow10" = some g := by
    cases hg : Tryd.prog.globalNamed "internal/strconv.uint64pow10" with
    | none => rw [hg] at h; cases h
    | some g => exact ⟨g, rfl⟩
  rw [hg] at h ⊢
  simp only [Option.bind_some] at h ⊢
  have hlt : g < w.heap.size := by
    rcases Nat.lt_or_ge g w.heap.size with h' | h'
    · exact h'
    · rw [Array.getElem?_eq_none h'] at h; cases h
  rw [hb.block g hlt]
  exact h
theorem BldAt.below {B b : Nat} {bs : List Value} {w w' : World} (h : BldAt B b bs w) (hb : Below w.heap.size w w') : BldAt B b bs w' := by
  have hlt := Lib.BuilderAt.lt h
  obtain ⟨hB, v, hbk, hown, hne⟩ := h
  exact ⟨hB, v, (hb.block b hlt).trans hbk, hown.kept (row := none) ⟨hb.os, hb.tape, hb.output, hb.size, fun k hk _ => hb.block k hk⟩ (by cases v.ownBlock <;> simp), hne⟩
theorem bld_new (w : World) : Bld w.heap.size w.heap.size [] (w.alloc (.cells #[.pointer none, .slice none 0 0] 53)) :=
  Or.inl ⟨Nat.le_refl _, _, heap_new _ _, own_nil _ _ _ _, by simp [Value.ownBlock]⟩
end Go.Proofs.YtbbaphhkdhdelaaDoor

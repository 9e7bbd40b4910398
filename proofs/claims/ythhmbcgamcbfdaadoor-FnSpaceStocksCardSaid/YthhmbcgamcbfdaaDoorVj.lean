/-
  The contracts of impl.sumsOf, NearestFill and CanFill.
-/
import Derived.Test.YthhmbcgamcbfdaaDoorVi
import Derived.Test.YthhmbcgamcbfdaaDoorVe
import Derived.RangeFuncBox
namespace Go.Proofs.YthhmbcgamcbfdaaDoor
open Go.RowKit Go.Shelf
set_option linter.unusedVariables false
attribute [local go_sem] Oper.semAt_some encS

def rep4 (ks : List Int) : List Int := List.replicate ks.length 400
theorem rep4_len (ks : List Int) : (rep4 ks).length = ks.length := by simp [rep4]
theorem rep4_get {ks : List Int} {j : Nat} (h : j < (rep4 ks).length) : (rep4 ks)[j] = 400 := by simp [rep4]
/-- The iterator over the sums of ks up to N. -/
def SumsTo (ks : List Int) (A : Option Addr) (c N : Nat) (w w' : World) (e : Ending) : Prop :=
  ∃ (b0 : Nat) (B : Option Addr) (d : Nat), e = .returned (.func (.func 54) #[] #[.pointer (some ⟨b0 + 2, 0, none⟩), .pointer (some ⟨b0, 0, none⟩), .pointer (some ⟨b0 + 1, 0, none⟩)]) ∧ SumBox w' (b0 + 2) b0 (b0 + 1) ks (rep4 ks) A B c d N ∧ Below w.heap.size w w'
theorem sumsOf_any (ks : List Int) (A : Option Addr) (c N : Nat) (w : World) (hf : IntsIn w A ks) (h6 : ks.length ≤ 6) :
    Calls Tryd.prog 35 #[.slice A ks.length c, .int .i64 (N : Int)] w fun e w' => SumsTo ks A c N w w' e := by
  have HF := Lib.hid hf; clear hf
  obtain ⟨w1, hw1⟩ : ∃ x : World, x = w.alloc (.cells #[.int .i64 400] 3) := ⟨_, rfl⟩
  have hc1 : w1.cell? ⟨w.heap.size, 0, none⟩ = some (.int .i64 400) := by rw [hw1, cell_of_heap (heap_new _ _)]; rfl
  have hb1 : Below w.heap.size w w1 := by rw [hw1]; exact (Below.refl _ _).alloc (Nat.le_refl _) _
  have hl1 : w.heap.size < w1.heap.size := by rw [hw1]; simp
  have HW1 := Lib.hid hw1
  have HC1 := Lib.hid hc1; have HB1 := Lib.hid hb1
  clear hw1 hc1 hb1
  go_enter Tryd.func35, Tryd.ntmps35
  go_wp2_with fail
  rw [← HW1.out]
  refine (repeat_any w.heap.size ks.length h6 w1 HC1.out hl1).mono ?_
  rintro e w2 ⟨rfl, hb2, ht2⟩
  have HB2 := Lib.hid (HB1.out.trans (hb2.mono HB1.out.size))
  have HT2 := Lib.hid ht2
  clear hb2 ht2
  go_wp2_with fail
  refine (sumsFromStock_any A (some ⟨w1.heap.size, 0, none⟩) ks.length c ks.length ks.length (N : Int) w2).mono ?_
  rintro e w3 ⟨rfl, hw3⟩
  have HB3 : Hid (Below w2.heap.size w2 w3) := Lib.hid (by rw [hw3]; exact (((Below.refl _ _).alloc (Nat.le_refl _) _).alloc (by simp) _).alloc (by simp; omega) _)
  have HK : Hid (Boxed w3 w2.heap.size 23 (.slice A ks.length c)) := Lib.hid (by rw [hw3]; exact ((Boxed.new _ _ _).alloc _).alloc _)
  have HS : Hid (Boxed w3 (w2.heap.size + 1) 23 (.slice (some ⟨w1.heap.size, 0, none⟩) ks.length ks.length)) := Lib.hid (by
    rw [hw3]
    have h := Boxed.new (w2.alloc (.cells #[.slice A ks.length c] 23)) 23 (.slice (some ⟨w1.heap.size, 0, none⟩) ks.length ks.length)
    rw [World.size_alloc] at h
    exact h.alloc _)
  have HM : Hid (Boxed w3 (w2.heap.size + 2) 3 (.int .i64 (N : Int))) := Lib.hid (by
    rw [hw3]
    have h := Boxed.new ((w2.alloc (.cells #[.slice A ks.length c] 23)).alloc (.cells #[.slice (some ⟨w1.heap.size, 0, none⟩) ks.length ks.length] 23)) 3 (.int .i64 (N : Int))
    rw [World.size_alloc, World.size_alloc] at h
    exact h)
  have HR : Hid (SumBox w3 (w2.heap.size + 2) w2.heap.size (w2.heap.size + 1) ks (rep4 ks) A (some ⟨w1.heap.size, 0, none⟩) c ks.length N) := Lib.hid
    ⟨HM.out, HK.out, by rw [rep4_len]; exact HS.out, (HF.out.below HB2.out (Nat.le_refl _)).below HB3.out (Nat.le_refl _), (HT2.out.ints (g := fun j => 400) (l := rep4 ks) (fun j hj => by unfold repF; rw [if_pos hj]) (rep4_len ks) (fun j hj => rep4_get hj)).below HB3.out (Nat.le_refl _)⟩
  have HBF := Lib.hid (HB2.out.trans (HB3.out.mono HB2.out.size))
  clear hw3
  go_wp2
  go_ret
  exact ⟨_, _, _, rfl, HR.out, HBF.out⟩

/-- The last number that has come. -/
def lastV (pre : List Sum4) : Nat := match pre.getLast? with | none => 0 | some x => x.1
theorem lastV_snoc (pre : List Sum4) (x : Sum4) : lastV (pre ++ [x]) = x.1 := by unfold lastV; rw [List.getLast?_concat]
theorem lastV_nil : lastV [] = 0 := rfl
theorem stT_full {ks : List Int} (hp : Pos ks) {j : Nat} (hj : j ≤ 400) : stT ks (rep4 ks) ks.length j = canB ks (j : Int) := by
  have h : StU ks (rep4 ks) ks.length (j : Int) ↔ Can ks (j : Int) := by
    have := stu_full (ss := rep4 ks) hp (fun i hi => by rw [List.getD_eq_getElem?_getD, List.getElem?_eq_getElem (by rw [rep4_len]; exact hi)]; exact rep4_get _) (Nat.le_refl ks.length) (show (j : Int) ≤ 400 by omega)
    rwa [List.take_length] at this
  unfold stT
  cases hc : canB ks (j : Int) with
  | true => exact stB_iff.2 (h.2 (canB_iff.1 hc))
  | false =>
    cases hb : stB ks (rep4 ks) ks.length (j : Int) with
    | false => rfl
    | true => exact absurd (h.1 (stB_iff.1 hb)) (canB_no.1 hc)
theorem lastV_sums {ks : List Int} (hp : Pos ks) : ∀ n : Nat, n ≤ 400 → lastV (sumL (stT ks (rep4 ks) ks.length) (n + 1)) = nearN ks n
  | 0, _ => by
    rw [sumL_yes (by rw [stT_full hp (by omega)]; exact canB_iff.2 (can_zero ks)) (by omega), lastV_snoc]; rfl
  | n + 1, h => by
    by_cases hc : Can ks ((n + 1 : Nat) : Int)
    · rw [sumL_yes (by rw [stT_full hp (by omega)]; exact canB_iff.2 hc) (by omega), lastV_snoc, nearN_can hc]
    · rw [sumL_no (by rw [stT_full hp (by omega)]; exact canB_no.2 hc), lastV_sums hp n (by omega), nearN_no hc]
theorem KpB.kt {B : Nat} : ∀ {X Y Z : World}, KpB B X Y → KpB B Y Z → KpB B X Z := fun h k => KpB.t h k
theorem KpB.kb {B m : Nat} : ∀ (W : World) (l : Nat) (o o' : Obj), m ≤ l → W.heap[l]? = some o → o.isCells = false → o.isWalk = false → KpB B W (W.putObj l o') := fun W l o o' _ h ho _ => KpB.b W l o o' h ho
theorem below_put {w W : World} {B D : Nat} {o : Obj} (o' : Obj) (h : Below B w W) (hD : B ≤ D) (hk : W.heap[D]? = some o) : Below B w (W.putObj D o') :=
  h.grown (grownBy_putObj' W D o') (by have := lt_of_heap hk; omega) (fun k e => by cases e; exact hD)

set_option maxRecDepth 100000 in
set_option maxHeartbeats 2000000 in
theorem implNearestFill_any (l : List Int) (A : Option Addr) (c : Nat) (n : Int) (w : World) (hf : IntsIn w A l) (hlen : l.length ≤ 1048576) :
    Calls Tryd.prog 37 #[.slice A l.length c, .int .i64 n] w fun e w' => e = .returned (.tuple #[.int .i64 (nearV l n), .bool (wAsk l n)]) ∧ Below w.heap.size w w' := by
  have HF := Lib.hid hf; clear hf
  cases ha : wAsk l n
  · have HV := Lib.hid (nearV_no ha)
    have HA : Hid ((kindsB l && inB 0 400 n) = false) := Lib.hid ha; clear ha
    go_enter Tryd.func37, Tryd.ntmps37
    go_wp2_with fail
    refine (implAreSpaces_any l A c _ HF.out hlen).mono ?_
    rintro e w' ⟨rfl, rfl⟩
    cases hg : kindsB l
    · clear hg HA
      go_wp2
      go_ret2
      exact ⟨by rw [HV.out]; rfl, Below.refl _ _⟩
    · rw [hg] at HA
      clear hg
      go_wp2_with fail
      refine (isFillWidth_any _ _).mono ?_
      rintro e w' ⟨rfl, rfl⟩
      have hi : inB 0 400 n = false := by simpa using HA.out
      rw [hi]
      clear hi
      go_wp2
      go_ret2
      exact ⟨by rw [HV.out]; rfl, Below.refl _ _⟩
  · skip
    have HA := Lib.hid ha
    obtain ⟨hg, h0, h4⟩ := wAsk_iff.1 ha
    obtain ⟨N, rfl⟩ : ∃ N : Nat, n = (N : Int) := ⟨n.toNat, by omega⟩
    have hN4 : N ≤ 400 := by omega
    have hN1 : (N : Int) < (N : Int) + 1 := by omega
    have hN2 : ((N + 1 : Nat) : Int) = (N : Int) + 1 := by omega
    have HK := Lib.hid (kindsB_iff.2 hg)
    have HI := Lib.hid (inB_iff.2 ⟨h0, h4⟩)
    have HG := Lib.hid hg; clear hg ha
    have HV := Lib.hid (nearV_yes HA.out)
    refine (callsIn_wide (n := 6)).1 ?_
    have n6 : 1 ≤ 6 := by omega
    refine callsIn_of_wp_marks Tryd.func37 rfl trivial ?_ rfl
    simp only [Tryd.ntmps37, List.size_toArray, List.length_cons, List.length_nil, Nat.reduceAdd, Nat.reduceSub, Array.replicate_succ, Array.replicate_zero, List.push_toArray, List.append_toArray, List.nil_append, List.cons_append]
    gi_wp2_with fail
    refine ⟨trivial, ?_⟩
    refine (callsIn_wide.2 (implAreSpaces_any l A c _ HF.out hlen)).mono ?_
    rintro e w' ⟨rfl, rfl⟩
    rw [HK.out]
    gi_wp2_with fail
    refine ⟨trivial, ?_⟩
    refine (callsIn_wide.2 (isFillWidth_any _ _)).mono ?_
    rintro e w' ⟨rfl, rfl⟩
    rw [HI.out]
    obtain ⟨w1, hw1⟩ : ∃ x : World, x = w.alloc (.cells #[.int .i64 0] 3) := ⟨_, rfl⟩
    have HX1 : Hid (Boxed w1 w.heap.size 3 (.int .i64 0)) := Lib.hid (by rw [hw1]; exact Boxed.new _ _ _)
    have HB1 : Hid (Below w.heap.size w w1) := Lib.hid (by rw [hw1]; exact (Below.refl _ _).alloc (Nat.le_refl _) _)
    have HF1 := Lib.hid (HF.out.below HB1.out (Nat.le_refl _))
    have HW1 := Lib.hid hw1
    clear hw1
    gi_wp2_with fail
    rw [← HW1.out]
    refine ⟨trivial, ?_⟩
    refine (callsIn_wide.2 (sumsOf_any l A c N _ HF1.out HG.out.six)).mono ?_
    intro e w2 hto
    obtain ⟨b0, B, d, rfl, hbx, hb2⟩ := hto
    have hX2 : Boxed w2 w.heap.size 3 (.int .i64 0) := (hb2.block _ HX1.out.lt).trans HX1.out
    have hB2 := HB1.out.trans (hb2.mono HB1.out.size)
    gi_wp2
    refine wpIn_rangeFunc_ownF (F := Fence.wide) (n := 6) rfl n6 (gf := 54) (lb := #[.pointer (some ⟨b0 + 2, 0, none⟩), .pointer (some ⟨b0, 0, none⟩), .pointer (some ⟨b0 + 1, 0, none⟩)]) rfl trivial (enters_of Tryd.func54 (by kernel_rfl) rfl)
      (sums_stops 5 (by omega) _ _ _ l (rep4 l) A B c d N w2 hbx HG.out.pos (fun j h => HG.out.le h) (fun j h => by rw [rep4_get]; omega) (rep4_len l).symm HG.out.six hN4) KpB.kt KpB.kb (Below.refl _ _) (fun _ => rfl)
      (fun pre W => Boxed W w.heap.size 3 (.int .i64 (lastV pre : Int)) ∧ Below w.heap.size w W)
      (fun _ _ _ => False)
      (OwnFrom.and (_root_.Go.Own.from (boxed_own _ _ _) _) (ownFrom_below (Nat.le_refl _) hB2.size))
      (fun _ _ _ _ _ hs _ _ => hs)
      ⟨hX2, hB2⟩ ?act ?assign ?body ?done ?stop
    case assign =>
      intro l x W K hK
      gi_wp2
      exact hK
    case body =>
      rintro l pre x W ⟨hX, hB⟩ _
      have hc := hX.cell
      have hfz := hX.frozen
      gi_wp2
      exact ⟨KeepsOthers.setCell _ _ _, KpB.set _ _ _ _ hX2.lt, by rw [lastV_snoc]; exact hX.set _, hB.setCell (p := ⟨w.heap.size, 0, none⟩) (Nat.le_refl _) _⟩
    case done =>
      rintro D ys W hD rfl ⟨hX, hB⟩ hK
      have hc := hX.cell
      rw [lastV_sums HG.out.pos N hN4] at hc
      gi_wp2
      refine ⟨by simp, .inl ⟨_, _, rfl, run_takeDeferred hK, ?_⟩⟩
      exact ⟨.tuple #[.int .i64 (nearN l N : Int), .bool true], by simp [results, Tryd.f37, go_sem], by rw [HV.out], below_put _ hB (by have := hB2.size; omega) hK⟩
    case stop =>
      rintro D cc pre W _ _ h _
      exact h.elim

set_option maxRecDepth 100000 in
theorem implCanFill_any (l : List Int) (A : Option Addr) (c : Nat) (n : Int) (w : World) (hf : IntsIn w A l) (hlen : l.length ≤ 1048576) :
    Calls Tryd.prog 10 #[.slice A l.length c, .int .i64 n] w fun e w' => e = .returned (.tuple #[.bool (canV l n), .bool (wAsk l n)]) ∧ Below w.heap.size w w' := by
  have HF := Lib.hid hf; clear hf
  cases ha : wAsk l n
  · have HV : Hid (canV l n = false) := Lib.hid (by unfold canV; rw [ha]; rfl)
    have HA := Lib.hid ha; clear ha
    go_enter Tryd.func10, Tryd.ntmps10
    go_wp2_with fail
    refine (implNearestFill_any l A c n _ HF.out hlen).mono ?_
    rintro e w1 ⟨rfl, hb1⟩
    rw [HA.out]
    go_wp2
    go_ret2
    exact ⟨by rw [HV.out]; rfl, hb1⟩
  · skip
    have HA := Lib.hid ha
    obtain ⟨hg, h0, h4⟩ := wAsk_iff.1 ha
    obtain ⟨N, rfl⟩ : ∃ N : Nat, n = (N : Int) := ⟨n.toNat, by omega⟩
    have hN4 : N ≤ 400 := by omega
    have hN1 : (N : Int) < (N : Int) + 1 := by omega
    have hN2 : ((N + 1 : Nat) : Int) = (N : Int) + 1 := by omega
    have HK := Lib.hid (kindsB_iff.2 hg)
    have HI := Lib.hid (inB_iff.2 ⟨h0, h4⟩)
    have HG := Lib.hid hg; clear hg ha
    have hne := nearN_le l N
    have HV : Hid (decide (((nearN l N : Nat) : Int) = (N : Int)) = canV l (N : Int)) := Lib.hid (by
      unfold canV; rw [HA.out]
      by_cases hc : Can l (N : Int)
      · rw [canB_iff.2 hc, nearN_can hc]; simp
      · rw [canB_no.2 hc]
        cases N with
        | zero => exact absurd (can_zero l) hc
        | succ m => rw [nearN_no hc]; have := nearN_le l m; simp; omega)
    have HN := Lib.hid (nearV_yes HA.out)
    go_enter Tryd.func10, Tryd.ntmps10
    go_wp2_with fail
    refine (implNearestFill_any l A c (N : Int) _ HF.out hlen).mono ?_
    rintro e w1 ⟨rfl, hb1⟩
    rw [HA.out, HN.out]
    generalize nearN l N = q at *
    by_cases hq : (q : Int) = (N : Int)
    · have hd : ((q : Int) == (N : Int)) = true := by simp [hq]
      rw [decide_eq_true hq] at HV
      have HQ := Lib.hid hq
      clear hq
      go_wp2
      go_ret2
      exact ⟨by rw [← HV.out]; rfl, hb1⟩
    · have hd : ((q : Int) == (N : Int)) = false := by simpa using hq
      rw [decide_eq_false hq] at HV
      clear hq
      go_wp2
      go_ret2
      exact ⟨by rw [← HV.out]; rfl, hb1⟩
end Go.Proofs.YthhmbcgamcbfdaaDoor

import Derived.Test.YtnbnegkoanidmaaGreatDoorMva
import Derived.Laws.CopyRow
import Derived.BigRegion
import Derived.RangeFuncNested
import Derived.RangeFuncBound
import Derived.RangeFuncCalls
import Derived.RangeFuncLeaves
import Derived.Shelf.Abstract
import Derived.Shelf.RegionOpen
import Derived.WalkKit
import Derived.OwnWalkIn
import Derived.TacticsInMore
import Derived.LoopNIn
import Derived.LoopIn
/-
  The contract of impl.addSums: the sums that some spaces more of one width make.
-/
namespace Go.Proofs.YtnbnegkoanidmaaGreatDoor
open Go.RowKit
set_option linter.unusedVariables false

/-- c of the width v go ahead of a sum of T. -/
def LcP (T : Nat → Bool) (v j c : Nat) : Prop := c * v ≤ j ∧ T (j - c * v) = true
/-- T' is T with up to s of the width v more. -/
def MoreOf (T T' : Nat → Bool) (v s : Nat) : Prop := ∀ j, T' j = true ↔ ∃ c, c ≤ s ∧ LcP T v j c
open Classical in
noncomputable def lcU (T T' : Nat → Bool) (v j : Nat) : Nat := if h : T' j = true ∧ ∃ c, LcP T v j c then Classical.choose (least_ex h.2) else 0
theorem lc_zero {T : Nat → Bool} {v j : Nat} : LcP T v j 0 ↔ T j = true := by unfold LcP; simp
theorem lc_succ {T : Nat → Bool} {v b c : Nat} : LcP T v (v + b) (c + 1) ↔ LcP T v b c := by
  unfold LcP
  rw [Nat.succ_mul, show v + b - (c * v + v) = b - c * v from by omega]
  exact ⟨fun ⟨h1, h2⟩ => ⟨by omega, h2⟩, fun ⟨h1, h2⟩ => ⟨by omega, h2⟩⟩
theorem lc_small {T : Nat → Bool} {v j c : Nat} (hj : j < v) (h : LcP T v j c) : c = 0 := by
  cases c with
  | zero => rfl
  | succ c => have := h.1; rw [Nat.succ_mul] at this; omega
theorem lcU_no {T T' : Nat → Bool} {v s : Nat} (_H : MoreOf T T' v s) {j : Nat} (h : T' j = false) : lcU T T' v j = 0 := by unfold lcU; rw [dif_neg]; rintro ⟨h1, _⟩; rw [h] at h1; cases h1
section
variable {T T' : Nat → Bool} {v s : Nat} (H : MoreOf T T' v s)
include H
theorem lcU_yes {j : Nat} (h : T' j = true) : LcP T v j (lcU T T' v j) ∧ ∀ c, LcP T v j c → lcU T T' v j ≤ c := by
  obtain ⟨c, _, hc⟩ := (H j).1 h
  have hh : T' j = true ∧ ∃ c, LcP T v j c := ⟨h, c, hc⟩
  unfold lcU
  rw [dif_pos hh]
  exact Classical.choose_spec (least_ex hh.2)
theorem lcU_le {j : Nat} : lcU T T' v j ≤ s := by
  cases h : T' j
  · rw [lcU_no H h]; omega
  · obtain ⟨c, hs, hc⟩ := (H j).1 h
    have := (lcU_yes H h).2 c hc; omega
theorem more_keep {j : Nat} (h : T j = true) : T' j = true ∧ lcU T T' v j = 0 := by
  have h1 : T' j = true := (H j).2 ⟨0, by omega, lc_zero.2 h⟩
  have := (lcU_yes H h1).2 0 (lc_zero.2 h)
  exact ⟨h1, by omega⟩
theorem more_small {j : Nat} (hj : j < v) : T' j = T j ∧ lcU T T' v j = 0 := by
  cases h : T j
  · have h1 : T' j = false := by
      cases h2 : T' j
      · rfl
      · obtain ⟨c, _, hc⟩ := (H j).1 h2
        obtain rfl := lc_small hj hc
        rw [lc_zero, h] at hc; cases hc
    exact ⟨h1, lcU_no H h1⟩
  · exact more_keep H h
theorem more_none {b : Nat} (h : T (v + b) = false) (hb : T' b = false) : T' (v + b) = false ∧ lcU T T' v (v + b) = 0 := by
  have h1 : T' (v + b) = false := by
    cases h2 : T' (v + b)
    · rfl
    · obtain ⟨c, hs, hc⟩ := (H _).1 h2
      cases c with
      | zero => rw [lc_zero, h] at hc; cases hc
      | succ c =>
        have := (H b).2 ⟨c, by omega, lc_succ.1 hc⟩
        rw [hb] at this; cases this
  exact ⟨h1, lcU_no H h1⟩
theorem more_full {b : Nat} (h : T (v + b) = false) (hb : T' b = true) (hu : ¬ lcU T T' v b < s) : T' (v + b) = false ∧ lcU T T' v (v + b) = 0 := by
  have h1 : T' (v + b) = false := by
    cases h2 : T' (v + b)
    · rfl
    · obtain ⟨c, hs, hc⟩ := (H _).1 h2
      cases c with
      | zero => rw [lc_zero, h] at hc; cases hc
      | succ c => have := (lcU_yes H hb).2 c (lc_succ.1 hc); omega
  exact ⟨h1, lcU_no H h1⟩
theorem more_one {b : Nat} (h : T (v + b) = false) (hb : T' b = true) (hu : lcU T T' v b < s) : T' (v + b) = true ∧ lcU T T' v (v + b) = lcU T T' v b + 1 := by
  obtain ⟨h1, h2⟩ := lcU_yes H hb
  have h3 : LcP T v (v + b) (lcU T T' v b + 1) := lc_succ.2 h1
  have h4 : T' (v + b) = true := (H _).2 ⟨_, by omega, h3⟩
  obtain ⟨h5, h6⟩ := lcU_yes H h4
  refine ⟨h4, ?_⟩
  have h7 := h6 _ h3
  rcases Nat.lt_or_ge (lcU T T' v (v + b)) (lcU T T' v b + 1) with h8 | h8
  · cases hq : lcU T T' v (v + b) with
    | zero => rw [hq, lc_zero, h] at h5; cases h5
    | succ q =>
      rw [hq] at h5
      have := h2 q (lc_succ.1 h5)
      omega
  · omega
end
/-- Sums below x with the new width, the others without it. -/
def mixB (T T' : Nat → Bool) (x : Nat) : Nat → Value := fun j => .bool (if j < x then T' j else T j)
noncomputable def mixU (T T' : Nat → Bool) (v x : Nat) : Nat → Value := fun j => .int .i64 (if j < x then (lcU T T' v j : Int) else 0)
theorem mixB_keep {T T' : Nat → Bool} {x : Nat} (h : T' x = T x) : mixB T T' x = mixB T T' (x + 1) := by
  funext j; unfold mixB
  by_cases h1 : j < x
  · rw [if_pos h1, if_pos (by omega)]
  · by_cases h2 : j = x
    · subst h2; rw [if_neg h1, if_pos (by omega), h]
    · rw [if_neg h1, if_neg (by omega)]
theorem mixB_set {T T' : Nat → Bool} {x : Nat} (h : T' x = true) : (fun j => if j = x then Value.bool true else mixB T T' x j) = mixB T T' (x + 1) := by
  funext j; unfold mixB
  by_cases h2 : j = x
  · subst h2; rw [if_pos rfl, if_pos (by omega), h]
  · rw [if_neg h2]
    by_cases h1 : j < x
    · rw [if_pos h1, if_pos (by omega)]
    · rw [if_neg h1, if_neg (by omega)]
theorem mixU_keep {T T' : Nat → Bool} {v x : Nat} (h : lcU T T' v x = 0) : mixU T T' v x = mixU T T' v (x + 1) := by
  funext j; unfold mixU
  by_cases h1 : j < x
  · rw [if_pos h1, if_pos (by omega)]
  · by_cases h2 : j = x
    · subst h2; rw [if_neg h1, if_pos (by omega), h]; rfl
    · rw [if_neg h1, if_neg (by omega)]
theorem mixU_set {T T' : Nat → Bool} {v x : Nat} {q : Int} (h : (lcU T T' v x : Int) = q) : (fun j => if j = x then Value.int .i64 q else mixU T T' v x j) = mixU T T' v (x + 1) := by
  funext j; unfold mixU
  by_cases h2 : j = x
  · subst h2; rw [if_pos rfl, if_pos (by omega), h]
  · rw [if_neg h2]
    by_cases h1 : j < x
    · rw [if_pos h1, if_pos (by omega)]
    · rw [if_neg h1, if_neg (by omega)]
theorem grown_new {w w' : World} {row : Option Nat} (h : w.grownBy w' row) (u j : Nat) (hu : w.heap.size ≤ u) (x : Value) : w.grownBy (w'.setCell ⟨u, j, none⟩ x) row :=
  ⟨h.os, h.tape, h.output, by simpa [World.setCell] using h.size, fun i hi hne => (Below.heap_setCell w' _ x i (by show i ≠ u; omega)).trans (h.block i hi hne)⟩

end Go.Proofs.YtnbnegkoanidmaaGreatDoor

/-
  The contracts of math/bits.Mul at 1 and a number of at most 6, and of slices.Repeat at one number.
-/
namespace Go.Proofs.YtnbnegkoanidmaaGreatDoor
open Go.RowKit
set_option linter.unusedVariables false

def repF (m : Nat) : Nat → Value := fun j => .int .i64 (if j < m then 400 else 0)
theorem info_int1 : (Tryz.prog.info? 3).map (·.size) = some 1 := by kernel_rfl
theorem run_copy_rep (w : World) (ty : TypeId) (g y m k dC sC : Nat) (a : Addr) (sLen dLen : Nat) (h : Tb w g 3 y (repF m)) (hk : k = Nat.min sLen dLen) (hmk : m + k ≤ y) (hs : ∀ j, j < k → w.cell? (a.add j) = some (.int .i64 400)) :
    ∃ w', (Builtin.copy_ #[23, 23] ty #[.slice (some ⟨g, m, none⟩) dLen dC, .slice (some a) sLen sC]).run Tryz.prog w = .ok (goInt k) w' ∧ Tb w' g 3 y (repF (m + k)) ∧ w.grownBy w' (some g) := by
  obtain ⟨cur, h1, h2, h3⟩ := h
  have hrun := run_copy_row (P := Tryz.prog) w 23 23 ty 3 g m dLen dC a sLen sC cur 3 (List.replicate k (.int .i64 400)) Tryz.underlying23 info_int1 h1 (by simpa using hk)
    (fun j v hj => by
      have hjk : j < k := by have := (List.getElem?_eq_some_iff.1 hj).1; simpa using this
      rw [List.getElem?_replicate, if_pos hjk] at hj
      rw [hs j hjk]; exact hj) (by simp; omega) (by intro v hv; rw [List.eq_of_mem_replicate hv]; rfl)
  rw [List.length_replicate] at hrun
  refine ⟨_, hrun, ⟨_, setRow_heap w g cur _ _ _ h1, by simp; omega, fun j hj => ?_⟩, ⟨rfl, rfl, rfl, by simp [World.setRow], fun i hi hne => setRow_other w g i _ (fun e => hne (by rw [e]))⟩⟩
  unfold repF
  rw [List.getElem?_toArray, List.append_assoc, List.getElem?_append]
  have ht : (cur.toList.take m).length = m := by simp; omega
  rw [ht]
  by_cases h4 : j < m
  · rw [if_pos h4, if_pos (by omega), List.getElem?_take_of_lt h4]
    have := h3 j hj
    unfold repF at this
    rw [if_pos h4] at this
    simpa using this
  · rw [if_neg h4, List.getElem?_append, List.length_replicate]
    by_cases h5 : j - m < k
    · rw [if_pos h5, if_pos (by omega), List.getElem?_replicate, if_pos h5]
    · rw [if_neg h5, if_neg (by omega), List.getElem?_drop, show m + k + (j - m - k) = j from by omega]
      have := h3 j hj
      unfold repF at this
      rw [if_neg h4] at this
      simpa using this

end Go.Proofs.YtnbnegkoanidmaaGreatDoor

/-
  The iterators of impl.sumsFromStock and impl.sumsOf: what they hand over, and what a round has to keep (the blocks of bools that are laid behind the loop's start).
-/
namespace Go.Proofs.YtnbnegkoanidmaaGreatDoor
open Go.RowKit Go.Shelf
set_option linter.unusedVariables false
attribute [local go_sem] Oper.semAt_some

/-- A sum that a round is given. -/
structure Sum4 where
  val : Nat
  le : val ≤ 400
def encS (x : Sum4) : Array Value := #[.int .i64 (x.1 : Int)]
/-- The sums below k. -/
def sumL (T : Nat → Bool) : Nat → List Sum4
  | 0 => []
  | k + 1 => if h : T k = true ∧ k ≤ 400 then sumL T k ++ [⟨k, h.2⟩] else sumL T k
theorem sumL_len (T : Nat → Bool) : ∀ k, (sumL T k).length ≤ k
  | 0 => Nat.le_refl _
  | k + 1 => by
    have := sumL_len T k
    unfold sumL
    split
    · rw [List.length_append]; show _ + 1 ≤ _; omega
    · omega
theorem sumL_yes {T : Nat → Bool} {k : Nat} (h : T k = true) (hk : k ≤ 400) : sumL T (k + 1) = sumL T k ++ [⟨k, hk⟩] := dif_pos ⟨h, hk⟩
theorem sumL_no {T : Nat → Bool} {k : Nat} (h : T k = false) : sumL T (k + 1) = sumL T k := dif_neg (fun hh => by rw [h] at hh; exact absurd hh.1 (by decide))
/-- What has come when a round says 'no more'. -/
def SumPre (T : Nat → Bool) (M : Nat) (pre : List Sum4) : Prop := ∃ x : Sum4, x.1 < M ∧ T x.1 = true ∧ pre = sumL T x.1 ++ [x]

/-- What a round keeps: blocks of bools from B on. -/
def KpB (B : Nat) (W W' : World) : Prop := ∀ (b : Nat) (cs : Array Value) (fr : Nat × Nat), B ≤ b → W.heap[b]? = some (.cells cs 4 fr) → W'.heap[b]? = some (.cells cs 4 fr)
theorem KpB.refl (B : Nat) (W : World) : KpB B W W := fun _ _ _ _ h => h
theorem KpB.t {B : Nat} {X Y Z : World} (h : KpB B X Y) (k : KpB B Y Z) : KpB B X Z := fun b cs fr hb h0 => k b cs fr hb (h b cs fr hb h0)
theorem KpB.b {B : Nat} (W : World) (l : Nat) (o o' : Obj) (h : W.heap[l]? = some o) (ho : o.isCells = false) : KpB B W (W.putObj l o') := fun b cs fr hb h0 => by
  have e : b ≠ l := fun e => by subst e; rw [h0] at h; cases h; cases ho
  exact (World.putObj_heap_other e).trans h0
theorem KpB.alloc {B : Nat} (W : World) (o : Obj) : KpB B W (W.alloc o) := fun b cs fr hb h0 => (Below.heap_alloc W o b (lt_of_heap h0)).trans h0
theorem KpB.set {B : Nat} (W : World) (c i : Nat) (v : Value) (hc : c < B) : KpB B W (W.setCell ⟨c, i, none⟩ v) := fun b cs fr hb h0 => (Below.heap_setCell W _ v b (by show b ≠ c; omega)).trans h0
theorem KpB.below {B B' : Nat} {W W' : World} (h : Below B' W W') (hB : W.heap.size ≤ B') : KpB B W W' := fun b cs fr hb h0 => (h.block b (by have := lt_of_heap h0; omega)).trans h0
theorem KpB.grown {B : Nat} {W W' : World} {row : Option Nat} (h : W.grownBy W' row) (hr : ∀ r, row = some r → ∀ cs fr, W.heap[r]? ≠ some (.cells cs 4 fr)) : KpB B W W' := fun b cs fr hb h0 => (h.block b (lt_of_heap h0) (fun e => hr b e.symm cs fr h0)).trans h0
theorem KpB.tb {B : Nat} {W W' : World} (h : KpB B W W') {b n : Nat} {f : Nat → Value} (ht : Tb W b 4 n f) (hb : B ≤ b) : Tb W' b 4 n f := by
  obtain ⟨cs, h1, h2⟩ := ht; exact ⟨cs, h b cs _ hb h1, h2⟩

/-- What the iterator captured. -/
structure SumBox (w : World) (bm bk bs : Nat) (ks ss : List Int) (A B : Option Addr) (c d N : Nat) : Prop where
  m : Boxed w bm 3 (.int .i64 (N : Int))
  k : Boxed w bk 23 (.slice A ks.length c)
  s : Boxed w bs 23 (.slice B ss.length d)
  ki : IntsIn w A ks
  si : IntsIn w B ss
theorem SumBox.next {w w' : World} {bm bk bs : Nat} {ks ss : List Int} {A B : Option Addr} {c d N : Nat} (h : SumBox w bm bk bs ks ss A B c d N) (hb : Below w.heap.size w w') : SumBox w' bm bk bs ks ss A B c d N :=
  ⟨(hb.block _ h.m.lt).trans h.m, (hb.block _ h.k.lt).trans h.k, (hb.block _ h.s.lt).trans h.s, h.ki.below hb (Nat.le_refl _), h.si.below hb (Nat.le_refl _)⟩
noncomputable def stT (ks ss : List Int) (i : Nat) : Nat → Bool := fun j => stB ks ss i (j : Int)
theorem stT_zero (ks ss : List Int) (j : Nat) : stT ks ss 0 j = decide (j = 0) := by
  unfold stT
  by_cases h : j = 0
  · subst h; rw [decide_eq_true rfl]; exact stB_iff.2 rfl
  · rw [decide_eq_false h]
    cases hb : stB ks ss 0 (j : Int) with
    | false => rfl
    | true => have : ((j : Int)) = 0 := stB_iff.1 hb; omega
theorem stT_more {ks ss : List Int} (hp : Pos ks) (hs0 : ∀ j (h : j < ss.length), 0 ≤ ss[j]) (hl : ks.length = ss.length) {i v s : Nat} (hi : i < ks.length) (hv : ks[i] = (v : Int)) (hs : ss[i] = (s : Int)) : MoreOf (stT ks ss i) (stT ks ss (i + 1)) v s := fun j => by
  unfold stT LcP
  rw [stB_iff]
  have e1 : ks.getD i 0 = (v : Int) := by rw [List.getD_eq_getElem?_getD, List.getElem?_eq_getElem hi]; exact hv
  have e2 : ss.getD i 0 = (s : Int) := by rw [List.getD_eq_getElem?_getD, List.getElem?_eq_getElem (by omega)]; exact hs
  show (∃ c : Nat, (c : Int) ≤ ss.getD i 0 ∧ StU ks ss i (_ - c * ks.getD i 0)) ↔ _
  rw [e1, e2]
  constructor
  · rintro ⟨c, h1, h2⟩
    have h3 := stu_nonneg hp (by omega) h2
    have h4 : c * v ≤ j := by rw [← Int.natCast_mul] at h3; omega
    refine ⟨c, by omega, h4, ?_⟩
    rw [stB_iff, show ((j - c * v : Nat) : Int) = (j : Int) - c * v from by rw [← Int.natCast_mul]; omega]
    exact h2
  · rintro ⟨c, h1, h2, h3⟩
    rw [stB_iff, show ((j - c * v : Nat) : Int) = (j : Int) - c * v from by rw [← Int.natCast_mul]; omega] at h3
    exact ⟨c, by omega, h3⟩
theorem run_makeB (n : Nat) (hn : n ≤ 1048576) (w : World) :
    (Instr.makeSlice 59 (.int .i64 (n : Int)) (.int .i64 (n : Int))).run Tryz.prog w = .ok (.slice (some ⟨w.heap.size, 0, none⟩) n n) (w.alloc (.cells (madeCells #[.bool false] (n * 1)) 4)) := by
  obtain ⟨i0, hi, hz0, hz1, hz2⟩ := info_parts info_bool
  have h := run_make (P := Tryz.prog) w 59 4 i0 _ Tryz.underlying59 hi hz0 .i64 .i64 (n : Int) (n : Int) (by omega) (Int.le_refl _) (by rw [hz2]; omega) (by omega)
  rw [hz1, Int.toNat_natCast] at h
  exact h

end Go.Proofs.YtnbnegkoanidmaaGreatDoor

/-
  The iterators of impl.sumsFromStock and impl.sumsOf: what they hand over, and what a round has to keep (the blocks of bools that are laid behind the loop's start).
-/
import Derived.Test.YteagclokobkigaaVg
import Derived.RangeFuncNested
import Derived.RangeFuncBound
import Derived.RangeFuncCalls
import Derived.RangeFuncLeaves
import Derived.Shelf.Abstract
import Derived.Shelf.RegionOpen
import Derived.WalkKit
import Derived.OwnWalkIn
import Derived.TacticsInMore
import Derived.LoopNIn
import Derived.LoopIn
namespace Go.Proofs.Yteagclokobkigaa
open Go.RowKit Go.Shelf
set_option linter.unusedVariables false
attribute [local go_sem] Oper.semAt_some

/-- A sum that a round is given. -/
structure Sum4 where
  val : Nat
  le : val ≤ 400
def encS (x : Sum4) : Array Value := #[.int .i64 (x.1 : Int)]
/-- The sums below k. -/
def sumL (T : Nat → Bool) : Nat → List Sum4
  | 0 => []
  | k + 1 => if h : T k = true ∧ k ≤ 400 then sumL T k ++ [⟨k, h.2⟩] else sumL T k
theorem sumL_len (T : Nat → Bool) : ∀ k, (sumL T k).length ≤ k
  | 0 => Nat.le_refl _
  | k + 1 => by
    have := sumL_len T k
    unfold sumL
    split
    · rw [List.length_append]; show _ + 1 ≤ _; omega
    · omega
theorem sumL_yes {T : Nat → Bool} {k : Nat} (h : T k = true) (hk : k ≤ 400) : sumL T (k + 1) = sumL T k ++ [⟨k, hk⟩] := dif_pos ⟨h, hk⟩
theorem sumL_no {T : Nat → Bool} {k : Nat} (h : T k = false) : sumL T (k + 1) = sumL T k := dif_neg (fun hh => by rw [h] at hh; exact absurd hh.1 (by decide))
/-- What has come when a round says 'no more'. -/
def SumPre (T : Nat → Bool) (M : Nat) (pre : List Sum4) : Prop := ∃ x : Sum4, x.1 < M ∧ T x.1 = true ∧ pre = sumL T x.1 ++ [x]

/-- What a round keeps: blocks of bools from B on. -/
def KpB (B : Nat) (W W' : World) : Prop := ∀ (b : Nat) (cs : Array Value) (fr : Nat × Nat), B ≤ b → W.heap[b]? = some (.cells cs 4 fr) → W'.heap[b]? = some (.cells cs 4 fr)
theorem KpB.refl (B : Nat) (W : World) : KpB B W W := fun _ _ _ _ h => h
theorem KpB.t {B : Nat} {X Y Z : World} (h : KpB B X Y) (k : KpB B Y Z) : KpB B X Z := fun b cs fr hb h0 => k b cs fr hb (h b cs fr hb h0)
theorem KpB.b {B : Nat} (W : World) (l : Nat) (o o' : Obj) (h : W.heap[l]? = some o) (ho : o.isCells = false) : KpB B W (W.putObj l o') := fun b cs fr hb h0 => by
  have e : b ≠ l := fun e => by subst e; rw [h0] at h; cases h; cases ho
  exact (World.putObj_heap_other e).trans h0
theorem KpB.alloc {B : Nat} (W : World) (o : Obj) : KpB B W (W.alloc o) := fun b cs fr hb h0 => (Below.heap_alloc W o b (lt_of_heap h0)).trans h0
theorem KpB.set {B : Nat} (W : World) (c i : Nat) (v : Value) (hc : c < B) : KpB B W (W.setCell ⟨c, i, none⟩ v) := fun b cs fr hb h0 => (Below.heap_setCell W _ v b (by show b ≠ c; omega)).trans h0
theorem KpB.below {B B' : Nat} {W W' : World} (h : Below B' W W') (hB : W.heap.size ≤ B') : KpB B W W' := fun b cs fr hb h0 => (h.block b (by have := lt_of_heap h0; omega)).trans h0
theorem KpB.grown {B : Nat} {W W' : World} {row : Option Nat} (h : W.grownBy W' row) (hr : ∀ r, row = some r → ∀ cs fr, W.heap[r]? ≠ some (.cells cs 4 fr)) : KpB B W W' := fun b cs fr hb h0 => (h.block b (lt_of_heap h0) (fun e => hr b e.symm cs fr h0)).trans h0
theorem KpB.tb {B : Nat} {W W' : World} (h : KpB B W W') {b n : Nat} {f : Nat → Value} (ht : Tb W b 4 n f) (hb : B ≤ b) : Tb W' b 4 n f := by
  obtain ⟨cs, h1, h2⟩ := ht; exact ⟨cs, h b cs _ hb h1, h2⟩

/-- What the iterator captured. -/
structure SumBox (w : World) (bm bk bs : Nat) (ks ss : List Int) (A B : Option Addr) (c d N : Nat) : Prop where
  m : Boxed w bm 3 (.int .i64 (N : Int))
  k : Boxed w bk 27 (.slice A ks.length c)
  s : Boxed w bs 27 (.slice B ss.length d)
  ki : IntsIn w A ks
  si : IntsIn w B ss
theorem SumBox.next {w w' : World} {bm bk bs : Nat} {ks ss : List Int} {A B : Option Addr} {c d N : Nat} (h : SumBox w bm bk bs ks ss A B c d N) (hb : Below w.heap.size w w') : SumBox w' bm bk bs ks ss A B c d N :=
  ⟨(hb.block _ h.m.lt).trans h.m, (hb.block _ h.k.lt).trans h.k, (hb.block _ h.s.lt).trans h.s, h.ki.below hb (Nat.le_refl _), h.si.below hb (Nat.le_refl _)⟩
noncomputable def stT (ks ss : List Int) (i : Nat) : Nat → Bool := fun j => stB ks ss i (j : Int)
theorem stT_zero (ks ss : List Int) (j : Nat) : stT ks ss 0 j = decide (j = 0) := by
  unfold stT
  by_cases h : j = 0
  · subst h; rw [decide_eq_true rfl]; exact stB_iff.2 rfl
  · rw [decide_eq_false h]
    cases hb : stB ks ss 0 (j : Int) with
    | false => rfl
    | true => have : ((j : Int)) = 0 := stB_iff.1 hb; omega
theorem stT_more {ks ss : List Int} (hp : Pos ks) (hs0 : ∀ j (h : j < ss.length), 0 ≤ ss[j]) (hl : ks.length = ss.length) {i v s : Nat} (hi : i < ks.length) (hv : ks[i] = (v : Int)) (hs : ss[i] = (s : Int)) : MoreOf (stT ks ss i) (stT ks ss (i + 1)) v s := fun j => by
  unfold stT LcP
  rw [stB_iff]
  have e1 : ks.getD i 0 = (v : Int) := by rw [List.getD_eq_getElem?_getD, List.getElem?_eq_getElem hi]; exact hv
  have e2 : ss.getD i 0 = (s : Int) := by rw [List.getD_eq_getElem?_getD, List.getElem?_eq_getElem (by omega)]; exact hs
  show (∃ c : Nat, (c : Int) ≤ ss.getD i 0 ∧ StU ks ss i (_ - c * ks.getD i 0)) ↔ _
  rw [e1, e2]
  constructor
  · rintro ⟨c, h1, h2⟩
    have h3 := stu_nonneg hp (by omega) h2
    have h4 : c * v ≤ j := by rw [← Int.natCast_mul] at h3; omega
    refine ⟨c, by omega, h4, ?_⟩
    rw [stB_iff, show ((j - c * v : Nat) : Int) = (j : Int) - c * v from by rw [← Int.natCast_mul]; omega]
    exact h2
  · rintro ⟨c, h1, h2, h3⟩
    rw [stB_iff, show ((j - c * v : Nat) : Int) = (j : Int) - c * v from by rw [← Int.natCast_mul]; omega] at h3
    exact ⟨c, by omega, h3⟩
end Go.Proofs.Yteagclokobkigaa

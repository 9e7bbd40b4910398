/-
  The contracts of impl.sumsOf, NearestFill and CanFill.
-/
import Derived.Test.YtljakcfdjcjdbaaVi
import Derived.Test.YtljakcfdjcjdbaaVe
import Derived.RangeFuncBox
namespace Go.Proofs.Ytljakcfdjcjdbaa
open Go.RowKit Go.Shelf
set_option linter.unusedVariables false
attribute [local go_sem] Oper.semAt_some encS

def rep4 (ks : List Int) : List Int := List.replicate ks.length 400
theorem rep4_len (ks : List Int) : (rep4 ks).length = ks.length := by simp [rep4]
theorem rep4_get {ks : List Int} {j : Nat} (h : j < (rep4 ks).length) : (rep4 ks)[j] = 400 := by simp [rep4]
/-- The iterator over the sums of ks up to N. -/
def SumsTo (ks : List Int) (A : Option Addr) (c N : Nat) (w w' : World) (e : Ending) : Prop :=
  ∃ (b0 : Nat) (B : Option Addr) (d : Nat), e = .returned (.func (.func 82) #[] #[.pointer (some ⟨b0 + 2, 0, none⟩), .pointer (some ⟨b0, 0, none⟩), .pointer (some ⟨b0 + 1, 0, none⟩)]) ∧ SumBox w' (b0 + 2) b0 (b0 + 1) ks (rep4 ks) A B c d N ∧ Below w.heap.size w w'
/-- The last number that has come. -/
def lastV (pre : List Sum4) : Nat := match pre.getLast? with | none => 0 | some x => x.1
theorem lastV_snoc (pre : List Sum4) (x : Sum4) : lastV (pre ++ [x]) = x.1 := by unfold lastV; rw [List.getLast?_concat]
theorem lastV_nil : lastV [] = 0 := rfl
theorem stT_full {ks : List Int} (hp : Pos ks) {j : Nat} (hj : j ≤ 400) : stT ks (rep4 ks) ks.length j = canB ks (j : Int) := by
  have h : StU ks (rep4 ks) ks.length (j : Int) ↔ Can ks (j : Int) := by
    have := stu_full (ss := rep4 ks) hp (fun i hi => by rw [List.getD_eq_getElem?_getD, List.getElem?_eq_getElem (by rw [rep4_len]; exact hi)]; exact rep4_get _) (Nat.le_refl ks.length) (show (j : Int) ≤ 400 by omega)
    rwa [List.take_length] at this
  unfold stT
  cases hc : canB ks (j : Int) with
  | true => exact stB_iff.2 (h.2 (canB_iff.1 hc))
  | false =>
    cases hb : stB ks (rep4 ks) ks.length (j : Int) with
    | false => rfl
    | true => exact absurd (h.1 (stB_iff.1 hb)) (canB_no.1 hc)
theorem lastV_sums {ks : List Int} (hp : Pos ks) : ∀ n : Nat, n ≤ 400 → lastV (sumL (stT ks (rep4 ks) ks.length) (n + 1)) = nearN ks n
  | 0, _ => by
    rw [sumL_yes (by rw [stT_full hp (by omega)]; exact canB_iff.2 (can_zero ks)) (by omega), lastV_snoc]; rfl
  | n + 1, h => by
    by_cases hc : Can ks ((n + 1 : Nat) : Int)
    · rw [sumL_yes (by rw [stT_full hp (by omega)]; exact canB_iff.2 hc) (by omega), lastV_snoc, nearN_can hc]
    · rw [sumL_no (by rw [stT_full hp (by omega)]; exact canB_no.2 hc), lastV_sums hp n (by omega), nearN_no hc]
theorem KpB.kt {B : Nat} : ∀ {X Y Z : World}, KpB B X Y → KpB B Y Z → KpB B X Z := fun h k => KpB.t h k
theorem KpB.kb {B m : Nat} : ∀ (W : World) (l : Nat) (o o' : Obj), m ≤ l → W.heap[l]? = some o → o.isCells = false → o.isWalk = false → KpB B W (W.putObj l o') := fun W l o o' _ h ho _ => KpB.b W l o o' h ho
theorem below_put {w W : World} {B D : Nat} {o : Obj} (o' : Obj) (h : Below B w W) (hD : B ≤ D) (hk : W.heap[D]? = some o) : Below B w (W.putObj D o') :=
  h.grown (grownBy_putObj' W D o') (by have := lt_of_heap hk; omega) (fun k e => by cases e; exact hD)

end Go.Proofs.Ytljakcfdjcjdbaa

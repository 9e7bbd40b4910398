import Derived.Test.YtnbnegkoanidmaaGreatDoorMvb
import Derived.Test.YtnbnegkoanidmaaGreatDoorMvc
import Derived.RangeFuncBox
/-
  The contracts of impl.sumsOf, NearestFill and CanFill.
-/
namespace Go.Proofs.YtnbnegkoanidmaaGreatDoor
open Go.RowKit Go.Shelf
set_option linter.unusedVariables false
attribute [local go_sem] Oper.semAt_some encS

def rep4 (ks : List Int) : List Int := List.replicate ks.length 400
theorem rep4_len (ks : List Int) : (rep4 ks).length = ks.length := by simp [rep4]
theorem rep4_get {ks : List Int} {j : Nat} (h : j < (rep4 ks).length) : (rep4 ks)[j] = 400 := by simp [rep4]
/-- The last number that has come. -/
def lastV (pre : List Sum4) : Nat := match pre.getLast? with | none => 0 | some x => x.1
theorem lastV_snoc (pre : List Sum4) (x : Sum4) : lastV (pre ++ [x]) = x.1 := by unfold lastV; rw [List.getLast?_concat]
theorem lastV_nil : lastV [] = 0 := rfl
theorem stT_full {ks : List Int} (hp : Pos ks) {j : Nat} (hj : j ≤ 400) : stT ks (rep4 ks) ks.length j = canB ks (j : Int) := by
  have h : StU ks (rep4 ks) ks.length (j : Int) ↔ Can ks (j : Int) := by
    have := stu_full (ss := rep4 ks) hp (fun i hi => by rw [List.getD_eq_getElem?_getD, List.getElem?_eq_getElem (by rw [rep4_len]; exact hi)]; exact rep4_get _) (Nat.le_refl ks.length) (show (j : Int) ≤ 400 by omega)
    rwa [List.take_length] at this
  unfold stT
  cases hc : canB ks (j : Int) with
  | true => exact stB_iff.2 (h.2 (canB_iff.1 hc))
  | false =>
    cases hb : stB ks (rep4 ks) ks.length (j : Int) with
    | false => rfl
    | true => exact absurd (h.1 (stB_iff.1 hb)) (canB_no.1 hc)
theorem lastV_sums {ks : List Int} (hp : Pos ks) : ∀ n : Nat, n ≤ 400 → lastV (sumL (stT ks (rep4 ks) ks.length) (n + 1)) = nearN ks n
  | 0, _ => by
    rw [sumL_yes (by rw [stT_full hp (by omega)]; exact canB_iff.2 (can_zero ks)) (by omega), lastV_snoc]; rfl
  | n + 1, h => by
    by_cases hc : Can ks ((n + 1 : Nat) : Int)
    · rw [sumL_yes (by rw [stT_full hp (by omega)]; exact canB_iff.2 hc) (by omega), lastV_snoc, nearN_can hc]
    · rw [sumL_no (by rw [stT_full hp (by omega)]; exact canB_no.2 hc), lastV_sums hp n (by omega), nearN_no hc]
theorem KpB.kt {B : Nat} : ∀ {X Y Z : World}, KpB B X Y → KpB B Y Z → KpB B X Z := fun h k => KpB.t h k
theorem KpB.kb {B m : Nat} : ∀ (W : World) (l : Nat) (o o' : Obj), m ≤ l → W.heap[l]? = some o → o.isCells = false → o.isWalk = false → KpB B W (W.putObj l o') := fun W l o o' _ h ho _ => KpB.b W l o o' h ho
theorem below_put {w W : World} {B D : Nat} {o : Obj} (o' : Obj) (h : Below B w W) (hD : B ≤ D) (hk : W.heap[D]? = some o) : Below B w (W.putObj D o') :=
  h.grown (grownBy_putObj' W D o') (by have := lt_of_heap hk; omega) (fun k e => by cases e; exact hD)

end Go.Proofs.YtnbnegkoanidmaaGreatDoor

/-
  The contracts of impl.appendNumbers and impl.MissingSums.
-/
namespace Go.Proofs.YtnbnegkoanidmaaGreatDoor
open Go.RowKit Go.Shelf
set_option linter.unusedVariables false

/-- The numbers from a on that are less than b. -/
def numsT (a : Nat) : Nat → List Int
  | 0 => []
  | k + 1 => numsT a k ++ [((a + k : Nat) : Int)]
theorem numsT_len (a : Nat) : ∀ k, (numsT a k).length = k
  | 0 => rfl
  | k + 1 => by rw [numsT, List.length_append, numsT_len a k]; rfl
theorem ints_app (l m : List Int) : intsZ (l ++ m) = intsZ l ++ intsZ m := by simp [intsZ]

theorem grown_chain {w u u' : World} {r r2 : Option Nat} (h : w.grownBy u r) (h2 : u.grownBy u' r2) (hr : ∀ q, r2 = some q → r = some q ∨ w.heap.size ≤ q) : w.grownBy u' r :=
  ⟨h2.os.trans h.os, h2.tape.trans h.tape, h2.output.trans h.output, Nat.le_trans h.size h2.size, fun i hi hne => (h2.block i (Nat.lt_of_lt_of_le hi h.size) (fun e => by
    rcases hr i e.symm with h3 | h3
    · exact hne h3.symm
    · omega)).trans (h.block i hi hne)⟩
/-- Behind the sums that have come: the next number, and what is missing below it. -/
def missF : List Sum4 → Nat × List Int := fun pre => pre.foldl (fun s x => (x.val + 1, s.2 ++ numsT s.1 (x.val - s.1))) (0, [])
theorem missF_snoc (pre : List Sum4) (x : Sum4) : missF (pre ++ [x]) = (x.val + 1, (missF pre).2 ++ numsT (missF pre).1 (x.val - (missF pre).1)) := by simp [missF]
theorem missF_nil : missF [] = (0, []) := rfl
theorem missF_le (pre : List Sum4) : (missF pre).1 ≤ 401 := by
  rcases List.eq_nil_or_concat pre with rfl | ⟨q, x, rfl⟩
  · exact Nat.zero_le _
  · rw [List.concat_eq_append, missF_snoc]; have := x.le; show x.val + 1 ≤ 401; omega
theorem missF_len : ∀ (m : Nat) (pre : List Sum4), pre.length = m → (missF pre).2.length ≤ 401 * m
  | 0, pre, h => by rw [List.length_eq_zero_iff.1 h]; exact Nat.zero_le _
  | m + 1, pre, h => by
    rcases List.eq_nil_or_concat pre with rfl | ⟨q, x, rfl⟩
    · simp at h
    · rw [List.concat_eq_append, missF_snoc]
      have h1 : q.length = m := by simpa using h
      have := missF_len m q h1
      have := x.le
      simp only [List.length_append, numsT_len]; omega
/-- What is missing from a number on. -/
theorem missT_nums {l : List Int} {a : Nat} : ∀ k : Nat, (∀ j, a ≤ j → j < a + k → ¬ Can l (j : Int)) → missT l (a + k) = missT l a ++ numsT a k
  | 0, _ => by simp [numsT]
  | k + 1, h => by
    rw [show a + (k + 1) = (a + k) + 1 from rfl, missT_no (h (a + k) (by omega) (by omega)), missT_nums k (fun j h1 h2 => h j h1 (by omega)), numsT, List.append_assoc]
theorem missF_sums {l : List Int} (hp : Pos l) : ∀ n : Nat, n ≤ 401 → (missF (sumL (stT l (rep4 l) l.length) n)).1 ≤ n ∧ (∀ j, (missF (sumL (stT l (rep4 l) l.length) n)).1 ≤ j → j < n → ¬ Can l (j : Int)) ∧ (missF (sumL (stT l (rep4 l) l.length) n)).2 = missT l (missF (sumL (stT l (rep4 l) l.length) n)).1
  | 0, _ => ⟨Nat.le_refl _, fun j _ h => absurd h (by omega), rfl⟩
  | n + 1, h => by
    obtain ⟨h1, h2, h3⟩ := missF_sums hp n (by omega)
    by_cases hc : Can l (n : Int)
    · rw [sumL_yes (by rw [stT_full hp (by omega)]; exact canB_iff.2 hc) (by omega), missF_snoc]
      refine ⟨Nat.le_refl _, fun j h4 h5 => absurd h5 (by show ¬ j < n + 1; have : n + 1 ≤ j := h4; omega), ?_⟩
      show _ ++ _ = missT l (n + 1)
      rw [missT_yes hc, h3]
      show missT l _ ++ numsT _ (n - _) = missT l n
      rw [← missT_nums _ (fun j h4 h5 => h2 j h4 (by omega)), show (missF (sumL (stT l (rep4 l) l.length) n)).1 + (n - (missF (sumL (stT l (rep4 l) l.length) n)).1) = n from by omega]
    · rw [sumL_no (by rw [stT_full hp (by omega)]; exact canB_no.2 hc)]
      refine ⟨by omega, fun j h4 h5 => ?_, h3⟩
      rcases Nat.lt_or_ge j n with h6 | h6
      · exact h2 j h4 h6
      · obtain rfl : j = n := by omega
        exact hc
/-- All that is missing. -/
theorem missF_all {l : List Int} (hp : Pos l) {N : Nat} (hN : N ≤ 400) : (missF (sumL (stT l (rep4 l) l.length) (N + 1))).2 ++ numsT (missF (sumL (stT l (rep4 l) l.length) (N + 1))).1 (N + 1 - (missF (sumL (stT l (rep4 l) l.length) (N + 1))).1) = missT l (N + 1) := by
  obtain ⟨h1, h2, h3⟩ := missF_sums hp (N + 1) (by omega)
  rw [h3, ← missT_nums _ (fun j h4 h5 => h2 j h4 (by omega))]
  congr 1; omega
end Go.Proofs.YtnbnegkoanidmaaGreatDoor

/-
  Cutting a list of bytes at a byte, by recursion on the list: what the pieces put together again are, and what the pieces of such a text are. (For ParseFont. No function is named here.)
-/
import Derived.Test.YtebbgdihifihnaaDoorQs
namespace Go.Proofs.YtebbgdihifihnaaDoor.P
open Go.RowKit
set_option linter.unusedVariables false

def consHead (x : UInt8) : List (List UInt8) → List (List UInt8)
  | [] => [[x]]
  | p :: r => (x :: p) :: r
/-- The pieces of a list between its bytes c. -/
def lp (c : UInt8) : List UInt8 → List (List UInt8)
  | [] => [[]]
  | x :: l => if x = c then [] :: lp c l else consHead x (lp c l)
theorem ix_cons (b c : UInt8) (l : List UInt8) : Lib.index (b :: l) [c] = if b = c then 0 else if Lib.index l [c] == -1 then -1 else Lib.index l [c] + 1 := by
  rw [Lib.index_one, Lib.index_one]
  show (if (b == c) = true then (0 : Int) else _) = _
  by_cases h : b = c <;> simp [h]
theorem splitK_cons_ne (c x : UInt8) (l : List UInt8) (n : Nat) (h : ¬ x = c) : Lib.splitK [c] 0 (n + 1) (x :: l) = consHead x (Lib.splitK [c] 0 (n + 1) l) := by
  unfold Lib.splitK
  rw [ix_cons, if_neg h]
  by_cases hm : Lib.index l [c] = -1
  · simp [hm, consHead]
  · have hge := Lib.index_ge l [c]
    obtain ⟨j, hj⟩ : ∃ j : Nat, Lib.index l [c] = j := ⟨(Lib.index l [c]).toNat, by omega⟩
    have e1 : ((j : Int) == -1) = false := by rw [beq_eq_false_iff_ne]; omega
    have e2 : ((j : Int) + 1 == -1) = false := by rw [beq_eq_false_iff_ne]; omega
    have e3 : ((j : Int) + 1).toNat = j + 1 := by omega
    simp [hj, e1, e2, e3, consHead]
theorem splitK_cons_eq (c : UInt8) (l : List UInt8) (n : Nat) : Lib.splitK [c] 0 (n + 1) (c :: l) = [] :: Lib.splitK [c] 0 n l := by
  conv => lhs; unfold Lib.splitK
  rw [ix_cons, if_pos rfl]
  simp
theorem splitK_lp (c : UInt8) : ∀ (l : List UInt8) (n : Nat), l.length ≤ n → Lib.splitK [c] 0 n l = lp c l
  | [], n, _ => by
    cases n with
    | zero => rfl
    | succ n => unfold Lib.splitK; simp [Lib.index_one, Lib.indexByte, lp]
  | x :: l, n, h => by
    obtain ⟨m, rfl⟩ : ∃ m, n = m + 1 := ⟨n - 1, by rw [List.length_cons] at h; omega⟩
    rw [List.length_cons] at h
    by_cases hx : x = c
    · subst hx
      rw [splitK_cons_eq, splitK_lp x l m (by omega)]; simp [lp]
    · rw [splitK_cons_ne c x l m hx, splitK_lp c l (m + 1) (by omega)]; simp [lp, hx]
theorem pcs_lp (c : UInt8) (s : ByteArray) : (pcs c s).map (·.data.toList) = lp c s.data.toList := by
  unfold pcs
  rw [Lib.splitB_data]
  exact splitK_lp c _ _ (by show s.data.toList.length ≤ s.size; rw [Array.length_toList]; exact Nat.le_refl _)
theorem lp_ne (c : UInt8) (l : List UInt8) : lp c l ≠ [] := by
  cases l with
  | nil => simp [lp]
  | cons x l =>
    unfold lp
    split
    · simp
    · cases lp c l <;> simp [consHead]
/-- Each piece with c behind it. -/
def withC (c : UInt8) (L : List (List UInt8)) : List UInt8 := L.flatMap fun p => p ++ [c]
/-- The pieces, each with c behind it, are the text with c behind it. -/
theorem lp_all (c : UInt8) : ∀ l : List UInt8, withC c (lp c l) = l ++ [c]
  | [] => by simp [lp, withC]
  | x :: l => by
    have ih := lp_all c l
    unfold lp
    split
    · rename_i h
      subst h
      show [] ++ [x] ++ withC x (lp x l) = _
      rw [ih]; simp
    · cases hl : lp c l with
      | nil => exact absurd hl (lp_ne c l)
      | cons p r =>
        rw [hl] at ih
        show (x :: p) ++ [c] ++ withC c r = _
        have e : withC c (p :: r) = p ++ [c] ++ withC c r := rfl
        rw [e] at ih
        rw [List.cons_append, List.cons_append, ih]; simp
theorem lp_app (c : UInt8) : ∀ (p l : List UInt8), (∀ x ∈ p, ¬ x = c) → lp c (p ++ [c] ++ l) = p :: lp c l
  | [], l, _ => by simp [lp]
  | x :: p, l, h => by
    have ih := lp_app c p l (fun y hy => h y (List.mem_cons_of_mem _ hy))
    have hx := h x (List.mem_cons_self ..)
    show lp c (x :: (p ++ [c] ++ l)) = _
    rw [lp, if_neg hx, ih]; rfl
/-- The pieces of a text made of pieces with c behind each. -/
theorem lp_withC (c : UInt8) : ∀ L : List (List UInt8), (∀ p ∈ L, ∀ x ∈ p, ¬ x = c) → lp c (withC c L) = L ++ [[]]
  | [], _ => by simp [withC, lp]
  | p :: r, h => by
    have ih := lp_withC c r (fun q hq => h q (List.mem_cons_of_mem _ hq))
    have e : withC c (p :: r) = p ++ [c] ++ withC c r := rfl
    rw [e, lp_app c p _ (h p (List.mem_cons_self ..)), ih]; rfl
end Go.Proofs.YtebbgdihifihnaaDoor.P

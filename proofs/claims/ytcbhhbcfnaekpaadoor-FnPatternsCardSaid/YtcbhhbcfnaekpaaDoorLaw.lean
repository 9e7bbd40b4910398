/-
  Plain facts on rows of the call's own, for the walks of the laws: where a row lies, and that it stays while another row is written.
-/
import Derived.Test.YtcbhhbcfnaekpaaDoorMark
namespace Go.Proofs.YtcbhhbcfnaekpaaDoor
open Go.RowKit
set_option linter.unusedVariables false

def intL (l : List Nat) : List Int := l.map fun i : Nat => (i : Int)
theorem intL_len (l : List Nat) : (intL l).length = l.length := by simp [intL]
theorem SetsTo.get {w w' : World} {e : Ending} {r : Option (List Nat)} (h : SetsTo w w' e r) :
    ∃ v, e = .returned (.tuple #[v, .bool r.isSome]) ∧ Below w.heap.size w w' ∧ w'.ownsRow w.heap.size 3 1 v (intL (r.getD [])).length (intsZ (intL (r.getD []))) := by
  cases r with
  | none =>
    obtain ⟨hb, rfl⟩ := h
    exact ⟨_, rfl, hb, own_nil _ _ _ _⟩
  | some l =>
    obtain ⟨hb, v, rfl, ho⟩ := h
    refine ⟨v, rfl, hb, ?_⟩
    rw [ints_Z] at ho
    show _ ∧ _
    rw [show (intL ((some l).getD [])).length = l.length from intL_len l]
    exact ho
theorem own_up {w : World} {base size n : Nat} {e : TypeId} {v : Value} {xs : List Value} (h : w.ownsRow base e size v n xs) : w.ownsRow 0 e size v n xs :=
  ⟨h.1, h.2.imp id fun ⟨g, cap, cur, a, _, c⟩ => ⟨g, cap, cur, a, Nat.zero_le _, c⟩⟩
/-- A row lies below the heap's end. -/
theorem own_bound {w : World} {base size n : Nat} {e : TypeId} {v : Value} {xs : List Value} (h : w.ownsRow base e size v n xs) : ∀ k, v.ownBlock = some k → k < w.heap.size := fun k hk => (h.lt k hk).2
theorem own_from {w : World} {base size n X : Nat} {e : TypeId} {v : Value} {xs : List Value} (h : w.ownsRow base e size v n xs) (hX : X < base) : ∀ k, v.ownBlock = some k → X < k := fun k hk => Nat.lt_of_lt_of_le hX (h.lt k hk).1
theorem own_block_lt {w : World} {base size n X : Nat} {e : TypeId} {v : Value} {xs : List Value} (h : w.ownsRow base e size v n xs) (hX : v.ownBlock = some X) : X < w.heap.size := (h.lt X hX).2
theorem own_grown {w w' : World} {base size n : Nat} {e : TypeId} {v : Value} {xs : List Value} {row : Option Nat} (h : w.ownsRow base e size v n xs) (hg : w.grownBy w' row) (hne : ∀ k, v.ownBlock = some k → row ≠ some k) : w'.ownsRow base e size v n xs :=
  h.kept hg (by
    cases hv : v.ownBlock with
    | none => exact .inl rfl
    | some k => exact .inr fun e => hne k hv e.symm)
theorem own_form {w : World} {base n : Nat} {e : TypeId} {v : Value} {l : List Int} (h : w.ownsRow base e 1 v n (intsZ l)) : ∃ A c, v = .slice A l.length c := by
  obtain ⟨A, c, hv, _, _⟩ := own_ints h
  exact ⟨A, c, hv⟩
theorem own_in {w : World} {base n m c : Nat} {e : TypeId} {A : Option Addr} {l : List Int} (h : w.ownsRow base e 1 (.slice A m c) n (intsZ l)) : IntsIn w A l := by
  obtain ⟨A', c', hv, _, hi⟩ := own_ints h
  injection hv with h1
  subst h1
  exact hi
theorem setF_len {f : List (ByteArray × Int)} {s : ByteArray} : ∀ {n p : Nat} {l : List Nat}, setF f s n p = some l → l.length ≤ n
  | 0, p, l, h => by
    simp only [setF] at h
    split at h
    · simp at h; subst h; simp
    · cases h
  | n + 1, p, l, h => by
    simp only [setF] at h
    split at h
    · simp at h; subst h; simp
    · split at h
      · cases h
      · rename_i i _
        cases hr : setF f s n (p + (codeAt f i).length) with
        | none => rw [hr] at h; cases h
        | some m =>
          rw [hr] at h
          simp at h
          subst h
          have := setF_len hr
          simp; omega
theorem sow_len (f : List (ByteArray × Int)) (s : ByteArray) : (intL ((sowF f s).getD [])).length ≤ 16 := by
  rw [intL_len]
  unfold sowF
  split
  · rename_i h
    simp only [Bool.and_eq_true] at h
    have := isWord_len h.2
    cases hr : setW f s with
    | none => simp
    | some l =>
      have := setF_len hr
      simp; omega
  · simp
end Go.Proofs.YtcbhhbcfnaekpaaDoor

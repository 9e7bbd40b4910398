/-
  The contracts of spec.LigaturesIn and impl.LigaturesIn: the Codes of more than one letter with which a word is set, in memory of the call's own.
-/
import Derived.Test.YtcbhhbcfnaekpaaDoorWide
import Derived.Test.YtcbhhbcfnaekpaaDoorStr
namespace Go.Proofs.YtcbhhbcfnaekpaaDoor
open Go.RowKit
set_option linter.unusedVariables false

def codeB (f : List (ByteArray × Int)) (i : Nat) : ByteArray := (f.getD i (.empty, 0)).1
theorem codeB_of {f : List (ByteArray × Int)} {i : Nat} (h : i < f.length) : codeB f i = f[i].1 := by
  unfold codeB; rw [List.getD_eq_getElem?_getD, List.getElem?_eq_getElem h]; rfl
def ligF (f : List (ByteArray × Int)) : List Nat → List ByteArray
  | [] => []
  | i :: r => (if 1 < (codeB f i).size then [codeB f i] else []) ++ ligF f r
theorem ligF_append (f : List (ByteArray × Int)) (a b : List Nat) : ligF f (a ++ b) = ligF f a ++ ligF f b := by
  induction a with
  | nil => simp [ligF]
  | cons x a ih => simp only [List.cons_append, ligF, ih, List.append_assoc]
theorem ligF_snoc (f : List (ByteArray × Int)) (l : List Nat) (k : Nat) (h : k < l.length) : ligF f (l.take (k + 1)) = ligF f (l.take k) ++ (if 1 < (codeB f l[k]).size then [codeB f l[k]] else []) := by
  rw [List.take_succ_eq_append_getElem h, ligF_append]; simp [ligF]
theorem ligF_len (f : List (ByteArray × Int)) : ∀ l : List Nat, (ligF f l).length ≤ l.length
  | [] => by simp [ligF]
  | i :: r => by
    have := ligF_len f r
    simp only [ligF, List.length_append, List.length_cons]
    split <;> simp <;> omega
theorem strs_snoc (l : List ByteArray) (s : ByteArray) : strs (l ++ [s]) = strs l ++ [.string s] := by simp [strs]
theorem strs_len (l : List ByteArray) : (strs l).length = l.length := by simp [strs]
theorem info9 : (Tryd.prog.info? 9).map (fun i => (i.zero, i.size, i.bytes)) = some (some (.string .empty), 1, 16) := by kernel_rfl

/-- A call's answer: a slice of strings of its own, and whether there is one. -/
def StrsTo (w w' : World) (e : Ending) (r : Option (List ByteArray)) : Prop :=
  ∃ v, e = .returned (.tuple #[v, .bool r.isSome]) ∧ Below w.heap.size w w' ∧ w'.ownsRow w.heap.size 9 1 v (r.getD []).length (strs (r.getD []))
theorem StrsTo.no {w w' : World} {r : Option (List ByteArray)} (h : r = none) (hb : Below w.heap.size w w') : StrsTo w w' (.returned (.tuple #[.slice none 0 0, .bool false])) r := by subst h; exact ⟨_, rfl, hb, own_nil _ _ _ _⟩
theorem StrsTo.yes {w w' : World} {r : Option (List ByteArray)} {l : List ByteArray} {v : Value} (h : r = some l) (hb : Below w.heap.size w w') (ho : w'.ownsRow w.heap.size 9 1 v l.length (strs l)) : StrsTo w w' (.returned (.tuple #[v, .bool true])) r := by subst h; exact ⟨v, rfl, hb, ho⟩
noncomputable def ligW (f : List (ByteArray × Int)) (s : ByteArray) : Option (List ByteArray) := (sowF f s).map (ligF f)

theorem below_append {w1 wr w4 : World} {B : Nat} {o : Obj} {v : Value} (hb : Below B w1 wr) (hg : (wr.alloc o).grownBy w4 v.ownBlock) (hB : B ≤ wr.heap.size) (hv : ∀ k, v.ownBlock = some k → B ≤ k) : Below B w1 w4 :=
  (hb.alloc hB o).grown hg (by simp; omega) hv

theorem lig_len (f : List (ByteArray × Int)) (s : ByteArray) : ((ligW f s).getD []).length ≤ 16 := by
  unfold ligW
  have h := sow_len f s
  cases hr : sowF f s with
  | none => simp
  | some l =>
    rw [hr, intL_len] at h
    have := ligF_len f l
    simp at h ⊢; omega
end Go.Proofs.YtcbhhbcfnaekpaaDoor

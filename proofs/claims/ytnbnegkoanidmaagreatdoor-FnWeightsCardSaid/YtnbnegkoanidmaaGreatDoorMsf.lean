import Derived.Test.YtnbnegkoanidmaaGreatDoorMsd
import Derived.Test.YtnbnegkoanidmaaGreatDoorMse
/-
  The contracts of spec.tyWide, spec.tyWidth, spec.WidthOfWord and impl.WidthOfWord: the sum of the widths of the sorts with which a word is set.
-/
namespace Go.Proofs.YtnbnegkoanidmaaGreatDoor.S1
open Go.RowKit
set_option linter.unusedVariables false

def widthAt (f : List (ByteArray × Int)) (i : Nat) : Int := (f.getD i (.empty, 0)).2
theorem widthAt_of {f : List (ByteArray × Int)} {i : Nat} (h : i < f.length) : widthAt f i = f[i].2 := by
  unfold widthAt; rw [List.getD_eq_getElem?_getD, List.getElem?_eq_getElem h]; rfl
def wideF (f : List (ByteArray × Int)) : List Nat → Int
  | [] => 0
  | i :: r => widthAt f i + wideF f r
theorem wideF_append (f : List (ByteArray × Int)) (a b : List Nat) : wideF f (a ++ b) = wideF f a + wideF f b := by
  induction a with
  | nil => simp [wideF]
  | cons x a ih => simp only [List.cons_append, wideF, ih]; omega
theorem wideF_snoc (f : List (ByteArray × Int)) (l : List Nat) (k : Nat) (h : k < l.length) : wideF f (l.take (k + 1)) = wideF f (l.take k) + widthAt f l[k] := by
  rw [List.take_succ_eq_append_getElem h, wideF_append]; simp [wideF]
theorem wideF_bound {f : List (ByteArray × Int)} (hf : Font f) : ∀ (l : List Nat), (∀ i ∈ l, i < f.length) → 0 ≤ wideF f l ∧ wideF f l ≤ 54 * (l.length : Int)
  | [], _ => ⟨Int.le_refl _, by simp [wideF]⟩
  | i :: r, h => by
    have h1 := h i (by simp)
    have h2 := hf.width h1
    have h3 := wideF_bound hf r fun j hj => h j (by simp [hj])
    simp only [wideF, widthAt_of h1, List.length_cons]
    omega
theorem setF_mem {f : List (ByteArray × Int)} {s : ByteArray} : ∀ {n p : Nat} {l : List Nat}, setF f s n p = some l → ∀ i ∈ l, i < f.length
  | 0, p, l, h => by
    simp only [setF] at h
    split at h
    · simp at h; subst h; simp
    · cases h
  | n + 1, p, l, h => by
    simp only [setF] at h
    split at h
    · simp at h; subst h; simp
    · split at h
      · cases h
      · rename_i i hi
        cases hr : setF f s n (p + (codeAt f i).length) with
        | none => rw [hr] at h; cases h
        | some m =>
          rw [hr] at h
          simp at h
          subst h
          intro j hj
          rcases List.mem_cons.1 hj with rfl | hj
          · exact (lastPre_some hi).1
          · exact setF_mem hr j hj
theorem intL_get (l : List Nat) (k : Nat) (h : k < (intL l).length) : (intL l)[k] = ((l[k]'(by rw [intL_len] at h; exact h) : Nat) : Int) := by simp [intL]

theorem setW_mem {f : List (ByteArray × Int)} {s : ByteArray} : ∀ i ∈ (setW f s).getD [], i < f.length := by
  cases h : setW f s with
  | none => simp
  | some l => exact setF_mem h
theorem setW_len {f : List (ByteArray × Int)} {s : ByteArray} (hs : s.size ≤ 16) : ((setW f s).getD []).length ≤ 16 := by
  cases h : setW f s with
  | none => simp
  | some l => have := setF_len h; simp; omega

theorem sow_of_font {f : List (ByteArray × Int)} {s : ByteArray} (h : (fontB f && isWordF s) = true) : sowF f s = setW f s := by unfold sowF; rw [h]; rfl
theorem sow_of_no {f : List (ByteArray × Int)} {s : ByteArray} (h : (fontB f && isWordF s) = false) : sowF f s = none := by unfold sowF; rw [h]; rfl

theorem sowF_mem {f : List (ByteArray × Int)} {s : ByteArray} : ∀ i ∈ (sowF f s).getD [], i < f.length := by
  unfold sowF; split
  · exact setW_mem
  · simp
theorem sowF_font {f : List (ByteArray × Int)} {s : ByteArray} (h : (sowF f s).isSome = true) : Font f := by
  unfold sowF at h
  split at h
  · rename_i hv
    simp only [Bool.and_eq_true] at hv
    exact fontB_iff.1 hv.1
  · cases h

end Go.Proofs.YtnbnegkoanidmaaGreatDoor.S1

/-
  The contracts of spec.LigaturesIn and impl.LigaturesIn: the Codes of more than one letter with which a word is set, in memory of the call's own.
-/
namespace Go.Proofs.YtnbnegkoanidmaaGreatDoor.S1
open Go.RowKit
set_option linter.unusedVariables false

def codeB (f : List (ByteArray × Int)) (i : Nat) : ByteArray := (f.getD i (.empty, 0)).1
theorem codeB_of {f : List (ByteArray × Int)} {i : Nat} (h : i < f.length) : codeB f i = f[i].1 := by
  unfold codeB; rw [List.getD_eq_getElem?_getD, List.getElem?_eq_getElem h]; rfl
def ligF (f : List (ByteArray × Int)) : List Nat → List ByteArray
  | [] => []
  | i :: r => (if 1 < (codeB f i).size then [codeB f i] else []) ++ ligF f r
theorem ligF_append (f : List (ByteArray × Int)) (a b : List Nat) : ligF f (a ++ b) = ligF f a ++ ligF f b := by
  induction a with
  | nil => simp [ligF]
  | cons x a ih => simp only [List.cons_append, ligF, ih, List.append_assoc]
theorem ligF_snoc (f : List (ByteArray × Int)) (l : List Nat) (k : Nat) (h : k < l.length) : ligF f (l.take (k + 1)) = ligF f (l.take k) ++ (if 1 < (codeB f l[k]).size then [codeB f l[k]] else []) := by
  rw [List.take_succ_eq_append_getElem h, ligF_append]; simp [ligF]
theorem ligF_len (f : List (ByteArray × Int)) : ∀ l : List Nat, (ligF f l).length ≤ l.length
  | [] => by simp [ligF]
  | i :: r => by
    have := ligF_len f r
    simp only [ligF, List.length_append, List.length_cons]
    split <;> simp <;> omega
theorem strs_snoc (l : List ByteArray) (s : ByteArray) : strs (l ++ [s]) = strs l ++ [.string s] := by simp [strs]
theorem strs_len (l : List ByteArray) : (strs l).length = l.length := by simp [strs]
theorem info9 : (Tryz.prog.info? 9).map (fun i => (i.zero, i.size, i.bytes)) = some (some (.string .empty), 1, 16) := by kernel_rfl

/-- A call's answer: a slice of strings of its own, and whether there is one. -/
def StrsTo (w w' : World) (e : Ending) (r : Option (List ByteArray)) : Prop :=
  ∃ v, e = .returned (.tuple #[v, .bool r.isSome]) ∧ Below w.heap.size w w' ∧ w'.ownsRow w.heap.size 9 1 v (r.getD []).length (strs (r.getD []))
theorem StrsTo.no {w w' : World} {r : Option (List ByteArray)} (h : r = none) (hb : Below w.heap.size w w') : StrsTo w w' (.returned (.tuple #[.slice none 0 0, .bool false])) r := by subst h; exact ⟨_, rfl, hb, own_nil _ _ _ _⟩
theorem StrsTo.yes {w w' : World} {r : Option (List ByteArray)} {l : List ByteArray} {v : Value} (h : r = some l) (hb : Below w.heap.size w w') (ho : w'.ownsRow w.heap.size 9 1 v l.length (strs l)) : StrsTo w w' (.returned (.tuple #[v, .bool true])) r := by subst h; exact ⟨v, rfl, hb, ho⟩
noncomputable def ligW (f : List (ByteArray × Int)) (s : ByteArray) : Option (List ByteArray) := (sowF f s).map (ligF f)

theorem below_append {w1 wr w4 : World} {B : Nat} {o : Obj} {v : Value} (hb : Below B w1 wr) (hg : (wr.alloc o).grownBy w4 v.ownBlock) (hB : B ≤ wr.heap.size) (hv : ∀ k, v.ownBlock = some k → B ≤ k) : Below B w1 w4 :=
  (hb.alloc hB o).grown hg (by simp; omega) hv

theorem lig_len (f : List (ByteArray × Int)) (s : ByteArray) : ((ligW f s).getD []).length ≤ 16 := by
  unfold ligW
  have h := sow_len f s
  cases hr : sowF f s with
  | none => simp
  | some l =>
    rw [hr, intL_len] at h
    have := ligF_len f l
    simp at h ⊢; omega
end Go.Proofs.YtnbnegkoanidmaaGreatDoor.S1

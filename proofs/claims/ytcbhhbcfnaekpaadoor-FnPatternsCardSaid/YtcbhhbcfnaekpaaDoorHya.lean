/-
  Patterns, told plainly: what is read of a text, letter by letter.
-/
import Derived.Test.YtcbhhbcfnaekpaaDoorWds
import Derived.Test.YtcbhhbcfnaekpaaDoorLig
namespace Go.Proofs.YtcbhhbcfnaekpaaDoor
open Go.RowKit
set_option linter.unusedVariables false

def isNum (c : UInt8) : Bool := 49 ≤ c && c ≤ 57
theorem isNum_int (c : UInt8) : isNum c = (decide (49 ≤ (c.toNat : Int)) && decide ((c.toNat : Int) ≤ 57)) := by
  unfold isNum
  congr 1
  · exact decide_eq_decide.2 (by rw [UInt8.le_iff_toNat_le]; show 49 ≤ c.toNat ↔ _; omega)
  · exact decide_eq_decide.2 (by rw [UInt8.le_iff_toNat_le]; show c.toNat ≤ 57 ↔ _; omega)
/-- What is read of a pattern so far: its letters, the values before the last place, the value of this. -/
structure Pt where
  ls : List UInt8
  vs : List Int
  v : Int
def Pt.vals (p : Pt) : List Int := p.vs ++ [p.v]
def ptStep (p : Pt) (c : UInt8) : Option Pt :=
  if isLet c = true then some ⟨p.ls ++ [c], p.vs ++ [p.v], 0⟩
  else if isNum c = true ∧ p.v = 0 then some ⟨p.ls, p.vs, (c.toNat : Int) - 48⟩
  else none
def ptGo (o : Option Pt) (l : List UInt8) : Option Pt := l.foldl (fun o c => o.bind fun p => ptStep p c) o
def ptRead (l : List UInt8) : Option Pt := ptGo (some ⟨[], [], 0⟩) l
theorem ptGo_none : ∀ l, ptGo none l = none
  | [] => rfl
  | c :: r => ptGo_none r
theorem ptRead_snoc (l : List UInt8) (c : UInt8) : ptRead (l ++ [c]) = (ptRead l).bind fun p => ptStep p c := by
  unfold ptRead ptGo; rw [List.foldl_append]; rfl
theorem ptRead_cut (l : List UInt8) (k : Nat) (h : ptRead (l.take k) = none) : ptRead l = none := by
  have e : l = l.take k ++ l.drop k := (List.take_append_drop k l).symm
  rw [e]
  unfold ptRead ptGo at h ⊢
  rw [List.foldl_append, h]
  exact ptGo_none _
theorem ptStep_let {p : Pt} {c : UInt8} (h : isLet c = true) : ptStep p c = some ⟨p.ls ++ [c], p.vs ++ [p.v], 0⟩ := by unfold ptStep; rw [if_pos h]
theorem ptStep_num {p : Pt} {c : UInt8} (h : isLet c = false) (h1 : isNum c = true) (h2 : p.v = 0) : ptStep p c = some ⟨p.ls, p.vs, (c.toNat : Int) - 48⟩ := by unfold ptStep; rw [if_neg (by rw [h]; decide), if_pos ⟨h1, h2⟩]
theorem ptStep_no {p : Pt} {c : UInt8} (h : isLet c = false) (h1 : ¬ (isNum c = true ∧ p.v = 0)) : ptStep p c = none := by unfold ptStep; rw [if_neg (by rw [h]; decide), if_neg h1]
/-- What holds of all that is read. -/
structure Pt.Ok (p : Pt) (n : Nat) : Prop where
  len : p.vs.length = p.ls.length
  le : p.ls.length ≤ n
  lets : p.ls.all isLet = true
  bd : ∀ x ∈ p.vals, 0 ≤ x ∧ x ≤ 9
theorem Pt.Ok.v {p : Pt} {n : Nat} (h : p.Ok n) : 0 ≤ p.v ∧ p.v ≤ 9 := h.bd _ (by simp [Pt.vals])
theorem Pt.Ok.vlen {p : Pt} {n : Nat} (h : p.Ok n) : p.vals.length = p.ls.length + 1 := by simp [Pt.vals, h.len]
theorem Pt.Ok.step {p q : Pt} {n : Nat} {c : UInt8} (h : p.Ok n) (e : ptStep p c = some q) : q.Ok (n + 1) := by
  unfold ptStep at e
  split at e
  · rename_i hl
    obtain rfl := Option.some.inj e
    refine ⟨by simp [h.len], by have := h.le; simp; omega, ?_, fun x hx => ?_⟩
    · rw [List.all_append, h.lets]; simp [hl]
    · rcases List.mem_append.1 hx with h1 | h1
      · exact h.bd x h1
      · obtain rfl := List.mem_singleton.1 h1; exact ⟨show (0 : Int) ≤ 0 by decide, show (0 : Int) ≤ 9 by decide⟩
  · split at e
    · rename_i hl hn
      obtain rfl := Option.some.inj e
      refine ⟨h.len, Nat.le_succ_of_le h.le, h.lets, fun x hx => ?_⟩
      rcases List.mem_append.1 hx with h1 | h1
      · exact h.bd x (List.mem_append.2 (.inl h1))
      · obtain rfl := List.mem_singleton.1 h1
        have h2 := hn.1
        rw [isNum_int] at h2
        simp only [Bool.and_eq_true, decide_eq_true_eq] at h2
        show 0 ≤ (c.toNat : Int) - 48 ∧ (c.toNat : Int) - 48 ≤ 9
        omega
    · cases e
theorem ptRead_ok (l : List UInt8) : ∀ k, k ≤ l.length → ∀ p, ptRead (l.take k) = some p → p.Ok k
  | 0, _, p, h => by
    obtain rfl := Option.some.inj h
    exact ⟨rfl, Nat.le_refl _, rfl, fun x hx => by obtain rfl := List.mem_singleton.1 hx; exact ⟨show (0 : Int) ≤ 0 by decide, show (0 : Int) ≤ 9 by decide⟩⟩
  | k + 1, hk, p, h => by
    rw [List.take_succ_eq_append_getElem (by omega), ptRead_snoc] at h
    cases e : ptRead (l.take k) with
    | none => rw [e] at h; cases h
    | some q => rw [e] at h; exact (ptRead_ok l k (by omega) q e).step h
/-- Some value is not 0. -/
def ptSome (p : Pt) : Bool := p.vals.any fun x => decide (x ≠ 0)
theorem ptSome_let {p : Pt} {c : UInt8} : ptSome ⟨p.ls ++ [c], p.vs ++ [p.v], 0⟩ = ptSome p := by simp [ptSome, Pt.vals]
theorem ptSome_num {p : Pt} {x : Int} (h : x ≠ 0) : ptSome ⟨p.ls, p.vs, x⟩ = true := by simp [ptSome, Pt.vals, h]
def ptFine (p : Pt) : Bool := ptSome p && (decide (1 ≤ (p.ls.length : Int)) && decide ((p.ls.length : Int) ≤ 6))
/-- A text is a pattern; its letters; its values. -/
def ptB (s : ByteArray) : Bool := match ptRead s.data.toList with | none => false | some p => ptFine p
def ptLs (s : ByteArray) : List UInt8 := match ptRead s.data.toList with | none => [] | some p => p.ls
def ptVs (s : ByteArray) : List Int := match ptRead s.data.toList with | none => [] | some p => p.vals
theorem pt_no {s : ByteArray} (h : ptRead s.data.toList = none) : ptB s = false ∧ ptLs s = [] ∧ ptVs s = [] := by simp [ptB, ptLs, ptVs, h]
theorem pt_yes {s : ByteArray} {p : Pt} (h : ptRead s.data.toList = some p) : ptB s = ptFine p ∧ ptLs s = p.ls ∧ ptVs s = p.vals := by simp [ptB, ptLs, ptVs, h]
theorem pt_bad {s : ByteArray} {k : Nat} (hk : k < s.size) {p : Pt} (h : ptRead (s.data.toList.take k) = some p) (h1 : ptStep p s[k] = none) : ptB s = false ∧ ptLs s = [] ∧ ptVs s = [] := by
  refine pt_no (ptRead_cut _ (k + 1) ?_)
  rw [take_snoc s k hk, ptRead_snoc, h]; exact h1
theorem pt_next {s : ByteArray} {k : Nat} (hk : k < s.size) {p q : Pt} (h : ptRead (s.data.toList.take k) = some p) (h1 : ptStep p s[k] = some q) : ptRead (s.data.toList.take (k + 1)) = some q := by
  rw [take_snoc s k hk, ptRead_snoc, h]; exact h1
theorem pt_done {s : ByteArray} {p : Pt} (h : ptRead (s.data.toList.take s.size) = some p) : ptB s = ptFine p ∧ ptLs s = p.ls ∧ ptVs s = p.vals := pt_yes (by rw [List.take_of_length_le (by simp)] at h; exact h)
theorem ptVs_len (s : ByteArray) : (ptVs s).length ≤ s.size + 1 := by
  unfold ptVs
  cases h : ptRead s.data.toList with
  | none => simp
  | some p =>
    have := ptRead_ok s.data.toList s.data.toList.length (Nat.le_refl _) p (by rw [List.take_length]; exact h)
    have h1 := this.vlen; have h2 := this.le
    rw [len_list] at h2
    simp only []; omega
/-- A pattern's letters and values. -/
theorem pt_good {s : ByteArray} (h : ptB s = true) : 1 ≤ (ptLs s).length ∧ (ptLs s).length ≤ 6 ∧ (ptVs s).length = (ptLs s).length + 1 ∧ ∀ x ∈ ptVs s, 0 ≤ x ∧ x ≤ 9 := by
  cases hr : ptRead s.data.toList with
  | none => rw [(pt_no hr).1] at h; cases h
  | some p =>
    obtain ⟨h1, h2, h3⟩ := pt_yes hr
    rw [h1] at h
    have hk := ptRead_ok s.data.toList s.data.toList.length (Nat.le_refl _) p (by rw [List.take_length]; exact hr)
    simp only [ptFine, Bool.and_eq_true, decide_eq_true_eq] at h
    rw [h2, h3]
    exact ⟨by omega, by omega, hk.vlen, hk.bd⟩
end Go.Proofs.YtcbhhbcfnaekpaaDoor

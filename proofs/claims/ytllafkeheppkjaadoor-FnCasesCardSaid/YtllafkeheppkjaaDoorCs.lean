/-
  Plain words on cases: when boxes are a case, where a Code is, the way of the hand. (No function of the program is named here.)
-/
import Derived.Test.YtllafkeheppkjaaDoorBo
import Derived.Test.YtllafkeheppkjaaDoorCmp
import Derived.Test.YtllafkeheppkjaaDoorBil
namespace Go.Proofs.YtllafkeheppkjaaDoor
open Go.RowKit
set_option linter.unusedVariables false

def inR (a lo hi : Int) : Bool := decide (lo ≤ a) && decide (a ≤ hi)
theorem inR_iff {a lo hi : Int} : inR a lo hi = true ↔ lo ≤ a ∧ a ≤ hi := by simp [inR]
theorem inR_no {a lo hi : Int} : inR a lo hi = false ↔ a < lo ∨ hi < a := by
  rw [← Bool.not_eq_true, inR_iff]; omega
def boxB (b : Bx) : Bool := tyLettersF b.cod.data.toList 3 && (inR b.row 0 9 && (inR b.col 0 9 && inR b.cnt 0 9999))
theorem boxB_iff {b : Bx} : boxB b = true ↔ tyLettersF b.cod.data.toList 3 = true ∧ (0 ≤ b.row ∧ b.row ≤ 9) ∧ (0 ≤ b.col ∧ b.col ≤ 9) ∧ 0 ≤ b.cnt ∧ b.cnt ≤ 9999 := by
  simp only [boxB, Bool.and_eq_true, inR_iff]
def sameP (b x : Bx) : Bool := decide (x.row = b.row) && decide (x.col = b.col)
theorem sameP_iff {b x : Bx} : sameP b x = true ↔ x.row = b.row ∧ x.col = b.col := by simp [sameP]
def okB (l : List Bx) (k : Nat) (h : k < l.length) : Bool := boxB l[k] && ((k == 0 || Op.bytesLess (l[k-1]'(by omega)).cod.toList l[k].cod.toList) && !(l.take k).any (sameP l[k]))
def okUp (l : List Bx) (k : Nat) : Prop := ∀ j (h : j < l.length), j < k → okB l j h = true
/-- Boxes are a case. -/
def CaseOk (l : List Bx) : Prop := (∀ j (h : j < l.length), okB l j h = true) ∧ 1 ≤ l.length ∧ l.length ≤ 32
noncomputable def caseB (l : List Bx) : Bool := @decide (CaseOk l) (Classical.propDecidable _)
theorem caseB_iff {l : List Bx} : caseB l = true ↔ CaseOk l := by unfold caseB; simp
theorem caseB_no {l : List Bx} {k : Nat} (h : k < l.length) (hk : okB l k h = false) : caseB l = false := by
  rw [← Bool.not_eq_true, caseB_iff]
  intro hf
  rw [hf.1 k h] at hk; cases hk
theorem okUp_step {l : List Bx} {k : Nat} (hs : okUp l k) (h : k < l.length) (hk : okB l k h = true) : okUp l (k + 1) := by
  intro j hj hjk
  rcases Nat.lt_or_ge j k with h1 | h1
  · exact hs j hj h1
  · obtain rfl : j = k := by omega
    exact hk
theorem caseB_end {l : List Bx} (hs : okUp l l.length) : caseB l = (decide ((1 : Int) ≤ l.length) && decide ((l.length : Int) ≤ 32)) := by
  rw [Bool.eq_iff_iff, caseB_iff]
  simp only [Bool.and_eq_true, decide_eq_true_eq]
  exact ⟨fun h => by have := h.2; omega, fun h => ⟨fun j hj => hs j hj hj, by omega, by omega⟩⟩
theorem caseB_len {l : List Bx} (h : l.length < 1 ∨ 32 < l.length) : caseB l = false := by
  rw [← Bool.not_eq_true, caseB_iff]
  intro hf; have := hf.2; omega
theorem CaseOk.box {l : List Bx} (h : CaseOk l) {k : Nat} (hk : k < l.length) : boxB l[k] = true := by
  have := h.1 k hk
  simp only [okB, Bool.and_eq_true] at this
  exact this.1
theorem CaseOk.range {l : List Bx} (h : CaseOk l) {k : Nat} (hk : k < l.length) : (0 ≤ l[k].row ∧ l[k].row ≤ 9) ∧ (0 ≤ l[k].col ∧ l[k].col ≤ 9) ∧ 0 ≤ l[k].cnt ∧ l[k].cnt ≤ 9999 := (boxB_iff.1 (h.box hk)).2

/-- The Codes of boxes as sorts of one width: a case's Codes stand as those of a font. -/
def sf (l : List Bx) : List (ByteArray × Int) := l.map fun b => (b.cod, 1)
theorem sf_len (l : List Bx) : (sf l).length = l.length := by simp [sf]
theorem sf_get (l : List Bx) (k : Nat) (h : k < (sf l).length) : (sf l)[k] = ((l[k]'(by simpa [sf] using h)).cod, 1) := by simp [sf]
theorem CaseOk.font {l : List Bx} (h : CaseOk l) : Font (sf l) := by
  refine ⟨fun j hj => ?_, by rw [sf_len]; exact h.2.1, by rw [sf_len]; exact h.2.2⟩
  have hj' : j < l.length := by rwa [sf_len] at hj
  have hk := h.1 j hj'
  simp only [okB, Bool.and_eq_true] at hk
  have hb := (boxB_iff.1 hk.1).1
  unfold okAt
  rw [sf_get, sf_get]
  unfold tySortF
  rw [hb]
  simpa using hk.2.1
def caI (l : List Bx) (c : ByteArray) : Int := findI (sf l) c 0
theorem caI_cases (l : List Bx) (c : ByteArray) : (caI l c = -1 ∧ ∀ k (h : k < l.length), l[k].cod ≠ c) ∨ ∃ k, ∃ h : k < l.length, l[k].cod = c ∧ caI l c = (k : Int) := by
  rcases findI_cases (sf l) c with ⟨e, hn⟩ | ⟨k, hk, hc, e⟩
  · refine .inl ⟨e, fun k h he => ?_⟩
    refine hn k (by rw [sf_len]; exact h) ?_
    rw [codeAt_of (by rw [sf_len]; exact h), sf_get]
    show l[k].cod.data.toList = _
    rw [he]
  · have hk' : k < l.length := by rwa [sf_len] at hk
    refine .inr ⟨k, hk', ?_, e⟩
    rw [codeAt_of hk, sf_get] at hc
    exact ByteArray.ext (Array.ext' hc)
theorem sf_swap {l m : List Bx} (h : l.map Bx.cod = m.map Bx.cod) : sf l = sf m := by
  have e : ∀ x : List Bx, sf x = (x.map Bx.cod).map fun c => (c, (1 : Int)) := fun x => by simp [sf]
  rw [e, e, h]
/-- Whether all codes are there, in a case. -/
noncomputable def askB2 (l : List Bx) (cs : List ByteArray) : Bool := (cs.all fun c => decide (0 ≤ caI l c)) && (caseB l && decide (cs.length ≤ 60))
def kI (l : List Bx) (c : ByteArray) : Nat := (caI l c).toNat

/-- What is in a sum over boxes. -/
def cntSum (l : List Bx) : Int := l.foldl (fun s b => s + b.cnt) 0
theorem cntSum_snoc (l : List Bx) (k : Nat) (h : k < l.length) : cntSum (l.take (k + 1)) = cntSum (l.take k) + l[k].cnt := by
  unfold cntSum
  rw [List.take_succ_eq_append_getElem h, List.foldl_append]; rfl
theorem cntSum_range {l : List Bx} (hc : CaseOk l) : ∀ k, k ≤ l.length → 0 ≤ cntSum (l.take k) ∧ cntSum (l.take k) ≤ 9999 * k
  | 0, _ => by simp [cntSum]
  | k + 1, h => by
    have ih := cntSum_range hc k (by omega)
    have hr := hc.range (k := k) (by omega)
    rw [cntSum_snoc l k (by omega)]
    omega
end Go.Proofs.YtllafkeheppkjaaDoor

/-
  The contracts of spec.tyFind, spec.tyWord, impl.isWord, spec.tyAsked, strings.HasPrefix, impl.longestSort, spec.l1Least: each returns what the plain function here says and changes nothing that was there.
-/
import Derived.Test.YtcbhhbcfnaekpaaDoorIsFont
import Derived.WalkSpells
namespace Go.Proofs.YtcbhhbcfnaekpaaDoor
open Go.RowKit
set_option linter.unusedVariables false

/-- The index of the first sort with a Code, counted from k on; -1 if there is none. -/
def findI : List (ByteArray × Int) → ByteArray → Nat → Int
  | [], _, _ => -1
  | x :: r, c, k => if x.1 = c then (k : Int) else findI r c (k + 1)
theorem findI_drop (f : List (ByteArray × Int)) (c : ByteArray) (k : Nat) (h : k < f.length) : findI (f.drop k) c k = if f[k].1 = c then (k : Int) else findI (f.drop (k + 1)) c (k + 1) := by
  rw [List.drop_eq_getElem_cons h]; rfl
theorem str_eq {c d : ByteArray} (h : c = d) : (c.toList == d.toList) = true := by subst h; simp
theorem str_neb {c d : ByteArray} (h : ¬ c = d) : (c.toList == d.toList) = false := beq_eq_false_iff_ne.2 fun e => h (str_inj e)

def isWordF (s : ByteArray) : Bool := tyLettersF s.data.toList 16

theorem tyWord_any (s : ByteArray) (w : World) (hs : s.size ≤ maxLen) :
    Calls Tryd.prog 69 #[.string s] w fun e w' => e = .returned (.bool (isWordF s)) ∧ w = w' := by
  go_enter Tryd.func69, Tryd.ntmps69
  go_wp2_with fail
  refine (tyLetters_any _ _ _ hs).mono ?_
  rintro e w' ⟨rfl, rfl⟩
  go_wp2
  go_ret
  exact ⟨rfl, rfl⟩

theorem isWord_any (s : ByteArray) (w : World) (hs : s.size ≤ maxLen) :
    Calls Tryd.prog 66 #[.string s] w fun e w' => e = .returned (.bool (isWordF s)) ∧ Below w.heap.size w w' := by
  have H : ((decide (1 ≤ (s.size : Int)) && decide ((s.size : Int) ≤ ((16 : Nat) : Int))) && lets s.data.toList) = isWordF s := by
    have H := isCodeF_eq s.data.toList 16
    unfold isCodeF at H
    rw [len_list] at H
    exact H
  have HE := Lib.hid H; clear H
  rcases (by omega : (s.size : Int) < 1 ∨ (16 : Int) < s.size ∨ (1 ≤ (s.size : Int) ∧ (s.size : Int) ≤ 16)) with h | h | ⟨h1, h2⟩
  · go_enter Tryd.func66, Tryd.ntmps66
    have h1 : ¬ 1 ≤ (s.size : Int) := by omega
    go_wp2
    go_ret
    have d1 : decide (1 ≤ (s.size : Int)) = false := decide_eq_false (by omega)
    exact ⟨ret_bool (by have e := HE.out; rw [d1] at e; simpa using e), Below.refl _ _⟩
  · go_enter Tryd.func66, Tryd.ntmps66
    have h1 : 1 ≤ (s.size : Int) := by omega
    have h2 : ¬ (s.size : Int) ≤ 16 := by omega
    go_wp2
    go_ret
    have d1 : decide (1 ≤ (s.size : Int)) = true := decide_eq_true (by omega)
    have d2 : decide ((s.size : Int) ≤ ((16 : Nat) : Int)) = false := decide_eq_false (by omega)
    exact ⟨ret_bool (by have e := HE.out; rw [d1, d2] at e; simpa using e), Below.refl _ _⟩
  · go_enter Tryd.func66, Tryd.ntmps66
    go_wp2_with fail
    refine (areLetters_any _ _ hs).mono ?_
    rintro e w' ⟨rfl, hb⟩
    go_wp2
    go_ret
    have d1 : decide (1 ≤ (s.size : Int)) = true := decide_eq_true (by omega)
    have d2 : decide ((s.size : Int) ≤ ((16 : Nat) : Int)) = true := decide_eq_true (by omega)
    exact ⟨ret_bool (by have e := HE.out; rw [d1, d2] at e; simpa using e), hb⟩

/-- t begins with c. -/
def preB (t c : ByteArray) : Bool := decide (c.data.toList <+: t.data.toList)
theorem preB_cut {t c : ByteArray} : ((t.extract 0 c.size).toList == c.toList) = preB t c := by
  unfold preB
  rw [ByteArray.toList_eq, ByteArray.toList_eq, Bool.eq_iff_iff, beq_iff_eq, decide_eq_true_eq, List.prefix_iff_eq_take, len_list]
  have e : (t.extract 0 c.size).data.toList = t.data.toList.take c.size := by simp
  rw [e]
  exact eq_comm
theorem preB_long {t c : ByteArray} (h : t.size < c.size) : preB t c = false := by
  unfold preB
  apply decide_eq_false
  intro hp
  have := hp.length_le
  rw [len_list, len_list] at this
  omega

theorem hasPrefix0_any (t c : ByteArray) (w : World) (ht : t.size ≤ maxLen) (hc : c.size ≤ maxLen) :
    Calls Tryd.prog 104 #[.string t, .string c] w fun e w' => e = .returned (.bool (preB t c)) ∧ w = w' := by
  unfold maxLen at ht hc
  by_cases h : (c.size : Int) ≤ t.size
  · go_enter Tryd.func104, Tryd.ntmps104
    have hn : c.size ≤ t.size := by omega
    go_wp2
    go_ret
    exact ⟨ret_bool preB_cut, rfl⟩
  · go_enter Tryd.func104, Tryd.ntmps104
    go_wp2
    go_ret
    exact ⟨ret_bool (preB_long (by omega)).symm, rfl⟩

theorem hasPrefix_any (t c : ByteArray) (w : World) (ht : t.size ≤ maxLen) (hc : c.size ≤ maxLen) :
    Calls Tryd.prog 92 #[.string t, .string c] w fun e w' => e = .returned (.bool (preB t c)) ∧ w = w' := by
  go_enter Tryd.func92, Tryd.ntmps92
  go_wp2_with fail
  refine (hasPrefix0_any _ _ _ ht hc).mono ?_
  rintro e w' ⟨rfl, rfl⟩
  go_wp2
  go_ret
  exact ⟨rfl, rfl⟩

/-- The last sort with whose Code the text begins, of those up to k. -/
def lastPre (f : List (ByteArray × Int)) (t : ByteArray) : Nat → Option Nat
  | 0 => none
  | k + 1 => if preB t (f.getD k (.empty, 0)).1 then some k else lastPre f t k
def optI : Option Nat → Int | some k => k | none => 0

end Go.Proofs.YtcbhhbcfnaekpaaDoor

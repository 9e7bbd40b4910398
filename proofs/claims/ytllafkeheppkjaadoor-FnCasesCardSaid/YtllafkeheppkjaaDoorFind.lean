/-
  The contracts of spec.tyFind, spec.tyWord, impl.isWord, spec.tyAsked, strings.HasPrefix, impl.longestSort, spec.l1Least: each returns what the plain function here says and changes nothing that was there.
-/
import Derived.Test.YtllafkeheppkjaaDoorIsFont
import Derived.WalkSpells
namespace Go.Proofs.YtllafkeheppkjaaDoor
open Go.RowKit
set_option linter.unusedVariables false

/-- The index of the first sort with a Code, counted from k on; -1 if there is none. -/
def findI : List (ByteArray × Int) → ByteArray → Nat → Int
  | [], _, _ => -1
  | x :: r, c, k => if x.1 = c then (k : Int) else findI r c (k + 1)
theorem findI_drop (f : List (ByteArray × Int)) (c : ByteArray) (k : Nat) (h : k < f.length) : findI (f.drop k) c k = if f[k].1 = c then (k : Int) else findI (f.drop (k + 1)) c (k + 1) := by
  rw [List.drop_eq_getElem_cons h]; rfl
theorem str_eq {c d : ByteArray} (h : c = d) : (c.toList == d.toList) = true := by subst h; simp
theorem str_neb {c d : ByteArray} (h : ¬ c = d) : (c.toList == d.toList) = false := beq_eq_false_iff_ne.2 fun e => h (str_inj e)

def isWordF (s : ByteArray) : Bool := tyLettersF s.data.toList 16

/-- t begins with c. -/
def preB (t c : ByteArray) : Bool := decide (c.data.toList <+: t.data.toList)
theorem preB_cut {t c : ByteArray} : ((t.extract 0 c.size).toList == c.toList) = preB t c := by
  unfold preB
  rw [ByteArray.toList_eq, ByteArray.toList_eq, Bool.eq_iff_iff, beq_iff_eq, decide_eq_true_eq, List.prefix_iff_eq_take, len_list]
  have e : (t.extract 0 c.size).data.toList = t.data.toList.take c.size := by simp
  rw [e]
  exact eq_comm
theorem preB_long {t c : ByteArray} (h : t.size < c.size) : preB t c = false := by
  unfold preB
  apply decide_eq_false
  intro hp
  have := hp.length_le
  rw [len_list, len_list] at this
  omega

/-- The last sort with whose Code the text begins, of those up to k. -/
def lastPre (f : List (ByteArray × Int)) (t : ByteArray) : Nat → Option Nat
  | 0 => none
  | k + 1 => if preB t (f.getD k (.empty, 0)).1 then some k else lastPre f t k
def optI : Option Nat → Int | some k => k | none => 0

end Go.Proofs.YtllafkeheppkjaaDoor

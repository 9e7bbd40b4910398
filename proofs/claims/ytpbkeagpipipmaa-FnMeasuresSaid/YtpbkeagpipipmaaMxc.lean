import Derived.Test.YtpbkeagpipipmaaYa
import Derived.OwnWalk
import Derived.Maps.AppendAt
import Derived.Test.YtpbkeagpipipmaaVr
/-
  The contracts of gaOutside, OutsideOff, IsAccepted, WithoutOutside, gaSums, SumsOff and FirstAlarm, in spec and in impl.
-/
namespace Go.Proofs.Ytpbkeagpipipmaa
open Go.RowKit
set_option linter.unusedVariables false

theorem info_int : (Try.prog.info? 3).map (fun i => (i.zero, i.size, i.bytes)) = some (some (.int .i64 0), 1, 8) := by kernel_rfl
/-- The places below k of what is outside. -/
def outT (l : List Int) (m : Int) : Nat → List Int
  | 0 => []
  | k + 1 => if outB (l.getD k 0) m = true then outT l m k ++ [(k : Int)] else outT l m k
/-- What is not outside among the first k. -/
def insT (l : List Int) (m : Int) : Nat → List Int
  | 0 => []
  | k + 1 => if outB (l.getD k 0) m = true then insT l m k else insT l m k ++ [l.getD k 0]
/-- The sum of the first k, each one less a. -/
def smS (l : List Int) (a : Int) : Nat → Int
  | 0 => 0
  | k + 1 => smS l a k + (l.getD k 0 - a)
def smT (l : List Int) (a : Int) (n : Nat) : List Int := (List.range n).map fun i => smS l a (i + 1)
theorem smT_succ (l : List Int) (a : Int) (k : Nat) : smT l a (k + 1) = smT l a k ++ [smS l a (k + 1)] := by simp [smT, List.range_succ]
theorem getD_at {l : List Int} {k : Nat} (h : k < l.length) : l.getD k 0 = l[k] := by rw [List.getD_eq_getElem?_getD, List.getElem?_eq_getElem h]; rfl
theorem outT_yes {l : List Int} {m : Int} {k : Nat} (h : k < l.length) (ho : outB l[k] m = true) : outT l m (k + 1) = outT l m k ++ [(k : Int)] := by show (if _ then _ else _) = _; rw [getD_at h, if_pos ho]
theorem outT_no {l : List Int} {m : Int} {k : Nat} (h : k < l.length) (ho : outB l[k] m = false) : outT l m (k + 1) = outT l m k := by show (if _ then _ else _) = _; rw [getD_at h, if_neg (by rw [ho]; decide)]
theorem insT_yes {l : List Int} {m : Int} {k : Nat} (h : k < l.length) (ho : outB l[k] m = true) : insT l m (k + 1) = insT l m k := by show (if _ then _ else _) = _; rw [getD_at h, if_pos ho]
theorem insT_no {l : List Int} {m : Int} {k : Nat} (h : k < l.length) (ho : outB l[k] m = false) : insT l m (k + 1) = insT l m k ++ [l[k]] := by show (if _ then _ else _) = _; rw [getD_at h, if_neg (by rw [ho]; decide)]
theorem smS_succ {l : List Int} {a : Int} {k : Nat} (h : k < l.length) : smS l a (k + 1) = smS l a k + (l[k] - a) := by show _ + (_ - _) = _; rw [getD_at h]
theorem outT_len (l : List Int) (m : Int) : ∀ k, (outT l m k).length ≤ k
  | 0 => Nat.le_refl _
  | k + 1 => by have := outT_len l m k; unfold outT; split <;> (try simp) <;> omega
theorem insT_len (l : List Int) (m : Int) : ∀ k, (insT l m k).length ≤ k
  | 0 => Nat.le_refl _
  | k + 1 => by have := insT_len l m k; unfold insT; split <;> (try simp) <;> omega
theorem smT_len (l : List Int) (a : Int) (k : Nat) : (smT l a k).length = k := by simp [smT]
theorem smT_get (l : List Int) (a : Int) (n k : Nat) (h : k < (smT l a n).length) : (smT l a n)[k] = smS l a (k + 1) := by simp [smT]
theorem smS_range {l : List Int} {a : Int} (h : GoodT l) (ha : -500 ≤ a ∧ a ≤ 500) : ∀ k, k ≤ l.length → -(1000 * (k : Int)) ≤ smS l a k ∧ smS l a k ≤ 1000 * (k : Int)
  | 0, _ => by simp [smS]
  | k + 1, hk => by
    have h1 := smS_range h ha k (by omega)
    have h2 := h.all k (by omega)
    rw [smS_succ (by omega)]
    omega
def askO (l : List Int) (m : Int) : Bool := gaB l && inB 0 500 m
def askS (l : List Int) (a : Int) : Bool := gaB l && inB (-500) 500 a
theorem askO_iff {l : List Int} {m : Int} : askO l m = true ↔ GoodT l ∧ 0 ≤ m ∧ m ≤ 500 := by unfold askO; rw [Bool.and_eq_true, gaB_iff, inB_iff]
theorem askS_iff {l : List Int} {a : Int} : askS l a = true ↔ GoodT l ∧ -500 ≤ a ∧ a ≤ 500 := by unfold askS; rw [Bool.and_eq_true, gaB_iff, inB_iff]
def outV (l : List Int) (m : Int) : List Int := if askO l m = true then outT l m l.length else []
def sumV (l : List Int) (a : Int) : List Int := if askS l a = true then smT l a l.length else []
theorem outV_no {l : List Int} {m : Int} (h : askO l m = false) : outV l m = [] := by unfold outV; rw [h]; simp
theorem outV_yes {l : List Int} {m : Int} (h : askO l m = true) : outV l m = outT l m l.length := by unfold outV; rw [h]; simp
theorem sumV_no {l : List Int} {a : Int} (h : askS l a = false) : sumV l a = [] := by unfold sumV; rw [h]; simp
theorem sumV_yes {l : List Int} {a : Int} (h : askS l a = true) : sumV l a = smT l a l.length := by unfold sumV; rw [h]; simp
theorem outV_len (l : List Int) (m : Int) : (outV l m).length ≤ 1048576 := by
  cases h : askO l m
  · rw [outV_no h]; simp
  · rw [outV_yes h]; have := outT_len l m l.length; have := (askO_iff.1 h).1.most; omega
theorem sumV_len (l : List Int) (a : Int) : (sumV l a).length ≤ 1048576 := by
  cases h : askS l a
  · rw [sumV_no h]; simp
  · rw [sumV_yes h, smT_len]; have := (askS_iff.1 h).1.most; omega
/-- What is left, and whether anything is. -/
def lefB (l : List Int) (m : Int) : Bool := askO l m && decide (0 < (insT l m l.length).length)
def lefV (l : List Int) (m : Int) : List Int := if lefB l m = true then insT l m l.length else []
theorem lefV_no {l : List Int} {m : Int} (h : lefB l m = false) : lefV l m = [] := by unfold lefV; rw [h]; simp
theorem lefV_yes {l : List Int} {m : Int} (h : lefB l m = true) : lefV l m = insT l m l.length := by unfold lefV; rw [h]; simp
theorem lefV_len (l : List Int) (m : Int) : (lefV l m).length ≤ 1048576 := by
  cases h : lefB l m
  · rw [lefV_no h]; simp
  · rw [lefV_yes h]
    have h1 : askO l m = true := by unfold lefB at h; exact (Bool.and_eq_true .. ▸ h).1
    have := insT_len l m l.length; have := (askO_iff.1 h1).1.most; omega

/-- A row of ints of its own, after w. -/
def RowTo (w w' : World) (e : Ending) (L : List Int) : Prop := ∃ v, e = .returned v ∧ Below w.heap.size w w' ∧ w'.ownsRow w.heap.size 3 1 v L.length (intsZ L)
/-- A row of ints of its own and a truth value come back. -/
def EnTo (w w' : World) (e : Ending) (l : List Int) (b : Bool) : Prop := ∃ v T, e = .returned (.tuple #[v, .bool b]) ∧ Below w.heap.size w w' ∧ w'.ownsRow w.heap.size T 1 v l.length (intsZ l)
theorem EnTo.no {w w' : World} {l : List Int} {b : Bool} (h1 : l = []) (h2 : b = false) (hb : Below w.heap.size w w') : EnTo w w' (.returned (.tuple #[.slice none 0 0, .bool false])) l b := by
  subst h1; subst h2; exact ⟨_, 3, rfl, hb, own_nil _ _ _ _⟩
theorem EnTo.yes {w w' : World} {l l' : List Int} {n : Nat} {b : Bool} {v : Value} {T : TypeId} (h1 : l = l') (h2 : b = true) (hb : Below w.heap.size w w') (ho : w'.ownsRow w.heap.size T 1 v n (intsZ l')) : EnTo w w' (.returned (.tuple #[v, .bool true])) l b := by
  subst h1; subst h2
  have hn : n = l.length := by have := ho.1; rw [intsZ_len] at this; omega
  subst hn
  exact ⟨v, T, rfl, hb, ho⟩

theorem outB_yes {x m : Int} : outB x m = true ↔ m < absI x := by unfold outB; simp
theorem outB_no {x m : Int} : outB x m = false ↔ absI x ≤ m := by unfold outB; simp

end Go.Proofs.Ytpbkeagpipipmaa

/-
  The contracts of IsAccepted, WithoutOutside, gaSums, SumsOff and FirstAlarm, in spec and in impl.
-/
namespace Go.Proofs.Ytpbkeagpipipmaa
open Go.RowKit
set_option linter.unusedVariables false

theorem Marked.owns {w : World} {g n base : Nat} {e : TypeId} {l : List Value} (h : Marked w g e n l) (hl : l.length = n) (hb : base ≤ g) (hn : n ≤ maxLen) : w.ownsRow base e 1 (.slice (some ⟨g, 0, none⟩) n n) n l := by
  obtain ⟨cur, h1, h2, h3⟩ := h
  exact ⟨by omega, .inr ⟨g, n, cur, rfl, hb, h1, Nat.le_refl _, hn, by omega, by rw [Nat.mul_one, ← hl]; exact h3⟩⟩
def askA (l : List Int) (m a : Int) : Bool := askO l m && inB 0 40 a
def accV (l : List Int) (m a : Int) : Bool := askA l m a && decide (((outT l m l.length).length : Int) ≤ a)
theorem accV_no {l : List Int} {m a : Int} (h : askA l m a = false) : accV l m a = false := by unfold accV; rw [h]; rfl
theorem accV_yes {l : List Int} {m a : Int} (h : askA l m a = true) : accV l m a = decide (((outT l m l.length).length : Int) ≤ a) := by unfold accV; rw [h]; rfl
theorem ret_bb {a b c d : Bool} (h1 : a = b) (h2 : c = d) : Ending.returned (.tuple #[.bool a, .bool c]) = .returned (.tuple #[.bool b, .bool d]) := by rw [h1, h2]
def alB (l : List Int) (a m : Int) : Bool := askS l a && inB 0 20000 m
def alF (l : List Int) (a m : Int) : Option Nat := (smT l a l.length).findIdx? fun x => outB x m
def falB (l : List Int) (a m : Int) : Bool := alB l a m && (alF l a m).isSome
def falV (l : List Int) (a m : Int) : Int := if alB l a m = true then (((alF l a m).getD 0 : Nat) : Int) else 0
theorem fal_no {l : List Int} {a m : Int} (h : alB l a m = false) : falV l a m = 0 ∧ falB l a m = false := by unfold falV falB; rw [h]; simp
theorem fal_none {l : List Int} {a m : Int} (h : ∀ j, j < l.length → outB (smS l a (j + 1)) m = false) : falV l a m = 0 ∧ falB l a m = false := by
  have e : alF l a m = none := by
    unfold alF
    rw [List.findIdx?_eq_none_iff]
    intro x hx
    obtain ⟨j, hj, rfl⟩ := List.mem_iff_getElem.1 hx
    rw [smT_get]
    exact h j (by rw [smT_len] at hj; exact hj)
  unfold falV falB; rw [e]; simp
theorem fal_some {l : List Int} {a m : Int} {k : Nat} (h0 : alB l a m = true) (hk : k < l.length) (h : ∀ j, j < k → outB (smS l a (j + 1)) m = false) (ho : outB (smS l a (k + 1)) m = true) : falV l a m = (k : Int) ∧ falB l a m = true := by
  have e : alF l a m = some k := by
    unfold alF
    rw [List.findIdx?_eq_some_iff_getElem]
    refine ⟨by rw [smT_len]; exact hk, by rw [smT_get]; exact ho, fun j hj => ?_⟩
    rw [smT_get, h j hj]; decide
  unfold falV falB; rw [e, h0]; simp
end Go.Proofs.Ytpbkeagpipipmaa

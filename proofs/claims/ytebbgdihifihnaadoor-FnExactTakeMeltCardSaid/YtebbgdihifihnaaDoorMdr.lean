/-
  The contract of AfterDross, in spec and in impl, and of spec.meUp, impl.divideUp, spec.l1Most: each answers what the plain words here say and changes nothing that was there.
-/
import Derived.Test.YtebbgdihifihnaaDoorMel
import Derived.Test.YtebbgdihifihnaaDoorTail
import Derived.Deep.RegionHeld3
import Derived.IntWalk
import Derived.Deep.DeepCutAuto
namespace Go.Proofs.YtebbgdihifihnaaDoor
open Go.RowKit
set_option linter.unusedVariables false

theorem l1Most_any (a b : Int) (w : World) :
    Calls Tryd.prog 54 #[.int .i64 a, .int .i64 b] w fun e w' => e = .returned (.int .i64 (if b < a then a else b)) ∧ w = w' := by
  by_cases h : b < a
  · go_enter Tryd.func54, Tryd.ntmps54
    go_wp2
    go_ret
    exact ⟨rfl, rfl⟩
  · go_enter Tryd.func54, Tryd.ntmps54
    go_wp2
    go_ret
    exact ⟨rfl, rfl⟩
def upV (a b : Int) : Int := (a + b - 1) / b
theorem upV_nonneg {a b : Int} (h : 0 ≤ a) (hb : 0 < b) : 0 ≤ upV a b := Int.ediv_nonneg (by omega) (by omega)
theorem meUp_any (a b : Int) (w : World) (h0 : 0 ≤ a) (h1 : a ≤ 1000000000000) (hb : 0 < b) (hb1 : b ≤ 1000000) :
    Calls Tryd.prog 78 #[.int .i64 a, .int .i64 b] w fun e w' => e = .returned (.int .i64 (upV a b)) ∧ w = w' := by
  have HN := Lib.hid (upV_nonneg h0 hb)
  have HU : Hid (upV a b = (a + b - 1) / b) := Lib.hid rfl
  have hne : b ≠ 0 := by omega
  go_enter Tryd.func78, Tryd.ntmps78
  go_wp2_with fail
  refine (l1Most_any _ _ _).mono ?_
  rintro e w1 ⟨rfl, rfl⟩
  rw [← HU.out, if_neg (by have := HN.out; omega)]
  go_wp2
  go_ret
  exact ⟨rfl, rfl⟩
theorem divideUp_any (a b : Int) (w : World) (h0 : 0 ≤ a) (h1 : a ≤ 1000000000000) (hb : 0 < b) (hb1 : b ≤ 1000000) :
    Calls Tryd.prog 79 #[.int .i64 a, .int .i64 b] w fun e w' => e = .returned (.int .i64 (upV a b)) ∧ w = w' := by
  have hne : b ≠ 0 := by omega
  go_enter Tryd.func79, Tryd.ntmps79
  go_wp2
  go_ret
  exact ⟨rfl, rfl⟩

def dr (z p : Int) : Int := upV (z * p) 100
theorem meUp_dr (z p : Int) (w : World) (h : 0 ≤ z * p ∧ z * p ≤ 100000000) :
    Calls Tryd.prog 78 #[.int .i64 (z * p), .int .i64 100] w fun e w' => e = .returned (.int .i64 (dr z p)) ∧ w = w' :=
  meUp_any _ _ _ h.1 (by omega) (by omega) (by omega)
theorem divideUp_dr (z p : Int) (w : World) (h : 0 ≤ z * p ∧ z * p ≤ 100000000) :
    Calls Tryd.prog 79 #[.int .i64 (z * p), .int .i64 100] w fun e w' => e = .returned (.int .i64 (dr z p)) ∧ w = w' :=
  divideUp_any _ _ _ h.1 (by omega) (by omega) (by omega)
def leftM (m : Me) (p : Int) : Me := ⟨m.lea - dr m.lea p, m.tin - dr m.tin p, m.ant - dr m.ant p⟩
def zMe : Me := ⟨0, 0, 0⟩
def drossB (m : Me) (p : Int) : Bool := goodM m && inB 0 100 p
def drossM (m : Me) (p : Int) : Me := if drossB m p then leftM m p else zMe
def drossN (m : Me) (p : Int) : Int := if drossB m p then dr m.lea p + dr m.tin p + dr m.ant p else 0
theorem dr_bound {z p : Int} (h : 0 ≤ z ∧ z ≤ 1000000) (hp : 0 ≤ p ∧ p ≤ 100) : (0 ≤ z * p ∧ z * p ≤ 100000000) ∧ 0 ≤ dr z p ∧ dr z p ≤ z := by
  have h1 : 0 ≤ z * p := Int.mul_nonneg h.1 hp.1
  have h2 : z * p ≤ z * 100 := Int.mul_le_mul_of_nonneg_left hp.2 h.1
  refine ⟨⟨h1, by omega⟩, ?_⟩
  unfold dr upV
  generalize z * p = q at *
  omega
theorem dross_no1 {m : Me} {p : Int} (h : goodM m = false) : drossM m p = zMe ∧ drossN m p = 0 ∧ drossB m p = false := by
  have e : drossB m p = false := by unfold drossB; rw [h]; rfl
  unfold drossM drossN; rw [e]; exact ⟨rfl, rfl, rfl⟩
theorem dross_no2 {m : Me} {p : Int} (h : inB 0 100 p = false) : drossM m p = zMe ∧ drossN m p = 0 ∧ drossB m p = false := by
  have e : drossB m p = false := by unfold drossB; rw [h]; simp
  unfold drossM drossN; rw [e]; exact ⟨rfl, rfl, rfl⟩
theorem dross_yes {m : Me} {p : Int} (h : goodM m = true) (h2 : inB 0 100 p = true) : drossM m p = leftM m p ∧ drossN m p = dr m.lea p + dr m.tin p + dr m.ant p ∧ drossB m p = true := by
  have e : drossB m p = true := by unfold drossB; rw [h, h2]; rfl
  unfold drossM drossN; rw [e]; exact ⟨rfl, rfl, rfl⟩
theorem ret_mnb {a a' : Me} {n n' : Int} {b b' : Bool} (h1 : a = a') (h2 : n = n') (h3 : b = b') : Ending.returned (.tuple #[.agg #[.int .i64 a.lea, .int .i64 a.tin, .int .i64 a.ant], .int .i64 n, .bool b]) = .returned (.tuple #[.agg #[.int .i64 a'.lea, .int .i64 a'.tin, .int .i64 a'.ant], .int .i64 n', .bool b']) := by rw [h1, h2, h3]

theorem MeAt.put3 {w : World} {b : Nat} {t : TypeId} {m : Me} (h : MeAt w b t m) (x y z : Int) : MeAt (((w.setCell ⟨b, 0, none⟩ (.int .i64 x)).setCell ⟨b, 1, none⟩ (.int .i64 y)).setCell ⟨b, 2, none⟩ (.int .i64 z)) b t ⟨x, y, z⟩ := by
  have h1 := heap_set (i := 0) h (.int .i64 x)
  have h2 := heap_set (i := 1) h1 (.int .i64 y)
  have h3 := heap_set (i := 2) h2 (.int .i64 z)
  exact h3
theorem nextB {w0 x y : World} (h : Hid (Below w0.heap.size w0 x)) (hb : Below x.heap.size x y) : Hid (Below w0.heap.size w0 y) := Lib.hid (h.out.trans (hb.mono h.out.size))
theorem nextM {x y : World} {b : Nat} {t : TypeId} {m : Me} (h : Hid (MeAt x b t m)) (hb : Below x.heap.size x y) : Hid (MeAt y b t m) := Lib.hid (h.out.next hb)
def drAt (m : Me) (p : Int) (k : Nat) : Int := dr (m.zs.getD k 0) p
def sumD (m : Me) (p : Int) : Nat → Int | 0 => 0 | k + 1 => sumD m p k + drAt m p k
/-- The first k rests are laid. -/
def lfK (m : Me) (p : Int) (k : Nat) : Me := ⟨if 0 < k then m.lea - dr m.lea p else 0, if 1 < k then m.tin - dr m.tin p else 0, if 2 < k then m.ant - dr m.ant p else 0⟩
theorem lfK_succ (m : Me) (p : Int) {k : Nat} (h : k < 3) : (intsZ (lfK m p k).zs).set k (.int .i64 (m.zs.getD k 0 - drAt m p k)) = intsZ (lfK m p (k + 1)).zs := by
  have hc : k = 0 ∨ k = 1 ∨ k = 2 := by omega
  rcases hc with rfl | rfl | rfl <;> rfl
theorem zsK_at (m : Me) {k : Nat} (h : k < 3) : ∃ v, (intsZ m.zs)[k]? = some v := by
  have hc : k = 0 ∨ k = 1 ∨ k = 2 := by omega
  rcases hc with rfl | rfl | rfl <;> exact ⟨_, rfl⟩
theorem zs_getD (s : Me) {k : Nat} (h : k < s.zs.length) : s.zs[k] = s.zs.getD k 0 := by rw [List.getD_eq_getElem?_getD, List.getElem?_eq_getElem h]; rfl
theorem zs_good {s : Me} (h : goodM s = true) (k : Nat) (hk : k < 3) : 0 ≤ s.zs.getD k 0 ∧ s.zs.getD k 0 ≤ 1000000 := by
  obtain ⟨b0, b1, b2⟩ := goodM_bounds h
  have hc : k = 0 ∨ k = 1 ∨ k = 2 := by omega
  rcases hc with rfl | rfl | rfl
  · exact b0
  · exact b1
  · exact b2
theorem own_put {w : World} {b : Nat} {t : TypeId} {cs : List Value} (h : Own w b t cs) (i : Nat) (v : Value) : Own (w.setCell ⟨b, i, none⟩ v) b t (cs.set i v) := by
  have h2 := heap_set (i := i) h v
  unfold Own
  rw [h2]
  simp
theorem own_me {w : World} {b : Nat} {t : TypeId} {s : Me} (h : Own w b t (intsZ s.zs)) : MeAt w b t s := h
theorem drM_full (m : Me) (p : Int) : lfK m p 3 = leftM m p := rfl

end Go.Proofs.YtebbgdihifihnaaDoor

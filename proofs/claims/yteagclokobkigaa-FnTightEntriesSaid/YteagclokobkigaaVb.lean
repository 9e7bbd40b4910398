/-
  Tables in memory (a block whose cells are told by a function of the index), and the contracts of spec.l1Rising (from 1 to 54), wsKinds, AreSpaces, wsAsked and impl.AreSpaces, isFillWidth: each answers what the plain words here say and leaves the world as it is.
-/
import Derived.Test.YteagclokobkigaaVa
import Derived.Test.YteagclokobkigaaIn
import Derived.Test.YteagclokobkigaaTail
import Derived.IntWalk
namespace Go.Proofs.Yteagclokobkigaa
open Go.RowKit
set_option linter.unusedVariables false

/-- Block b has n cells; cell j holds f j. -/
def Tb (w : World) (b : Nat) (t : TypeId) (n : Nat) (f : Nat → Value) : Prop := ∃ cs : Array Value, w.heap[b]? = some (.cells cs t (0, 0)) ∧ cs.size = n ∧ ∀ j, j < n → cs[j]? = some (f j)
theorem Tb.lt {w : World} {b n : Nat} {t : TypeId} {f : Nat → Value} (h : Tb w b t n f) : b < w.heap.size := by obtain ⟨cs, h1, _⟩ := h; exact lt_of_heap h1
theorem Tb.cell {w : World} {b n : Nat} {t : TypeId} {f : Nat → Value} (h : Tb w b t n f) {j : Nat} (hj : j < n) : w.cell? ⟨b, j, none⟩ = some (f j) := by
  obtain ⟨cs, h1, h2, h3⟩ := h; rw [cell_of_heap h1]; exact h3 j hj
theorem Tb.free {w : World} {b n : Nat} {t : TypeId} {f : Nat → Value} (h : Tb w b t n f) (j : Nat) : w.frozen? ⟨b, j, none⟩ = false := by obtain ⟨cs, h1, _⟩ := h; exact free_of_heap h1 j
theorem Tb.set {w : World} {b n : Nat} {t : TypeId} {f : Nat → Value} (h : Tb w b t n f) (i : Nat) (v : Value) : Tb (w.setCell ⟨b, i, none⟩ v) b t n (fun j => if j = i then v else f j) := by
  obtain ⟨cs, h1, h2, h3⟩ := h
  refine ⟨_, heap_set h1 v, by simpa using h2, fun j hj => ?_⟩
  by_cases e : j = i
  · subst e; simp [h2, hj]
  · show _ = some (if j = i then v else f j)
    rw [if_neg e, ← h3 j hj]; simp [Ne.symm e]
theorem Tb.cong {w : World} {b n : Nat} {t : TypeId} {f g : Nat → Value} (h : Tb w b t n f) (hg : ∀ j, j < n → f j = g j) : Tb w b t n g := by
  obtain ⟨cs, h1, h2, h3⟩ := h; exact ⟨cs, h1, h2, fun j hj => by rw [h3 j hj, hg j hj]⟩
theorem Tb.below {w w' : World} {b n B : Nat} {t : TypeId} {f : Nat → Value} (h : Tb w b t n f) (hb : Below B w w') (hB : b < B) : Tb w' b t n f := by
  obtain ⟨cs, h1, h2⟩ := h; exact ⟨cs, (hb.block b hB).trans h1, h2⟩
theorem Tb.next {w w' : World} {b n : Nat} {t : TypeId} {f : Nat → Value} (h : Tb w b t n f) (hb : Below w.heap.size w w') : Tb w' b t n f := h.below hb h.lt
theorem Tb.alloc {w : World} {b n : Nat} {t : TypeId} {f : Nat → Value} (h : Tb w b t n f) (o : Obj) : Tb (w.alloc o) b t n f := h.next ((Below.refl _ _).alloc (Nat.le_refl _) _)
theorem Tb.other {w : World} {b n : Nat} {t : TypeId} {f : Nat → Value} (h : Tb w b t n f) {c i : Nat} (v : Value) (hc : b ≠ c) : Tb (w.setCell ⟨c, i, none⟩ v) b t n f := by
  obtain ⟨cs, h1, h2⟩ := h; exact ⟨cs, (Below.heap_setCell w ⟨c, i, none⟩ v b hc).trans h1, h2⟩
theorem Tb.grown {w w' : World} {b n : Nat} {t : TypeId} {f : Nat → Value} {row : Option Nat} (h : Tb w b t n f) (hg : w.grownBy w' row) (hr : some b ≠ row) : Tb w' b t n f := by
  have hl := h.lt
  obtain ⟨cs, h1, h2⟩ := h; exact ⟨cs, (hg.block b hl hr).trans h1, h2⟩
theorem Tb.ints {w : World} {b n : Nat} {t : TypeId} {f : Nat → Value} (h : Tb w b t n f) {g : Nat → Int} (hf : ∀ j, j < n → f j = .int .i64 (g j)) {l : List Int} (hl : l.length = n) (hg : ∀ j (hj : j < l.length), l[j] = g j) : IntsIn w (some ⟨b, 0, none⟩) l := fun _ =>
  ⟨b, 0, rfl, h.lt, fun k hk => by rw [Nat.zero_add, h.cell (by omega), hf k (by omega), hg k hk]⟩
/-- A table of ints as a row of its own. -/
theorem Tb.own {w : World} {b base : Nat} {t : TypeId} {f : Nat → Value} {l : List Int} (h : Tb w b t l.length f) (hb : base ≤ b) (hn : l.length ≤ maxLen) (hg : ∀ j (hj : j < l.length), f j = .int .i64 l[j]) : w.ownsRow base t 1 (.slice (some ⟨b, 0, none⟩) l.length l.length) l.length (intsZ l) := by
  obtain ⟨cs, h1, h2, h3⟩ := h
  refine ⟨by rw [intsZ_len]; omega, .inr ⟨b, l.length, cs, rfl, hb, h1, Nat.le_refl _, hn, by omega, ?_⟩⟩
  apply List.ext_getElem
  · simp [intsZ_len, h2]
  · intro i hi1 hi2
    have hi : i < l.length := by rw [intsZ_len] at hi2; exact hi2
    have h4 := h3 i hi
    rw [hg i hi] at h4
    simp only [List.getElem_take, Array.getElem_toList, intsZ, List.getElem_map]
    rw [Array.getElem?_eq_getElem (by omega)] at h4
    exact Option.some.inj h4
theorem info_int : (Try.prog.info? 3).map (fun i => (i.zero, i.size, i.bytes)) = some (some (.int .i64 0), 1, 8) := by kernel_rfl
theorem info_bool : (Try.prog.info? 4).map (fun i => (i.zero, i.size, i.bytes)) = some (some (.bool false), 1, 1) := by kernel_rfl
theorem run_makeI (n : Nat) (hn : n ≤ 1048576) (w : World) :
    (Instr.makeSlice 27 (.int .i64 (n : Int)) (.int .i64 (n : Int))).run Try.prog w = .ok (.slice (some ⟨w.heap.size, 0, none⟩) n n) (w.alloc (.cells (madeCells #[.int .i64 0] (n * 1)) 3)) := by
  obtain ⟨i0, hi, hz0, hz1, hz2⟩ := info_parts info_int
  have h := run_make (P := Try.prog) w 27 3 i0 _ Try.underlying27 hi hz0 .i64 .i64 (n : Int) (n : Int) (by omega) (Int.le_refl _) (by rw [hz2]; omega) (by omega)
  rw [hz1, Int.toNat_natCast] at h
  exact h
theorem made_int (w : World) (n : Nat) (t : TypeId) : Tb (w.alloc (.cells (madeCells #[.int .i64 0] (n * 1)) t)) w.heap.size t n (fun _ => .int .i64 0) :=
  ⟨_, heap_new _ _, by rw [size_madeCells]; omega, fun j hj => by simp [madeCells, hj, Nat.mod_one]⟩
theorem made_bool (w : World) (n : Nat) (t : TypeId) : Tb (w.alloc (.cells (madeCells #[.bool false] (n * 1)) t)) w.heap.size t n (fun _ => .bool false) :=
  ⟨_, heap_new _ _, by rw [size_madeCells]; omega, fun j hj => by simp [madeCells, hj, Nat.mod_one]⟩

/-- What stands before number k. -/
def prv (l : List Int) : Nat → Int | 0 => 0 | k + 1 => l.getD k 0
/-- The first k rise, from 1 to 54. -/
def Rs (l : List Int) (k : Nat) : Prop := ∀ j (h : j < l.length), j < k → prv l j < l[j] ∧ l[j] ≤ 54
theorem Rs.start (l : List Int) : Rs l 0 := fun _ _ h => absurd h (by omega)
theorem Rs.succ {l : List Int} {k : Nat} (h : Rs l k) (hk : k < l.length) (h1 : prv l k < l[k]) (h2 : l[k] ≤ 54) : Rs l (k + 1) := fun j hj hjk => by
  rcases Nat.lt_or_ge j k with h3 | h3
  · exact h j hj h3
  · obtain rfl : j = k := by omega
    exact ⟨h1, h2⟩
theorem Rs.pos {l : List Int} {k : Nat} (h : Rs l k) : ∀ j (hj : j < l.length), j < k → 1 ≤ l[j]
  | 0, hj, hjk => by have := (h 0 hj hjk).1; have e : prv l 0 = 0 := rfl; omega
  | j + 1, hj, hjk => by
    have h1 := (h (j + 1) hj hjk).1
    have h2 := h.pos j (by omega) (by omega)
    have e : prv l (j + 1) = l[j] := by show l.getD j 0 = _; rw [List.getD_eq_getElem?_getD, List.getElem?_eq_getElem (by omega)]; rfl
    omega
theorem prv_succ {l : List Int} {j : Nat} (h : j < l.length) : prv l (j + 1) = l[j] := by show l.getD j 0 = _; rw [List.getD_eq_getElem?_getD, List.getElem?_eq_getElem h]; rfl
theorem Rs.prv_nonneg {l : List Int} {k : Nat} (h : Rs l k) (hk : k ≤ l.length) : 0 ≤ prv l k := by
  cases k with
  | zero => exact Int.le_refl _
  | succ j => rw [prv_succ (by omega)]; have := h.pos j (by omega) (by omega); omega
theorem Rs.no {l : List Int} {k : Nat} (hk : k < l.length) (h : ¬ (prv l k < l[k] ∧ l[k] ≤ 54)) : ¬ Rs l l.length := fun hr => h (hr k hk hk)
open Classical in
noncomputable def risB (l : List Int) : Bool := decide (Rs l l.length)
theorem risB_iff {l : List Int} : risB l = true ↔ Rs l l.length := by unfold risB; exact @decide_eq_true_iff _ (Classical.propDecidable _)
theorem risB_no {l : List Int} (h : ¬ Rs l l.length) : risB l = false := by cases hb : risB l with | false => rfl | true => exact absurd (risB_iff.1 hb) h
noncomputable def kindsB (l : List Int) : Bool := inB 1 6 (l.length : Int) && risB l
noncomputable def wAsk (l : List Int) (n : Int) : Bool := kindsB l && inB 0 400 n
theorem inB_iff {a b c : Int} : inB a b c = true ↔ a ≤ c ∧ c ≤ b := by simp [inB]
/-- Kinds of spaces. -/
structure GoodK (l : List Int) : Prop where
  one : 1 ≤ l.length
  six : l.length ≤ 6
  rise : Rs l l.length
theorem kindsB_iff {l : List Int} : kindsB l = true ↔ GoodK l := by
  unfold kindsB
  rw [Bool.and_eq_true, inB_iff, risB_iff]
  exact ⟨fun h => ⟨by omega, by omega, h.2⟩, fun h => ⟨⟨by have := h.one; omega, by have := h.six; omega⟩, h.rise⟩⟩
theorem GoodK.pos {l : List Int} (h : GoodK l) : Pos l := fun k hk => by
  obtain ⟨j, hj, rfl⟩ := List.mem_iff_getElem.1 hk
  exact h.rise.pos j hj hj
theorem GoodK.le {l : List Int} (h : GoodK l) {j : Nat} (hj : j < l.length) : l[j] ≤ 54 := (h.rise j hj hj).2
theorem wAsk_iff {l : List Int} {n : Int} : wAsk l n = true ↔ GoodK l ∧ 0 ≤ n ∧ n ≤ 400 := by
  unfold wAsk
  rw [Bool.and_eq_true, kindsB_iff, inB_iff]

end Go.Proofs.Yteagclokobkigaa

import Derived.Test.YtnbnegkoanidmaaGreatDoorMsc
import Derived.Test.YtnbnegkoanidmaaGreatDoorMsb
/-
  The contracts of the laws' own helpers on slices of integers and of sorts: laws.eqIntS, laws.markIntS, laws.heldIntS, laws.markText, laws.markSortS.
-/
namespace Go.Proofs.YtnbnegkoanidmaaGreatDoor.S1
open Go.RowKit
set_option linter.unusedVariables false

def intsZ (l : List Int) : List Value := l.map fun i => .int .i64 i
theorem ints_Z (l : List Nat) : ints l = intsZ (l.map fun i : Nat => (i : Int)) := by simp [ints, intsZ]
/-- A slice of ints at A reads as l. -/
def IntsIn (w : World) (A : Option Addr) (l : List Int) : Prop :=
  0 < l.length → ∃ b off, A = some ⟨b, off, none⟩ ∧ b < w.heap.size ∧ ∀ k (h : k < l.length), w.cell? ⟨b, off + k, none⟩ = some (.int .i64 l[k])
theorem IntsIn.below {w w' : World} {B : Nat} {A : Option Addr} {l : List Int} (h : IntsIn w A l) (hb : Below B w w') (hB : w.heap.size ≤ B) : IntsIn w' A l := by
  intro hn
  obtain ⟨b, off, rfl, h2, h3⟩ := h hn
  refine ⟨b, off, rfl, Nat.lt_of_lt_of_le h2 hb.size, fun k hk => ?_⟩
  rw [hb.cell (by show b < B; omega)]
  exact h3 k hk
theorem own_ints {w : World} {base n : Nat} {e : TypeId} {v : Value} {l : List Int} (h : w.ownsRow base e 1 v n (intsZ l)) : ∃ A c, v = .slice A l.length c ∧ n = l.length ∧ IntsIn w A l := by
  have hn : n = l.length := by have := h.1; simp [intsZ] at this; omega
  subst hn
  rcases h.2 with ⟨rfl, h0⟩ | ⟨g, cap, cur, rfl, hg, hh, h1, h2, h3, h4⟩
  · exact ⟨none, 0, by rw [h0], rfl, fun h => absurd h (by omega)⟩
  · refine ⟨_, _, rfl, rfl, fun _ => ⟨g, 0, rfl, lt_of_heap hh, fun k hk => ?_⟩⟩
    rw [h.cellAt (0 + k) (by omega)]
    simp [intsZ, hk]

/-- The marks k, k+1, .. -/
def marks (k : Int) (n : Nat) : List Int := (List.range n).map fun i : Nat => k + (i : Int)
theorem marks_len (k : Int) (n : Nat) : (marks k n).length = n := by simp [marks]
theorem marks_get (k : Int) (n i : Nat) (h : i < (marks k n).length) : (marks k n)[i] = k + (i : Int) := by simp [marks]

theorem grown_set {w w' : World} {g : Nat} (h : w.grownBy w' (some g)) (j : Nat) (u : Value) : w.grownBy (w'.setCell ⟨g, j, none⟩ u) (some g) :=
  ⟨h.os, h.tape, h.output, by simpa [World.setCell] using h.size, fun i hi hne => (Below.heap_setCell w' _ u i (by rintro rfl; exact hne rfl)).trans (h.block i hi hne)⟩
theorem grown_below {w w1 w' : World} {row : Option Nat} (h : w.grownBy w1 row) (hb : Below w1.heap.size w1 w') : w.grownBy w' row :=
  ⟨hb.os.trans h.os, hb.tape.trans h.tape, hb.output.trans h.output, Nat.le_trans h.size hb.size, fun i hi hne => (hb.block i (Nat.lt_of_lt_of_le hi h.size)).trans (h.block i hi hne)⟩

/-- The first j cells of block g hold the marks. -/
def Marked (w : World) (g : Nat) (e : TypeId) (cap : Nat) (l : List Value) : Prop := ∃ cur : Array Value, w.heap[g]? = some (.cells cur e (0, 0)) ∧ cur.size = cap ∧ cur.toList.take l.length = l
theorem Marked.at_ {w : World} {g cap j : Nat} {e : TypeId} {l : List Value} (h : Marked w g e cap l) (hj : j < cap) : (∃ u, w.cell? ⟨g, j, none⟩ = some u) ∧ w.frozen? ⟨g, j, none⟩ = false := by
  obtain ⟨cur, h1, h2, _⟩ := h
  exact ⟨⟨_, (cell_of_heap h1 j).trans (Array.getElem?_eq_getElem (by omega))⟩, free_of_heap h1 j⟩
theorem Marked.step {w : World} {g cap : Nat} {e : TypeId} {l : List Value} (h : Marked w g e cap l) (hj : l.length < cap) (u : Value) : Marked (w.setCell ⟨g, l.length, none⟩ u) g e cap (l ++ [u]) := by
  obtain ⟨cur, h1, h2, h3⟩ := h
  refine ⟨_, heap_set h1 u, by simpa using h2, ?_⟩
  rw [List.length_append, Array.toList_setIfInBounds, show l.length + [u].length = l.length + 1 from rfl, List.take_succ_eq_append_getElem (by simp; omega), List.take_set_of_le (Nat.le_refl _), h3]
  simp
theorem Marked.below {w w' : World} {g cap : Nat} {e : TypeId} {l : List Value} (h : Marked w g e cap l) (hb : Below w.heap.size w w') : Marked w' g e cap l := by
  obtain ⟨cur, h1, h2⟩ := h
  exact ⟨cur, (hb.block g (lt_of_heap h1)).trans h1, h2⟩
theorem marks_succ (k : Int) (j : Nat) : marks k (j + 1) = marks k j ++ [k + (j : Int)] := by simp [marks, List.range_succ]

end Go.Proofs.YtnbnegkoanidmaaGreatDoor.S1

/-
  The contracts of laws.markText and laws.markSortS: a mark's text is a function of its number; marking a slice of sorts of the call's own writes into that slice alone.
-/
namespace Go.Proofs.YtnbnegkoanidmaaGreatDoor.S1
open Go.RowKit
set_option linter.unusedVariables false

def digB (j : Nat) : UInt8 := UInt8.ofNat (48 + j % 10)
theorem digB_int (j : Nat) : ((digB j).toNat : Int) = 48 + (j : Int) % 10 := by
  unfold digB
  rw [UInt8.toNat_ofNat', Nat.mod_eq_of_lt (by omega)]; omega
def digs : Nat → Nat → List UInt8 → List UInt8
  | 0, _, acc => acc
  | n + 1, k, acc => if k = 0 then acc else digs n (k / 10) (digB k :: acc)
theorem digs_step {n j : Nat} (acc : List UInt8) (h : j ≤ n) (hj : 0 < j) : ∃ m, j / 10 ≤ m ∧ digs n j acc = digs m (j / 10) (digB j :: acc) := by
  cases n with
  | zero => omega
  | succ n => exact ⟨n, by omega, by simp only [digs]; rw [if_neg (by omega)]⟩
theorem digs_end (n : Nat) (acc : List UInt8) : digs n 0 acc = acc := by cases n <;> simp [digs]
def markT (k : Nat) : ByteArray := ⟨((109 : UInt8) :: digs k k []).toArray⟩
theorem bytes_cons (a : UInt8) (b : List UInt8) : (⟨#[a]⟩ : ByteArray) ++ ⟨b.toArray⟩ = ⟨(a :: b).toArray⟩ := by
  apply ByteArray.ext
  apply Array.ext'
  simp
theorem ret_str {a b : ByteArray} (h : a = b) : Ending.returned (.string a) = .returned (.string b) := by rw [h]

/-- The cells of marked sorts from k on. -/
def markF : Nat → Nat → List (ByteArray × Int)
  | _, 0 => []
  | k, n + 1 => (markT k, (k : Int) + 1) :: markF (k + 2) n
theorem markF_succ : ∀ (n k : Nat), markF k (n + 1) = markF k n ++ [(markT (k + 2 * n), (k : Int) + 2 * (n : Int) + 1)]
  | 0, k => by simp [markF]
  | n + 1, k => by
    rw [markF, markF_succ n (k + 2)]
    simp only [markF, List.cons_append]
    rw [show k + 2 + 2 * n = k + 2 * (n + 1) from by omega, show ((k + 2 : Nat) : Int) + 2 * (n : Int) + 1 = (k : Int) + 2 * ((n + 1 : Nat) : Int) + 1 from by omega]
theorem markF_len (k n : Nat) : (markF k n).length = n := by induction n generalizing k with
  | zero => rfl
  | succ n ih => simp [markF, ih]

end Go.Proofs.YtnbnegkoanidmaaGreatDoor.S1

/-
  Plain facts on rows of the call's own, for the walks of the laws: where a row lies, and that it stays while another row is written.
-/
namespace Go.Proofs.YtnbnegkoanidmaaGreatDoor.S1
open Go.RowKit
set_option linter.unusedVariables false

def intL (l : List Nat) : List Int := l.map fun i : Nat => (i : Int)
theorem intL_len (l : List Nat) : (intL l).length = l.length := by simp [intL]
theorem SetsTo.get {w w' : World} {e : Ending} {r : Option (List Nat)} (h : SetsTo w w' e r) :
    ∃ v, e = .returned (.tuple #[v, .bool r.isSome]) ∧ Below w.heap.size w w' ∧ w'.ownsRow w.heap.size 3 1 v (intL (r.getD [])).length (intsZ (intL (r.getD []))) := by
  cases r with
  | none =>
    obtain ⟨hb, rfl⟩ := h
    exact ⟨_, rfl, hb, own_nil _ _ _ _⟩
  | some l =>
    obtain ⟨hb, v, rfl, ho⟩ := h
    refine ⟨v, rfl, hb, ?_⟩
    rw [ints_Z] at ho
    show _ ∧ _
    rw [show (intL ((some l).getD [])).length = l.length from intL_len l]
    exact ho
theorem own_up {w : World} {base size n : Nat} {e : TypeId} {v : Value} {xs : List Value} (h : w.ownsRow base e size v n xs) : w.ownsRow 0 e size v n xs :=
  ⟨h.1, h.2.imp id fun ⟨g, cap, cur, a, _, c⟩ => ⟨g, cap, cur, a, Nat.zero_le _, c⟩⟩
/-- A row lies below the heap's end. -/
theorem own_bound {w : World} {base size n : Nat} {e : TypeId} {v : Value} {xs : List Value} (h : w.ownsRow base e size v n xs) : ∀ k, v.ownBlock = some k → k < w.heap.size := fun k hk => (h.lt k hk).2
theorem own_from {w : World} {base size n X : Nat} {e : TypeId} {v : Value} {xs : List Value} (h : w.ownsRow base e size v n xs) (hX : X < base) : ∀ k, v.ownBlock = some k → X < k := fun k hk => Nat.lt_of_lt_of_le hX (h.lt k hk).1
theorem own_block_lt {w : World} {base size n X : Nat} {e : TypeId} {v : Value} {xs : List Value} (h : w.ownsRow base e size v n xs) (hX : v.ownBlock = some X) : X < w.heap.size := (h.lt X hX).2
theorem own_grown {w w' : World} {base size n : Nat} {e : TypeId} {v : Value} {xs : List Value} {row : Option Nat} (h : w.ownsRow base e size v n xs) (hg : w.grownBy w' row) (hne : ∀ k, v.ownBlock = some k → row ≠ some k) : w'.ownsRow base e size v n xs :=
  h.kept hg (by
    cases hv : v.ownBlock with
    | none => exact .inl rfl
    | some k => exact .inr fun e => hne k hv e.symm)
theorem Fresh.own {w : World} {b : Nat} {f : List (ByteArray × Int)} (h : Fresh w b f) (hn : f.length ≤ maxLen) : w.ownsRow 0 75 2 (.slice (some ⟨b, 0, none⟩) f.length f.length) f.length (flat f) :=
  ⟨by rw [flat_len]; omega, .inr ⟨b, f.length, _, rfl, Nat.zero_le _, h, Nat.le_refl _, hn, by simp [flat_len]; omega, List.take_of_length_le (by simp [flat_len]; omega)⟩⟩
theorem own_form {w : World} {base n : Nat} {e : TypeId} {v : Value} {l : List Int} (h : w.ownsRow base e 1 v n (intsZ l)) : ∃ A c, v = .slice A l.length c := by
  obtain ⟨A, c, hv, _, _⟩ := own_ints h
  exact ⟨A, c, hv⟩
theorem own_in {w : World} {base n m c : Nat} {e : TypeId} {A : Option Addr} {l : List Int} (h : w.ownsRow base e 1 (.slice A m c) n (intsZ l)) : IntsIn w A l := by
  obtain ⟨A', c', hv, _, hi⟩ := own_ints h
  injection hv with h1
  subst h1
  exact hi
theorem setF_len {f : List (ByteArray × Int)} {s : ByteArray} : ∀ {n p : Nat} {l : List Nat}, setF f s n p = some l → l.length ≤ n
  | 0, p, l, h => by
    simp only [setF] at h
    split at h
    · simp at h; subst h; simp
    · cases h
  | n + 1, p, l, h => by
    simp only [setF] at h
    split at h
    · simp at h; subst h; simp
    · split at h
      · cases h
      · rename_i i _
        cases hr : setF f s n (p + (codeAt f i).length) with
        | none => rw [hr] at h; cases h
        | some m =>
          rw [hr] at h
          simp at h
          subst h
          have := setF_len hr
          simp; omega
theorem sow_len (f : List (ByteArray × Int)) (s : ByteArray) : (intL ((sowF f s).getD [])).length ≤ 16 := by
  rw [intL_len]
  unfold sowF
  split
  · rename_i h
    simp only [Bool.and_eq_true] at h
    have := isWord_len h.2
    cases hr : setW f s with
    | none => simp
    | some l =>
      have := setF_len hr
      simp; omega
  · simp
end Go.Proofs.YtnbnegkoanidmaaGreatDoor.S1

/-
  An argument that is a struct of texts and ints, or a slice of such structs, opened: its cells are texts and ints. (No function is named here.)
-/
import Derived.Test.YtllafkeheppkjaaDoorOpenI
import Derived.Deep.Slices
import Derived.Deep.Fields
import Derived.ChangeSame
namespace Go.Proofs.YtllafkeheppkjaaDoor
open Go.ChangeShapes Go.WideShapes Go.ChangeAt Go.RowKit Go.Joins Go.Deep
set_option linter.unusedVariables false

section
variable {H : Type} {enc : TypeId × Value → H} {P : Program} {W : World} {base : Nat} {sp : Nat → Bool} {hd : Bool}

def isI64 : Option TypeDesc → Bool | some (.int .i64) => true | _ => false
theorem isI64_eq {d : Option TypeDesc} (h : isI64 d = true) : d = some (.int .i64) := by
  unfold isI64 at h
  split at h
  · rfl
  · cases h
def isTxt : Option TypeDesc → Bool | some .string => true | _ => false
theorem isTxt_eq {d : Option TypeDesc} (h : isTxt d = true) : d = some .string := by
  unfold isTxt at h
  split at h
  · rfl
  · cases h
/-- The fields are texts and ints, one cell each, as ks says (true: a text). -/
def tiFields (P : Program) (fs : Array Field) (ks : List Bool) : Bool :=
  fs.size == ks.length && (List.range fs.size).all fun j => match fs[j]?, ks[j]? with
    | some f, some k => f.offset == j && P.cellsOf f.type == 1 && (if k then isTxt (P.underlying f.type) else isI64 (P.underlying f.type))
    | _, _ => false
/-- A cell is a text or an int. -/
def tiVal : Bool → Value → Prop
  | true, v => ∃ s : ByteArray, v = .string s ∧ s.size ≤ maxLen
  | false, v => ∃ z : Int, v = .int .i64 z ∧ (Lit.int .i64 z).wf = true
def tiVals : List Bool → List Value → Prop
  | [], cs => cs = []
  | k :: ks, cs => ∃ v r, cs = v :: r ∧ tiVal k v ∧ tiVals ks r
theorem tiVals_of : ∀ {ks : List Bool} {cs : List Value}, cs.length = ks.length → (∀ j (h : j < cs.length) (h' : j < ks.length), tiVal ks[j] cs[j]) → tiVals ks cs
  | [], [], _, _ => rfl
  | k :: ks, v :: r, hl, h => ⟨v, r, rfl, h 0 (by simp) (by simp), tiVals_of (by simpa using hl) fun j h1 h2 => h (j + 1) (by simpa using h1) (by simpa using h2)⟩
theorem tiFields_size {fs : Array Field} {ks : List Bool} (h : tiFields P fs ks = true) : fs.size = ks.length := by
  unfold tiFields at h
  simp only [Bool.and_eq_true, beq_iff_eq] at h
  exact h.1
theorem tiFields_at {fs : Array Field} {ks : List Bool} (h : tiFields P fs ks = true) {j : Nat} (hj : j < fs.size) (hk : j < ks.length) : fs[j].offset = j ∧ P.cellsOf fs[j].type = 1 ∧ (if ks[j] then isTxt (P.underlying fs[j].type) else isI64 (P.underlying fs[j].type)) = true := by
  unfold tiFields at h
  simp only [Bool.and_eq_true] at h
  have h1 := List.all_eq_true.1 h.2 j (List.mem_range.2 hj)
  rw [Array.getElem?_eq_getElem hj, List.getElem?_eq_getElem hk] at h1
  simp only [Bool.and_eq_true, beq_iff_eq] at h1
  exact ⟨h1.1.1, h1.1.2, h1.2⟩

theorem trod_ti {t : TypeId} {fs : Array Field} {ks : List Bool} {m : Nat} {cs : List Value} {x : DataW H × List MemPlace} (ht : P.underlying t = some (.struct fs)) (hi : tiFields P fs ks = true) (hC : P.cellsOf t = fs.size)
    (h : DataW.trod enc P W base sp hd m t cs = some x) : tiVals ks cs := by
  obtain ⟨xs, n, _, _, hlen, hxl, hg⟩ := DataW.trod_struct ht h
  rw [hC] at hlen
  have hks := tiFields_size hi
  refine tiVals_of (by omega) fun j hj hk => ?_
  have hj' : j < fs.size := by omega
  obtain ⟨h1, h2, h3⟩ := tiFields_at hi hj' hk
  have h4 := hg j fs[j] (Array.getElem?_eq_getElem hj')
  rw [h1, h2, List.drop_eq_getElem_cons hj, List.take_succ_cons, List.take_zero, List.getElem?_eq_getElem (by omega)] at h4
  cases hkj : ks[j] with
  | true =>
    rw [hkj, if_pos rfl] at h3
    obtain ⟨s, e, _, hs⟩ := DataW.trod_string (isTxt_eq h3) h4
    simp at e
    exact ⟨s, e, hs⟩
  | false =>
    rw [hkj, if_neg (by decide)] at h3
    obtain ⟨z, e, _, hz⟩ := DataW.trod_int (isI64_eq h3) h4
    simp at e
    exact ⟨z, e, hz⟩

theorem open_ti_agg {r : Reach} {b0 : Nat} {t : TypeId} {fs : Array Field} {ks : List Bool} {v : Value} {d : DataW H} {p : List MemPlace} (ht : P.underlying t = some (.struct fs)) (hi : tiFields P fs ks = true) (hC : P.cellsOf t = fs.size)
    (hv : Value.okWide P W r b0 t v) (h : DataW.Trod enc P W base sp hd t v d p) : ∃ cs : List Value, v = .agg cs.toArray ∧ tiVals ks cs := by
  obtain ⟨cs, rfl, hsz⟩ := okWide_struct ht hv
  obtain ⟨fuel, hf⟩ := h
  exact ⟨cs.toList, by simp, by simpa [Value.cells] using trod_ti ht hi hC hf⟩

theorem open_ti_rows {r : Reach} {b0 : Nat} {t e : TypeId} {fs : Array Field} {ks : List Bool} {v : Value} {d : DataW H} {p : List MemPlace} (hs : P.underlying t = some (.slice e)) (ht : P.underlying e = some (.struct fs)) (hi : tiFields P fs ks = true) (hC : P.cellsOf e = fs.size) (hks : ks ≠ [])
    (hv : Value.okWide P W r b0 t v) (h : DataW.Trod enc P W base sp hd t v d p) :
    ∃ (A : Option Addr) (len cap : Nat) (Z : Nat → List Value), v = .slice A len cap ∧ len ≤ maxLen ∧ len ≤ cap ∧ (∀ i, i < len → tiVals ks (Z i)) ∧
      (0 < len → ∃ b off, A = some ⟨b, off, none⟩ ∧ ∀ i, i < len → ∀ j (hj : j < (Z i).length), W.cell? ⟨b, off + i * fs.size + j, none⟩ = some (Z i)[j] ∧ b < W.heap.size) := by
  obtain ⟨A, len, cap, rfl⟩ := okWide_slice hs hv
  obtain ⟨fuel, hf⟩ := h
  rcases open_slice hs hf with ⟨hcs, _⟩ | ⟨a, l, c, m, n, D, Pl, hcs, hb, hl, hm, hmm, _, hel⟩
  · simp [Value.cells] at hcs
    obtain ⟨rfl, rfl, rfl⟩ := hcs
    exact ⟨none, 0, 0, fun _ => [], rfl, by simp, Nat.le_refl _, fun i h => absurd h (by omega), fun h => absurd h (by omega)⟩
  · simp [Value.cells] at hcs
    obtain ⟨rfl, rfl, rfl⟩ := hcs
    have hlm : len ≤ m := by rw [hmm]; split <;> omega
    have key : ∀ i, ∃ zs : List Value, i < len → tiVals ks zs ∧ ∀ j (hj : j < zs.length), W.cell? ((a.add (i * fs.size)).add j) = some zs[j] := by
      intro i
      by_cases hi' : i < len
      · obtain ⟨cs', hc, ht'⟩ := hel i (by omega)
        rw [hC] at hc
        have h1 := trod_ti ht hi hC ht'
        obtain ⟨_, hcl, hat⟩ := World.cells?_some hc
        refine ⟨cs', fun _ => ⟨h1, fun j hj => ?_⟩⟩
        have := hat j (by omega)
        rw [this, List.getElem?_eq_getElem hj]
      · exact ⟨[], fun h => absurd h hi'⟩
    obtain ⟨Z, hZ⟩ := Classical.axiomOfChoice key
    refine ⟨some a, len, cap, Z, rfl, by omega, hl, fun i h => (hZ i h).1, ?_⟩
    intro h0
    obtain ⟨b, off, s⟩ := a
    have hpos : 0 < (Z 0).length := by
      have := (hZ 0 h0).1
      cases ks with
      | nil => exact absurd rfl hks
      | cons k r =>
        obtain ⟨v, q, e, _⟩ := this
        rw [e]; simp
    have g0 := (hZ 0 h0).2 0 hpos
    generalize (Z 0)[0] = z0 at g0
    have e0 : (⟨b, off, s⟩ : Addr).add (0 * fs.size) = ⟨b, off, s⟩ := by simp [Addr.add]
    rw [e0] at g0
    obtain rfl := spot_of_cell g0
    refine ⟨b, off, rfl, fun i hlt j hj => ?_⟩
    have g := (hZ i hlt).2 j hj
    rw [add_flat, add_flat] at g
    exact ⟨g, World.block_lt_of_cell? W _ g⟩
end
end Go.Proofs.YtllafkeheppkjaaDoor

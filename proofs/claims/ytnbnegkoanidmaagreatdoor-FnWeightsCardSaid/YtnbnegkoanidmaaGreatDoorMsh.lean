import Derived.Test.YtnbnegkoanidmaaGreatDoorMsd
import Derived.Lib.AppendZerosOnto
import Derived.Lib.SliceRun
import Derived.Test.YtnbnegkoanidmaaGreatDoorMsc
import Derived.Lib.Bytealg
import Derived.Test.YtnbnegkoanidmaaGreatDoorMsf
import Derived.Deep.RegionLaw
/-
  The contracts of the instances of slices.Grow (at the nil slice) and of slices.Concat (over parts that are not nil): a new row that holds the parts one after the other.
-/
namespace Go.Proofs.YtnbnegkoanidmaaGreatDoor.S1
open Go.RowKit
set_option linter.unusedVariables false

def Grown0 (w w' : World) (e : Ending) : Prop := ∃ v, e = .returned v ∧ Below w.heap.size w w' ∧ w'.ownsRow w.heap.size 75 2 v 0 []

/-- A part that is handed to slices.Concat: where it lies, its length and room, its cells. -/
structure Part3 where
  a : Addr
  m : Nat
  c : Nat
  xs : List Value
def Part3.val (p : Part3) : Value := .slice (some p.a) p.m p.c
/-- The part's cells are there. -/
def Part3.Reads (p : Part3) (w : World) : Prop := p.xs.length = p.m * 2 ∧ p.a.block < w.heap.size ∧ (∀ j u, p.xs[j]? = some u → w.cell? (p.a.add j) = some u) ∧ ∀ u ∈ p.xs, u.oneCell' = true
theorem block_add (a : Addr) (n : Nat) : (a.add n).block = a.block := by unfold Addr.add; split <;> rfl
theorem Part3.Reads.below {p : Part3} {w w' : World} {B : Nat} (h : p.Reads w) (hb : Below B w w') (hB : w.heap.size ≤ B) : p.Reads w' :=
  ⟨h.1, Nat.lt_of_lt_of_le h.2.1 hb.size, fun j u hu => (hb.cell (by rw [block_add]; have := h.2.1; omega)).trans (h.2.2.1 j u hu), h.2.2.2⟩
def lens : List Part3 → Nat
  | [] => 0
  | p :: r => p.m + lens r
def allXs : List Part3 → List Value
  | [] => []
  | p :: r => p.xs ++ allXs r
theorem lens_append (a b : List Part3) : lens (a ++ b) = lens a + lens b := by
  induction a with
  | nil => simp [lens]
  | cons x a ih => simp only [List.cons_append, lens, ih]; omega
theorem allXs_append (a b : List Part3) : allXs (a ++ b) = allXs a ++ allXs b := by
  induction a with
  | nil => simp [allXs]
  | cons x a ih => simp only [List.cons_append, allXs, ih, List.append_assoc]
theorem lens_snoc (l : List Part3) (k : Nat) (h : k < l.length) : lens (l.take (k + 1)) = lens (l.take k) + l[k].m := by
  rw [List.take_succ_eq_append_getElem h, lens_append]; simp [lens]
theorem allXs_snoc (l : List Part3) (k : Nat) (h : k < l.length) : allXs (l.take (k + 1)) = allXs (l.take k) ++ l[k].xs := by
  rw [List.take_succ_eq_append_getElem h, allXs_append]; simp [allXs]
theorem lens_take_le (l : List Part3) : ∀ k, lens (l.take k) ≤ lens l := by
  intro k
  have h : lens l = lens (l.take k) + lens (l.drop k) := by rw [← lens_append, List.take_append_drop]
  omega

/-- The answer: one row of the call's own with all cells. -/
def CatTo (ps : List Part3) (w w' : World) (e : Ending) : Prop := ∃ v, e = .returned v ∧ Below w.heap.size w w' ∧ w'.ownsRow w.heap.size 75 2 v (lens ps) (allXs ps)

end Go.Proofs.YtnbnegkoanidmaaGreatDoor.S1

/-
  The contracts of strings.Compare, of the closure of impl.placeOfCode, of the instance of slices.BinarySearchFunc and of impl.placeOfCode: the place of a Code in a font.
-/
namespace Go.Proofs.YtnbnegkoanidmaaGreatDoor.S1
open Go.RowKit
set_option linter.unusedVariables false

theorem cmp_less : ∀ a b : List UInt8, (Lib.compareBytes a b < 0) ↔ Op.bytesLess a b = true
  | [], [] => by simp [Lib.compareBytes, Op.bytesLess]
  | [], _ :: _ => by simp [Lib.compareBytes, Op.bytesLess]
  | _ :: _, [] => by simp [Lib.compareBytes, Op.bytesLess]
  | a :: x, b :: y => by
    simp only [Lib.compareBytes, Op.bytesLess, Bool.or_eq_true, Bool.and_eq_true, decide_eq_true_eq, beq_iff_eq]
    by_cases h1 : a < b
    · simp [h1]
    · by_cases h2 : b < a
      · simp only [h1, h2, if_false, if_true]
        constructor
        · intro h; omega
        · rintro (h | ⟨rfl, _⟩)
          · exact absurd h (by simp)
          · exact absurd h2 h1
      · have e : a = b := UInt8.le_antisymm (UInt8.not_lt.1 h2) (UInt8.not_lt.1 h1)
        subst e
        simp only [h1, if_false]
        rw [cmp_less x y]
        simp
theorem cmp_zero : ∀ a b : List UInt8, (Lib.compareBytes a b = 0) ↔ a = b
  | [], [] => by simp [Lib.compareBytes]
  | [], _ :: _ => by simp [Lib.compareBytes]
  | _ :: _, [] => by simp [Lib.compareBytes]
  | a :: x, b :: y => by
    simp only [Lib.compareBytes]
    by_cases h1 : a < b
    · have : a ≠ b := by rintro rfl; exact absurd h1 (UInt8.lt_irrefl a)
      simp [h1, this]
    · by_cases h2 : b < a
      · have : a ≠ b := by rintro rfl; exact absurd h2 (UInt8.lt_irrefl a)
        simp [h1, h2, this]
      · have e : a = b := UInt8.le_antisymm (UInt8.not_lt.1 h2) (UInt8.not_lt.1 h1)
        subst e
        simp only [h1, if_false]
        rw [cmp_zero x y]
        simp

def cmpF (a b : ByteArray) : Int := Lib.compareBytes a.data.toList b.data.toList

def codeB0 (f : List (ByteArray × Int)) (i : Nat) : ByteArray := (f.getD i (.empty, 0)).1
theorem codeB0_of {f : List (ByteArray × Int)} {i : Nat} (h : i < f.length) : codeB0 f i = f[i].1 := by
  unfold codeB0; rw [List.getD_eq_getElem?_getD, List.getElem?_eq_getElem h]; rfl
theorem codeB0_list (f : List (ByteArray × Int)) (i : Nat) : (codeB0 f i).data.toList = codeAt f i := rfl
theorem cmp_mono {f : List (ByteArray × Int)} (hF : Font f) {s : ByteArray} {m k : Nat} (hm : m ≤ k) (hk : k < f.length) (h : cmpF (codeB0 f k) s < 0) : cmpF (codeB0 f m) s < 0 := by
  unfold cmpF at *
  rw [cmp_less, codeB0_list] at *
  rcases Nat.lt_or_ge m k with h1 | h1
  · exact bl_trans _ _ _ (hF.less h1 hk) h
  · obtain rfl : m = k := by omega
    exact h
theorem cmp_zero' {a b : ByteArray} : cmpF a b = 0 ↔ a = b := by
  unfold cmpF
  rw [cmp_zero]
  exact ⟨fun h => ByteArray.ext (Array.ext' h), fun h => by rw [h]⟩
/-- i is the place of a Code: those before it are less, the others are not. -/
def IsPlace (f : List (ByteArray × Int)) (c : ByteArray) (i : Nat) : Prop := i ≤ f.length ∧ (∀ m, m < i → cmpF (codeB0 f m) c < 0) ∧ ∀ m, i ≤ m → m < f.length → ¬ cmpF (codeB0 f m) c < 0

/-- The answer of a search: the place of a Code, and whether it is there. -/
def FoundAt (f : List (ByteArray × Int)) (s : ByteArray) (w w' : World) (e : Ending) : Prop := ∃ i, IsPlace f s i ∧ e = .returned (.tuple #[.int .i64 (i : Int), .bool (decide (i < f.length ∧ codeB0 f i = s))]) ∧ Below w.heap.size w w'

/-- The place of a Code is where the first sort with it is found. -/
theorem place_find {f : List (ByteArray × Int)} (hF : Font f) {s : ByteArray} {i : Nat} (h : IsPlace f s i) : findI f s 0 = if i < f.length ∧ codeB0 f i = s then (i : Int) else -1 := by
  obtain ⟨h1, h2, h3⟩ := h
  rcases findI_cases f s with ⟨e, hn⟩ | ⟨k, hk, hc, e⟩
  · rw [e, if_neg]
    rintro ⟨hi, he⟩
    exact hn i hi (by rw [← codeB0_list, he])
  · have hz : cmpF (codeB0 f k) s = 0 := by unfold cmpF; rw [cmp_zero, codeB0_list, hc]
    have hki : i = k := by
      rcases Nat.lt_trichotomy i k with h4 | h4 | h4
      · exfalso
        have hl := hF.less h4 hk
        have : cmpF (codeB0 f i) s < 0 := by unfold cmpF; rw [cmp_less, codeB0_list, ← hc]; exact hl
        exact h3 i (Nat.le_refl _) (by omega) this
      · exact h4
      · have := h2 k h4; omega
    subst hki
    rw [e, if_pos ⟨hk, cmp_zero'.1 hz⟩]
end Go.Proofs.YtnbnegkoanidmaaGreatDoor.S1

/-
  The contracts of spec.SetOfCode and impl.SetOfCode.
-/
namespace Go.Proofs.YtnbnegkoanidmaaGreatDoor.S1
open Go.RowKit
set_option linter.unusedVariables false

/-- The sort with a Code, of a font. -/
noncomputable def socF (f : List (ByteArray × Int)) (s : ByteArray) : Option Nat := if fontB f && decide (0 ≤ findI f s 0) then some (findI f s 0).toNat else none
def socW (f : List (ByteArray × Int)) : Option Nat → Int | some i => widthAt f i | none => 0
theorem soc_no {f : List (ByteArray × Int)} {s : ByteArray} (h : fontB f = false ∨ findI f s 0 < 0) : socF f s = none := by
  unfold socF
  rw [if_neg]
  simp only [Bool.and_eq_true, decide_eq_true_eq, not_and]
  intro h1
  rcases h with h | h
  · rw [h] at h1; cases h1
  · omega
theorem soc_yes {f : List (ByteArray × Int)} {s : ByteArray} {i : Nat} (h : fontB f = true) (hi : findI f s 0 = (i : Int)) : socF f s = some i := by
  unfold socF
  rw [hi, h, if_pos (by simp)]
  simp

end Go.Proofs.YtnbnegkoanidmaaGreatDoor.S1

/-
  The contracts of spec.WithoutSort and impl.WithoutSort: the font without a sort, in memory of the call's own.
-/
namespace Go.Proofs.YtnbnegkoanidmaaGreatDoor.S1
open Go.RowKit
set_option linter.unusedVariables false

/-- A call's answer: a slice of sorts of its own, and whether there is one. -/
def SortsTo (w w' : World) (e : Ending) (r : Option (List (ByteArray × Int))) : Prop :=
  ∃ v, e = .returned (.tuple #[v, .bool r.isSome]) ∧ Below w.heap.size w w' ∧ w'.ownsRow w.heap.size 75 2 v (r.getD []).length (flat (r.getD []))
theorem SortsTo.no {w w' : World} {r : Option (List (ByteArray × Int))} (h : r = none) (hb : Below w.heap.size w w') : SortsTo w w' (.returned (.tuple #[.slice none 0 0, .bool false])) r := by subst h; exact ⟨_, rfl, hb, own_nil _ _ _ _⟩
theorem SortsTo.yes {w w' : World} {r : Option (List (ByteArray × Int))} {l : List (ByteArray × Int)} {v : Value} (h : r = some l) (hb : Below w.heap.size w w') (ho : w'.ownsRow w.heap.size 75 2 v l.length (flat l)) : SortsTo w w' (.returned (.tuple #[v, .bool true])) r := by subst h; exact ⟨v, rfl, hb, ho⟩

noncomputable def woF (f : List (ByteArray × Int)) (s : ByteArray) : Option (List (ByteArray × Int)) :=
  if fontB f && (decide (0 ≤ findI f s 0) && decide (f.length ≠ 1)) then some (f.take (findI f s 0).toNat ++ f.drop ((findI f s 0).toNat + 1)) else none
theorem wo_no {f : List (ByteArray × Int)} {s : ByteArray} (h : fontB f = false ∨ findI f s 0 < 0 ∨ f.length = 1) : woF f s = none := by
  unfold woF
  rw [if_neg]
  simp only [Bool.and_eq_true, decide_eq_true_eq, not_and]
  intro h1 h2 h3
  rcases h with h | h | h
  · rw [h] at h1; cases h1
  · omega
  · exact h3 h
theorem wo_yes {f : List (ByteArray × Int)} {s : ByteArray} {i : Nat} (h : fontB f = true) (hi : findI f s 0 = (i : Int)) (hl : f.length ≠ 1) : woF f s = some (f.take i ++ f.drop (i + 1)) := by
  unfold woF
  rw [hi, h, if_pos (by simp [hl])]
  simp
theorem add_flat0 (b off k : Nat) : (⟨b, off, none⟩ : Addr).add k = ⟨b, off + k, none⟩ := by
  unfold Addr.add
  by_cases hk : k = 0 <;> simp [hk]
/-- The cells of a run of sorts lie one after the other. -/
theorem run_reads {w : World} {lo b off : Nat} {f : List (ByteArray × Int)} (hb : b < w.heap.size) (hc : ∀ k (h : k < f.length), w.cell? ⟨b, off + k * 2, none⟩ = some (.string f[k].1) ∧ w.cell? ⟨b, off + k * 2 + 1, none⟩ = some (.int .i64 f[k].2)) :
    ∀ j u, (flat f)[j]? = some u → w.cell? ⟨b, off + j, none⟩ = some u := by
  intro j u hu
  have hlt : j < (flat f).length := by
    rcases Nat.lt_or_ge j (flat f).length with h | h
    · exact h
    · rw [List.getElem?_eq_none h] at hu; cases hu
  rw [flat_len] at hlt
  obtain ⟨h1, h2⟩ := hc (j / 2) (by omega)
  obtain ⟨g1, g2⟩ := flat_get f (j / 2) (by omega)
  rcases Nat.mod_two_eq_zero_or_one j with h | h
  · have e : j / 2 * 2 = j := by omega
    rw [e] at h1 g1
    rw [g1] at hu
    rw [h1]; exact hu
  · have e : j / 2 * 2 + 1 = j := by omega
    rw [Nat.add_assoc, e] at h2
    rw [e] at g2
    rw [g2] at hu
    rw [h2]; exact hu
theorem flat_one0 (f : List (ByteArray × Int)) : ∀ u ∈ flat f, u.oneCell' = true := by
  intro u hu
  simp only [flat, List.mem_flatMap] at hu
  obtain ⟨x, _, hx⟩ := hu
  simp at hx
  rcases hx with rfl | rfl <;> rfl

theorem flat_append (a b : List (ByteArray × Int)) : flat (a ++ b) = flat a ++ flat b := by simp [flat]
/-- The first i sorts of a run, as a part. -/
theorem part_head {w : World} {b off cap i : Nat} {f : List (ByteArray × Int)} (hb : b < w.heap.size) (hc : ∀ k (h : k < f.length), w.cell? ⟨b, off + k * 2, none⟩ = some (.string f[k].1) ∧ w.cell? ⟨b, off + k * 2 + 1, none⟩ = some (.int .i64 f[k].2)) (hi : i ≤ f.length) :
    (Part3.mk ⟨b, off, none⟩ i cap (flat (f.take i))).Reads w := by
  refine ⟨by show (flat (f.take i)).length = i * 2; rw [flat_len, List.length_take]; omega, hb, fun j u hu => ?_, flat_one0 _⟩
  show w.cell? ((⟨b, off, none⟩ : Addr).add j) = some u
  rw [add_flat0]
  refine run_reads (lo := 0) hb hc j u ?_
  have hu' : (flat (f.take i))[j]? = some u := hu
  have hl : j < (flat (f.take i)).length := by
    rcases Nat.lt_or_ge j (flat (f.take i)).length with h | h
    · exact h
    · rw [List.getElem?_eq_none h] at hu'; cases hu'
  have e : flat f = flat (f.take i) ++ flat (f.drop i) := by rw [← flat_append, List.take_append_drop]
  rw [e, List.getElem?_append_left hl]
  exact hu'
/-- The sorts from i on, as a part. -/
theorem part_tail {w : World} {b off cap i : Nat} {a2 : Addr} {f : List (ByteArray × Int)} (hb : b < w.heap.size) (hc : ∀ k (h : k < f.length), w.cell? ⟨b, off + k * 2, none⟩ = some (.string f[k].1) ∧ w.cell? ⟨b, off + k * 2 + 1, none⟩ = some (.int .i64 f[k].2)) (hi : i ≤ f.length) (h2 : a2.block = b) (h3 : i < f.length → a2 = ⟨b, off + i * 2, none⟩) :
    (Part3.mk a2 (f.length - i) cap (flat (f.drop i))).Reads w := by
  refine ⟨by show (flat (f.drop i)).length = (f.length - i) * 2; rw [flat_len, List.length_drop]; omega, by show a2.block < _; rw [h2]; exact hb, fun j u hu => ?_, flat_one0 _⟩
  show w.cell? (a2.add j) = some u
  have hu' : (flat (f.drop i))[j]? = some u := hu
  have hl : j < (flat (f.drop i)).length := by
    rcases Nat.lt_or_ge j (flat (f.drop i)).length with h | h
    · exact h
    · rw [List.getElem?_eq_none h] at hu'; cases hu'
  rw [flat_len, List.length_drop] at hl
  rw [h3 (by omega), add_flat0, Nat.add_assoc]
  refine run_reads (lo := 0) hb hc (i * 2 + j) u ?_
  have e : flat f = flat (f.take i) ++ flat (f.drop i) := by rw [← flat_append, List.take_append_drop]
  have hlen : (flat (f.take i)).length = i * 2 := by rw [flat_len, List.length_take]; omega
  rw [e, List.getElem?_append_right (by omega), hlen, Nat.add_sub_cancel_left]
  exact hu'
theorem elem23 : Tryz.prog.elem 30 = 75 := by kernel_rfl
theorem size39 (W : World) : (sizeOf (Tryz.prog.elem 30)).run Tryz.prog W = .ok 2 W := by
  obtain ⟨i0, hi, hz0, hz1, hz2⟩ := info_parts info39
  rw [elem23]
  simp [sizeOf, typeInfo, hi, hz1]
theorem under23 : Tryz.prog.underlying 30 = some (.slice (Tryz.prog.elem 30)) := by rw [elem23]; exact Tryz.underlying30
theorem slice_head (b off n cap k : Nat) (hk : k ≤ n) (hn : n ≤ cap) (W : World) :
    (Instr.slice 30 (.slice (some ⟨b, off, none⟩) n cap) none (some (.int .i64 (k : Int))) none).run Tryz.prog W = .ok (.slice (some ⟨b, off, none⟩) k cap) W := by
  rw [run_slice_h W _ _ _ _ under23 .i64 (k : Int) (by omega) (by omega), size39]
  by_cases hc : cap = 0 <;> simp [sliced, Result.andThen, Addr.add, hc]
theorem slice_tail (b off n cap k : Nat) (K : Int) (hK : K = (k : Int)) (hk : k ≤ n) (hn : n ≤ cap) :
    ∃ a2 : Addr, (∀ W, (Instr.slice 30 (.slice (some ⟨b, off, none⟩) n cap) (some (.int .i64 K)) none none).run Tryz.prog W = .ok (.slice (some a2) (n - k) (cap - k)) W) ∧ a2.block = b ∧ (k < n → a2 = ⟨b, off + k * 2, none⟩) := by
  subst hK
  refine ⟨if cap = k then ⟨b, off, none⟩ else (⟨b, off, none⟩ : Addr).add (k * 2), fun W => ?_, ?_, ?_⟩
  · rw [run_slice_l W _ _ _ _ under23 .i64 (k : Int) (by omega) (by omega), size39]
    by_cases hc : cap = k <;> simp [sliced, Result.andThen, hc]
  · split
    · rfl
    · rw [block_add]
  · intro h
    rw [if_neg (by omega), add_flat0]

theorem step_own {P : Program} (w : World) {ops : Array Oper} {o : Oper} {a : Act} {K : Act → World → Prop} {Q : Exit → Act → World → Prop} {E : Prop} (hgd : o.guard = none) (s x : Operand) (t : TypeId)
    (ho : o.op = .call { callee := .builtin .append, args := #[s, x], argTypes := #[t, t] })
    (base : Nat) (e : TypeId) (i : TypeInfo) (z : Value) (size bytes : Nat) (ht : P.underlying t = some (.slice e)) (hi : P.info? e = some i) (hz : i.zero = some z)
    (hsize : i.size = size) (hby : i.bytes = bytes) (hzs : z.cells.size = size) (hsz : 0 < size)
    (v : Value) (n : Nat) (xs : List Value) (hs : a.eval s = v) (hown : w.ownsRow base e size v n xs)
    (ad : Addr) (m c : Nat) (news : List Value) (hx : a.eval x = .slice (some ad) m c) (hl : news.length = m * size) (hnews : ∀ j u, news[j]? = some u → w.cell? (ad.add j) = some u) (h1 : ∀ u ∈ news, u.oneCell' = true)
    (h63 : n + m ≤ maxLen) (hbytes : (n + m) * bytes ≤ 140737488355328) (hbase : base ≤ w.heap.size)
    (h : ∀ v' w', w'.ownsRow base e size v' (n + m) (xs ++ news) → w.grownBy w' v.ownBlock → K (a.put o.dst v') w') :
    if Region.wanted o (yielded ops a.tmps) = true then Oper.wp P o a w K Q else E := by
  have hw : Region.wanted o (yielded ops a.tmps) = true := by simp [Region.wanted, hgd]
  rw [if_pos hw]
  exact wp_append_own w s x t ho base e i z size bytes ht hi hz hsize hby hzs hsz v n xs hs hown ad m c news hx hl hnews h1 h63 hbytes hbase fun v' w' h2 h3 _ => h v' w' h2 h3

theorem wo_len (f : List (ByteArray × Int)) (s : ByteArray) : ((woF f s).getD []).length ≤ 64 := by
  unfold woF
  split
  · rename_i h
    simp only [Bool.and_eq_true] at h
    have := (fontB_iff.1 h.1).2.2
    simp only [Option.getD_some, List.length_append, List.length_take, List.length_drop]
    omega
  · simp
end Go.Proofs.YtnbnegkoanidmaaGreatDoor.S1

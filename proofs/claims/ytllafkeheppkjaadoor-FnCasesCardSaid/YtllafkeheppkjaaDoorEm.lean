import Derived.Test.YtllafkeheppkjaaDoorLaw
import Derived.Lib.AppendZerosOnto
import Derived.Lib.SliceRun
import Derived.Test.YtllafkeheppkjaaDoorCmp
import Derived.Test.YtllafkeheppkjaaDoorWide
import Derived.Deep.RegionLaw
import Derived.Test.YtllafkeheppkjaaDoorCur
import Derived.Test.YtllafkeheppkjaaDoorHeld
import Derived.Test.YtllafkeheppkjaaDoorBo
import Derived.IntWalk
import Derived.Deep.DeepCutAuto
import Derived.Test.YtllafkeheppkjaaDoorAm
import Derived.Maps.AppendAt
import Derived.Test.YtllafkeheppkjaaDoorWds
import Derived.Test.YtllafkeheppkjaaDoorChk
import Derived.Laws.StructEq
import Derived.Laws.Rows
/-
  The contracts of the instances of slices.Grow (at the nil slice) and of slices.Concat (over parts that are not nil): a new row that holds the parts one after the other.
-/
namespace Go.Proofs.YtllafkeheppkjaaDoor
open Go.RowKit
set_option linter.unusedVariables false

def Grown0 (w w' : World) (e : Ending) : Prop := ∃ v, e = .returned v ∧ Below w.heap.size w w' ∧ w'.ownsRow w.heap.size 116 2 v 0 []

/-- A part that is handed to slices.Concat: where it lies, its length and room, its cells. -/
structure Part3 where
  a : Addr
  m : Nat
  c : Nat
  xs : List Value
def Part3.val (p : Part3) : Value := .slice (some p.a) p.m p.c
/-- The part's cells are there. -/
def Part3.Reads (p : Part3) (w : World) : Prop := p.xs.length = p.m * 2 ∧ p.a.block < w.heap.size ∧ (∀ j u, p.xs[j]? = some u → w.cell? (p.a.add j) = some u) ∧ ∀ u ∈ p.xs, u.oneCell' = true
theorem block_add (a : Addr) (n : Nat) : (a.add n).block = a.block := by unfold Addr.add; split <;> rfl
theorem Part3.Reads.below {p : Part3} {w w' : World} {B : Nat} (h : p.Reads w) (hb : Below B w w') (hB : w.heap.size ≤ B) : p.Reads w' :=
  ⟨h.1, Nat.lt_of_lt_of_le h.2.1 hb.size, fun j u hu => (hb.cell (by rw [block_add]; have := h.2.1; omega)).trans (h.2.2.1 j u hu), h.2.2.2⟩
def lens : List Part3 → Nat
  | [] => 0
  | p :: r => p.m + lens r
def allXs : List Part3 → List Value
  | [] => []
  | p :: r => p.xs ++ allXs r
theorem lens_append (a b : List Part3) : lens (a ++ b) = lens a + lens b := by
  induction a with
  | nil => simp [lens]
  | cons x a ih => simp only [List.cons_append, lens, ih]; omega
theorem allXs_append (a b : List Part3) : allXs (a ++ b) = allXs a ++ allXs b := by
  induction a with
  | nil => simp [allXs]
  | cons x a ih => simp only [List.cons_append, allXs, ih, List.append_assoc]
theorem lens_snoc (l : List Part3) (k : Nat) (h : k < l.length) : lens (l.take (k + 1)) = lens (l.take k) + l[k].m := by
  rw [List.take_succ_eq_append_getElem h, lens_append]; simp [lens]
theorem allXs_snoc (l : List Part3) (k : Nat) (h : k < l.length) : allXs (l.take (k + 1)) = allXs (l.take k) ++ l[k].xs := by
  rw [List.take_succ_eq_append_getElem h, allXs_append]; simp [allXs]
theorem lens_take_le (l : List Part3) : ∀ k, lens (l.take k) ≤ lens l := by
  intro k
  have h : lens l = lens (l.take k) + lens (l.drop k) := by rw [← lens_append, List.take_append_drop]
  omega

/-- The answer: one row of the call's own with all cells. -/
def CatTo (ps : List Part3) (w w' : World) (e : Ending) : Prop := ∃ v, e = .returned v ∧ Below w.heap.size w w' ∧ w'.ownsRow w.heap.size 116 2 v (lens ps) (allXs ps)

end Go.Proofs.YtllafkeheppkjaaDoor

/-
  The contracts of spec.SetOfCode and impl.SetOfCode.
-/
namespace Go.Proofs.YtllafkeheppkjaaDoor
open Go.RowKit
set_option linter.unusedVariables false

/-- The sort with a Code, of a font. -/
noncomputable def socF (f : List (ByteArray × Int)) (s : ByteArray) : Option Nat := if fontB f && decide (0 ≤ findI f s 0) then some (findI f s 0).toNat else none
def socW (f : List (ByteArray × Int)) : Option Nat → Int | some i => widthAt f i | none => 0
theorem soc_no {f : List (ByteArray × Int)} {s : ByteArray} (h : fontB f = false ∨ findI f s 0 < 0) : socF f s = none := by
  unfold socF
  rw [if_neg]
  simp only [Bool.and_eq_true, decide_eq_true_eq, not_and]
  intro h1
  rcases h with h | h
  · rw [h] at h1; cases h1
  · omega
theorem soc_yes {f : List (ByteArray × Int)} {s : ByteArray} {i : Nat} (h : fontB f = true) (hi : findI f s 0 = (i : Int)) : socF f s = some i := by
  unfold socF
  rw [hi, h, if_pos (by simp)]
  simp

end Go.Proofs.YtllafkeheppkjaaDoor

/-
  The contracts of spec.WithoutSort and impl.WithoutSort: the font without a sort, in memory of the call's own.
-/
namespace Go.Proofs.YtllafkeheppkjaaDoor
open Go.RowKit
set_option linter.unusedVariables false

/-- A call's answer: a slice of sorts of its own, and whether there is one. -/
def SortsTo (w w' : World) (e : Ending) (r : Option (List (ByteArray × Int))) : Prop :=
  ∃ v, e = .returned (.tuple #[v, .bool r.isSome]) ∧ Below w.heap.size w w' ∧ w'.ownsRow w.heap.size 116 2 v (r.getD []).length (flat (r.getD []))
theorem SortsTo.no {w w' : World} {r : Option (List (ByteArray × Int))} (h : r = none) (hb : Below w.heap.size w w') : SortsTo w w' (.returned (.tuple #[.slice none 0 0, .bool false])) r := by subst h; exact ⟨_, rfl, hb, own_nil _ _ _ _⟩
theorem SortsTo.yes {w w' : World} {r : Option (List (ByteArray × Int))} {l : List (ByteArray × Int)} {v : Value} (h : r = some l) (hb : Below w.heap.size w w') (ho : w'.ownsRow w.heap.size 116 2 v l.length (flat l)) : SortsTo w w' (.returned (.tuple #[v, .bool true])) r := by subst h; exact ⟨v, rfl, hb, ho⟩

noncomputable def woF (f : List (ByteArray × Int)) (s : ByteArray) : Option (List (ByteArray × Int)) :=
  if fontB f && (decide (0 ≤ findI f s 0) && decide (f.length ≠ 1)) then some (f.take (findI f s 0).toNat ++ f.drop ((findI f s 0).toNat + 1)) else none
theorem wo_no {f : List (ByteArray × Int)} {s : ByteArray} (h : fontB f = false ∨ findI f s 0 < 0 ∨ f.length = 1) : woF f s = none := by
  unfold woF
  rw [if_neg]
  simp only [Bool.and_eq_true, decide_eq_true_eq, not_and]
  intro h1 h2 h3
  rcases h with h | h | h
  · rw [h] at h1; cases h1
  · omega
  · exact h3 h
theorem wo_yes {f : List (ByteArray × Int)} {s : ByteArray} {i : Nat} (h : fontB f = true) (hi : findI f s 0 = (i : Int)) (hl : f.length ≠ 1) : woF f s = some (f.take i ++ f.drop (i + 1)) := by
  unfold woF
  rw [hi, h, if_pos (by simp [hl])]
  simp
theorem add_flat0 (b off k : Nat) : (⟨b, off, none⟩ : Addr).add k = ⟨b, off + k, none⟩ := by
  unfold Addr.add
  by_cases hk : k = 0 <;> simp [hk]
/-- The cells of a run of sorts lie one after the other. -/
theorem run_reads {w : World} {lo b off : Nat} {f : List (ByteArray × Int)} (hb : b < w.heap.size) (hc : ∀ k (h : k < f.length), w.cell? ⟨b, off + k * 2, none⟩ = some (.string f[k].1) ∧ w.cell? ⟨b, off + k * 2 + 1, none⟩ = some (.int .i64 f[k].2)) :
    ∀ j u, (flat f)[j]? = some u → w.cell? ⟨b, off + j, none⟩ = some u := by
  intro j u hu
  have hlt : j < (flat f).length := by
    rcases Nat.lt_or_ge j (flat f).length with h | h
    · exact h
    · rw [List.getElem?_eq_none h] at hu; cases hu
  rw [flat_len] at hlt
  obtain ⟨h1, h2⟩ := hc (j / 2) (by omega)
  obtain ⟨g1, g2⟩ := flat_get f (j / 2) (by omega)
  rcases Nat.mod_two_eq_zero_or_one j with h | h
  · have e : j / 2 * 2 = j := by omega
    rw [e] at h1 g1
    rw [g1] at hu
    rw [h1]; exact hu
  · have e : j / 2 * 2 + 1 = j := by omega
    rw [Nat.add_assoc, e] at h2
    rw [e] at g2
    rw [g2] at hu
    rw [h2]; exact hu
theorem flat_one0 (f : List (ByteArray × Int)) : ∀ u ∈ flat f, u.oneCell' = true := by
  intro u hu
  simp only [flat, List.mem_flatMap] at hu
  obtain ⟨x, _, hx⟩ := hu
  simp at hx
  rcases hx with rfl | rfl <;> rfl

theorem flat_append (a b : List (ByteArray × Int)) : flat (a ++ b) = flat a ++ flat b := by simp [flat]
/-- The first i sorts of a run, as a part. -/
theorem part_head {w : World} {b off cap i : Nat} {f : List (ByteArray × Int)} (hb : b < w.heap.size) (hc : ∀ k (h : k < f.length), w.cell? ⟨b, off + k * 2, none⟩ = some (.string f[k].1) ∧ w.cell? ⟨b, off + k * 2 + 1, none⟩ = some (.int .i64 f[k].2)) (hi : i ≤ f.length) :
    (Part3.mk ⟨b, off, none⟩ i cap (flat (f.take i))).Reads w := by
  refine ⟨by show (flat (f.take i)).length = i * 2; rw [flat_len, List.length_take]; omega, hb, fun j u hu => ?_, flat_one0 _⟩
  show w.cell? ((⟨b, off, none⟩ : Addr).add j) = some u
  rw [add_flat0]
  refine run_reads (lo := 0) hb hc j u ?_
  have hu' : (flat (f.take i))[j]? = some u := hu
  have hl : j < (flat (f.take i)).length := by
    rcases Nat.lt_or_ge j (flat (f.take i)).length with h | h
    · exact h
    · rw [List.getElem?_eq_none h] at hu'; cases hu'
  have e : flat f = flat (f.take i) ++ flat (f.drop i) := by rw [← flat_append, List.take_append_drop]
  rw [e, List.getElem?_append_left hl]
  exact hu'
/-- The sorts from i on, as a part. -/
theorem part_tail {w : World} {b off cap i : Nat} {a2 : Addr} {f : List (ByteArray × Int)} (hb : b < w.heap.size) (hc : ∀ k (h : k < f.length), w.cell? ⟨b, off + k * 2, none⟩ = some (.string f[k].1) ∧ w.cell? ⟨b, off + k * 2 + 1, none⟩ = some (.int .i64 f[k].2)) (hi : i ≤ f.length) (h2 : a2.block = b) (h3 : i < f.length → a2 = ⟨b, off + i * 2, none⟩) :
    (Part3.mk a2 (f.length - i) cap (flat (f.drop i))).Reads w := by
  refine ⟨by show (flat (f.drop i)).length = (f.length - i) * 2; rw [flat_len, List.length_drop]; omega, by show a2.block < _; rw [h2]; exact hb, fun j u hu => ?_, flat_one0 _⟩
  show w.cell? (a2.add j) = some u
  have hu' : (flat (f.drop i))[j]? = some u := hu
  have hl : j < (flat (f.drop i)).length := by
    rcases Nat.lt_or_ge j (flat (f.drop i)).length with h | h
    · exact h
    · rw [List.getElem?_eq_none h] at hu'; cases hu'
  rw [flat_len, List.length_drop] at hl
  rw [h3 (by omega), add_flat0, Nat.add_assoc]
  refine run_reads (lo := 0) hb hc (i * 2 + j) u ?_
  have e : flat f = flat (f.take i) ++ flat (f.drop i) := by rw [← flat_append, List.take_append_drop]
  have hlen : (flat (f.take i)).length = i * 2 := by rw [flat_len, List.length_take]; omega
  rw [e, List.getElem?_append_right (by omega), hlen, Nat.add_sub_cancel_left]
  exact hu'
theorem elem23 : Tryd.prog.elem 106 = 116 := by kernel_rfl
theorem size39 (W : World) : (sizeOf (Tryd.prog.elem 106)).run Tryd.prog W = .ok 2 W := by
  obtain ⟨i0, hi, hz0, hz1, hz2⟩ := info_parts info39
  rw [elem23]
  simp [sizeOf, typeInfo, hi, hz1]
theorem under23 : Tryd.prog.underlying 106 = some (.slice (Tryd.prog.elem 106)) := by rw [elem23]; exact Tryd.underlying106
theorem slice_head (b off n cap k : Nat) (hk : k ≤ n) (hn : n ≤ cap) (W : World) :
    (Instr.slice 106 (.slice (some ⟨b, off, none⟩) n cap) none (some (.int .i64 (k : Int))) none).run Tryd.prog W = .ok (.slice (some ⟨b, off, none⟩) k cap) W := by
  rw [run_slice_h W _ _ _ _ under23 .i64 (k : Int) (by omega) (by omega), size39]
  by_cases hc : cap = 0 <;> simp [sliced, Result.andThen, Addr.add, hc]
theorem slice_tail (b off n cap k : Nat) (K : Int) (hK : K = (k : Int)) (hk : k ≤ n) (hn : n ≤ cap) :
    ∃ a2 : Addr, (∀ W, (Instr.slice 106 (.slice (some ⟨b, off, none⟩) n cap) (some (.int .i64 K)) none none).run Tryd.prog W = .ok (.slice (some a2) (n - k) (cap - k)) W) ∧ a2.block = b ∧ (k < n → a2 = ⟨b, off + k * 2, none⟩) := by
  subst hK
  refine ⟨if cap = k then ⟨b, off, none⟩ else (⟨b, off, none⟩ : Addr).add (k * 2), fun W => ?_, ?_, ?_⟩
  · rw [run_slice_l W _ _ _ _ under23 .i64 (k : Int) (by omega) (by omega), size39]
    by_cases hc : cap = k <;> simp [sliced, Result.andThen, hc]
  · split
    · rfl
    · rw [block_add]
  · intro h
    rw [if_neg (by omega), add_flat0]

theorem step_own {P : Program} (w : World) {ops : Array Oper} {o : Oper} {a : Act} {K : Act → World → Prop} {Q : Exit → Act → World → Prop} {E : Prop} (hgd : o.guard = none) (s x : Operand) (t : TypeId)
    (ho : o.op = .call { callee := .builtin .append, args := #[s, x], argTypes := #[t, t] })
    (base : Nat) (e : TypeId) (i : TypeInfo) (z : Value) (size bytes : Nat) (ht : P.underlying t = some (.slice e)) (hi : P.info? e = some i) (hz : i.zero = some z)
    (hsize : i.size = size) (hby : i.bytes = bytes) (hzs : z.cells.size = size) (hsz : 0 < size)
    (v : Value) (n : Nat) (xs : List Value) (hs : a.eval s = v) (hown : w.ownsRow base e size v n xs)
    (ad : Addr) (m c : Nat) (news : List Value) (hx : a.eval x = .slice (some ad) m c) (hl : news.length = m * size) (hnews : ∀ j u, news[j]? = some u → w.cell? (ad.add j) = some u) (h1 : ∀ u ∈ news, u.oneCell' = true)
    (h63 : n + m ≤ maxLen) (hbytes : (n + m) * bytes ≤ 140737488355328) (hbase : base ≤ w.heap.size)
    (h : ∀ v' w', w'.ownsRow base e size v' (n + m) (xs ++ news) → w.grownBy w' v.ownBlock → K (a.put o.dst v') w') :
    if Region.wanted o (yielded ops a.tmps) = true then Oper.wp P o a w K Q else E := by
  have hw : Region.wanted o (yielded ops a.tmps) = true := by simp [Region.wanted, hgd]
  rw [if_pos hw]
  exact wp_append_own w s x t ho base e i z size bytes ht hi hz hsize hby hzs hsz v n xs hs hown ad m c news hx hl hnews h1 h63 hbytes hbase fun v' w' h2 h3 _ => h v' w' h2 h3

theorem wo_len (f : List (ByteArray × Int)) (s : ByteArray) : ((woF f s).getD []).length ≤ 64 := by
  unfold woF
  split
  · rename_i h
    simp only [Bool.and_eq_true] at h
    have := (fontB_iff.1 h.1).2.2
    simp only [Option.getD_some, List.length_append, List.length_take, List.length_drop]
    omega
  · simp
end Go.Proofs.YtllafkeheppkjaaDoor

/-
  The draw of a font: spec.l1Cur.font. (For FnFonts.)
-/
namespace Go.Proofs.YtllafkeheppkjaaDoor
open Go.RowKit
set_option linter.unusedVariables false

theorem cell_keep {w w' : World} {b' i : Nat} {row : Option Nat} (hg : w.grownBy w' row) (h : b' < w.heap.size) (hne : row ≠ some b') : w'.cell? ⟨b', i, none⟩ = w.cell? ⟨b', i, none⟩ := by
  have := hg.block b' h (fun e => hne e.symm)
  unfold World.cell?
  rw [this]
theorem grownBy_own {w wr w4 : World} {b : Nat} {row : Option Nat} (h : w.grownBy wr (some b)) (hg : wr.grownBy w4 row) (hrow : ∀ k, row = some k → w.heap.size ≤ k) : w.grownBy w4 (some b) :=
  ⟨hg.os.trans h.os, hg.tape.trans h.tape, hg.output.trans h.output, Nat.le_trans h.size hg.size, fun i hi hne => (hg.block i (Nat.lt_of_lt_of_le hi h.size) (fun e => by have := hrow i e.symm; omega)).trans (h.block i hi hne)⟩
theorem CurLe.own {w w' : World} {b c M : Nat} {A : Option Addr} {xs : List UInt8} {row : Option Nat} (h : CurLe w b A c M xs) (hg : w.grownBy w' row) (hrow : ∀ k, row = some k → b < k) : CurLe w' b A c M xs := by
  have hl := h.lt
  obtain ⟨⟨a, h0, sd, h1, h1'⟩, h2⟩ := h
  refine ⟨⟨a, h0, sd, h1, (hg.block b hl (fun e => by have := hrow b e.symm; omega)).trans h1'⟩, fun hn => ?_⟩
  obtain ⟨b', off, e, hlt, hc⟩ := h2 hn
  exact ⟨b', off, e, hlt, fun k hk => (cell_keep hg (by omega) (fun e => by have := hrow b' e; omega)).trans (hc k hk)⟩
theorem StrsIn.keep {w w' : World} {g : Nat} {l : List ByteArray} {row : Option Nat} (h : StrsIn w (some ⟨g, 0, none⟩) l) (hg : w.grownBy w' row) (hne : row ≠ some g) : StrsIn w' (some ⟨g, 0, none⟩) l := fun hn => by
  obtain ⟨b', off, e, hl, hc⟩ := h hn
  obtain ⟨rfl, rfl⟩ : g = b' ∧ 0 = off := by simpa using e
  exact ⟨g, 0, rfl, Nat.lt_of_lt_of_le hl hg.size, fun k hk => (cell_keep hg hl hne).trans (hc k hk)⟩
theorem two_new (w : World) (x y : Value) (t : TypeId) : ∀ j u, ([x, y] : List Value)[j]? = some u → (w.alloc (.cells #[x, y] t)).cell? ((⟨w.heap.size, 0, none⟩ : Addr).add j) = some u := by
  intro j u hu
  have e : (⟨w.heap.size, 0, none⟩ : Addr).add j = ⟨w.heap.size, 0 + j, none⟩ := by
    unfold Addr.add
    by_cases hk : j = 0 <;> simp [hk]
  rw [e, cell_of_heap (heap_new _ _), Nat.zero_add, ← hu]
  simp
def fontTexts : List ByteArray := [⟨#[97]⟩, ⟨#[97, 98]⟩, ⟨#[97, 98, 99]⟩, ⟨#[98]⟩, ⟨#[98, 98]⟩, ⟨#[99]⟩, ⟨#[100]⟩, ⟨#[101]⟩, ⟨#[102]⟩, ⟨#[102, 102]⟩, ⟨#[102, 105]⟩, ⟨#[105]⟩]
theorem fontTexts_size : ∀ s ∈ fontTexts, 1 ≤ s.size ∧ s.size ≤ 3 := by
  intro s hs
  simp only [fontTexts, List.mem_cons, List.not_mem_nil, or_false] at hs
  rcases hs with rfl | rfl | rfl | rfl | rfl | rfl | rfl | rfl | rfl | rfl | rfl | rfl <;> decide

set_option maxRecDepth 100000 in
set_option maxHeartbeats 1000000 in
theorem font_any (b c M : Nat) (A : Option Addr) (xs : List UInt8) (w : World) (hc : CurLe w b A c M xs) (hat : M ≤ 999900) (hxs : xs.length ≤ maxLen) :
    Calls Tryd.prog 72 #[.pointer (some ⟨b, 0, none⟩)] w fun e w' =>
      (∃ (f : List (ByteArray × Int)) (B : Option Addr) (d : Nat), e = .returned (.slice B f.length d) ∧ 1 ≤ f.length ∧ f.length ≤ 12 ∧ CodesOk f ∧ w'.ownsRow (w.heap.size + 1) 116 2 (.slice B f.length d) f.length (flat f)) ∧
      CurLe w' b A c (M + 24) xs ∧ w.grownBy w' (some b) := by
  have hbl := hc.lt
  have HC := Lib.hid (hc.below ((Below.refl _ _).alloc (Nat.le_refl _) (.cells (strs fontTexts).toArray 9)))
  have HG := Lib.hid (grownBy_alloc (World.grownBy.refl w (some b)) (.cells (strs fontTexts).toArray 9))
  have HROW := Lib.hid (row_strs w fontTexts)
  clear hc
  obtain ⟨i0, hi0', hz0, hz1, hz2⟩ := info_parts info39
  have HI0 := Lib.hid hi0'; have HZ0 := Lib.hid hz0; have HZ1 := Lib.hid hz1; have HZ2 := Lib.hid hz2
  clear hi0' hz0 hz1 hz2
  go_enter Tryd.func72, Tryd.ntmps72
  go_wp2
  go_loopw [3, 8] (fun v i wr => ∃ (k : Nat) (acc : List (ByteArray × Int)), k ≤ 12 ∧ i = .int .i64 (k : Int) ∧ acc.length ≤ k ∧ CodesOk acc ∧ StrsIn wr (some ⟨w.heap.size, 0, none⟩) fontTexts ∧ wr.ownsRow (w.heap.size + 1) 116 2 v acc.length (flat acc) ∧ CurLe wr b A c (M + 2 * k) xs ∧ w.grownBy wr (some b)) (fun _ i _ => 12 - (intOf i).toNat)
  case atStart => exact ⟨0, [], Nat.zero_le _, rfl, Nat.le_refl _, fun k h => absurd h (by simp), HROW.out, own_nil _ _ _ _, HC.out, HG.out⟩
  case round =>
    clear HC HG HROW
    obtain ⟨k, acc, hk, rfl, hal, hco, hrow, hown, hc, hg⟩ := hrel
    by_cases hlt : k < 12
    · obtain ⟨g', off, e, hgl, hcs⟩ := hrow (by decide)
      obtain ⟨rfl, rfl⟩ : w.heap.size = g' ∧ 0 = off := by simpa using e
      have hx0 := hcs k hlt
      rw [Nat.zero_add] at hx0
      obtain ⟨t1, t3⟩ := fontTexts_size _ (List.getElem_mem hlt)
      generalize fontTexts[k]'hlt = t at *
      clear hcs e
      have hk1 : (k : Int) < 12 := by omega
      have hgw : w.heap.size ≤ wr.heap.size := hg.size
      by_cases h1 : t.size = 1
      · have ht : ((t.size : Int) == 1) = true := by rw [h1]; rfl
        have hgt : ¬ (1 : Int) < (t.size : Int) := by omega
        have HS1 := Lib.hid h1
        have HSZ : Hid (t.size ≤ 3) := t3
        clear h1
        go_wp2_with fail
        refine (one_any 12 b c (M + 2 * k) A xs wr hc (by omega) hxs (by omega) (by omega)).mono ?_
        rintro e w1 ⟨⟨r, rfl⟩, hc1, hg1⟩
        have HC1 := Lib.hid hc1
        have HR1 := Lib.hid (hrow.keep hg1 (fun e => by have := Option.some.inj e; omega))
        have HO1 := Lib.hid (own_grown hown hg1 (fun k hk e => by have := own_lt hown k hk; have := Option.some.inj e; omega))
        have HG1 := Lib.hid (grownBy_trans hg hg1)
        have hw1 : wr.heap.size ≤ w1.heap.size := hg1.size
        clear hc1 hg1 hc hrow hown hg hx0
        cases r
        · go_wp2_with fail
          refine (pick_any 4 b c (M + 2 * k + 1) A xs w1 HC1.out (by omega) hxs (by omega) (by omega)).mono ?_
          rintro e w2 ⟨⟨y, hy, rfl⟩, hc2, hg2⟩
          have hb2 : w1.heap.size ≤ w2.heap.size := hg2.size
          have hown2 := own_grown HO1.out hg2 (fun k hk e => by have := own_lt HO1.out k hk; have := Option.some.inj e; omega)
          have HR2 := Lib.hid (HR1.out.keep hg2 (fun e => by have := Option.some.inj e; omega))
          have HG2 := Lib.hid (grownBy_trans HG1.out hg2)
          have HC2 := Lib.hid hc2
          have hsz2 : w.heap.size ≤ w2.heap.size := HG2.out.size
          have hwl2 : w.heap.size + 1 ≤ w2.heap.size := by omega
          have hy1 : (y : Int) < 4 := by omega
          have hmul : (t.size : Int) * (2 + (y : Int)) ≤ 15 := by
            have h1 : (t.size : Int) ≤ 3 := by omega
            have h2 : 2 + (y : Int) ≤ 5 := by omega
            exact Int.le_trans (Int.mul_le_mul h1 h2 (by omega) (by omega)) (by omega)
          have hmul0 : 0 ≤ (t.size : Int) * (2 + (y : Int)) := Int.mul_nonneg (by omega) (by omega)
          generalize hz : (t.size : Int) * (2 + (y : Int)) = z at *
          have hmx : acc.length + 1 ≤ maxLen := by unfold maxLen; omega
          clear hc2 hg2
          go_wp2_with (at_builtin; refine wpList_append_own _ rfl _ _ 106 rfl (w.heap.size + 1) 116 i0 (.agg #[.string .empty, .int .i64 0]) 2 24 Tryd.underlying106 HI0.out HZ0.out HZ1.out HZ2.out rfl (by decide) _ _ _ rfl (hown2.alloc _) ⟨w2.heap.size, 0, none⟩ 1 1 [.string t, .int .i64 (4 + z)] rfl rfl (two_new _ _ _ _) (by simp [Value.oneCell']) hmx (by omega) (by simp; omega) ?_)
          intro v' w4 hown' hgrow _
          have hal2 : w2.grownBy (w2.alloc (.cells #[.string t, .int .i64 (4 + z)] 116)) (some b) := grownBy_alloc (World.grownBy.refl _ _) _
          have hrw := own_lt hown2
          have HR4 := Lib.hid ((HR2.out.keep hal2 (fun e => by have := Option.some.inj e; omega)).keep hgrow (fun e => by have := hrw _ e; omega))
          have HC4 := Lib.hid ((HC2.out.below ((Below.refl _ _).alloc (Nat.le_refl _) (.cells #[.string t, .int .i64 (4 + z)] 116))).own hgrow (fun k hk => by have := hrw k hk; omega))
          have HG4 := Lib.hid (grownBy_own (grownBy_trans HG2.out hal2) hgrow (fun k hk => by have := hrw k hk; omega))
          have HO4 : Hid (w4.ownsRow (w.heap.size + 1) 116 2 v' (acc ++ [(t, 4 + z)]).length (flat (acc ++ [(t, 4 + z)]))) := by
            rw [List.length_append, flat_snoc]; exact hown'
          have hco' : CodesOk (acc ++ [(t, 4 + z)]) := by
            intro q hq
            by_cases hqa : q < acc.length
            · rw [List.getElem_append_left hqa]; exact hco q hqa
            · have : q = acc.length := by simp at hq; omega
              subst this
              simp
              unfold maxLen; omega
          clear hown' hgrow hown2 hal2
          go_wp2
          go_roundw
          case rel => exact ⟨k + 1, acc ++ [(t, 4 + z)], by omega, by go_num, by simp; omega, hco', HR4.out, HO4.out, HC4.out.more (by omega), HG4.out⟩
          case measure => simp [intOf]; omega
        · go_wp2
          go_roundw
          case rel => exact ⟨k + 1, acc, by omega, by go_num, by omega, hco, HR1.out, HO1.out, HC1.out.more (by omega), HG1.out⟩
          case measure => simp [intOf]; omega
      · have ht : ((t.size : Int) == 1) = false := by rw [beq_eq_false_iff_ne]; omega
        have hgt : (1 : Int) < (t.size : Int) := by omega
        go_wp2_with fail
        refine (one_any 3 b c (M + 2 * k) A xs wr hc (by omega) hxs (by omega) (by omega)).mono ?_
        rintro e w1 ⟨⟨r, rfl⟩, hc1, hg1⟩
        have HC1 := Lib.hid hc1
        have HR1 := Lib.hid (hrow.keep hg1 (fun e => by have := Option.some.inj e; omega))
        have HO1 := Lib.hid (own_grown hown hg1 (fun k hk e => by have := own_lt hown k hk; have := Option.some.inj e; omega))
        have HG1 := Lib.hid (grownBy_trans hg hg1)
        have hw1 : wr.heap.size ≤ w1.heap.size := hg1.size
        clear hc1 hg1 hc hrow hown hg hx0
        cases r
        · go_wp2
          go_roundw
          case rel => exact ⟨k + 1, acc, by omega, by go_num, by omega, hco, HR1.out, HO1.out, HC1.out.more (by omega), HG1.out⟩
          case measure => simp [intOf]; omega
        · go_wp2_with fail
          refine (pick_any 4 b c (M + 2 * k + 1) A xs w1 HC1.out (by omega) hxs (by omega) (by omega)).mono ?_
          rintro e w2 ⟨⟨y, hy, rfl⟩, hc2, hg2⟩
          have hb2 : w1.heap.size ≤ w2.heap.size := hg2.size
          have hown2 := own_grown HO1.out hg2 (fun k hk e => by have := own_lt HO1.out k hk; have := Option.some.inj e; omega)
          have HR2 := Lib.hid (HR1.out.keep hg2 (fun e => by have := Option.some.inj e; omega))
          have HG2 := Lib.hid (grownBy_trans HG1.out hg2)
          have HC2 := Lib.hid hc2
          have hsz2 : w.heap.size ≤ w2.heap.size := HG2.out.size
          have hwl2 : w.heap.size + 1 ≤ w2.heap.size := by omega
          have hy1 : (y : Int) < 4 := by omega
          have hmul : (t.size : Int) * (2 + (y : Int)) ≤ 15 := by
            have h1 : (t.size : Int) ≤ 3 := by omega
            have h2 : 2 + (y : Int) ≤ 5 := by omega
            exact Int.le_trans (Int.mul_le_mul h1 h2 (by omega) (by omega)) (by omega)
          have hmul0 : 0 ≤ (t.size : Int) * (2 + (y : Int)) := Int.mul_nonneg (by omega) (by omega)
          generalize hz : (t.size : Int) * (2 + (y : Int)) = z at *
          have hmx : acc.length + 1 ≤ maxLen := by unfold maxLen; omega
          clear hc2 hg2
          go_wp2_with (at_builtin; refine wpList_append_own _ rfl _ _ 106 rfl (w.heap.size + 1) 116 i0 (.agg #[.string .empty, .int .i64 0]) 2 24 Tryd.underlying106 HI0.out HZ0.out HZ1.out HZ2.out rfl (by decide) _ _ _ rfl (hown2.alloc _) ⟨w2.heap.size, 0, none⟩ 1 1 [.string t, .int .i64 (4 + z)] rfl rfl (two_new _ _ _ _) (by simp [Value.oneCell']) hmx (by omega) (by simp; omega) ?_)
          intro v' w4 hown' hgrow _
          have hal2 : w2.grownBy (w2.alloc (.cells #[.string t, .int .i64 (4 + z)] 116)) (some b) := grownBy_alloc (World.grownBy.refl _ _) _
          have hrw := own_lt hown2
          have HR4 := Lib.hid ((HR2.out.keep hal2 (fun e => by have := Option.some.inj e; omega)).keep hgrow (fun e => by have := hrw _ e; omega))
          have HC4 := Lib.hid ((HC2.out.below ((Below.refl _ _).alloc (Nat.le_refl _) (.cells #[.string t, .int .i64 (4 + z)] 116))).own hgrow (fun k hk => by have := hrw k hk; omega))
          have HG4 := Lib.hid (grownBy_own (grownBy_trans HG2.out hal2) hgrow (fun k hk => by have := hrw k hk; omega))
          have HO4 : Hid (w4.ownsRow (w.heap.size + 1) 116 2 v' (acc ++ [(t, 4 + z)]).length (flat (acc ++ [(t, 4 + z)]))) := by
            rw [List.length_append, flat_snoc]; exact hown'
          have hco' : CodesOk (acc ++ [(t, 4 + z)]) := by
            intro q hq
            by_cases hqa : q < acc.length
            · rw [List.getElem_append_left hqa]; exact hco q hqa
            · have : q = acc.length := by simp at hq; omega
              subst this
              simp
              unfold maxLen; omega
          clear hown' hgrow hown2 hal2
          go_wp2
          go_roundw
          case rel => exact ⟨k + 1, acc ++ [(t, 4 + z)], by omega, by go_num, by simp; omega, hco', HR4.out, HO4.out, HC4.out.more (by omega), HG4.out⟩
          case measure => simp [intOf]; omega
    · obtain rfl : k = 12 := by omega
      have hgw : w.heap.size + 1 ≤ wr.heap.size := by
        obtain ⟨g', off, e, hgl, _⟩ := hrow (by decide)
        obtain ⟨rfl, rfl⟩ : w.heap.size = g' ∧ 0 = off := by simpa using e
        exact hgl
      obtain ⟨B, d, rfl⟩ := own_form_f hown
      by_cases h0 : acc.length = 0
      · have ht : ((acc.length : Int) == 0) = true := by rw [h0]; rfl
        have HC2 := Lib.hid (hc.below ((Below.refl _ _).alloc (Nat.le_refl _) (.cells #[.string ⟨#[97]⟩, .int .i64 9] 116)))
        have HG2 := Lib.hid (grownBy_alloc hg (.cells #[.string ⟨#[97]⟩, .int .i64 9] 116))
        have HO2 : Hid ((wr.alloc (.cells #[.string ⟨#[97]⟩, .int .i64 9] 116)).ownsRow (w.heap.size + 1) 116 2 (.slice (some ⟨wr.heap.size, 0, none⟩) 1 1) 1 (flat [(⟨#[97]⟩, 9)])) :=
          Lib.hid ⟨rfl, .inr ⟨wr.heap.size, 1, _, rfl, hgw, heap_new _ _, Nat.le_refl _, by unfold maxLen; omega, rfl, rfl⟩⟩
        have HZ := Lib.hid h0
        clear h0 hc hg hown hrow
        go_wp2
        go_ret
        exact ⟨⟨[(⟨#[97]⟩, 9)], _, _, rfl, by simp, by simp, fun q hq => by
          obtain rfl : q = 0 := by simp at hq; omega
          show (1 : Nat) ≤ maxLen
          unfold maxLen; omega, HO2.out⟩, HC2.out.more (by omega), HG2.out⟩
      · have ht : ((acc.length : Int) == 0) = false := by rw [beq_eq_false_iff_ne]; omega
        have HO2 := Lib.hid hown
        have HC2 := Lib.hid hc
        have HG2 := Lib.hid hg
        clear hc hg hown hrow
        go_wp2
        go_ret
        exact ⟨⟨acc, B, d, rfl, by omega, by omega, hco, HO2.out⟩, HC2.out.more (by omega), HG2.out⟩
end Go.Proofs.YtllafkeheppkjaaDoor

/-
  The draws of any font: spec.l1Cur.among, spec.l1Cur.anyFont. (For FnFonts.)
-/
namespace Go.Proofs.YtllafkeheppkjaaDoor
open Go.RowKit
set_option linter.unusedVariables false

theorem row_ints (w : World) (l : List Int) : IntsIn (w.alloc (.cells (intsZ l).toArray 3)) (some ⟨w.heap.size, 0, none⟩) l := fun hn =>
  ⟨w.heap.size, 0, rfl, by simp, fun k hk => by
    rw [cell_of_heap (heap_new _ _)]
    simp [intsZ, hk]⟩
set_option maxRecDepth 100000 in
theorem among_any (l : List Int) (g c' : Nat) (b c M : Nat) (A : Option Addr) (xs : List UInt8) (w : World) (hc : CurLe w b A c M xs) (hat : M ≤ 1000000) (hxs : xs.length ≤ maxLen) (hl : IntsIn w (some ⟨g, 0, none⟩) l) (hne : g ≠ b) (h1 : 1 ≤ l.length) (h2 : l.length ≤ 200) :
    Calls Tryd.prog 50 #[.pointer (some ⟨b, 0, none⟩), .slice (some ⟨g, 0, none⟩) l.length c'] w fun e w' => (∃ s, s ∈ l ∧ e = .returned (.int .i64 s)) ∧ CurLe w' b A c (M + 1) xs ∧ w.grownBy w' (some b) := by
  have HC := Lib.hid hc; clear hc
  have HL := Lib.hid hl; clear hl
  go_enter Tryd.func50, Tryd.ntmps50
  go_wp2_with fail
  refine (pick_any l.length b c M A xs w HC.out hat hxs h1 h2).mono ?_
  rintro e w1 ⟨⟨x, hx, rfl⟩, hc1, hg1⟩
  obtain ⟨b', off, e, hbl, hcs⟩ := HL.out (by omega)
  obtain ⟨rfl, rfl⟩ : g = b' ∧ 0 = off := by simpa using e
  have hx0 := (cell_keep hg1 hbl (fun e => hne (Option.some.inj e).symm)).trans (hcs x hx)
  rw [Nat.zero_add] at hx0
  have HC1 := Lib.hid hc1
  have HG1 := Lib.hid hg1
  have hbl1 : g < w1.heap.size := Nat.lt_of_lt_of_le hbl hg1.size
  have hx1 : (x : Int) < (l.length : Int) := by omega
  clear hc1 hg1 hcs e
  go_wp2
  go_ret
  exact ⟨⟨l[x], List.getElem_mem _, rfl⟩, HC1.out, HG1.out⟩

theorem own_set {w : World} {base size n cap g i : Nat} {e : TypeId} {xs : List Value} (h : w.ownsRow base e size (.slice (some ⟨g, 0, none⟩) n cap) n xs) (hi : i < xs.length) (u : Value) :
    (w.setCell ⟨g, i, none⟩ u).ownsRow base e size (.slice (some ⟨g, 0, none⟩) n cap) n (xs.set i u) := by
  refine ⟨by rw [List.length_set]; exact h.1, ?_⟩
  rcases h.2 with ⟨hv, _⟩ | ⟨g', cap', cur, hv, hg, hh, h1, h2, h3, h4⟩
  · cases hv
  · injection hv with e1 e2 e3
    injection e1 with e1
    injection e1 with e1
    subst e1
    refine .inr ⟨g, cap', _, by rw [e3], hg, heap_set hh u, h1, h2, by simpa using h3, ?_⟩
    rw [Array.toList_setIfInBounds, List.take_set, h4]
theorem flat_set : ∀ (f : List (ByteArray × Int)) (k : Nat) (h : k < f.length) (s : ByteArray), (flat f).set (k * 2) (.string s) = flat (f.set k (s, f[k].2))
  | x :: r, 0, _, s => rfl
  | x :: r, k + 1, h, s => by
    have ih := flat_set r k (by simpa using h) s
    have e : ∀ (y : ByteArray × Int) (q : List (ByteArray × Int)), flat (y :: q) = .string y.1 :: .int .i64 y.2 :: flat q := fun _ _ => rfl
    rw [e, show (k + 1) * 2 = k * 2 + 1 + 1 from by omega, List.set_cons_succ, List.set_cons_succ, ih]
    rfl
theorem flat_set2 : ∀ (f : List (ByteArray × Int)) (k : Nat) (h : k < f.length) (z : Int), (flat f).set (k * 2 + 1) (.int .i64 z) = flat (f.set k (f[k].1, z))
  | x :: r, 0, _, z => rfl
  | x :: r, k + 1, h, z => by
    have ih := flat_set2 r k (by simpa using h) z
    have e : ∀ (y : ByteArray × Int) (q : List (ByteArray × Int)), flat (y :: q) = .string y.1 :: .int .i64 y.2 :: flat q := fun _ _ => rfl
    rw [e, show (k + 1) * 2 + 1 = k * 2 + 1 + 1 + 1 from by omega, List.set_cons_succ, List.set_cons_succ, ih]
    rfl
theorem own_slot {w : World} {base size n cap : Nat} {e : TypeId} {B : Option Addr} {xs : List Value} (h : w.ownsRow base e size (.slice B n cap) n xs) (hn : 1 ≤ n) :
    ∃ g, B = some ⟨g, 0, none⟩ ∧ base ≤ g ∧ g < w.heap.size ∧ ∀ i, i < xs.length → (∃ u, w.cell? ⟨g, i, none⟩ = some u) ∧ w.frozen? ⟨g, i, none⟩ = false := by
  rcases h.2 with ⟨hv, h0⟩ | ⟨g, cap', cur, hv, hg, hh, h1, h2, h3, h4⟩
  · omega
  · injection hv with e1 e2 e3
    refine ⟨g, e1, hg, lt_of_heap hh, fun i hi => ⟨?_, free_of_heap hh i⟩⟩
    rw [cell_of_heap hh]
    have hxl := h.1
    have : i < cur.size := by
      rw [h3]
      have := Nat.mul_le_mul_right size h1
      omega
    exact ⟨_, Array.getElem?_eq_getElem this⟩
def codeTexts : List ByteArray := [⟨#[]⟩, ⟨#[65]⟩, ⟨#[97, 98, 99, 100]⟩, ⟨#[97]⟩, ⟨#[122, 122, 122]⟩]
theorem codeTexts_size : ∀ s ∈ codeTexts, s.size ≤ 4 := by
  intro s hs
  simp only [codeTexts, List.mem_cons, List.not_mem_nil, or_false] at hs
  rcases hs with rfl | rfl | rfl | rfl | rfl <;> decide
def setInts : List Int := [0, 1, 54, 55, -1]
theorem codesOk_set {f : List (ByteArray × Int)} {k : Nat} {x : ByteArray × Int} (h : CodesOk f) (hx : x.1.size ≤ maxLen) : CodesOk (f.set k x) := by
  intro q hq
  rw [List.getElem_set]
  split
  · exact hx
  · exact h q _

end Go.Proofs.YtllafkeheppkjaaDoor

/-
  The draw of a case: spec.l1Cur.boxes answers as many boxes as it is given sorts, with their codes. (For FnHandWays, FnCases.)
-/
namespace Go.Proofs.YtllafkeheppkjaaDoor
open Go.RowKit
set_option linter.unusedVariables false

theorem SortsIn.keep {w w' : World} {lo : Nat} {g : Nat} {f : List (ByteArray × Int)} {row : Option Nat} (h : SortsIn w lo (some ⟨g, 0, none⟩) f) (hg : w.grownBy w' row) (hne : row ≠ some g) : SortsIn w' lo (some ⟨g, 0, none⟩) f := fun hn => by
  obtain ⟨b', off, e, h1, h2, h3⟩ := h hn
  obtain ⟨rfl, rfl⟩ : g = b' ∧ 0 = off := by simpa using e
  exact ⟨g, 0, rfl, h1, Nat.lt_of_lt_of_le h2 hg.size, fun k hk => ⟨(cell_keep hg h2 hne).trans (h3 k hk).1, (cell_keep hg h2 hne).trans (h3 k hk).2⟩⟩
theorem four_new (w : World) (x y z u : Value) (t : TypeId) : ∀ j q, ([x, y, z, u] : List Value)[j]? = some q → (w.alloc (.cells #[x, y, z, u] t)).cell? ((⟨w.heap.size, 0, none⟩ : Addr).add j) = some q := by
  intro j q hq
  have e : (⟨w.heap.size, 0, none⟩ : Addr).add j = ⟨w.heap.size, 0 + j, none⟩ := by
    unfold Addr.add
    by_cases hk : j = 0 <;> simp [hk]
  rw [e, cell_of_heap (heap_new _ _), Nat.zero_add, ← hq]
  simp
theorem snoc_bx {w : World} {base : Nat} {e : TypeId} {v : Value} {acc : List Bx} {s : ByteArray} {r c n : Int} (h : w.ownsRow base e 4 v (acc.length + 1) (flatBx acc ++ [.string s, .int .i64 r, .int .i64 c, .int .i64 n])) :
    w.ownsRow base e 4 v (acc ++ [(⟨s, r, c, n⟩ : Bx)]).length (flatBx (acc ++ [(⟨s, r, c, n⟩ : Bx)])) := by
  rw [List.length_append, flatBx_snoc]; exact h
theorem BxsOk.snoc {acc : List Bx} (h : BxsOk acc) (x : Bx) (hx : x.cod.size ≤ maxLen) : BxsOk (acc ++ [x]) := by
  intro q hq
  by_cases hqa : q < acc.length
  · rw [List.getElem_append_left hqa]; exact h q hqa
  · have : q = acc.length := by simp at hq; omega
    subst this
    simp
    exact hx
def handInts : List Int := [0, 1, 2, 5, 20]

set_option maxRecDepth 100000 in
set_option maxHeartbeats 1000000 in
theorem boxes_any (f : List (ByteArray × Int)) (gf d : Nat) (b c M : Nat) (A : Option Addr) (xs : List UInt8) (w : World) (hc : CurLe w b A c M xs) (hat : M ≤ 999900) (hxs : xs.length ≤ maxLen) (hf : SortsIn w 0 (some ⟨gf, 0, none⟩) f) (hgb : gf ≠ b) (hgl0 : gf < w.heap.size) (ho : CodesOk f) (hfl : f.length ≤ 12) :
    Calls Tryd.prog 71 #[.pointer (some ⟨b, 0, none⟩), .slice (some ⟨gf, 0, none⟩) f.length d] w fun e w' =>
      (∃ (l : List Bx) (B : Option Addr) (d : Nat), e = .returned (.slice B l.length d) ∧ l.length = f.length ∧ BxsOk l ∧ w'.ownsRow w.heap.size 40 4 (.slice B l.length d) l.length (flatBx l)) ∧
      CurLe w' b A c (M + 25) xs ∧ w.grownBy w' (some b) := by
  have hbl := hc.lt
  have HC := Lib.hid hc; have HF := Lib.hid hf; have HO := Lib.hid ho; clear hc hf ho
  obtain ⟨i0, hi0', hz0, hz1, hz2⟩ := info_parts infoBx
  have HI0 := Lib.hid hi0'; have HZ0 := Lib.hid hz0; have HZ1 := Lib.hid hz1; have HZ2 := Lib.hid hz2
  clear hi0' hz0 hz1 hz2
  go_enter Tryd.func71, Tryd.ntmps71
  go_wp2_with fail
  refine (pick_any 20 b c M A xs w HC.out (by omega) hxs (by omega) (by omega)).mono ?_
  rintro e w1 ⟨⟨z, hz, rfl⟩, hc1, hg1⟩
  have HC1 := Lib.hid hc1; have HG1 := Lib.hid hg1
  have HF1 := Lib.hid (HF.out.keep hg1 (fun e => hgb (Option.some.inj e).symm))
  have hz1 : (z : Int) < 20 := by omega
  clear hc1 hg1 HC HF
  go_wp2
  go_loopw [5, 6, 13] (fun v a i wr => ∃ (z : Nat) (acc : List Bx), acc.length ≤ f.length ∧ i = .int .i64 (acc.length : Int) ∧ a = .int .i64 (z : Int) ∧ z ≤ 20 + 2 * acc.length ∧ BxsOk acc ∧ wr.ownsRow w.heap.size 40 4 v acc.length (flatBx acc) ∧ SortsIn wr 0 (some ⟨gf, 0, none⟩) f ∧ CurLe wr b A c (M + 1 + 2 * acc.length) xs ∧ w.grownBy wr (some b)) (fun _ _ i _ => f.length - (intOf i).toNat)
  case atStart => exact ⟨z, [], Nat.zero_le _, rfl, rfl, by simp; omega, fun k h => absurd h (by simp), own_nil _ _ _ _, HF1.out, HC1.out, HG1.out⟩
  case round =>
    clear HC1 HG1 HF1 hz hz1
    obtain ⟨y, acc, hal, rfl, rfl, hy, hao, hown, hsf, hc, hg⟩ := hrel
    by_cases hlt : acc.length < f.length
    · obtain ⟨g', off, e, _, hgl, hcs⟩ := hsf (by omega)
      obtain ⟨rfl, rfl⟩ : gf = g' ∧ 0 = off := by simpa using e
      obtain ⟨x0, x1⟩ := hcs acc.length hlt
      rw [Nat.zero_add] at x0 x1
      have ht := HO.out acc.length hlt
      generalize (f[acc.length]'hlt).1 = t at *
      generalize (f[acc.length]'hlt).2 = u at *
      clear hcs e
      have hlt1 : (acc.length : Int) < (f.length : Int) := by omega
      have hwr : w.heap.size ≤ wr.heap.size := hg.size
      obtain ⟨n, hn⟩ : ∃ n, n = acc.length := ⟨_, rfl⟩
      have HAO := Lib.hid hao; have HOW := Lib.hid hown; have HSF := Lib.hid hsf; have HCC := Lib.hid hc; have HGG := Lib.hid hg; have HT := Lib.hid ht
      obtain ⟨w2, hw2⟩ : ∃ w2, w2 = wr.alloc (.cells #[.string t, .int .i64 u] 116) := ⟨_, rfl⟩
      have hb2 : Below wr.heap.size wr w2 := by rw [hw2]; exact (Below.refl _ _).alloc (Nat.le_refl _) _
      have hp0 : w2.cell? ⟨wr.heap.size, 0, none⟩ = some (.string t) := by rw [hw2, cell_of_heap (heap_new _ _)]; rfl
      have hsz2 : wr.heap.size < w2.heap.size := by rw [hw2]; simp
      have hbd : Below w2.heap.size w2 (w2.drew.alloc (.cells (intsZ handInts).toArray 3)) := ((Below.refl _ _).drew).alloc (Nat.le_refl _) _
      have hb3 := hb2.trans (hbd.mono hb2.size)
      have HC3 := Lib.hid (HCC.out.below hb3)
      have HROW := Lib.hid (row_ints w2.drew handInts)
      have HO3 := Lib.hid (own_below HOW.out hb3)
      have HG3 := Lib.hid (grown_below HGG.out hb3)
      have HS3 := Lib.hid (HSF.out.below hb3 (Nat.le_refl _))
      have hbdsz := hbd.size
      have hq0 := (hbd.cell (p := ⟨wr.heap.size, 0, none⟩) hsz2).trans hp0
      have HQ0 := Lib.hid hq0
      have hbwr : b < wr.heap.size := hc.lt
      have HW2 := Lib.hid hw2
      have hmx : acc.length + 1 ≤ maxLen := by unfold maxLen; omega
      have hrw := own_lt hown
      have HRW := Lib.hid hrw
      clear hao hown hsf hc hg ht hb2 hbd hb3 hw2 hrw hq0 hn
      go_wp2_with fail
      rw [← HW2.out]
      have hy60 : y ≤ 60 := by omega
      have hd1 : (y : Int).tdiv 10 = ((y / 10 : Nat) : Int) := by rw [Int.tdiv_eq_ediv_of_nonneg (by omega)]; omega
      have hd2 : IntKind.i64.wrap ((y / 10 : Nat) : Int) = ((y / 10 : Nat) : Int) := IntWalk.i64_in _ (by omega)
      have hd3 : ((y / 10 : Nat) : Int).tmod 10 = ((y / 10 % 10 : Nat) : Int) := by rw [Int.tmod_eq_emod_of_nonneg (by omega)]; omega
      have hd4 : (y : Int).tmod 10 = ((y % 10 : Nat) : Int) := by rw [Int.tmod_eq_emod_of_nonneg (by omega)]; omega
      have tok1 : True := trivial
      have HSZ3 := Lib.hid hbdsz
      have HY := Lib.hid hy60; have HYY := Lib.hid hy
      clear hy60 hlt1 hal hy x0 x1 hbdsz
      go_cut [5] (fun s5 wx => ∃ (r q m : Int), wx.ownsRow w.heap.size 40 4 s5 (acc.length + 1) (flatBx acc ++ [.string t, .int .i64 r, .int .i64 q, .int .i64 m]) ∧ SortsIn wx 0 (some ⟨gf, 0, none⟩) f ∧ CurLe wx b A c (M + 1 + 2 * acc.length + 1) xs ∧ w.grownBy wx (some b))
      case first =>
        go_region_law (first
          | (have _t := tok1; go_simp; go_at_call 50; refine (among_any handInts _ _ b c _ A xs _ HC3.out (by omega) hxs HROW.out (by simp; omega) (by decide) (by decide)).mono ?_; rintro e w3 ⟨⟨s, hs, rfl⟩, hc3, hg3⟩; clear tok1
             have hq3 := (cell_keep hg3 (Nat.lt_of_lt_of_le hsz2 HSZ3.out) (fun e => by have := Option.some.inj e; omega)).trans HQ0.out
             have hsz3 := hg3.size
             have HO4 := Lib.hid (own_grown HO3.out hg3 (fun k hk e => by have := HRW.out k hk; have := Option.some.inj e; omega))
             have HS4 := Lib.hid (HS3.out.keep hg3 (fun e => hgb (Option.some.inj e).symm))
             have HG4 := Lib.hid (grownBy_trans HG3.out hg3)
             have HC4 := Lib.hid hc3
             clear hc3 hg3)
          | (refine step_own _ (by rfl) _ _ _ (by rfl) w.heap.size 40 i0 (.agg #[.string .empty, .int .i64 0, .int .i64 0, .int .i64 0]) 4 40 Tryd.underlying26 HI0.out HZ0.out HZ1.out HZ2.out rfl (by decide) _ acc.length (flatBx acc) (by rfl) (HO4.out.alloc _) ⟨w3.heap.size, 0, none⟩ 1 1 [.string t, .int .i64 _, .int .i64 _, .int .i64 s] (by rfl) rfl (four_new w3 _ _ _ _ _) (by simp [Value.oneCell']) hmx (by omega) (by have := HG4.out.size; simp; omega) ?_
             intro v' w4 hown' hgrow))
        all_goals
          go_wp2_with fail
          go_meet
          exact ⟨_, _, _, hown', (SortsIn.below HS4.out ((Below.refl _ _).alloc (Nat.le_refl _) _) (Nat.le_refl _)).keep hgrow (fun e => by have := HRW.out _ e; omega), (HC4.out.below ((Below.refl _ _).alloc (Nat.le_refl _) _)).own hgrow (fun k hk => by have := HRW.out k hk; omega), grownBy_own (grownBy_alloc HG4.out _) hgrow (fun k hk => HRW.out k hk)⟩
      case rest =>
        obtain ⟨r, q, m, hown, hsf, hc, hg⟩ := hcut
        have HO5 := Lib.hid (snoc_bx hown)
        have HS5 := Lib.hid hsf; have HG5 := Lib.hid hg; have HC5 := Lib.hid hc
        have HAO5 := Lib.hid (HAO.out.snoc ⟨t, r, q, m⟩ HT.out)
        clear hown hsf hg hc HC3 HROW HO3 HG3 HS3 HQ0 HOW HSF HCC HGG
        go_wp2_with fail
        refine (pick_any 2 b c (M + 1 + 2 * acc.length + 1) A xs _ HC5.out (by omega) hxs (by omega) (by omega)).mono ?_
        rintro e w6 ⟨⟨x, hx, rfl⟩, hc6, hg6⟩
        have HO6 := Lib.hid (own_grown HO5.out hg6 (fun k hk e => by have := own_lt HO5.out k hk; have := Option.some.inj e; omega))
        have HS6 := Lib.hid (HS5.out.keep hg6 (fun e => hgb (Option.some.inj e).symm))
        have HG6 := Lib.hid (grownBy_trans HG5.out hg6)
        have HC6 := Lib.hid hc6
        have hx1 : (x : Int) < 2 := by omega
        clear hc6 hg6 hd1 hd2 hd3 hd4
        have hy2 : y ≤ 60 := HY.out
        go_wp2
        go_roundw
        case rel => exact ⟨y + (1 + x), acc ++ [(⟨t, r, q, m⟩ : Bx)], by simp; omega, by simp, by simp, by have := HYY.out; simp; omega, HAO5.out, HO6.out, HS6.out, HC6.out.more (by simp; omega), HG6.out⟩
        case measure => simp [intOf]; omega
    · obtain ⟨B', d', rfl⟩ := own_form_bx hown
      have hlt1 : ¬ (acc.length : Int) < (f.length : Int) := by omega
      go_wp2
      go_ret
      exact ⟨⟨acc, B', d', rfl, by omega, hao, hown⟩, hc.more (by omega), hg⟩
end Go.Proofs.YtllafkeheppkjaaDoor

/-
  The draws of any case: spec.l1Cur.anyCase. (For FnHandWays, FnCases.)
-/
namespace Go.Proofs.YtllafkeheppkjaaDoor
open Go.RowKit
set_option linter.unusedVariables false

theorem flatBx_cod : ∀ (l : List Bx) (k : Nat) (h : k < l.length) (z : ByteArray), (flatBx l).set (k * 4) (.string z) = flatBx (l.set k { l[k] with cod := z })
  | x :: r, 0, _, z => rfl
  | x :: r, k + 1, h, z => by
    have ih := flatBx_cod r k (by simpa using h) z
    have e : ∀ y : Bx, ∀ q : List Bx, flatBx (y :: q) = .string y.cod :: .int .i64 y.row :: .int .i64 y.col :: .int .i64 y.cnt :: flatBx q := fun _ _ => rfl
    rw [e, show (k + 1) * 4 = k * 4 + 1 + 1 + 1 + 1 from by omega]
    simp only [List.set_cons_succ, ih, List.getElem_cons_succ, e]
theorem BxsOk.set {l : List Bx} (h : BxsOk l) (k : Nat) (x : Bx) (hx : x.cod.size ≤ maxLen) : BxsOk (l.set k x) := by
  intro q hq
  rw [List.getElem_set]
  split
  · exact hx
  · exact h q _
theorem own_zero {w : World} {base size n : Nat} {e : TypeId} {B : Option Addr} {d : Nat} {xs : List Value} (h : w.ownsRow base e size (.slice B n d) n xs) : w.ownsRow base e size (.slice B 0 d) 0 [] := by
  refine ⟨by simp, ?_⟩
  rcases h.2 with ⟨hv, h0⟩ | ⟨g, cap, cur, hv, hg, hh, h1, h2, h3, h4⟩
  · injection hv with e1 e2 e3
    subst e1; subst e3
    exact .inl ⟨rfl, rfl⟩
  · injection hv with e1 e2 e3
    exact .inr ⟨g, cap, cur, by rw [e1, e3], hg, hh, Nat.zero_le _, h2, h3, by simp⟩
theorem own_cap {w : World} {base size n d : Nat} {e : TypeId} {B : Option Addr} {xs : List Value} (h : w.ownsRow base e size (.slice B n d) n xs) : n ≤ d := by
  rcases h.2 with ⟨hv, h0⟩ | ⟨g, cap, cur, hv, hg, hh, h1, h2, h3, h4⟩
  · omega
  · injection hv with e1 e2 e3
    omega
def rowInts : List Int := [10, -1, 9]
def cntInts : List Int := [9999, 10000, -1]
def caseTexts : List ByteArray := [⟨#[]⟩, ⟨#[97]⟩, ⟨#[122, 122]⟩]
theorem caseTexts_size : ∀ s ∈ caseTexts, s.size ≤ 4 := by
  intro s hs
  simp only [caseTexts, List.mem_cons, List.not_mem_nil, or_false] at hs
  rcases hs with rfl | rfl | rfl <;> decide

set_option maxRecDepth 100000 in
set_option maxHeartbeats 1000000 in
theorem anyCase_any (b c M : Nat) (A : Option Addr) (xs : List UInt8) (w : World) (hc : CurLe w b A c M xs) (hat : M ≤ 999800) (hxs : xs.length ≤ maxLen) :
    Calls Tryd.prog 47 #[.pointer (some ⟨b, 0, none⟩)] w fun e w' =>
      (∃ (l : List Bx) (B : Option Addr) (d : Nat), e = .returned (.slice B l.length d) ∧ l.length ≤ 33 ∧ BxsOk l ∧ w'.ownsRow (w.heap.size + 1) 40 4 (.slice B l.length d) l.length (flatBx l)) ∧
      CurLe w' b A c (M + 60) xs ∧ w.grownBy w' (some b) := by
  have hbl := hc.lt
  have HC := Lib.hid hc; clear hc
  go_enter Tryd.func47, Tryd.ntmps47
  go_wp2_with fail
  refine (font_any b c M A xs w HC.out (by omega) hxs).mono ?_
  rintro e w1 ⟨⟨f, B, d, rfl, hf1, hf2, hco, hown⟩, hc1, hg1⟩
  obtain ⟨g, rfl, hgb, hgz, _⟩ := own_slot hown hf1
  have HC1 := Lib.hid hc1; have HG1 := Lib.hid hg1; have HSF := Lib.hid (own_in_f hown); have HCO := Lib.hid hco
  have hw1 := hg1.size
  clear hc1 hg1 hown HC hco
  go_wp2_with fail
  refine (boxes_any f g d b c (M + 24) A xs w1 HC1.out (by omega) hxs HSF.out (by omega) (by omega) HCO.out hf2).mono ?_
  rintro e w2 ⟨⟨l, B2, d2, rfl, hlf, hlo, hown⟩, hc2, hg2⟩
  have HC2 := Lib.hid hc2; have HG2 := Lib.hid (grownBy_trans HG1.out hg2)
  have HO2 := Lib.hid (Joins.ownsRow_le hown (show w.heap.size + 1 ≤ w1.heap.size by omega))
  have hl1 : 1 ≤ l.length := by omega
  have hl2 : l.length ≤ 12 := by omega
  have HLO := Lib.hid hlo; have hw2 := hg2.size
  clear hc2 hg2 hown HC1 HG1 HSF HCO hlf hlo
  go_wp2_with fail
  refine (pick_any l.length b c (M + 24 + 25) A xs w2 HC2.out (by omega) hxs hl1 (by omega)).mono ?_
  rintro e w3 ⟨⟨k, hk, rfl⟩, hc3, hg3⟩
  have HC3 := Lib.hid hc3; have HG3 := Lib.hid (grownBy_trans HG2.out hg3)
  have HO3 := Lib.hid (own_grown HO2.out hg3 (fun k hk e => by have := own_lt HO2.out k hk; have := Option.some.inj e; omega))
  have hw3 := hg3.size
  clear hc3 hg3 HC2 HG2 HO2
  go_wp2_with fail
  refine (pick_any 30 b c (M + 24 + 25 + 1) A xs w3 HC3.out (by omega) hxs (by omega) (by omega)).mono ?_
  rintro e w4 ⟨⟨x, hx, rfl⟩, hc4, hg4⟩
  have HC4 := Lib.hid hc4; have HG4 := Lib.hid (grownBy_trans HG3.out hg4)
  have HO4 := Lib.hid (own_grown HO3.out hg4 (fun k hk e => by have := own_lt HO3.out k hk; have := Option.some.inj e; omega))
  have hw4 := hg4.size
  clear hc4 hg4 HC3 HG3 HO3
  have hk1 : (k : Int) < (l.length : Int) := by omega
  have hwz : w.heap.size + 1 ≤ w4.heap.size := by omega
  have hbl4 : b < w4.heap.size := by omega
  clear hw1 hw2 hw3 hw4
  rcases (by omega : x = 0 ∨ x = 1 ∨ x = 2 ∨ x = 3 ∨ x = 4 ∨ 5 ≤ x) with rfl | rfl | rfl | rfl | rfl | h5
  · have HC5 := Lib.hid (HC4.out.below ((Below.refl _ _).alloc (Nat.le_refl _) (.cells (intsZ rowInts).toArray 3)))
    have HG5 := Lib.hid (grownBy_alloc HG4.out (.cells (intsZ rowInts).toArray 3))
    have HO5 := Lib.hid (own_below HO4.out ((Below.refl _ _).alloc (Nat.le_refl _) (.cells (intsZ rowInts).toArray 3)))
    have HROW := Lib.hid (row_ints w4 rowInts)
    go_wp2_with fail
    refine (among_any rowInts w4.heap.size _ b c (M + 24 + 25 + 1 + 1) A xs _ HC5.out (by omega) hxs HROW.out (by omega) (by decide) (by decide)).mono ?_
    rintro e w5 ⟨⟨t, ht, rfl⟩, hc5, hg5⟩
    have hown5 := own_grown HO5.out hg5 (fun k hk e => by have := own_lt HO5.out k hk; have := Option.some.inj e; omega)
    have HG6 := Lib.hid (grownBy_trans HG5.out hg5)
    obtain ⟨g, rfl, hgb, hgz, hslot⟩ := own_slot hown5 hl1
    obtain ⟨⟨u, hu⟩, hfz⟩ := hslot (k * 4 + 1) (by rw [flatBx_len]; omega)
    have hset := own_set hown5 (i := k * 4 + 1) (by rw [flatBx_len]; omega) (.int .i64 t)
    rw [flatBx_row l k hk] at hset
    have HO6 : Hid ((w5.setCell ⟨g, k * 4 + 1, none⟩ (.int .i64 t)).ownsRow (w.heap.size + 1) 40 4 (.slice (some ⟨g, 0, none⟩) (l.set k { l[k] with row := t }).length d2) (l.set k { l[k] with row := t }).length (flatBx (l.set k { l[k] with row := t }))) := by
      rw [List.length_set]; exact hset
    have hgr : w5.grownBy (w5.setCell ⟨g, k * 4 + 1, none⟩ (.int .i64 t)) (some g) := grown_set (World.grownBy.refl _ _) _ _
    have HC6 := Lib.hid (hc5.own hgr (fun k hk => by have := Option.some.inj hk; omega))
    have HG7 := Lib.hid (grownBy_own HG6.out hgr (fun k hk => by have := Option.some.inj hk; omega))
    have HLS : Hid (BxsOk (l.set k { l[k] with row := t })) := HLO.out.set _ _ (by exact HLO.out k hk)
    clear hset hgr hc5 hg5 hown5 hslot HLO
    go_wp2
    go_ret
    exact ⟨⟨l.set k { l[k] with row := t }, _, d2, by rw [List.length_set]; rfl, by rw [List.length_set]; omega, HLS.out, HO6.out⟩, HC6.out.more (by omega), HG7.out⟩
  · have HC5 := Lib.hid (HC4.out.below ((Below.refl _ _).alloc (Nat.le_refl _) (.cells (intsZ cntInts).toArray 3)))
    have HG5 := Lib.hid (grownBy_alloc HG4.out (.cells (intsZ cntInts).toArray 3))
    have HO5 := Lib.hid (own_below HO4.out ((Below.refl _ _).alloc (Nat.le_refl _) (.cells (intsZ cntInts).toArray 3)))
    have HROW := Lib.hid (row_ints w4 cntInts)
    go_wp2_with fail
    refine (among_any cntInts w4.heap.size _ b c (M + 24 + 25 + 1 + 1) A xs _ HC5.out (by omega) hxs HROW.out (by omega) (by decide) (by decide)).mono ?_
    rintro e w5 ⟨⟨t, ht, rfl⟩, hc5, hg5⟩
    have hown5 := own_grown HO5.out hg5 (fun k hk e => by have := own_lt HO5.out k hk; have := Option.some.inj e; omega)
    have HG6 := Lib.hid (grownBy_trans HG5.out hg5)
    obtain ⟨g, rfl, hgb, hgz, hslot⟩ := own_slot hown5 hl1
    obtain ⟨⟨u, hu⟩, hfz⟩ := hslot (k * 4 + 3) (by rw [flatBx_len]; omega)
    have hset := own_set hown5 (i := k * 4 + 3) (by rw [flatBx_len]; omega) (.int .i64 t)
    rw [flatBx_cnt l k hk] at hset
    have HO6 : Hid ((w5.setCell ⟨g, k * 4 + 3, none⟩ (.int .i64 t)).ownsRow (w.heap.size + 1) 40 4 (.slice (some ⟨g, 0, none⟩) (l.set k { l[k] with cnt := t }).length d2) (l.set k { l[k] with cnt := t }).length (flatBx (l.set k { l[k] with cnt := t }))) := by
      rw [List.length_set]; exact hset
    have hgr : w5.grownBy (w5.setCell ⟨g, k * 4 + 3, none⟩ (.int .i64 t)) (some g) := grown_set (World.grownBy.refl _ _) _ _
    have HC6 := Lib.hid (hc5.own hgr (fun k hk => by have := Option.some.inj hk; omega))
    have HG7 := Lib.hid (grownBy_own HG6.out hgr (fun k hk => by have := Option.some.inj hk; omega))
    have HLS : Hid (BxsOk (l.set k { l[k] with cnt := t })) := HLO.out.set _ _ (by exact HLO.out k hk)
    clear hset hgr hc5 hg5 hown5 hslot HLO
    go_wp2
    go_ret
    exact ⟨⟨l.set k { l[k] with cnt := t }, _, d2, by rw [List.length_set]; rfl, by rw [List.length_set]; omega, HLS.out, HO6.out⟩, HC6.out.more (by omega), HG7.out⟩
  · have HC5 := Lib.hid (HC4.out.below ((Below.refl _ _).alloc (Nat.le_refl _) (.cells (strs caseTexts).toArray 9)))
    have HG5 := Lib.hid (grownBy_alloc HG4.out (.cells (strs caseTexts).toArray 9))
    have HO5 := Lib.hid (own_below HO4.out ((Below.refl _ _).alloc (Nat.le_refl _) (.cells (strs caseTexts).toArray 9)))
    have HROW := Lib.hid (row_strs w4 caseTexts)
    go_wp2_with fail
    refine (of_any caseTexts w4.heap.size _ b c (M + 24 + 25 + 1 + 1) A xs _ HC5.out (by omega) hxs HROW.out (by omega) (by decide) (by decide)).mono ?_
    rintro e w5 ⟨⟨t, ht, rfl⟩, hc5, hg5⟩
    have hown5 := own_grown HO5.out hg5 (fun k hk e => by have := own_lt HO5.out k hk; have := Option.some.inj e; omega)
    have HG6 := Lib.hid (grownBy_trans HG5.out hg5)
    obtain ⟨g, rfl, hgb, hgz, hslot⟩ := own_slot hown5 hl1
    obtain ⟨⟨u, hu⟩, hfz⟩ := hslot (k * 4) (by rw [flatBx_len]; omega)
    have hset := own_set hown5 (i := k * 4) (by rw [flatBx_len]; omega) (.string t)
    rw [flatBx_cod l k hk] at hset
    have HO6 : Hid ((w5.setCell ⟨g, k * 4, none⟩ (.string t)).ownsRow (w.heap.size + 1) 40 4 (.slice (some ⟨g, 0, none⟩) (l.set k { l[k] with cod := t }).length d2) (l.set k { l[k] with cod := t }).length (flatBx (l.set k { l[k] with cod := t }))) := by
      rw [List.length_set]; exact hset
    have hgr : w5.grownBy (w5.setCell ⟨g, k * 4, none⟩ (.string t)) (some g) := grown_set (World.grownBy.refl _ _) _ _
    have HC6 := Lib.hid (hc5.own hgr (fun k hk => by have := Option.some.inj hk; omega))
    have HG7 := Lib.hid (grownBy_own HG6.out hgr (fun k hk => by have := Option.some.inj hk; omega))
    have HLS : Hid (BxsOk (l.set k { l[k] with cod := t })) := HLO.out.set _ _ (by have := caseTexts_size t ht; show t.size ≤ _; unfold maxLen; omega)
    clear hset hgr hc5 hg5 hown5 hslot HLO
    go_wp2
    go_ret
    exact ⟨⟨l.set k { l[k] with cod := t }, _, d2, by rw [List.length_set]; rfl, by rw [List.length_set]; omega, HLS.out, HO6.out⟩, HC6.out.more (by omega), HG7.out⟩
  · obtain ⟨g, rfl, hgb, hgz, _⟩ := own_slot HO4.out hl1
    have hcap := own_cap HO4.out
    have HO5 := Lib.hid (own_zero HO4.out)
    clear HO4
    go_wp2
    go_ret
    exact ⟨⟨[], _, d2, rfl, by simp, fun q hq => absurd hq (by simp), HO5.out⟩, HC4.out.more (by omega), HG4.out⟩
  · go_wp2_with fail
    refine (pick_any 2 b c (M + 24 + 25 + 1 + 1) A xs w4 HC4.out (by omega) hxs (by omega) (by omega)).mono ?_
    rintro e w5 ⟨⟨y, hy, rfl⟩, hc5, hg5⟩
    have HC5 := Lib.hid hc5
    have HG5 := Lib.hid (grownBy_trans HG4.out hg5)
    have hsz5 : w.heap.size + 1 ≤ w5.heap.size := Nat.le_trans hwz hg5.size
    have hy1 : (y : Int) < 2 := by omega
    clear hc5 hg5 HC4 HG4 HO4 HLO hk1 hk
    obtain ⟨i0, hi0', hz0, hz1, hz2⟩ := info_parts infoBx
    have HI0 := Lib.hid hi0'; have HZ0 := Lib.hid hz0; have HZ1 := Lib.hid hz1; have HZ2 := Lib.hid hz2
    clear hi0' hz0 hz1 hz2
    go_wp2
    go_loopw [3] (fun v wr => ∃ (acc : List Bx), acc.length ≤ 33 ∧ BxsOk acc ∧ wr.ownsRow (w.heap.size + 1) 40 4 v acc.length (flatBx acc) ∧ CurLe wr b A c (M + 24 + 25 + 1 + 1 + 1) xs ∧ w.grownBy wr (some b) ∧ w.heap.size + 1 ≤ wr.heap.size) (fun v _ => match v with | .slice _ n _ => 40 - n | _ => 0)
    case atStart => exact ⟨[], by simp, fun q hq => absurd hq (by simp), own_nil _ _ _ _, HC5.out, HG5.out, hsz5⟩
    case round =>
      clear HC5 HG5 hsz5
      obtain ⟨acc, hal, hca, hown, hc, hg, hsz⟩ := hrel
      obtain ⟨B', d', rfl⟩ := own_form_bx hown
      by_cases hlt : (acc.length : Int) < 32 + (y : Int)
      · have hq0 : 0 ≤ (acc.length : Int) / 6 := by omega
        have hq1 : (acc.length : Int) / 6 ≤ 6 := by omega
        have hr0 : 0 ≤ (acc.length : Int) % 6 := by omega
        have hr1 : (acc.length : Int) % 6 ≤ 5 := by omega
        obtain ⟨x0, hx0⟩ : ∃ x0 : UInt8, (x0.toNat : Int) = 97 + (acc.length : Int) / 6 := ⟨UInt8.ofNat (97 + acc.length / 6), by simp; omega⟩
        obtain ⟨x1, hx1⟩ : ∃ x1 : UInt8, (x1.toNat : Int) = 97 + (acc.length : Int) % 6 := ⟨UInt8.ofNat (97 + acc.length % 6), by simp; omega⟩
        have HX0 := Lib.hid hx0; have HX1 := Lib.hid hx1
        clear hx0 hx1
        have hcv : ∀ W : World, W = wr.alloc (.cells #[.int .u8 (97 + (acc.length : Int) / 6), .int .u8 (97 + (acc.length : Int) % 6)] 5) → (convert 30 9 (.slice (some ⟨wr.heap.size, 0, none⟩) 2 2)).run Tryd.prog W = .ok (.string ⟨([x0, x1] : List UInt8).toArray⟩) W := fun W hW => by
          subst hW
          refine run_convert_bytes_back (P := Tryd.prog) _ 30 9 5 ⟨wr.heap.size, 0, none⟩ 2 [x0, x1] Tryd.underlying30 Tryd.underlying5 Tryd.underlying9 (fun i hi => ?_)
          refine two_new wr _ _ _ i _ ?_
          match i, hi with
          | 0, _ => rw [← HX0.out]; rfl
          | 1, _ => rw [← HX1.out]; rfl
        have hcv := hcv _ rfl
        have hmx : acc.length + 1 ≤ maxLen := by unfold maxLen; omega
        go_wp2_with (at_builtin; refine wpList_append_own _ rfl _ _ 26 rfl (w.heap.size + 1) 40 i0 (.agg #[.string .empty, .int .i64 0, .int .i64 0, .int .i64 0]) 4 40 Tryd.underlying26 HI0.out HZ0.out HZ1.out HZ2.out rfl (by decide) _ _ _ rfl ((hown.alloc _).alloc _) ⟨wr.heap.size + 1, 0, none⟩ 1 1 [.string ⟨([x0, x1] : List UInt8).toArray⟩, .int .i64 ((acc.length : Int) / 10), .int .i64 ((acc.length : Int) % 10), .int .i64 1] rfl rfl (by have h := four_new (wr.alloc (.cells #[.int .u8 (97 + (acc.length : Int) / 6), .int .u8 (97 + (acc.length : Int) % 6)] 5)) (.string ⟨([x0, x1] : List UInt8).toArray⟩) (.int .i64 ((acc.length : Int) / 10)) (.int .i64 ((acc.length : Int) % 10)) (.int .i64 1) 40; rw [show (wr.alloc (.cells #[.int .u8 (97 + (acc.length : Int) / 6), .int .u8 (97 + (acc.length : Int) % 6)] 5)).heap.size = wr.heap.size + 1 from by simp] at h; exact h) (by simp [Value.oneCell']) hmx (by omega) (by simp; omega) ?_)
        intro v' w6 hown' hgrow _
        have hrw := own_lt hown
        have hb1 : Below wr.heap.size wr ((wr.alloc (.cells #[.int .u8 (97 + (acc.length : Int) / 6), .int .u8 (97 + (acc.length : Int) % 6)] 5)).alloc (.cells #[.string ⟨([x0, x1] : List UInt8).toArray⟩, .int .i64 ((acc.length : Int) / 10), .int .i64 ((acc.length : Int) % 10), .int .i64 1] 40)) :=
          ((Below.refl _ _).alloc (Nat.le_refl _) _).alloc (by simp) _
        have HC6 := Lib.hid ((hc.below hb1).own hgrow (fun k hk => by have := hrw k hk; omega))
        have HG6 := Lib.hid (grownBy_own (grown_below hg hb1) hgrow (fun k hk => by have := hrw k hk; omega))
        have HO6 := Lib.hid (snoc_bx hown')
        have HLS := Lib.hid (hca.snoc ⟨⟨([x0, x1] : List UInt8).toArray⟩, (acc.length : Int) / 10, (acc.length : Int) % 10, 1⟩ (by show (2 : Nat) ≤ maxLen; unfold maxLen; omega))
        have HSZ : Hid (w.heap.size + 1 ≤ w6.heap.size) := Nat.le_trans hsz (Nat.le_trans hb1.size hgrow.size)
        obtain ⟨B6, d6, rfl⟩ := own_form_bx HO6.out
        clear hown' hgrow hown hc hg hcv hb1
        go_wp2
        go_roundw
        case rel => exact ⟨_, by simp; omega, HLS.out, HO6.out, HC6.out, HG6.out, HSZ.out⟩
        case measure => show 40 - (acc ++ [_]).length < 40 - acc.length; simp; omega
      · go_wp2
        go_ret
        exact ⟨⟨acc, B', d', rfl, by omega, hca, hown⟩, hc.more (by omega), hg⟩
  · have e0 : ((x : Int) == 0) = false := by rw [beq_eq_false_iff_ne]; omega
    have e1 : ((x : Int) == 1) = false := by rw [beq_eq_false_iff_ne]; omega
    have e2 : ((x : Int) == 2) = false := by rw [beq_eq_false_iff_ne]; omega
    have e3 : ((x : Int) == 3) = false := by rw [beq_eq_false_iff_ne]; omega
    have e4 : ((x : Int) == 4) = false := by rw [beq_eq_false_iff_ne]; omega
    go_wp2
    go_ret
    exact ⟨⟨l, B2, d2, rfl, by omega, HLO.out, HO4.out⟩, HC4.out.more (by omega), HG4.out⟩
end Go.Proofs.YtllafkeheppkjaaDoor

/-
  The draw of codes: spec.l1Cur.codesOf. (For FnHandWays, FnCases.)
-/
namespace Go.Proofs.YtllafkeheppkjaaDoor
open Go.RowKit
set_option linter.unusedVariables false

def dLen : Value → Nat | .slice _ n _ => n | _ => 0
def ShortD (l : List ByteArray) : Prop := ∀ s ∈ l, s.size ≤ maxLen
theorem ShortD.snoc {l : List ByteArray} {s : ByteArray} (h : ShortD l) (hs : s.size ≤ maxLen) : ShortD (l ++ [s]) := fun x hx => by
  rcases List.mem_append.1 hx with h1 | h1
  · exact h x h1
  · simp at h1; subst h1; exact hs
theorem ShortD.ok {l : List ByteArray} (h : ShortD l) : StrsOk l := fun k hk => by
  exact h _ (List.getElem_mem hk)
def askTexts : List ByteArray := [⟨#[122, 122, 122]⟩, ⟨#[]⟩, ⟨#[97]⟩]
theorem askTexts_size : ∀ s ∈ askTexts, s.size ≤ 4 := by
  intro s hs
  simp only [askTexts, List.mem_cons, List.not_mem_nil, or_false] at hs
  rcases hs with rfl | rfl | rfl <;> decide
theorem BxsIn.keep {w w' : World} {A : Option Addr} {f : List Bx} {row : Option Nat} (h : BxsIn w A f) (hg : w.grownBy w' row) (hne : ∀ g off, A = some ⟨g, off, none⟩ → row ≠ some g) : BxsIn w' A f := fun hn => by
  obtain ⟨b', off, rfl, h2, h3⟩ := h hn
  have hne := hne _ _ rfl
  refine ⟨b', off, rfl, Nat.lt_of_lt_of_le h2 hg.size, fun k hk => ?_⟩
  rw [cell_keep hg h2 hne, cell_keep hg h2 hne, cell_keep hg h2 hne, cell_keep hg h2 hne]
  exact h3 k hk

set_option maxRecDepth 100000 in
set_option maxHeartbeats 1000000 in
theorem codesOf_any (l : List Bx) (E : Option Addr) (dE : Nat) (b c M : Nat) (A : Option Addr) (xs : List UInt8) (w : World) (hc : CurLe w b A c M xs) (hat : M ≤ 999700) (hxs : xs.length ≤ maxLen) (hf : BxsIn w E l) (hne : ∀ g off, E = some ⟨g, off, none⟩ → some b ≠ some g) (ho : BxsOk l) (hl : l.length ≤ 33) :
    Calls Tryd.prog 58 #[.pointer (some ⟨b, 0, none⟩), .slice E l.length dE] w fun e w' =>
      (∃ (cs : List ByteArray) (B : Option Addr) (d : Nat), e = .returned (.slice B cs.length d) ∧ cs.length ≤ 61 ∧ ShortD cs ∧ w'.ownsRow w.heap.size 9 1 (.slice B cs.length d) cs.length (strs cs)) ∧
      CurLe w' b A c (M + 130) xs ∧ w.grownBy w' (some b) := by
  have hbl := hc.lt
  have HC := Lib.hid hc; have HB := Lib.hid hf; have HBO := Lib.hid ho; have HNE := Lib.hid hne; clear hc hf ho hne
  obtain ⟨i0, hi, hz0, hz1, hz2⟩ := info_parts infoStr
  have HI0 := Lib.hid hi; have HZ0 := Lib.hid hz0; have HZ1 := Lib.hid hz1; have HZ2 := Lib.hid hz2
  clear hi hz0 hz1 hz2
  go_enter Tryd.func58, Tryd.ntmps58
  go_wp2_with fail
  refine (pick_any 7 b c M A xs w HC.out (by omega) hxs (by omega) (by omega)).mono ?_
  rintro e w1 ⟨⟨x, hx, rfl⟩, hc1, hg1⟩
  have HC1 := Lib.hid hc1; have HG1 := Lib.hid hg1
  clear hc1 hg1 HC
  go_wp2_with fail
  refine (one_any 12 b c (M + 1) A xs w1 HC1.out (by omega) hxs (by omega) (by omega)).mono ?_
  rintro e w2 ⟨⟨r, rfl⟩, hc2, hg2⟩
  have HC2 := Lib.hid hc2; have HG2 := Lib.hid (grownBy_trans HG1.out hg2)
  clear hc2 hg2 HC1 HG1
  cases r
  · have hn61 : x ≤ 61 := by omega
    have HC0 := Lib.hid (HC2.out.more (M' := M + 3) (by omega))
    have HG0 := HG2
    clear HC2 HG2
    obtain ⟨n, hn⟩ : ∃ n : Nat, n = x := ⟨_, rfl⟩
    rw [← hn] at hn61 ⊢
    clear hx hn
    go_wp2
    go_loopw [5] (fun v wr => ∃ (acc : List ByteArray) (B : Option Addr) (d : Nat), acc.length ≤ n ∧ ShortD acc ∧ v = .slice B acc.length d ∧ wr.ownsRow w.heap.size 9 1 v acc.length (strs acc) ∧ CurLe wr b A c (M + 3 + 2 * acc.length) xs ∧ w.grownBy wr (some b)) (fun v _ => n - dLen v)
    case atStart => exact ⟨[], none, 0, Nat.zero_le _, fun s h => absurd h (by simp), rfl, own_nil _ _ _ _, HC0.out, HG0.out⟩
    case round =>
      obtain ⟨acc, B, d, hal, hs, rfl, hown, hc, hg⟩ := hrel
      clear HC0 HG0
      have HS := Lib.hid hs; have HO3 := Lib.hid hown; have HC3 := Lib.hid hc; have HG3 := Lib.hid hg
      clear hs hown hc hg
      by_cases hlt : acc.length < n
      · have hlt1 : (acc.length : Int) < (n : Int) := by omega
        by_cases h0 : l.length = 0
        · have hz : ((l.length : Int) == 0) = true := by rw [h0]; rfl
          have HZ0' := Lib.hid h0
          clear h0
          have HC4 := Lib.hid (HC3.out.below ((Below.refl _ _).alloc (Nat.le_refl _) (.cells (strs askTexts).toArray 9)))
          have HG4 := Lib.hid (grownBy_alloc HG3.out (.cells (strs askTexts).toArray 9))
          have HO4 := Lib.hid (own_below HO3.out ((Below.refl _ _).alloc (Nat.le_refl _) (.cells (strs askTexts).toArray 9)))
          have HROW := Lib.hid (row_strs wr askTexts)
          have hblW : b < wr.heap.size := HC3.out.lt
          go_wp2_with fail
          refine (of_any askTexts wr.heap.size _ b c (M + 3 + 2 * acc.length) A xs _ HC4.out (by omega) hxs HROW.out (by omega) (by decide) (by decide)).mono ?_
          rintro e w5 ⟨⟨s, hs, rfl⟩, hc5, hg5⟩
          have hown5 := own_grown HO4.out hg5 (fun k hk e => by have := own_lt HO4.out k hk; have := Option.some.inj e; omega)
          have HG5 := Lib.hid (grownBy_trans HG4.out hg5)
          have HC5 := Lib.hid hc5
          have HSS := Lib.hid hs
          clear hc5 hg5 HO3 HG3 HC3 HC4 HG4 HO4 HROW hs
          have hmx : acc.length + 1 ≤ maxLen := by unfold maxLen; omega
          have hszX : w.heap.size ≤ w5.heap.size := HG5.out.size
          go_wp2_with (at_builtin; refine wpList_append_own _ rfl _ _ 31 rfl w.heap.size 9 i0 (.string .empty) 1 16 Tryd.underlying31 HI0.out HZ0.out HZ1.out HZ2.out rfl (by decide) _ _ _ rfl (hown5.alloc _) ⟨w5.heap.size, 0, none⟩ 1 1 [.string s] rfl rfl (cell_one_new _ _ _) (by simp [Value.oneCell']) hmx (by omega) (by simp; omega) ?_)
          intro v' wz hown' hgrow _
          have hrw := own_lt hown5
          have hal : w5.grownBy (w5.alloc (.cells #[.string s] 9)) (some b) := grownBy_alloc (World.grownBy.refl _ _) _
          have HCz := Lib.hid ((HC5.out.below ((Below.refl _ _).alloc (Nat.le_refl _) (.cells #[.string s] 9))).own hgrow (fun k hk => by have := hrw k hk; omega))
          have HGz := Lib.hid (grownBy_own (grownBy_trans HG5.out hal) hgrow (fun k hk => by have := hrw k hk; omega))
          have hoz : wz.ownsRow w.heap.size 9 1 v' (acc ++ [s]).length (strs (acc ++ [s])) := by rw [List.length_append, strs_snoc]; exact hown'
          obtain ⟨B', d', rfl⟩ := own_form_s hoz
          have HOz := Lib.hid hoz
          have HSz := Lib.hid (HS.out.snoc (s := s) (by have := askTexts_size s HSS.out; unfold maxLen; omega))
          clear hown' hgrow hown5 hal hoz hszX
          go_wp2
          go_roundw
          case rel => exact ⟨acc ++ [s], B', d', by simp; omega, HSz.out, rfl, HOz.out, HCz.out.more (by simp; omega), HGz.out⟩
          case measure => simp [dLen]; omega
        · have hz : ((l.length : Int) == 0) = false := by rw [beq_eq_false_iff_ne]; omega
          have hl1 : 1 ≤ l.length := by omega
          clear h0
          go_wp2_with fail
          refine (one_any 60 b c (M + 3 + 2 * acc.length) A xs wr HC3.out (by omega) hxs (by omega) (by omega)).mono ?_
          rintro e w3 ⟨⟨r, rfl⟩, hc3, hg3⟩
          have HSB := Lib.hid ((HB.out.keep HG3.out HNE.out).keep hg3 HNE.out)
          have HO3' := Lib.hid (own_grown HO3.out hg3 (fun k hk e => by have := own_lt HO3.out k hk; have := Option.some.inj e; omega))
          have HG3' := Lib.hid (grownBy_trans HG3.out hg3)
          clear HO3 HG3 HC3
          have HO3 := HO3'; have HG3 := HG3'; have HC3 := Lib.hid hc3
          clear HO3' HG3' hc3 hg3
          cases r
          · go_wp2_with fail
            refine (pick_any l.length b c (M + 3 + 2 * acc.length + 1) A xs w3 HC3.out (by omega) hxs hl1 (by omega)).mono ?_
            rintro e w5 ⟨⟨k, hk, rfl⟩, hc5, hg5⟩
            have hown5 := own_grown HO3.out hg5 (fun k hk e => by have := own_lt HO3.out k hk; have := Option.some.inj e; omega)
            have HG5 := Lib.hid (grownBy_trans HG3.out hg5)
            have HC5 := Lib.hid hc5
            obtain ⟨gb, off, rfl, hgl, hcs⟩ := (HSB.out.keep hg5 HNE.out) (by omega)
            obtain ⟨hx0, _, _, _⟩ := hcs k hk
            have hok := HBO.out k hk
            have hk1 : (k : Int) < (l.length : Int) := by omega
            unfold BxOk at hok
            generalize (l[k]'hk).cod = s at *
            clear hc5 hg5 HO3 HG3 HC3 hcs HSB
            have hmx : acc.length + 1 ≤ maxLen := by unfold maxLen; omega
            have hszX : w.heap.size ≤ w5.heap.size := HG5.out.size
            go_wp2_with (at_builtin; refine wpList_append_own _ rfl _ _ 31 rfl w.heap.size 9 i0 (.string .empty) 1 16 Tryd.underlying31 HI0.out HZ0.out HZ1.out HZ2.out rfl (by decide) _ _ _ rfl (hown5.alloc _) ⟨w5.heap.size, 0, none⟩ 1 1 [.string s] rfl rfl (cell_one_new _ _ _) (by simp [Value.oneCell']) hmx (by omega) (by simp; omega) ?_)
            intro v' wz hown' hgrow _
            have hrw := own_lt hown5
            have hal : w5.grownBy (w5.alloc (.cells #[.string s] 9)) (some b) := grownBy_alloc (World.grownBy.refl _ _) _
            have HCz := Lib.hid ((HC5.out.below ((Below.refl _ _).alloc (Nat.le_refl _) (.cells #[.string s] 9))).own hgrow (fun k hk => by have := hrw k hk; omega))
            have HGz := Lib.hid (grownBy_own (grownBy_trans HG5.out hal) hgrow (fun k hk => by have := hrw k hk; omega))
            have hoz : wz.ownsRow w.heap.size 9 1 v' (acc ++ [s]).length (strs (acc ++ [s])) := by rw [List.length_append, strs_snoc]; exact hown'
            obtain ⟨B', d', rfl⟩ := own_form_s hoz
            have HOz := Lib.hid hoz
            have HSz := Lib.hid (HS.out.snoc (s := s) hok)
            clear hown' hgrow hown5 hal hoz hszX
            go_wp2
            go_roundw
            case rel => exact ⟨acc ++ [s], B', d', by simp; omega, HSz.out, rfl, HOz.out, HCz.out.more (by simp; omega), HGz.out⟩
            case measure => simp [dLen]; omega
          · 
            have HC4 := Lib.hid (HC3.out.below ((Below.refl _ _).alloc (Nat.le_refl _) (.cells (strs askTexts).toArray 9)))
            have HG4 := Lib.hid (grownBy_alloc HG3.out (.cells (strs askTexts).toArray 9))
            have HO4 := Lib.hid (own_below HO3.out ((Below.refl _ _).alloc (Nat.le_refl _) (.cells (strs askTexts).toArray 9)))
            have HROW := Lib.hid (row_strs w3 askTexts)
            have hblW : b < w3.heap.size := HC3.out.lt
            go_wp2_with fail
            refine (of_any askTexts w3.heap.size _ b c (M + 3 + 2 * acc.length + 1) A xs _ HC4.out (by omega) hxs HROW.out (by omega) (by decide) (by decide)).mono ?_
            rintro e w5 ⟨⟨s, hs, rfl⟩, hc5, hg5⟩
            have hown5 := own_grown HO4.out hg5 (fun k hk e => by have := own_lt HO4.out k hk; have := Option.some.inj e; omega)
            have HG5 := Lib.hid (grownBy_trans HG4.out hg5)
            have HC5 := Lib.hid hc5
            have HSS := Lib.hid hs
            clear hc5 hg5 HO3 HG3 HC3 HC4 HG4 HO4 HROW hs
            have hmx : acc.length + 1 ≤ maxLen := by unfold maxLen; omega
            have hszX : w.heap.size ≤ w5.heap.size := HG5.out.size
            go_wp2_with (at_builtin; refine wpList_append_own _ rfl _ _ 31 rfl w.heap.size 9 i0 (.string .empty) 1 16 Tryd.underlying31 HI0.out HZ0.out HZ1.out HZ2.out rfl (by decide) _ _ _ rfl (hown5.alloc _) ⟨w5.heap.size, 0, none⟩ 1 1 [.string s] rfl rfl (cell_one_new _ _ _) (by simp [Value.oneCell']) hmx (by omega) (by simp; omega) ?_)
            intro v' wz hown' hgrow _
            have hrw := own_lt hown5
            have hal : w5.grownBy (w5.alloc (.cells #[.string s] 9)) (some b) := grownBy_alloc (World.grownBy.refl _ _) _
            have HCz := Lib.hid ((HC5.out.below ((Below.refl _ _).alloc (Nat.le_refl _) (.cells #[.string s] 9))).own hgrow (fun k hk => by have := hrw k hk; omega))
            have HGz := Lib.hid (grownBy_own (grownBy_trans HG5.out hal) hgrow (fun k hk => by have := hrw k hk; omega))
            have hoz : wz.ownsRow w.heap.size 9 1 v' (acc ++ [s]).length (strs (acc ++ [s])) := by rw [List.length_append, strs_snoc]; exact hown'
            obtain ⟨B', d', rfl⟩ := own_form_s hoz
            have HOz := Lib.hid hoz
            have HSz := Lib.hid (HS.out.snoc (s := s) (by have := askTexts_size s HSS.out; unfold maxLen; omega))
            clear hown' hgrow hown5 hal hoz hszX
            go_wp2
            go_roundw
            case rel => exact ⟨acc ++ [s], B', d', by simp; omega, HSz.out, rfl, HOz.out, HCz.out.more (by simp; omega), HGz.out⟩
            case measure => simp [dLen]; omega
      · have hln : acc.length = n := by omega
        subst hln
        have hlt1 : ¬ (acc.length : Int) < (acc.length : Int) := by omega
        go_wp2
        go_ret
        exact ⟨⟨acc, B, d, rfl, by omega, HS.out, HO3.out⟩, HC3.out.more (by omega), HG3.out⟩
  · go_wp2_with fail
    refine (pick_any 2 b c (M + 1 + 1) A xs w2 HC2.out (by omega) hxs (by omega) (by omega)).mono ?_
    rintro e w0 ⟨⟨y, hy, rfl⟩, hc0, hg0⟩
    have HC0 := Lib.hid (hc0.more (M' := M + 3) (by omega))
    have HG0 := Lib.hid (grownBy_trans HG2.out hg0)
    clear hc0 hg0 HC2 HG2
    obtain ⟨n, hn⟩ : ∃ n : Nat, n = 60 + y := ⟨_, rfl⟩
    have hn61 : n ≤ 61 := by omega
    have hny : (60 : Int) + (y : Int) = (n : Int) := by omega
    have hy1 : (y : Int) < 2 := by omega
    clear hn hx
    go_wp2
    go_loopw [5] (fun v wr => ∃ (acc : List ByteArray) (B : Option Addr) (d : Nat), acc.length ≤ n ∧ ShortD acc ∧ v = .slice B acc.length d ∧ wr.ownsRow w.heap.size 9 1 v acc.length (strs acc) ∧ CurLe wr b A c (M + 3 + 2 * acc.length) xs ∧ w.grownBy wr (some b)) (fun v _ => n - dLen v)
    case atStart => exact ⟨[], none, 0, Nat.zero_le _, fun s h => absurd h (by simp), rfl, own_nil _ _ _ _, HC0.out, HG0.out⟩
    case round =>
      obtain ⟨acc, B, d, hal, hs, rfl, hown, hc, hg⟩ := hrel
      clear HC0 HG0
      have HS := Lib.hid hs; have HO3 := Lib.hid hown; have HC3 := Lib.hid hc; have HG3 := Lib.hid hg
      clear hs hown hc hg
      by_cases hlt : acc.length < n
      · have hlt1 : (acc.length : Int) < (n : Int) := by omega
        by_cases h0 : l.length = 0
        · have hz : ((l.length : Int) == 0) = true := by rw [h0]; rfl
          have HZ0' := Lib.hid h0
          clear h0
          have HC4 := Lib.hid (HC3.out.below ((Below.refl _ _).alloc (Nat.le_refl _) (.cells (strs askTexts).toArray 9)))
          have HG4 := Lib.hid (grownBy_alloc HG3.out (.cells (strs askTexts).toArray 9))
          have HO4 := Lib.hid (own_below HO3.out ((Below.refl _ _).alloc (Nat.le_refl _) (.cells (strs askTexts).toArray 9)))
          have HROW := Lib.hid (row_strs wr askTexts)
          have hblW : b < wr.heap.size := HC3.out.lt
          go_wp2_with fail
          refine (of_any askTexts wr.heap.size _ b c (M + 3 + 2 * acc.length) A xs _ HC4.out (by omega) hxs HROW.out (by omega) (by decide) (by decide)).mono ?_
          rintro e w5 ⟨⟨s, hs, rfl⟩, hc5, hg5⟩
          have hown5 := own_grown HO4.out hg5 (fun k hk e => by have := own_lt HO4.out k hk; have := Option.some.inj e; omega)
          have HG5 := Lib.hid (grownBy_trans HG4.out hg5)
          have HC5 := Lib.hid hc5
          have HSS := Lib.hid hs
          clear hc5 hg5 HO3 HG3 HC3 HC4 HG4 HO4 HROW hs
          have hmx : acc.length + 1 ≤ maxLen := by unfold maxLen; omega
          have hszX : w.heap.size ≤ w5.heap.size := HG5.out.size
          go_wp2_with (at_builtin; refine wpList_append_own _ rfl _ _ 31 rfl w.heap.size 9 i0 (.string .empty) 1 16 Tryd.underlying31 HI0.out HZ0.out HZ1.out HZ2.out rfl (by decide) _ _ _ rfl (hown5.alloc _) ⟨w5.heap.size, 0, none⟩ 1 1 [.string s] rfl rfl (cell_one_new _ _ _) (by simp [Value.oneCell']) hmx (by omega) (by simp; omega) ?_)
          intro v' wz hown' hgrow _
          have hrw := own_lt hown5
          have hal : w5.grownBy (w5.alloc (.cells #[.string s] 9)) (some b) := grownBy_alloc (World.grownBy.refl _ _) _
          have HCz := Lib.hid ((HC5.out.below ((Below.refl _ _).alloc (Nat.le_refl _) (.cells #[.string s] 9))).own hgrow (fun k hk => by have := hrw k hk; omega))
          have HGz := Lib.hid (grownBy_own (grownBy_trans HG5.out hal) hgrow (fun k hk => by have := hrw k hk; omega))
          have hoz : wz.ownsRow w.heap.size 9 1 v' (acc ++ [s]).length (strs (acc ++ [s])) := by rw [List.length_append, strs_snoc]; exact hown'
          obtain ⟨B', d', rfl⟩ := own_form_s hoz
          have HOz := Lib.hid hoz
          have HSz := Lib.hid (HS.out.snoc (s := s) (by have := askTexts_size s HSS.out; unfold maxLen; omega))
          clear hown' hgrow hown5 hal hoz hszX
          go_wp2
          go_roundw
          case rel => exact ⟨acc ++ [s], B', d', by simp; omega, HSz.out, rfl, HOz.out, HCz.out.more (by simp; omega), HGz.out⟩
          case measure => simp [dLen]; omega
        · have hz : ((l.length : Int) == 0) = false := by rw [beq_eq_false_iff_ne]; omega
          have hl1 : 1 ≤ l.length := by omega
          clear h0
          go_wp2_with fail
          refine (one_any 60 b c (M + 3 + 2 * acc.length) A xs wr HC3.out (by omega) hxs (by omega) (by omega)).mono ?_
          rintro e w3 ⟨⟨r, rfl⟩, hc3, hg3⟩
          have HSB := Lib.hid ((HB.out.keep HG3.out HNE.out).keep hg3 HNE.out)
          have HO3' := Lib.hid (own_grown HO3.out hg3 (fun k hk e => by have := own_lt HO3.out k hk; have := Option.some.inj e; omega))
          have HG3' := Lib.hid (grownBy_trans HG3.out hg3)
          clear HO3 HG3 HC3
          have HO3 := HO3'; have HG3 := HG3'; have HC3 := Lib.hid hc3
          clear HO3' HG3' hc3 hg3
          cases r
          · go_wp2_with fail
            refine (pick_any l.length b c (M + 3 + 2 * acc.length + 1) A xs w3 HC3.out (by omega) hxs hl1 (by omega)).mono ?_
            rintro e w5 ⟨⟨k, hk, rfl⟩, hc5, hg5⟩
            have hown5 := own_grown HO3.out hg5 (fun k hk e => by have := own_lt HO3.out k hk; have := Option.some.inj e; omega)
            have HG5 := Lib.hid (grownBy_trans HG3.out hg5)
            have HC5 := Lib.hid hc5
            obtain ⟨gb, off, rfl, hgl, hcs⟩ := (HSB.out.keep hg5 HNE.out) (by omega)
            obtain ⟨hx0, _, _, _⟩ := hcs k hk
            have hok := HBO.out k hk
            have hk1 : (k : Int) < (l.length : Int) := by omega
            unfold BxOk at hok
            generalize (l[k]'hk).cod = s at *
            clear hc5 hg5 HO3 HG3 HC3 hcs HSB
            have hmx : acc.length + 1 ≤ maxLen := by unfold maxLen; omega
            have hszX : w.heap.size ≤ w5.heap.size := HG5.out.size
            go_wp2_with (at_builtin; refine wpList_append_own _ rfl _ _ 31 rfl w.heap.size 9 i0 (.string .empty) 1 16 Tryd.underlying31 HI0.out HZ0.out HZ1.out HZ2.out rfl (by decide) _ _ _ rfl (hown5.alloc _) ⟨w5.heap.size, 0, none⟩ 1 1 [.string s] rfl rfl (cell_one_new _ _ _) (by simp [Value.oneCell']) hmx (by omega) (by simp; omega) ?_)
            intro v' wz hown' hgrow _
            have hrw := own_lt hown5
            have hal : w5.grownBy (w5.alloc (.cells #[.string s] 9)) (some b) := grownBy_alloc (World.grownBy.refl _ _) _
            have HCz := Lib.hid ((HC5.out.below ((Below.refl _ _).alloc (Nat.le_refl _) (.cells #[.string s] 9))).own hgrow (fun k hk => by have := hrw k hk; omega))
            have HGz := Lib.hid (grownBy_own (grownBy_trans HG5.out hal) hgrow (fun k hk => by have := hrw k hk; omega))
            have hoz : wz.ownsRow w.heap.size 9 1 v' (acc ++ [s]).length (strs (acc ++ [s])) := by rw [List.length_append, strs_snoc]; exact hown'
            obtain ⟨B', d', rfl⟩ := own_form_s hoz
            have HOz := Lib.hid hoz
            have HSz := Lib.hid (HS.out.snoc (s := s) hok)
            clear hown' hgrow hown5 hal hoz hszX
            go_wp2
            go_roundw
            case rel => exact ⟨acc ++ [s], B', d', by simp; omega, HSz.out, rfl, HOz.out, HCz.out.more (by simp; omega), HGz.out⟩
            case measure => simp [dLen]; omega
          · 
            have HC4 := Lib.hid (HC3.out.below ((Below.refl _ _).alloc (Nat.le_refl _) (.cells (strs askTexts).toArray 9)))
            have HG4 := Lib.hid (grownBy_alloc HG3.out (.cells (strs askTexts).toArray 9))
            have HO4 := Lib.hid (own_below HO3.out ((Below.refl _ _).alloc (Nat.le_refl _) (.cells (strs askTexts).toArray 9)))
            have HROW := Lib.hid (row_strs w3 askTexts)
            have hblW : b < w3.heap.size := HC3.out.lt
            go_wp2_with fail
            refine (of_any askTexts w3.heap.size _ b c (M + 3 + 2 * acc.length + 1) A xs _ HC4.out (by omega) hxs HROW.out (by omega) (by decide) (by decide)).mono ?_
            rintro e w5 ⟨⟨s, hs, rfl⟩, hc5, hg5⟩
            have hown5 := own_grown HO4.out hg5 (fun k hk e => by have := own_lt HO4.out k hk; have := Option.some.inj e; omega)
            have HG5 := Lib.hid (grownBy_trans HG4.out hg5)
            have HC5 := Lib.hid hc5
            have HSS := Lib.hid hs
            clear hc5 hg5 HO3 HG3 HC3 HC4 HG4 HO4 HROW hs
            have hmx : acc.length + 1 ≤ maxLen := by unfold maxLen; omega
            have hszX : w.heap.size ≤ w5.heap.size := HG5.out.size
            go_wp2_with (at_builtin; refine wpList_append_own _ rfl _ _ 31 rfl w.heap.size 9 i0 (.string .empty) 1 16 Tryd.underlying31 HI0.out HZ0.out HZ1.out HZ2.out rfl (by decide) _ _ _ rfl (hown5.alloc _) ⟨w5.heap.size, 0, none⟩ 1 1 [.string s] rfl rfl (cell_one_new _ _ _) (by simp [Value.oneCell']) hmx (by omega) (by simp; omega) ?_)
            intro v' wz hown' hgrow _
            have hrw := own_lt hown5
            have hal : w5.grownBy (w5.alloc (.cells #[.string s] 9)) (some b) := grownBy_alloc (World.grownBy.refl _ _) _
            have HCz := Lib.hid ((HC5.out.below ((Below.refl _ _).alloc (Nat.le_refl _) (.cells #[.string s] 9))).own hgrow (fun k hk => by have := hrw k hk; omega))
            have HGz := Lib.hid (grownBy_own (grownBy_trans HG5.out hal) hgrow (fun k hk => by have := hrw k hk; omega))
            have hoz : wz.ownsRow w.heap.size 9 1 v' (acc ++ [s]).length (strs (acc ++ [s])) := by rw [List.length_append, strs_snoc]; exact hown'
            obtain ⟨B', d', rfl⟩ := own_form_s hoz
            have HOz := Lib.hid hoz
            have HSz := Lib.hid (HS.out.snoc (s := s) (by have := askTexts_size s HSS.out; unfold maxLen; omega))
            clear hown' hgrow hown5 hal hoz hszX
            go_wp2
            go_roundw
            case rel => exact ⟨acc ++ [s], B', d', by simp; omega, HSz.out, rfl, HOz.out, HCz.out.more (by simp; omega), HGz.out⟩
            case measure => simp [dLen]; omega
      · have hln : acc.length = n := by omega
        subst hln
        have hlt1 : ¬ (acc.length : Int) < (acc.length : Int) := by omega
        go_wp2
        go_ret
        exact ⟨⟨acc, B, d, rfl, by omega, HS.out, HO3.out⟩, HC3.out.more (by omega), HG3.out⟩
end Go.Proofs.YtllafkeheppkjaaDoor

/-
  The draws of chapter 5's laws: spec.DrawHandWay, spec.DrawBestSwap, spec.DrawNearestFree. (For FnHandWays.)
-/
namespace Go.Proofs.YtllafkeheppkjaaDoor
open Go.RowKit
set_option linter.unusedVariables false

theorem cur_new {w : World} {A : Option Addr} {c : Nat} {xs : List UInt8} (hx : BytesIn w A xs) : CurLe (w.alloc (.cells #[.slice A xs.length c, .int .i64 0, .int .u64 0] 81)) w.heap.size A c 0 xs := by
  refine ⟨⟨0, Nat.le_refl _, 0, by omega, heap_new _ _⟩, fun hn => ?_⟩
  obtain ⟨b', off, e, hl, hc⟩ := hx hn
  exact ⟨b', off, e, hl, fun k hk => (((Below.refl w.heap.size w).alloc (Nat.le_refl _) _).cell (by show b' < _; exact hl)).trans (hc k hk)⟩

set_option maxRecDepth 100000 in
theorem drawHand_any (A : Option Addr) (c : Nat) (xs : List UInt8) (w : World) (hx : BytesIn w A xs) (hxs : xs.length ≤ maxLen) :
    Calls Tryd.prog 38 #[.slice A xs.length c] w fun e w' =>
      ∃ (l : List Bx) (B : Option Addr) (d : Nat) (cs : List ByteArray) (E : Option Addr) (dE : Nat), e = .returned (.tuple #[.slice B l.length d, .slice E cs.length dE]) ∧ l.length ≤ 33 ∧ l.length ≤ d ∧ BxsOk l ∧ BxsIn w' B l ∧ cs.length ≤ 61 ∧ StrsOk cs ∧ StrsIn w' E cs ∧ Below w.heap.size w w' := by
  have HCUR := Lib.hid (cur_new (c := c) hx)
  have HB0 := Lib.hid (show Below w.heap.size w (w.alloc (.cells #[.slice A xs.length c, .int .i64 0, .int .u64 0] 81)) from (Below.refl _ _).alloc (Nat.le_refl _) _)
  clear hx
  go_enter Tryd.func38, Tryd.ntmps38
  go_wp2_with fail
  refine (anyCase_any w.heap.size c 0 A xs _ HCUR.out (by omega) hxs).mono ?_
  rintro e w1 ⟨⟨l, B, d, rfl, hl, hlo, hown⟩, hc1, hg1⟩
  have HC1 := Lib.hid hc1
  have HB1 := Lib.hid (HB0.out.grown hg1 HB0.out.size (fun k hk => by have := Option.some.inj hk; omega))
  have HO1 := Lib.hid hown; have HLO := Lib.hid hlo
  have hne : ∀ g off, B = some ⟨g, off, none⟩ → some w.heap.size ≠ some g := by
    rintro g off rfl e
    have := own_lt hown g rfl
    have := Option.some.inj e
    simp at *
    omega
  have HNE := Lib.hid hne
  clear hc1 hg1 hown hne HB0 HCUR hlo
  go_wp2_with fail
  refine (codesOf_any l B d w.heap.size c (0 + 60) A xs w1 HC1.out (by omega) hxs (own_in_bx HO1.out) HNE.out HLO.out hl).mono ?_
  rintro e w2 ⟨⟨cs, E, dE, rfl, hcs, hso, hown⟩, hc2, hg2⟩
  have HB2 := Lib.hid (HB1.out.grown hg2 HB1.out.size (fun k hk => by have := Option.some.inj hk; omega))
  have HO2 := Lib.hid (own_grown HO1.out hg2 (fun k hk e => by have h1 := own_lt HO1.out k hk; have := Option.some.inj e; simp at h1; omega))
  have HS2 := Lib.hid hown; have HSO := Lib.hid hso
  clear hc2 hg2 hown hso
  go_wp2
  go_ret2
  exact ⟨l, B, d, cs, E, dE, rfl, hl, own_cap HO2.out, HLO.out, own_in_bx HO2.out, hcs, HSO.out.ok, own_in_s HS2.out, HB2.out⟩

end Go.Proofs.YtllafkeheppkjaaDoor

/-
  laws.qBoxes on the same boxes; the draws of FnCases. (The text is made by a program of mine.)
-/
namespace Go.Proofs.YtllafkeheppkjaaDoor
open Go.RowKit
set_option linter.unusedVariables false

theorem run_neqBox (a : ByteArray) (b c d : Int) (W : World) : (binOp .neq 40 (.agg #[.string a, .int .i64 b, .int .i64 c, .int .i64 d]) (.agg #[.string a, .int .i64 b, .int .i64 c, .int .i64 d])).run Tryd.prog W = .ok (.bool false) W := by
  have hS : Tryd.prog.underlying 40 = some (.struct (Tryd.prog.fieldsOf 40)) := by kernel_rfl
  have hp : Tryd.prog.stoodInHeld 40 = false := by kernel_rfl
  rw [run_neq_struct, show (10000 : Nat) = 9999 + 1 from rfl, run_equalIn_agg W 9999 40 _ _ hS hp]
  have u9 := Tryd.underlying9
  have u3 := Tryd.underlying3
  simp only [Program.fieldsOf, Tryd.underlying40]
  go_simp
  try simp

set_option maxRecDepth 100000 in
theorem qBoxes_same (l : List Bx) (A B : Option Addr) (c d : Nat) (w : World) (hf : BxsIn w A l) (hg : BxsIn w B l) (hn : l.length ≤ 1048576) :
    Calls Tryd.prog 15 #[.slice A l.length c, .slice B l.length d] w fun e w' => e = .returned (.bool true) ∧ Below w.heap.size w w' := by
  have HF := Lib.hid hf; clear hf
  have HG := Lib.hid hg; clear hg
  go_enter Tryd.func15, Tryd.ntmps15
  go_wp2
  go_loopw [13] (fun i wr => ∃ (k : Nat), k ≤ l.length ∧ i = .int .i64 k ∧ Below w.heap.size w wr) (fun i _ => l.length - (intOf i).toNat)
  case atStart => exact ⟨0, Nat.zero_le _, rfl, Below.refl _ _⟩
  case round =>
    obtain ⟨k, hk, rfl, hb⟩ := hrel
    by_cases hlt : k < l.length
    · obtain ⟨b, off, rfl, hbl, hc⟩ := HF.out (by omega)
      obtain ⟨hc0, hc1, hc2, hc3⟩ := hc k hlt
      clear hc
      obtain ⟨b', off', rfl, hbl', hd⟩ := HG.out (by omega)
      obtain ⟨hd0, hd1, hd2, hd3⟩ := hd k hlt
      clear hd
      rw [← hb.cell (p := ⟨b, off + k * 4, none⟩) hbl] at hc0
      rw [← hb.cell (p := ⟨b, off + k * 4 + 1, none⟩) hbl] at hc1
      rw [← hb.cell (p := ⟨b, off + k * 4 + 2, none⟩) hbl] at hc2
      rw [← hb.cell (p := ⟨b, off + k * 4 + 3, none⟩) hbl] at hc3
      rw [← hb.cell (p := ⟨b', off' + k * 4, none⟩) hbl'] at hd0
      rw [← hb.cell (p := ⟨b', off' + k * 4 + 1, none⟩) hbl'] at hd1
      rw [← hb.cell (p := ⟨b', off' + k * 4 + 2, none⟩) hbl'] at hd2
      rw [← hb.cell (p := ⟨b', off' + k * 4 + 3, none⟩) hbl'] at hd3
      have hb1 := Nat.lt_of_lt_of_le hbl hb.size
      have hb2 := Nat.lt_of_lt_of_le hbl' hb.size
      generalize l[k].cod = t0 at *; generalize l[k].row = t1 at *; generalize l[k].col = t2 at *; generalize l[k].cnt = t3 at *
      have hx0 := KeptW.cell hc0 hb1
      have hx1 := KeptW.cell hc1 hb1
      have hx2 := KeptW.cell hc2 hb1
      have hx3 := KeptW.cell hc3 hb1
      have hy0 := KeptW.cell hd0 hb2
      have hy1 := KeptW.cell hd1 hb2
      have hy2 := KeptW.cell hd2 hb2
      have hy3 := KeptW.cell hd3 hb2
      clear hc0 hc1 hc2 hc3 hd0 hd1 hd2 hd3 hb1 hb2
      have hk1 : (k : Int) < (l.length : Int) := by omega
      have hk0 : (0 : Int) ≤ (k : Int) := by omega
      have hgd : Tryd.prog.eqGuardType Tryd.prog.depth 40 = false := by kernel_rfl
      have hcm := run_neqBox t0 t1 t2 t3
      go_wp2_with fail
      refine region_kept wr.heap.size (by kernel_rfl) (by kernel_rfl) ?_
      repeat (go_big_quiet_step (fail))
      refine wpQuiet_nil ?_
      intro w1 hb1
      have hb' : Below w.heap.size w w1 := hb.trans (hb1.mono hb.size)
      clear hb hb1 hx0 hx1 hx2 hx3 hy0 hy1 hy2 hy3 hcm
      go_wp2
      go_roundw
      case rel => exact ⟨k + 1, by omega, by go_num, hb'⟩
      case measure => simp [intOf]; omega
    · obtain rfl : k = l.length := by omega
      go_wp2
      go_ret
      exact ⟨rfl, hb⟩

def boxTexts : List ByteArray := [⟨#[97]⟩, ⟨#[97, 98]⟩, ⟨#[102]⟩, ⟨#[101]⟩, ⟨#[122, 122]⟩, ⟨#[]⟩]
theorem boxTexts_size : ∀ s ∈ boxTexts, s.size ≤ 4 := by
  intro s hs
  simp only [boxTexts, List.mem_cons, List.not_mem_nil, or_false] at hs
  rcases hs with rfl | rfl | rfl | rfl | rfl | rfl <;> decide
theorem most1_is (n : Nat) (w : World) : Calls Tryd.prog 49 #[.int .i64 1, .int .i64 (n : Int)] w fun e w' => e = .returned (.int .i64 ((max n 1 : Nat) : Int)) ∧ w = w' := by
  refine (l1Most_any 1 n w).mono ?_
  rintro e _ ⟨rfl, rfl⟩
  refine ⟨?_, rfl⟩
  congr 2
  split <;> omega

theorem drawTake_any (A : Option Addr) (c : Nat) (xs : List UInt8) (w : World) (hx : BytesIn w A xs) (hxs : xs.length ≤ maxLen) :
    Calls Tryd.prog 10 #[.slice A xs.length c] w fun e w' =>
      ∃ (l : List Bx) (B : Option Addr) (d : Nat) (cs : List ByteArray) (E : Option Addr) (dE : Nat), e = .returned (.tuple #[.slice B l.length d, .slice E cs.length dE]) ∧ l.length ≤ 33 ∧ l.length ≤ d ∧ BxsOk l ∧ BxsIn w' B l ∧ cs.length ≤ 61 ∧ StrsOk cs ∧ StrsIn w' E cs ∧ Below w.heap.size w w' := by
  have HX := Lib.hid hx; clear hx
  go_enter Tryd.func10, Tryd.ntmps10
  go_wp2_with fail
  refine (drawHand_any A c xs w HX.out hxs).mono ?_
  rintro e w1 ⟨l, B, d, cs, E, dE, rfl, hr⟩
  have HR := Lib.hid hr; clear hr
  go_wp2
  go_ret2
  exact ⟨l, B, d, cs, E, dE, rfl, HR.out⟩

set_option maxRecDepth 100000 in
set_option maxHeartbeats 1000000 in
theorem drawBoxOf_any (A : Option Addr) (c : Nat) (xs : List UInt8) (w : World) (hx : BytesIn w A xs) (hxs : xs.length ≤ maxLen) :
    Calls Tryd.prog 26 #[.slice A xs.length c] w fun e w' =>
      ∃ (l : List Bx) (B : Option Addr) (d : Nat) (s : ByteArray), e = .returned (.tuple #[.slice B l.length d, .string s]) ∧ l.length ≤ 33 ∧ l.length ≤ d ∧ BxsOk l ∧ BxsIn w' B l ∧ Below w.heap.size w w' := by
  have HCUR := Lib.hid (cur_new (c := c) hx)
  have HB0 := Lib.hid (show Below w.heap.size w (w.alloc (.cells #[.slice A xs.length c, .int .i64 0, .int .u64 0] 81)) from (Below.refl _ _).alloc (Nat.le_refl _) _)
  clear hx
  go_enter Tryd.func26, Tryd.ntmps26
  go_wp2_with fail
  refine (anyCase_any w.heap.size c 0 A xs _ HCUR.out (by omega) hxs).mono ?_
  rintro e w1 ⟨⟨l, B, d, rfl, hl, hlo, hown⟩, hc1, hg1⟩
  have hsz1 : w.heap.size < w1.heap.size := hc1.lt
  have HB1 := Lib.hid (HB0.out.grown hg1 HB0.out.size (fun k hk => by have := Option.some.inj hk; omega))
  have HO1 := Lib.hid hown; have HLO := Lib.hid hlo; have HC1 := Lib.hid hc1
  clear hc1 hg1 hown HB0 HCUR hlo
  have HROW := Lib.hid (row_strs w1 boxTexts)
  have HBx := Lib.hid (HB1.out.alloc HB1.out.size (.cells (strs boxTexts).toArray 9))
  have HOx := Lib.hid (own_below HO1.out ((Below.refl _ _).alloc (Nat.le_refl _) (.cells (strs boxTexts).toArray 9)))
  have HCx := Lib.hid (HC1.out.below ((Below.refl _ _).alloc (Nat.le_refl _) (.cells (strs boxTexts).toArray 9)))
  clear HB1 HO1 HC1
  have HB1 := HBx; have HO1 := HOx; have HC1 := HCx
  clear HBx HOx HCx
  go_wp2_with fail
  refine (of_any boxTexts w1.heap.size _ w.heap.size c (0 + 60) A xs _ HC1.out (by omega) hxs HROW.out (by omega) (by decide) (by decide)).mono ?_
  rintro e w2 ⟨⟨s, hs, rfl⟩, hc, hg⟩
  have hsz2 : w.heap.size < w2.heap.size := hc.lt
  have HB2 := Lib.hid (HB1.out.grown hg HB1.out.size (fun k hk => by have := Option.some.inj hk; omega))
  have HO2 := Lib.hid (own_grown HO1.out hg (fun k hk e => by have h1 := own_lt HO1.out k hk; have := Option.some.inj e; simp at h1; omega))
  have HC2 := Lib.hid hc
  clear hc hg HB1 HO1 HC1
  clear HROW
  clear hs
  go_wp2
  go_ret2
  exact ⟨l, B, d, s, rfl, hl, own_cap HO2.out, HLO.out, own_in_bx HO2.out, HB2.out⟩

set_option maxRecDepth 100000 in
set_option maxHeartbeats 1000000 in
theorem drawSwap_any (A : Option Addr) (c : Nat) (xs : List UInt8) (w : World) (hx : BytesIn w A xs) (hxs : xs.length ≤ maxLen) :
    Calls Tryd.prog 20 #[.slice A xs.length c] w fun e w' =>
      ∃ (l : List Bx) (B : Option Addr) (d : Nat) (r q : Int), e = .returned (.tuple #[.slice B l.length d, .int .i64 r, .int .i64 q]) ∧ l.length ≤ 33 ∧ l.length ≤ d ∧ BxsOk l ∧ BxsIn w' B l ∧ Below w.heap.size w w' := by
  have HCUR := Lib.hid (cur_new (c := c) hx)
  have HB0 := Lib.hid (show Below w.heap.size w (w.alloc (.cells #[.slice A xs.length c, .int .i64 0, .int .u64 0] 81)) from (Below.refl _ _).alloc (Nat.le_refl _) _)
  clear hx
  go_enter Tryd.func20, Tryd.ntmps20
  go_wp2_with fail
  refine (anyCase_any w.heap.size c 0 A xs _ HCUR.out (by omega) hxs).mono ?_
  rintro e w1 ⟨⟨l, B, d, rfl, hl, hlo, hown⟩, hc1, hg1⟩
  have hsz1 : w.heap.size < w1.heap.size := hc1.lt
  have HB1 := Lib.hid (HB0.out.grown hg1 HB0.out.size (fun k hk => by have := Option.some.inj hk; omega))
  have HO1 := Lib.hid hown; have HLO := Lib.hid hlo; have HC1 := Lib.hid hc1
  clear hc1 hg1 hown HB0 HCUR hlo
  have hmx1 : 1 ≤ max l.length 1 := by omega
  have hmx2 : max l.length 1 ≤ 200 := by omega
  go_wp2_with fail
  refine (most1_is l.length w1).mono ?_
  rintro e _ ⟨rfl, rfl⟩
  go_wp2_with fail
  refine (pick_any (max l.length 1) w.heap.size c (0 + 60) A xs w1 HC1.out (by omega) hxs hmx1 hmx2).mono ?_
  rintro e w2 ⟨⟨r, hr, rfl⟩, hc, hg⟩
  have hsz2 : w.heap.size < w2.heap.size := hc.lt
  have HB2 := Lib.hid (HB1.out.grown hg HB1.out.size (fun k hk => by have := Option.some.inj hk; omega))
  have HO2 := Lib.hid (own_grown HO1.out hg (fun k hk e => by have h1 := own_lt HO1.out k hk; have := Option.some.inj e; simp at h1; omega))
  have HC2 := Lib.hid hc
  clear hc hg HB1 HO1 HC1
  go_wp2_with fail
  refine (most1_is l.length w2).mono ?_
  rintro e _ ⟨rfl, rfl⟩
  go_wp2_with fail
  refine (pick_any (max l.length 1) w.heap.size c (0 + 60 + 1) A xs w2 HC2.out (by omega) hxs hmx1 hmx2).mono ?_
  rintro e w3 ⟨⟨y, hy, rfl⟩, hc, hg⟩
  have hsz3 : w.heap.size < w3.heap.size := hc.lt
  have HB3 := Lib.hid (HB2.out.grown hg HB2.out.size (fun k hk => by have := Option.some.inj hk; omega))
  have HO3 := Lib.hid (own_grown HO2.out hg (fun k hk e => by have h1 := own_lt HO2.out k hk; have := Option.some.inj e; simp at h1; omega))
  have HC3 := Lib.hid hc
  clear hc hg HB2 HO2 HC2
  have HROW := Lib.hid (row_ints w3 [0, (l.length : Int), -1])
  have HBx := Lib.hid (HB3.out.alloc HB3.out.size (.cells (intsZ [0, (l.length : Int), -1]).toArray 3))
  have HOx := Lib.hid (own_below HO3.out ((Below.refl _ _).alloc (Nat.le_refl _) (.cells (intsZ [0, (l.length : Int), -1]).toArray 3)))
  have HCx := Lib.hid (HC3.out.below ((Below.refl _ _).alloc (Nat.le_refl _) (.cells (intsZ [0, (l.length : Int), -1]).toArray 3)))
  clear HB3 HO3 HC3
  have HB3 := HBx; have HO3 := HOx; have HC3 := HCx
  clear HBx HOx HCx
  go_wp2_with fail
  refine (among_any [0, (l.length : Int), -1] w3.heap.size _ w.heap.size c (0 + 60 + 1 + 1) A xs _ HC3.out (by omega) hxs HROW.out (by omega) (by simp) (by simp)).mono ?_
  rintro e w4 ⟨⟨v, hv, rfl⟩, hc, hg⟩
  have hsz4 : w.heap.size < w4.heap.size := hc.lt
  have HB4 := Lib.hid (HB3.out.grown hg HB3.out.size (fun k hk => by have := Option.some.inj hk; omega))
  have HO4 := Lib.hid (own_grown HO3.out hg (fun k hk e => by have h1 := own_lt HO3.out k hk; have := Option.some.inj e; simp at h1; omega))
  have HC4 := Lib.hid hc
  clear hc hg HB3 HO3 HC3
  clear HROW
  have HROW := Lib.hid (row_ints w4 [0, (y : Int), (l.length : Int) - 1, v])
  have HBx := Lib.hid (HB4.out.alloc HB4.out.size (.cells (intsZ [0, (y : Int), (l.length : Int) - 1, v]).toArray 3))
  have HOx := Lib.hid (own_below HO4.out ((Below.refl _ _).alloc (Nat.le_refl _) (.cells (intsZ [0, (y : Int), (l.length : Int) - 1, v]).toArray 3)))
  have HCx := Lib.hid (HC4.out.below ((Below.refl _ _).alloc (Nat.le_refl _) (.cells (intsZ [0, (y : Int), (l.length : Int) - 1, v]).toArray 3)))
  clear HB4 HO4 HC4
  have HB4 := HBx; have HO4 := HOx; have HC4 := HCx
  clear HBx HOx HCx
  go_wp2_with fail
  refine (among_any [0, (y : Int), (l.length : Int) - 1, v] w4.heap.size _ w.heap.size c (0 + 60 + 1 + 1 + 1) A xs _ HC4.out (by omega) hxs HROW.out (by omega) (by simp) (by simp)).mono ?_
  rintro e w5 ⟨⟨q, hq, rfl⟩, hc, hg⟩
  have hsz5 : w.heap.size < w5.heap.size := hc.lt
  have HB5 := Lib.hid (HB4.out.grown hg HB4.out.size (fun k hk => by have := Option.some.inj hk; omega))
  have HO5 := Lib.hid (own_grown HO4.out hg (fun k hk e => by have h1 := own_lt HO4.out k hk; have := Option.some.inj e; simp at h1; omega))
  have HC5 := Lib.hid hc
  clear hc hg HB4 HO4 HC4
  clear HROW
  clear hr hy hv hq
  go_wp2
  refine bodyPost_ret (v := .tuple #[.slice B l.length d, .int .i64 (r : Int), .int .i64 q]) (by simp [results, Tryd.results20, go_sem]) rfl ?_
  exact ⟨l, B, d, r, q, rfl, hl, own_cap HO5.out, HLO.out, own_in_bx HO5.out, HB5.out⟩

end Go.Proofs.YtllafkeheppkjaaDoor

/-
  The draws of FnCases that write: spec.DrawPutTypes, spec.DrawIsBox. (The text is made by a program of mine.)
-/
namespace Go.Proofs.YtllafkeheppkjaaDoor
open Go.RowKit
set_option linter.unusedVariables false

set_option maxRecDepth 100000 in
set_option maxHeartbeats 1000000 in
theorem drawPut_any (A : Option Addr) (c : Nat) (xs : List UInt8) (w : World) (hx : BytesIn w A xs) (hxs : xs.length ≤ maxLen) :
    Calls Tryd.prog 23 #[.slice A xs.length c] w fun e w' =>
      ∃ (l : List Bx) (B : Option Addr) (d : Nat) (cs : List ByteArray) (E : Option Addr) (dE : Nat), e = .returned (.tuple #[.slice B l.length d, .slice E cs.length dE]) ∧ l.length ≤ 33 ∧ l.length ≤ d ∧ BxsOk l ∧ BxsIn w' B l ∧ cs.length ≤ 61 ∧ StrsOk cs ∧ StrsIn w' E cs ∧ Below w.heap.size w w' := by
  have HCUR := Lib.hid (cur_new (c := c) hx)
  have HB0 := Lib.hid (show Below w.heap.size w (w.alloc (.cells #[.slice A xs.length c, .int .i64 0, .int .u64 0] 81)) from (Below.refl _ _).alloc (Nat.le_refl _) _)
  clear hx
  go_enter Tryd.func23, Tryd.ntmps23
  go_wp2_with fail
  refine (anyCase_any w.heap.size c 0 A xs _ HCUR.out (by omega) hxs).mono ?_
  rintro e w1 ⟨⟨l, B, d, rfl, hl, hlo, hown⟩, hc1, hg1⟩
  have hsz1 : w.heap.size < w1.heap.size := hc1.lt
  have HB1 := Lib.hid (HB0.out.grown hg1 HB0.out.size (fun k hk => by have := Option.some.inj hk; omega))
  have HO1 := Lib.hid hown; have HLO := Lib.hid hlo; have HC1 := Lib.hid hc1
  clear hc1 hg1 hown HB0 HCUR hlo
  have HNE : Hid (∀ g off, B = some ⟨g, off, none⟩ → some w.heap.size ≠ some g) := Lib.hid (by
    rintro g off rfl e
    have := own_lt HO1.out g rfl
    have := Option.some.inj e
    simp at *
    omega)
  by_cases h0 : l.length = 0
  · have hng : ¬ (0 : Int) < (l.length : Int) := by omega
    have H0 := Lib.hid h0; clear h0
    go_wp2_with fail
    refine (codesOf_any l B d w.heap.size c (0 + 60) A xs w1 HC1.out (by omega) hxs (own_in_bx HO1.out) HNE.out HLO.out hl).mono ?_
    rintro e wz ⟨⟨cs, E, dE, rfl, hcs, hso, hown⟩, hcz, hgz⟩
    have HBz := Lib.hid (HB1.out.grown hgz HB1.out.size (fun k hk => by have := Option.some.inj hk; omega))
    have HOz := Lib.hid (own_grown HO1.out hgz (fun k hk e => by have h1 := own_lt HO1.out k hk; have := Option.some.inj e; simp at h1; omega))
    have HSz := Lib.hid hown; have HSO := Lib.hid hso
    clear hcz hgz hown hso
    go_wp2
    go_ret2
    exact ⟨l, B, d, cs, E, dE, rfl, hl, own_cap HOz.out, HLO.out, own_in_bx HOz.out, hcs, HSO.out.ok, own_in_s HSz.out, HBz.out⟩
  · have hgt : (0 : Int) < (l.length : Int) := by omega
    have hl1 : 1 ≤ l.length := by omega
    clear h0
    go_wp2_with fail
    refine (one_any 8 w.heap.size c (0 + 60) A xs w1 HC1.out (by omega) hxs (by omega) (by omega)).mono ?_
    rintro e w2 ⟨⟨rr, rfl⟩, hc, hg⟩
    have hsz2 : w.heap.size < w2.heap.size := hc.lt
    have HB2 := Lib.hid (HB1.out.grown hg HB1.out.size (fun k hk => by have := Option.some.inj hk; omega))
    have HO2 := Lib.hid (own_grown HO1.out hg (fun k hk e => by have h1 := own_lt HO1.out k hk; have := Option.some.inj e; simp at h1; omega))
    have HC2 := Lib.hid hc
    clear hc hg HB1 HO1 HC1
    cases rr
    · go_wp2_with fail
      refine (codesOf_any l B d w.heap.size c (0 + 60 + 1) A xs w2 HC2.out (by omega) hxs (own_in_bx HO2.out) HNE.out HLO.out hl).mono ?_
      rintro e wz ⟨⟨cs, E, dE, rfl, hcs, hso, hown⟩, hcz, hgz⟩
      have HBz := Lib.hid (HB2.out.grown hgz HB2.out.size (fun k hk => by have := Option.some.inj hk; omega))
      have HOz := Lib.hid (own_grown HO2.out hgz (fun k hk e => by have h1 := own_lt HO2.out k hk; have := Option.some.inj e; simp at h1; omega))
      have HSz := Lib.hid hown; have HSO := Lib.hid hso
      clear hcz hgz hown hso
      go_wp2
      go_ret2
      exact ⟨l, B, d, cs, E, dE, rfl, hl, own_cap HOz.out, HLO.out, own_in_bx HOz.out, hcs, HSO.out.ok, own_in_s HSz.out, HBz.out⟩
    · skip
      go_wp2_with fail
      refine (pick_any 2 w.heap.size c (0 + 60 + 1) A xs w2 HC2.out (by omega) hxs (by omega) (by omega)).mono ?_
      rintro e w3 ⟨⟨y, hy, rfl⟩, hc, hg⟩
      have hsz3 : w.heap.size < w3.heap.size := hc.lt
      have HB3 := Lib.hid (HB2.out.grown hg HB2.out.size (fun k hk => by have := Option.some.inj hk; omega))
      have HO3 := Lib.hid (own_grown HO2.out hg (fun k hk e => by have h1 := own_lt HO2.out k hk; have := Option.some.inj e; simp at h1; omega))
      have HC3 := Lib.hid hc
      clear hc hg HB2 HO2 HC2
      have hy1 : (y : Int) < 2 := by omega
      obtain ⟨g, rfl, hgb, hgz, hslot⟩ := own_slot HO3.out hl1
      obtain ⟨⟨u, hu⟩, hfz⟩ := hslot (0 * 4 + 3) (by rw [flatBx_len]; omega)
      have hset := own_set HO3.out (i := 0 * 4 + 3) (by rw [flatBx_len]; omega) (.int .i64 (9998 + (y : Int)))
      rw [flatBx_cnt l 0 hl1] at hset
      obtain ⟨L, hL⟩ : ∃ L, L = l.set 0 { l[0] with cnt := 9998 + (y : Int) } := ⟨_, rfl⟩
      have hLl : L.length = l.length := by rw [hL, List.length_set]
      have HLS : Hid (BxsOk L) := Lib.hid (by rw [hL]; exact HLO.out.set _ _ (by exact HLO.out 0 hl1))
      rw [← hL] at hset
      obtain ⟨W6, hW6⟩ : ∃ W6, W6 = w3.setCell ⟨g, 3, none⟩ (.int .i64 (9998 + (y : Int))) := ⟨_, rfl⟩
      have HO6 : Hid (W6.ownsRow (w.heap.size + 1 + 1) 40 4 (.slice (some ⟨g, 0, none⟩) L.length d) L.length (flatBx L)) := by
        refine Lib.hid ?_
        rw [hLl, hW6]; simpa using hset
      have hgr : w3.grownBy W6 (some g) := by rw [hW6]; exact grown_set (World.grownBy.refl _ _) _ _
      have HB6 := Lib.hid (HB3.out.grown hgr HB3.out.size (fun k hk => by have := Option.some.inj hk; simp at hgb; omega))
      obtain ⟨b', off, e, hbl, hcc⟩ := own_in_bx HO6.out (by omega)
      obtain ⟨rfl, rfl⟩ : g = b' ∧ 0 = off := by simpa using e
      obtain ⟨hk0, _, _, _⟩ := hcc 0 (by omega)
      have hcz := HLS.out 0 (by omega)
      have HCZ : Hid (StrsOk [(L[0]'(by omega)).cod]) := Lib.hid (fun q hq => by
        obtain rfl : q = 0 := by simp at hq; omega
        exact hcz)
      generalize (L[0]'(by omega)).cod = t at *
      simp at hk0 hu hfz
      have hl33 : L.length ≤ 33 := by omega
      have hlI : (l.length : Int) = (L.length : Int) := by omega
      have HW6 := Lib.hid hW6
      have HSI := Lib.hid (row_strs W6.drew [t])
      have HBx := Lib.hid (HB6.out.trans (((Below.refl W6.heap.size W6).drew.alloc (Nat.le_refl _) (.cells (strs [t]).toArray 9)).mono HB6.out.size))
      have HOx := Lib.hid (own_below HO6.out ((Below.refl W6.heap.size W6).drew.alloc (Nat.le_refl _) (.cells (strs [t]).toArray 9)))
      clear hset hgr hslot hcc hW6 hcz HO3 HC3 HLO HB3 hL
      go_wp2_with fail
      rw [← HW6.out]
      go_region_law (fail)
      all_goals
        go_wp2
        go_ret2
        exact ⟨L, _, d, [t], _, _, by rw [hLl]; rfl, hl33, own_cap HOx.out, HLS.out, own_in_bx HOx.out, by simp, HCZ.out, HSI.out, HBx.out⟩
end Go.Proofs.YtllafkeheppkjaaDoor

/-
  The draw of one box: spec.DrawIsBox. (For FnCases.)
-/
namespace Go.Proofs.YtllafkeheppkjaaDoor
open Go.RowKit
set_option linter.unusedVariables false

theorem four_set {w : World} {b : Nat} {a0 a1 a2 a3 : Value} {t : TypeId} {fr : Nat × Nat} (h : w.heap[b]? = some (.cells #[a0, a1, a2, a3] t fr)) (x y z u : Value) : ((((w.setCell ⟨b, 0, none⟩ x).setCell ⟨b, 1, none⟩ y).setCell ⟨b, 2, none⟩ z).setCell ⟨b, 3, none⟩ u).heap[b]? = some (.cells #[x, y, z, u] t fr) := by
  rw [heap_set (heap_set (heap_set (heap_set h _) _) _)]
  simp
theorem BytesIn.over {w : World} {A : Option Addr} {xs : List UInt8} (h : BytesIn w A xs) (o : Obj) : BytesIn (w.alloc o) A xs := fun hn => by
  obtain ⟨b, off, rfl, h2, h3⟩ := h hn
  exact ⟨b, off, rfl, by simp; omega, fun k hk => (((Below.refl w.heap.size w).alloc (Nat.le_refl _) o).cell (by show b < _; exact h2)).trans (h3 k hk)⟩

set_option maxRecDepth 100000 in
set_option maxHeartbeats 1000000 in
theorem drawIsBox_any (A : Option Addr) (c : Nat) (xs : List UInt8) (w : World) (hx : BytesIn w A xs) (hxs : xs.length ≤ maxLen) :
    Calls Tryd.prog 25 #[.slice A xs.length c] w fun e w' =>
      ∃ (x : Bx), e = .returned (.agg #[.string x.cod, .int .i64 x.row, .int .i64 x.col, .int .i64 x.cnt]) ∧ x.cod.size ≤ maxLen ∧ Below w.heap.size w w' := by
  obtain ⟨w0, hw0⟩ : ∃ w0 : World, w0 = w.alloc (.cells #[.string ⟨#[]⟩, .int .i64 0, .int .i64 0, .int .i64 0] 40) := ⟨_, rfl⟩
  have hx0 : BytesIn w0 A xs := by rw [hw0]; exact hx.over _
  have hb00 : Below w.heap.size w w0 := by rw [hw0]; exact (Below.refl _ _).alloc (Nat.le_refl _) _
  have hbx : w.heap.size < w0.heap.size := by rw [hw0]; simp
  have hR0 : w0.heap[w.heap.size]? = some (.cells #[.string ⟨#[]⟩, .int .i64 0, .int .i64 0, .int .i64 0] 40 (0, 0)) := by rw [hw0]; exact heap_new _ _
  have HCUR := Lib.hid (cur_new (c := c) hx0)
  have HB0 := Lib.hid (hb00.alloc hb00.size (.cells #[.slice A xs.length c, .int .i64 0, .int .u64 0] 81))
  have HW0 := Lib.hid hw0
  have HR0 := Lib.hid ((((Below.refl w0.heap.size w0).alloc (Nat.le_refl _) (.cells #[.slice A xs.length c, .int .i64 0, .int .u64 0] 81)).block _ hbx).trans hR0)
  clear hx hw0 hx0 hb00 hR0
  go_enter Tryd.func25, Tryd.ntmps25
  go_wp2_with fail
  rw [show w.heap.size + 1 = w0.heap.size from by rw [HW0.out]; simp, ← HW0.out]
  refine (anyCase_any w0.heap.size c 0 A xs _ HCUR.out (by omega) hxs).mono ?_
  rintro e w1 ⟨⟨f, B, d, rfl, hfl, hco, hown⟩, hc1, hg1⟩
  have hl1 := hc1.lt
  have HC1 := Lib.hid hc1
  have HB1 := Lib.hid (HB0.out.grown hg1 HB0.out.size (fun k hk => by have := Option.some.inj hk; omega))
  have HO1 := Lib.hid hown
  have hr1 := (hg1.block _ (by simp; omega) (fun e => by have := Option.some.inj e; omega)).trans HR0.out
  clear hc1 hg1 hown HB0 HCUR HR0
  by_cases hn : f.length = 0
  · have hc30 : w1.cell? ⟨w.heap.size, 0, none⟩ = some (.string ⟨#[]⟩) := by rw [cell_of_heap hr1]; rfl
    have hc31 : w1.cell? ⟨w.heap.size, 1, none⟩ = some (.int .i64 0) := by rw [cell_of_heap hr1]; rfl
    have hc32 : w1.cell? ⟨w.heap.size, 2, none⟩ = some (.int .i64 0) := by rw [cell_of_heap hr1]; rfl
    have hc33 : w1.cell? ⟨w.heap.size, 3, none⟩ = some (.int .i64 0) := by rw [cell_of_heap hr1]; rfl
    have hz0 : w1.frozen? ⟨w.heap.size, 0, none⟩ = false := by simp [World.frozen?, hr1]
    have hz1 : w1.frozen? ⟨w.heap.size, 1, none⟩ = false := by simp [World.frozen?, hr1]
    have hz2 : w1.frozen? ⟨w.heap.size, 2, none⟩ = false := by simp [World.frozen?, hr1]
    have hz3 : w1.frozen? ⟨w.heap.size, 3, none⟩ = false := by simp [World.frozen?, hr1]
    have hbz : w.heap.size < w1.heap.size := by omega
    have hgs : w1.grownBy ((((w1.setCell ⟨w.heap.size, 0, none⟩ (.string ⟨#[]⟩)).setCell ⟨w.heap.size, 1, none⟩ (.int .i64 0)).setCell ⟨w.heap.size, 2, none⟩ (.int .i64 0)).setCell ⟨w.heap.size, 3, none⟩ (.int .i64 0)) (some w.heap.size) := grown_set (grown_set (grown_set (grown_set (World.grownBy.refl _ _) _ _) _ _) _ _) _ _
    have HB4 := Lib.hid (HB1.out.grown hgs HB1.out.size (fun k hk => by have := Option.some.inj hk; omega))
    have hn0 : (f.length : Int) = 0 := by omega
    have HROW3 := Lib.hid (four_set hr1 (.string ⟨#[]⟩) (.int .i64 0) (.int .i64 0) (.int .i64 0))
    clear hgs hr1
    go_wp2
    try simp only [Exit.inBlock, Exit.then]
    refine bodyPost_ret (results_cell_row rfl _ _ w.heap.size _ _ _ _ rfl HROW3.out Tryd.underlying40 rfl (by kernel_rfl)) rfl ?_
    exact ⟨⟨⟨#[]⟩, 0, 0, 0⟩, rfl, Nat.zero_le _, HB4.out⟩
  · have hn1 : 1 ≤ f.length := by omega
    have hn0 : ¬ (f.length : Int) = 0 := by omega
    have HR1 := Lib.hid hr1
    clear hr1
    go_wp2_with fail
    refine (pick_any f.length w0.heap.size c (0 + 60) A xs w1 HC1.out (by omega) hxs hn1 (by omega)).mono ?_
    rintro e w2 ⟨⟨k, hk, rfl⟩, hc2, hg2⟩
    have hl2 := hc2.lt
    have HB2 := Lib.hid (HB1.out.grown hg2 HB1.out.size (fun k hk => by have := Option.some.inj hk; omega))
    have HO2 := own_grown HO1.out hg2 (fun k hk e => by have h1 := own_lt HO1.out k hk; have := Option.some.inj e; simp at h1; omega)
    have hr2 := (hg2.block _ (by omega) (fun e => by have := Option.some.inj e; omega)).trans HR1.out
    have hin := own_in_bx HO2
    have hc30 : w2.cell? ⟨w.heap.size, 0, none⟩ = some (.string ⟨#[]⟩) := by rw [cell_of_heap hr2]; rfl
    have hc31 : w2.cell? ⟨w.heap.size, 1, none⟩ = some (.int .i64 0) := by rw [cell_of_heap hr2]; rfl
    have hc32 : w2.cell? ⟨w.heap.size, 2, none⟩ = some (.int .i64 0) := by rw [cell_of_heap hr2]; rfl
    have hc33 : w2.cell? ⟨w.heap.size, 3, none⟩ = some (.int .i64 0) := by rw [cell_of_heap hr2]; rfl
    have hz0 : w2.frozen? ⟨w.heap.size, 0, none⟩ = false := by simp [World.frozen?, hr2]
    have hz1 : w2.frozen? ⟨w.heap.size, 1, none⟩ = false := by simp [World.frozen?, hr2]
    have hz2 : w2.frozen? ⟨w.heap.size, 2, none⟩ = false := by simp [World.frozen?, hr2]
    have hz3 : w2.frozen? ⟨w.heap.size, 3, none⟩ = false := by simp [World.frozen?, hr2]
    have hbz : w.heap.size < w2.heap.size := by omega
    have hcz := hco k hk
    obtain ⟨b2, off, rfl, hbl2, hcc⟩ := hin (by omega)
    obtain ⟨hk0, hk1, hk2, hk3⟩ := hcc k hk
    have hcz' : (f[k]).cod.size ≤ maxLen := hcz
    generalize (f[k]).cod = t0 at *; generalize (f[k]).row = t1 at *; generalize (f[k]).col = t2 at *; generalize (f[k]).cnt = t3 at *
    have hgs : w2.grownBy ((((w2.setCell ⟨w.heap.size, 0, none⟩ (.string t0)).setCell ⟨w.heap.size, 1, none⟩ (.int .i64 t1)).setCell ⟨w.heap.size, 2, none⟩ (.int .i64 t2)).setCell ⟨w.heap.size, 3, none⟩ (.int .i64 t3)) (some w.heap.size) := grown_set (grown_set (grown_set (grown_set (World.grownBy.refl _ _) _ _) _ _) _ _) _ _
    have HB4 := Lib.hid (HB2.out.grown hgs HB2.out.size (fun k hk => by have := Option.some.inj hk; omega))
    have hne2 : b2 ≠ w.heap.size := by
      have h1 := own_lt HO2 b2 rfl
      simp at h1; omega
    have hne3 : w.heap.size ≠ b2 := fun e => hne2 e.symm
    have hki : (k : Int) < (f.length : Int) := by omega
    have HROW3 := Lib.hid (four_set hr2 (.string t0) (.int .i64 t1) (.int .i64 t2) (.int .i64 t3))
    have HCZ := Lib.hid hcz'
    clear hc2 hg2 hgs hr2 HB1 HO1 HO2 hin hcc HC1 HB2 HR1 hcz hcz' hco
    go_wp2
    try simp only [Exit.inBlock, Exit.then]
    refine bodyPost_ret (results_cell_row rfl _ _ w.heap.size _ _ _ _ rfl HROW3.out Tryd.underlying40 rfl (by kernel_rfl)) rfl ?_
    exact ⟨⟨t0, t1, t2, t3⟩, rfl, HCZ.out, HB4.out⟩
end Go.Proofs.YtllafkeheppkjaaDoor

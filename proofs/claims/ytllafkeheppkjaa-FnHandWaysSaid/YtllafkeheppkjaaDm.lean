import Derived.Test.YtllafkeheppkjaaLaw
import Derived.Test.YtllafkeheppkjaaCmp
import Derived.Test.YtllafkeheppkjaaWide
import Derived.Test.YtllafkeheppkjaaCur
import Derived.Test.YtllafkeheppkjaaHeld
import Derived.Test.YtllafkeheppkjaaBo
import Derived.Test.YtllafkeheppkjaaSx
import Derived.Test.YtllafkeheppkjaaWds
import Derived.Test.YtllafkeheppkjaaBt
import Derived.Test.YtllafkeheppkjaaNh
import Derived.Test.YtllafkeheppkjaaSz
import Derived.Test.YtllafkeheppkjaaWk
import Derived.Lib.AppendZerosOnto
import Derived.Lib.SliceRun
import Derived.Deep.RegionLaw
import Derived.IntWalk
import Derived.Deep.DeepCutAuto
import Derived.Maps.AppendAt
/-
  The contracts of the instances of slices.Grow (at the nil slice) and of slices.Concat (over parts that are not nil): a new row that holds the parts one after the other.
-/
namespace Go.Proofs.Ytllafkeheppkjaa
open Go.RowKit
set_option linter.unusedVariables false

def Grown0 (w w' : World) (e : Ending) : Prop := ∃ v, e = .returned v ∧ Below w.heap.size w w' ∧ w'.ownsRow w.heap.size 128 2 v 0 []

/-- A part that is handed to slices.Concat: where it lies, its length and room, its cells. -/
structure Part3 where
  a : Addr
  m : Nat
  c : Nat
  xs : List Value
def Part3.val (p : Part3) : Value := .slice (some p.a) p.m p.c
/-- The part's cells are there. -/
def Part3.Reads (p : Part3) (w : World) : Prop := p.xs.length = p.m * 2 ∧ p.a.block < w.heap.size ∧ (∀ j u, p.xs[j]? = some u → w.cell? (p.a.add j) = some u) ∧ ∀ u ∈ p.xs, u.oneCell' = true
theorem block_add (a : Addr) (n : Nat) : (a.add n).block = a.block := by unfold Addr.add; split <;> rfl
theorem Part3.Reads.below {p : Part3} {w w' : World} {B : Nat} (h : p.Reads w) (hb : Below B w w') (hB : w.heap.size ≤ B) : p.Reads w' :=
  ⟨h.1, Nat.lt_of_lt_of_le h.2.1 hb.size, fun j u hu => (hb.cell (by rw [block_add]; have := h.2.1; omega)).trans (h.2.2.1 j u hu), h.2.2.2⟩
def lens : List Part3 → Nat
  | [] => 0
  | p :: r => p.m + lens r
def allXs : List Part3 → List Value
  | [] => []
  | p :: r => p.xs ++ allXs r
theorem lens_append (a b : List Part3) : lens (a ++ b) = lens a + lens b := by
  induction a with
  | nil => simp [lens]
  | cons x a ih => simp only [List.cons_append, lens, ih]; omega
theorem allXs_append (a b : List Part3) : allXs (a ++ b) = allXs a ++ allXs b := by
  induction a with
  | nil => simp [allXs]
  | cons x a ih => simp only [List.cons_append, allXs, ih, List.append_assoc]
theorem lens_snoc (l : List Part3) (k : Nat) (h : k < l.length) : lens (l.take (k + 1)) = lens (l.take k) + l[k].m := by
  rw [List.take_succ_eq_append_getElem h, lens_append]; simp [lens]
theorem allXs_snoc (l : List Part3) (k : Nat) (h : k < l.length) : allXs (l.take (k + 1)) = allXs (l.take k) ++ l[k].xs := by
  rw [List.take_succ_eq_append_getElem h, allXs_append]; simp [allXs]
theorem lens_take_le (l : List Part3) : ∀ k, lens (l.take k) ≤ lens l := by
  intro k
  have h : lens l = lens (l.take k) + lens (l.drop k) := by rw [← lens_append, List.take_append_drop]
  omega

/-- The answer: one row of the call's own with all cells. -/
def CatTo (ps : List Part3) (w w' : World) (e : Ending) : Prop := ∃ v, e = .returned v ∧ Below w.heap.size w w' ∧ w'.ownsRow w.heap.size 128 2 v (lens ps) (allXs ps)

end Go.Proofs.Ytllafkeheppkjaa

/-
  The contracts of spec.SetOfCode and impl.SetOfCode.
-/
namespace Go.Proofs.Ytllafkeheppkjaa
open Go.RowKit
set_option linter.unusedVariables false

/-- The sort with a Code, of a font. -/
noncomputable def socF (f : List (ByteArray × Int)) (s : ByteArray) : Option Nat := if fontB f && decide (0 ≤ findI f s 0) then some (findI f s 0).toNat else none
def socW (f : List (ByteArray × Int)) : Option Nat → Int | some i => widthAt f i | none => 0
theorem soc_no {f : List (ByteArray × Int)} {s : ByteArray} (h : fontB f = false ∨ findI f s 0 < 0) : socF f s = none := by
  unfold socF
  rw [if_neg]
  simp only [Bool.and_eq_true, decide_eq_true_eq, not_and]
  intro h1
  rcases h with h | h
  · rw [h] at h1; cases h1
  · omega
theorem soc_yes {f : List (ByteArray × Int)} {s : ByteArray} {i : Nat} (h : fontB f = true) (hi : findI f s 0 = (i : Int)) : socF f s = some i := by
  unfold socF
  rw [hi, h, if_pos (by simp)]
  simp

end Go.Proofs.Ytllafkeheppkjaa

/-
  The contracts of spec.WithoutSort and impl.WithoutSort: the font without a sort, in memory of the call's own.
-/
namespace Go.Proofs.Ytllafkeheppkjaa
open Go.RowKit
set_option linter.unusedVariables false

/-- A call's answer: a slice of sorts of its own, and whether there is one. -/
def SortsTo (w w' : World) (e : Ending) (r : Option (List (ByteArray × Int))) : Prop :=
  ∃ v, e = .returned (.tuple #[v, .bool r.isSome]) ∧ Below w.heap.size w w' ∧ w'.ownsRow w.heap.size 128 2 v (r.getD []).length (flat (r.getD []))
theorem SortsTo.no {w w' : World} {r : Option (List (ByteArray × Int))} (h : r = none) (hb : Below w.heap.size w w') : SortsTo w w' (.returned (.tuple #[.slice none 0 0, .bool false])) r := by subst h; exact ⟨_, rfl, hb, own_nil _ _ _ _⟩
theorem SortsTo.yes {w w' : World} {r : Option (List (ByteArray × Int))} {l : List (ByteArray × Int)} {v : Value} (h : r = some l) (hb : Below w.heap.size w w') (ho : w'.ownsRow w.heap.size 128 2 v l.length (flat l)) : SortsTo w w' (.returned (.tuple #[v, .bool true])) r := by subst h; exact ⟨v, rfl, hb, ho⟩

noncomputable def woF (f : List (ByteArray × Int)) (s : ByteArray) : Option (List (ByteArray × Int)) :=
  if fontB f && (decide (0 ≤ findI f s 0) && decide (f.length ≠ 1)) then some (f.take (findI f s 0).toNat ++ f.drop ((findI f s 0).toNat + 1)) else none
theorem wo_no {f : List (ByteArray × Int)} {s : ByteArray} (h : fontB f = false ∨ findI f s 0 < 0 ∨ f.length = 1) : woF f s = none := by
  unfold woF
  rw [if_neg]
  simp only [Bool.and_eq_true, decide_eq_true_eq, not_and]
  intro h1 h2 h3
  rcases h with h | h | h
  · rw [h] at h1; cases h1
  · omega
  · exact h3 h
theorem wo_yes {f : List (ByteArray × Int)} {s : ByteArray} {i : Nat} (h : fontB f = true) (hi : findI f s 0 = (i : Int)) (hl : f.length ≠ 1) : woF f s = some (f.take i ++ f.drop (i + 1)) := by
  unfold woF
  rw [hi, h, if_pos (by simp [hl])]
  simp
theorem add_flat0 (b off k : Nat) : (⟨b, off, none⟩ : Addr).add k = ⟨b, off + k, none⟩ := by
  unfold Addr.add
  by_cases hk : k = 0 <;> simp [hk]
/-- The cells of a run of sorts lie one after the other. -/
theorem run_reads {w : World} {lo b off : Nat} {f : List (ByteArray × Int)} (hb : b < w.heap.size) (hc : ∀ k (h : k < f.length), w.cell? ⟨b, off + k * 2, none⟩ = some (.string f[k].1) ∧ w.cell? ⟨b, off + k * 2 + 1, none⟩ = some (.int .i64 f[k].2)) :
    ∀ j u, (flat f)[j]? = some u → w.cell? ⟨b, off + j, none⟩ = some u := by
  intro j u hu
  have hlt : j < (flat f).length := by
    rcases Nat.lt_or_ge j (flat f).length with h | h
    · exact h
    · rw [List.getElem?_eq_none h] at hu; cases hu
  rw [flat_len] at hlt
  obtain ⟨h1, h2⟩ := hc (j / 2) (by omega)
  obtain ⟨g1, g2⟩ := flat_get f (j / 2) (by omega)
  rcases Nat.mod_two_eq_zero_or_one j with h | h
  · have e : j / 2 * 2 = j := by omega
    rw [e] at h1 g1
    rw [g1] at hu
    rw [h1]; exact hu
  · have e : j / 2 * 2 + 1 = j := by omega
    rw [Nat.add_assoc, e] at h2
    rw [e] at g2
    rw [g2] at hu
    rw [h2]; exact hu
theorem flat_one0 (f : List (ByteArray × Int)) : ∀ u ∈ flat f, u.oneCell' = true := by
  intro u hu
  simp only [flat, List.mem_flatMap] at hu
  obtain ⟨x, _, hx⟩ := hu
  simp at hx
  rcases hx with rfl | rfl <;> rfl

theorem flat_append (a b : List (ByteArray × Int)) : flat (a ++ b) = flat a ++ flat b := by simp [flat]
/-- The first i sorts of a run, as a part. -/
theorem part_head {w : World} {b off cap i : Nat} {f : List (ByteArray × Int)} (hb : b < w.heap.size) (hc : ∀ k (h : k < f.length), w.cell? ⟨b, off + k * 2, none⟩ = some (.string f[k].1) ∧ w.cell? ⟨b, off + k * 2 + 1, none⟩ = some (.int .i64 f[k].2)) (hi : i ≤ f.length) :
    (Part3.mk ⟨b, off, none⟩ i cap (flat (f.take i))).Reads w := by
  refine ⟨by show (flat (f.take i)).length = i * 2; rw [flat_len, List.length_take]; omega, hb, fun j u hu => ?_, flat_one0 _⟩
  show w.cell? ((⟨b, off, none⟩ : Addr).add j) = some u
  rw [add_flat0]
  refine run_reads (lo := 0) hb hc j u ?_
  have hu' : (flat (f.take i))[j]? = some u := hu
  have hl : j < (flat (f.take i)).length := by
    rcases Nat.lt_or_ge j (flat (f.take i)).length with h | h
    · exact h
    · rw [List.getElem?_eq_none h] at hu'; cases hu'
  have e : flat f = flat (f.take i) ++ flat (f.drop i) := by rw [← flat_append, List.take_append_drop]
  rw [e, List.getElem?_append_left hl]
  exact hu'
/-- The sorts from i on, as a part. -/
theorem part_tail {w : World} {b off cap i : Nat} {a2 : Addr} {f : List (ByteArray × Int)} (hb : b < w.heap.size) (hc : ∀ k (h : k < f.length), w.cell? ⟨b, off + k * 2, none⟩ = some (.string f[k].1) ∧ w.cell? ⟨b, off + k * 2 + 1, none⟩ = some (.int .i64 f[k].2)) (hi : i ≤ f.length) (h2 : a2.block = b) (h3 : i < f.length → a2 = ⟨b, off + i * 2, none⟩) :
    (Part3.mk a2 (f.length - i) cap (flat (f.drop i))).Reads w := by
  refine ⟨by show (flat (f.drop i)).length = (f.length - i) * 2; rw [flat_len, List.length_drop]; omega, by show a2.block < _; rw [h2]; exact hb, fun j u hu => ?_, flat_one0 _⟩
  show w.cell? (a2.add j) = some u
  have hu' : (flat (f.drop i))[j]? = some u := hu
  have hl : j < (flat (f.drop i)).length := by
    rcases Nat.lt_or_ge j (flat (f.drop i)).length with h | h
    · exact h
    · rw [List.getElem?_eq_none h] at hu'; cases hu'
  rw [flat_len, List.length_drop] at hl
  rw [h3 (by omega), add_flat0, Nat.add_assoc]
  refine run_reads (lo := 0) hb hc (i * 2 + j) u ?_
  have e : flat f = flat (f.take i) ++ flat (f.drop i) := by rw [← flat_append, List.take_append_drop]
  have hlen : (flat (f.take i)).length = i * 2 := by rw [flat_len, List.length_take]; omega
  rw [e, List.getElem?_append_right (by omega), hlen, Nat.add_sub_cancel_left]
  exact hu'
theorem elem23 : Try.prog.elem 119 = 128 := by kernel_rfl
theorem size39 (W : World) : (sizeOf (Try.prog.elem 119)).run Try.prog W = .ok 2 W := by
  obtain ⟨i0, hi, hz0, hz1, hz2⟩ := info_parts info39
  rw [elem23]
  simp [sizeOf, typeInfo, hi, hz1]
theorem under23 : Try.prog.underlying 119 = some (.slice (Try.prog.elem 119)) := by rw [elem23]; exact Try.underlying119
theorem slice_head (b off n cap k : Nat) (hk : k ≤ n) (hn : n ≤ cap) (W : World) :
    (Instr.slice 119 (.slice (some ⟨b, off, none⟩) n cap) none (some (.int .i64 (k : Int))) none).run Try.prog W = .ok (.slice (some ⟨b, off, none⟩) k cap) W := by
  rw [run_slice_h W _ _ _ _ under23 .i64 (k : Int) (by omega) (by omega), size39]
  by_cases hc : cap = 0 <;> simp [sliced, Result.andThen, Addr.add, hc]
theorem slice_tail (b off n cap k : Nat) (K : Int) (hK : K = (k : Int)) (hk : k ≤ n) (hn : n ≤ cap) :
    ∃ a2 : Addr, (∀ W, (Instr.slice 119 (.slice (some ⟨b, off, none⟩) n cap) (some (.int .i64 K)) none none).run Try.prog W = .ok (.slice (some a2) (n - k) (cap - k)) W) ∧ a2.block = b ∧ (k < n → a2 = ⟨b, off + k * 2, none⟩) := by
  subst hK
  refine ⟨if cap = k then ⟨b, off, none⟩ else (⟨b, off, none⟩ : Addr).add (k * 2), fun W => ?_, ?_, ?_⟩
  · rw [run_slice_l W _ _ _ _ under23 .i64 (k : Int) (by omega) (by omega), size39]
    by_cases hc : cap = k <;> simp [sliced, Result.andThen, hc]
  · split
    · rfl
    · rw [block_add]
  · intro h
    rw [if_neg (by omega), add_flat0]

theorem step_own {P : Program} (w : World) {ops : Array Oper} {o : Oper} {a : Act} {K : Act → World → Prop} {Q : Exit → Act → World → Prop} {E : Prop} (hgd : o.guard = none) (s x : Operand) (t : TypeId)
    (ho : o.op = .call { callee := .builtin .append, args := #[s, x], argTypes := #[t, t] })
    (base : Nat) (e : TypeId) (i : TypeInfo) (z : Value) (size bytes : Nat) (ht : P.underlying t = some (.slice e)) (hi : P.info? e = some i) (hz : i.zero = some z)
    (hsize : i.size = size) (hby : i.bytes = bytes) (hzs : z.cells.size = size) (hsz : 0 < size)
    (v : Value) (n : Nat) (xs : List Value) (hs : a.eval s = v) (hown : w.ownsRow base e size v n xs)
    (ad : Addr) (m c : Nat) (news : List Value) (hx : a.eval x = .slice (some ad) m c) (hl : news.length = m * size) (hnews : ∀ j u, news[j]? = some u → w.cell? (ad.add j) = some u) (h1 : ∀ u ∈ news, u.oneCell' = true)
    (h63 : n + m ≤ maxLen) (hbytes : (n + m) * bytes ≤ 140737488355328) (hbase : base ≤ w.heap.size)
    (h : ∀ v' w', w'.ownsRow base e size v' (n + m) (xs ++ news) → w.grownBy w' v.ownBlock → K (a.put o.dst v') w') :
    if Region.wanted o (yielded ops a.tmps) = true then Oper.wp P o a w K Q else E := by
  have hw : Region.wanted o (yielded ops a.tmps) = true := by simp [Region.wanted, hgd]
  rw [if_pos hw]
  exact wp_append_own w s x t ho base e i z size bytes ht hi hz hsize hby hzs hsz v n xs hs hown ad m c news hx hl hnews h1 h63 hbytes hbase fun v' w' h2 h3 _ => h v' w' h2 h3

theorem wo_len (f : List (ByteArray × Int)) (s : ByteArray) : ((woF f s).getD []).length ≤ 64 := by
  unfold woF
  split
  · rename_i h
    simp only [Bool.and_eq_true] at h
    have := (fontB_iff.1 h.1).2.2
    simp only [Option.getD_some, List.length_append, List.length_take, List.length_drop]
    omega
  · simp
end Go.Proofs.Ytllafkeheppkjaa

/-
  The draw of a font: spec.l1Cur.font. (For FnFonts.)
-/
namespace Go.Proofs.Ytllafkeheppkjaa
open Go.RowKit
set_option linter.unusedVariables false

theorem cell_keep {w w' : World} {b' i : Nat} {row : Option Nat} (hg : w.grownBy w' row) (h : b' < w.heap.size) (hne : row ≠ some b') : w'.cell? ⟨b', i, none⟩ = w.cell? ⟨b', i, none⟩ := by
  have := hg.block b' h (fun e => hne e.symm)
  unfold World.cell?
  rw [this]
theorem grownBy_own {w wr w4 : World} {b : Nat} {row : Option Nat} (h : w.grownBy wr (some b)) (hg : wr.grownBy w4 row) (hrow : ∀ k, row = some k → w.heap.size ≤ k) : w.grownBy w4 (some b) :=
  ⟨hg.os.trans h.os, hg.tape.trans h.tape, hg.output.trans h.output, Nat.le_trans h.size hg.size, fun i hi hne => (hg.block i (Nat.lt_of_lt_of_le hi h.size) (fun e => by have := hrow i e.symm; omega)).trans (h.block i hi hne)⟩
theorem CurLe.own {w w' : World} {b c M : Nat} {A : Option Addr} {xs : List UInt8} {row : Option Nat} (h : CurLe w b A c M xs) (hg : w.grownBy w' row) (hrow : ∀ k, row = some k → b < k) : CurLe w' b A c M xs := by
  have hl := h.lt
  obtain ⟨⟨a, h0, sd, h1, h1'⟩, h2⟩ := h
  refine ⟨⟨a, h0, sd, h1, (hg.block b hl (fun e => by have := hrow b e.symm; omega)).trans h1'⟩, fun hn => ?_⟩
  obtain ⟨b', off, e, hlt, hc⟩ := h2 hn
  exact ⟨b', off, e, hlt, fun k hk => (cell_keep hg (by omega) (fun e => by have := hrow b' e; omega)).trans (hc k hk)⟩
theorem StrsIn.keep {w w' : World} {g : Nat} {l : List ByteArray} {row : Option Nat} (h : StrsIn w (some ⟨g, 0, none⟩) l) (hg : w.grownBy w' row) (hne : row ≠ some g) : StrsIn w' (some ⟨g, 0, none⟩) l := fun hn => by
  obtain ⟨b', off, e, hl, hc⟩ := h hn
  obtain ⟨rfl, rfl⟩ : g = b' ∧ 0 = off := by simpa using e
  exact ⟨g, 0, rfl, Nat.lt_of_lt_of_le hl hg.size, fun k hk => (cell_keep hg hl hne).trans (hc k hk)⟩
theorem two_new (w : World) (x y : Value) (t : TypeId) : ∀ j u, ([x, y] : List Value)[j]? = some u → (w.alloc (.cells #[x, y] t)).cell? ((⟨w.heap.size, 0, none⟩ : Addr).add j) = some u := by
  intro j u hu
  have e : (⟨w.heap.size, 0, none⟩ : Addr).add j = ⟨w.heap.size, 0 + j, none⟩ := by
    unfold Addr.add
    by_cases hk : j = 0 <;> simp [hk]
  rw [e, cell_of_heap (heap_new _ _), Nat.zero_add, ← hu]
  simp
def fontTexts : List ByteArray := [⟨#[97]⟩, ⟨#[97, 98]⟩, ⟨#[97, 98, 99]⟩, ⟨#[98]⟩, ⟨#[98, 98]⟩, ⟨#[99]⟩, ⟨#[100]⟩, ⟨#[101]⟩, ⟨#[102]⟩, ⟨#[102, 102]⟩, ⟨#[102, 105]⟩, ⟨#[105]⟩]
theorem fontTexts_size : ∀ s ∈ fontTexts, 1 ≤ s.size ∧ s.size ≤ 3 := by
  intro s hs
  simp only [fontTexts, List.mem_cons, List.not_mem_nil, or_false] at hs
  rcases hs with rfl | rfl | rfl | rfl | rfl | rfl | rfl | rfl | rfl | rfl | rfl | rfl <;> decide

set_option maxRecDepth 100000 in
set_option maxHeartbeats 1000000 in
theorem font_any (b c M : Nat) (A : Option Addr) (xs : List UInt8) (w : World) (hc : CurLe w b A c M xs) (hat : M ≤ 999900) (hxs : xs.length ≤ maxLen) :
    Calls Try.prog 95 #[.pointer (some ⟨b, 0, none⟩)] w fun e w' =>
      (∃ (f : List (ByteArray × Int)) (B : Option Addr) (d : Nat), e = .returned (.slice B f.length d) ∧ 1 ≤ f.length ∧ f.length ≤ 12 ∧ CodesOk f ∧ w'.ownsRow (w.heap.size + 1) 128 2 (.slice B f.length d) f.length (flat f)) ∧
      CurLe w' b A c (M + 24) xs ∧ w.grownBy w' (some b) := by
  have hbl := hc.lt
  have HC := Lib.hid (hc.below ((Below.refl _ _).alloc (Nat.le_refl _) (.cells (strs fontTexts).toArray 9)))
  have HG := Lib.hid (grownBy_alloc (World.grownBy.refl w (some b)) (.cells (strs fontTexts).toArray 9))
  have HROW := Lib.hid (row_strs w fontTexts)
  clear hc
  obtain ⟨i0, hi0', hz0, hz1, hz2⟩ := info_parts info39
  have HI0 := Lib.hid hi0'; have HZ0 := Lib.hid hz0; have HZ1 := Lib.hid hz1; have HZ2 := Lib.hid hz2
  clear hi0' hz0 hz1 hz2
  go_enter Try.func95, Try.ntmps95
  go_wp2
  go_loopw [3, 8] (fun v i wr => ∃ (k : Nat) (acc : List (ByteArray × Int)), k ≤ 12 ∧ i = .int .i64 (k : Int) ∧ acc.length ≤ k ∧ CodesOk acc ∧ StrsIn wr (some ⟨w.heap.size, 0, none⟩) fontTexts ∧ wr.ownsRow (w.heap.size + 1) 128 2 v acc.length (flat acc) ∧ CurLe wr b A c (M + 2 * k) xs ∧ w.grownBy wr (some b)) (fun _ i _ => 12 - (intOf i).toNat)
  case atStart => exact ⟨0, [], Nat.zero_le _, rfl, Nat.le_refl _, fun k h => absurd h (by simp), HROW.out, own_nil _ _ _ _, HC.out, HG.out⟩
  case round =>
    clear HC HG HROW
    obtain ⟨k, acc, hk, rfl, hal, hco, hrow, hown, hc, hg⟩ := hrel
    by_cases hlt : k < 12
    · obtain ⟨g', off, e, hgl, hcs⟩ := hrow (by decide)
      obtain ⟨rfl, rfl⟩ : w.heap.size = g' ∧ 0 = off := by simpa using e
      have hx0 := hcs k hlt
      rw [Nat.zero_add] at hx0
      obtain ⟨t1, t3⟩ := fontTexts_size _ (List.getElem_mem hlt)
      generalize fontTexts[k]'hlt = t at *
      clear hcs e
      have hk1 : (k : Int) < 12 := by omega
      have hgw : w.heap.size ≤ wr.heap.size := hg.size
      by_cases h1 : t.size = 1
      · have ht : ((t.size : Int) == 1) = true := by rw [h1]; rfl
        have hgt : ¬ (1 : Int) < (t.size : Int) := by omega
        have HS1 := Lib.hid h1
        have HSZ : Hid (t.size ≤ 3) := t3
        clear h1
        go_wp2_with fail
        refine (one_any 12 b c (M + 2 * k) A xs wr hc (by omega) hxs (by omega) (by omega)).mono ?_
        rintro e w1 ⟨⟨r, rfl⟩, hc1, hg1⟩
        have HC1 := Lib.hid hc1
        have HR1 := Lib.hid (hrow.keep hg1 (fun e => by have := Option.some.inj e; omega))
        have HO1 := Lib.hid (own_grown hown hg1 (fun k hk e => by have := own_lt hown k hk; have := Option.some.inj e; omega))
        have HG1 := Lib.hid (grownBy_trans hg hg1)
        have hw1 : wr.heap.size ≤ w1.heap.size := hg1.size
        clear hc1 hg1 hc hrow hown hg hx0
        cases r
        · go_wp2_with fail
          refine (pick_any 4 b c (M + 2 * k + 1) A xs w1 HC1.out (by omega) hxs (by omega) (by omega)).mono ?_
          rintro e w2 ⟨⟨y, hy, rfl⟩, hc2, hg2⟩
          have hb2 : w1.heap.size ≤ w2.heap.size := hg2.size
          have hown2 := own_grown HO1.out hg2 (fun k hk e => by have := own_lt HO1.out k hk; have := Option.some.inj e; omega)
          have HR2 := Lib.hid (HR1.out.keep hg2 (fun e => by have := Option.some.inj e; omega))
          have HG2 := Lib.hid (grownBy_trans HG1.out hg2)
          have HC2 := Lib.hid hc2
          have hsz2 : w.heap.size ≤ w2.heap.size := HG2.out.size
          have hwl2 : w.heap.size + 1 ≤ w2.heap.size := by omega
          have hy1 : (y : Int) < 4 := by omega
          have hmul : (t.size : Int) * (2 + (y : Int)) ≤ 15 := by
            have h1 : (t.size : Int) ≤ 3 := by omega
            have h2 : 2 + (y : Int) ≤ 5 := by omega
            exact Int.le_trans (Int.mul_le_mul h1 h2 (by omega) (by omega)) (by omega)
          have hmul0 : 0 ≤ (t.size : Int) * (2 + (y : Int)) := Int.mul_nonneg (by omega) (by omega)
          generalize hz : (t.size : Int) * (2 + (y : Int)) = z at *
          have hmx : acc.length + 1 ≤ maxLen := by unfold maxLen; omega
          clear hc2 hg2
          go_wp2_with (at_builtin; refine wpList_append_own _ rfl _ _ 119 rfl (w.heap.size + 1) 128 i0 (.agg #[.string .empty, .int .i64 0]) 2 24 Try.underlying119 HI0.out HZ0.out HZ1.out HZ2.out rfl (by decide) _ _ _ rfl (hown2.alloc _) ⟨w2.heap.size, 0, none⟩ 1 1 [.string t, .int .i64 (4 + z)] rfl rfl (two_new _ _ _ _) (by simp [Value.oneCell']) hmx (by omega) (by simp; omega) ?_)
          intro v' w4 hown' hgrow _
          have hal2 : w2.grownBy (w2.alloc (.cells #[.string t, .int .i64 (4 + z)] 128)) (some b) := grownBy_alloc (World.grownBy.refl _ _) _
          have hrw := own_lt hown2
          have HR4 := Lib.hid ((HR2.out.keep hal2 (fun e => by have := Option.some.inj e; omega)).keep hgrow (fun e => by have := hrw _ e; omega))
          have HC4 := Lib.hid ((HC2.out.below ((Below.refl _ _).alloc (Nat.le_refl _) (.cells #[.string t, .int .i64 (4 + z)] 128))).own hgrow (fun k hk => by have := hrw k hk; omega))
          have HG4 := Lib.hid (grownBy_own (grownBy_trans HG2.out hal2) hgrow (fun k hk => by have := hrw k hk; omega))
          have HO4 : Hid (w4.ownsRow (w.heap.size + 1) 128 2 v' (acc ++ [(t, 4 + z)]).length (flat (acc ++ [(t, 4 + z)]))) := by
            rw [List.length_append, flat_snoc]; exact hown'
          have hco' : CodesOk (acc ++ [(t, 4 + z)]) := by
            intro q hq
            by_cases hqa : q < acc.length
            · rw [List.getElem_append_left hqa]; exact hco q hqa
            · have : q = acc.length := by simp at hq; omega
              subst this
              simp
              unfold maxLen; omega
          clear hown' hgrow hown2 hal2
          go_wp2
          go_roundw
          case rel => exact ⟨k + 1, acc ++ [(t, 4 + z)], by omega, by go_num, by simp; omega, hco', HR4.out, HO4.out, HC4.out.more (by omega), HG4.out⟩
          case measure => simp [intOf]; omega
        · go_wp2
          go_roundw
          case rel => exact ⟨k + 1, acc, by omega, by go_num, by omega, hco, HR1.out, HO1.out, HC1.out.more (by omega), HG1.out⟩
          case measure => simp [intOf]; omega
      · have ht : ((t.size : Int) == 1) = false := by rw [beq_eq_false_iff_ne]; omega
        have hgt : (1 : Int) < (t.size : Int) := by omega
        go_wp2_with fail
        refine (one_any 3 b c (M + 2 * k) A xs wr hc (by omega) hxs (by omega) (by omega)).mono ?_
        rintro e w1 ⟨⟨r, rfl⟩, hc1, hg1⟩
        have HC1 := Lib.hid hc1
        have HR1 := Lib.hid (hrow.keep hg1 (fun e => by have := Option.some.inj e; omega))
        have HO1 := Lib.hid (own_grown hown hg1 (fun k hk e => by have := own_lt hown k hk; have := Option.some.inj e; omega))
        have HG1 := Lib.hid (grownBy_trans hg hg1)
        have hw1 : wr.heap.size ≤ w1.heap.size := hg1.size
        clear hc1 hg1 hc hrow hown hg hx0
        cases r
        · go_wp2
          go_roundw
          case rel => exact ⟨k + 1, acc, by omega, by go_num, by omega, hco, HR1.out, HO1.out, HC1.out.more (by omega), HG1.out⟩
          case measure => simp [intOf]; omega
        · go_wp2_with fail
          refine (pick_any 4 b c (M + 2 * k + 1) A xs w1 HC1.out (by omega) hxs (by omega) (by omega)).mono ?_
          rintro e w2 ⟨⟨y, hy, rfl⟩, hc2, hg2⟩
          have hb2 : w1.heap.size ≤ w2.heap.size := hg2.size
          have hown2 := own_grown HO1.out hg2 (fun k hk e => by have := own_lt HO1.out k hk; have := Option.some.inj e; omega)
          have HR2 := Lib.hid (HR1.out.keep hg2 (fun e => by have := Option.some.inj e; omega))
          have HG2 := Lib.hid (grownBy_trans HG1.out hg2)
          have HC2 := Lib.hid hc2
          have hsz2 : w.heap.size ≤ w2.heap.size := HG2.out.size
          have hwl2 : w.heap.size + 1 ≤ w2.heap.size := by omega
          have hy1 : (y : Int) < 4 := by omega
          have hmul : (t.size : Int) * (2 + (y : Int)) ≤ 15 := by
            have h1 : (t.size : Int) ≤ 3 := by omega
            have h2 : 2 + (y : Int) ≤ 5 := by omega
            exact Int.le_trans (Int.mul_le_mul h1 h2 (by omega) (by omega)) (by omega)
          have hmul0 : 0 ≤ (t.size : Int) * (2 + (y : Int)) := Int.mul_nonneg (by omega) (by omega)
          generalize hz : (t.size : Int) * (2 + (y : Int)) = z at *
          have hmx : acc.length + 1 ≤ maxLen := by unfold maxLen; omega
          clear hc2 hg2
          go_wp2_with (at_builtin; refine wpList_append_own _ rfl _ _ 119 rfl (w.heap.size + 1) 128 i0 (.agg #[.string .empty, .int .i64 0]) 2 24 Try.underlying119 HI0.out HZ0.out HZ1.out HZ2.out rfl (by decide) _ _ _ rfl (hown2.alloc _) ⟨w2.heap.size, 0, none⟩ 1 1 [.string t, .int .i64 (4 + z)] rfl rfl (two_new _ _ _ _) (by simp [Value.oneCell']) hmx (by omega) (by simp; omega) ?_)
          intro v' w4 hown' hgrow _
          have hal2 : w2.grownBy (w2.alloc (.cells #[.string t, .int .i64 (4 + z)] 128)) (some b) := grownBy_alloc (World.grownBy.refl _ _) _
          have hrw := own_lt hown2
          have HR4 := Lib.hid ((HR2.out.keep hal2 (fun e => by have := Option.some.inj e; omega)).keep hgrow (fun e => by have := hrw _ e; omega))
          have HC4 := Lib.hid ((HC2.out.below ((Below.refl _ _).alloc (Nat.le_refl _) (.cells #[.string t, .int .i64 (4 + z)] 128))).own hgrow (fun k hk => by have := hrw k hk; omega))
          have HG4 := Lib.hid (grownBy_own (grownBy_trans HG2.out hal2) hgrow (fun k hk => by have := hrw k hk; omega))
          have HO4 : Hid (w4.ownsRow (w.heap.size + 1) 128 2 v' (acc ++ [(t, 4 + z)]).length (flat (acc ++ [(t, 4 + z)]))) := by
            rw [List.length_append, flat_snoc]; exact hown'
          have hco' : CodesOk (acc ++ [(t, 4 + z)]) := by
            intro q hq
            by_cases hqa : q < acc.length
            · rw [List.getElem_append_left hqa]; exact hco q hqa
            · have : q = acc.length := by simp at hq; omega
              subst this
              simp
              unfold maxLen; omega
          clear hown' hgrow hown2 hal2
          go_wp2
          go_roundw
          case rel => exact ⟨k + 1, acc ++ [(t, 4 + z)], by omega, by go_num, by simp; omega, hco', HR4.out, HO4.out, HC4.out.more (by omega), HG4.out⟩
          case measure => simp [intOf]; omega
    · obtain rfl : k = 12 := by omega
      have hgw : w.heap.size + 1 ≤ wr.heap.size := by
        obtain ⟨g', off, e, hgl, _⟩ := hrow (by decide)
        obtain ⟨rfl, rfl⟩ : w.heap.size = g' ∧ 0 = off := by simpa using e
        exact hgl
      obtain ⟨B, d, rfl⟩ := own_form_f hown
      by_cases h0 : acc.length = 0
      · have ht : ((acc.length : Int) == 0) = true := by rw [h0]; rfl
        have HC2 := Lib.hid (hc.below ((Below.refl _ _).alloc (Nat.le_refl _) (.cells #[.string ⟨#[97]⟩, .int .i64 9] 128)))
        have HG2 := Lib.hid (grownBy_alloc hg (.cells #[.string ⟨#[97]⟩, .int .i64 9] 128))
        have HO2 : Hid ((wr.alloc (.cells #[.string ⟨#[97]⟩, .int .i64 9] 128)).ownsRow (w.heap.size + 1) 128 2 (.slice (some ⟨wr.heap.size, 0, none⟩) 1 1) 1 (flat [(⟨#[97]⟩, 9)])) :=
          Lib.hid ⟨rfl, .inr ⟨wr.heap.size, 1, _, rfl, hgw, heap_new _ _, Nat.le_refl _, by unfold maxLen; omega, rfl, rfl⟩⟩
        have HZ := Lib.hid h0
        clear h0 hc hg hown hrow
        go_wp2
        go_ret
        exact ⟨⟨[(⟨#[97]⟩, 9)], _, _, rfl, by simp, by simp, fun q hq => by
          obtain rfl : q = 0 := by simp at hq; omega
          show (1 : Nat) ≤ maxLen
          unfold maxLen; omega, HO2.out⟩, HC2.out.more (by omega), HG2.out⟩
      · have ht : ((acc.length : Int) == 0) = false := by rw [beq_eq_false_iff_ne]; omega
        have HO2 := Lib.hid hown
        have HC2 := Lib.hid hc
        have HG2 := Lib.hid hg
        clear hc hg hown hrow
        go_wp2
        go_ret
        exact ⟨⟨acc, B, d, rfl, by omega, by omega, hco, HO2.out⟩, HC2.out.more (by omega), HG2.out⟩
end Go.Proofs.Ytllafkeheppkjaa

/-
  The draws of any font: spec.l1Cur.among, spec.l1Cur.anyFont. (For FnFonts.)
-/
namespace Go.Proofs.Ytllafkeheppkjaa
open Go.RowKit
set_option linter.unusedVariables false

theorem row_ints (w : World) (l : List Int) : IntsIn (w.alloc (.cells (intsZ l).toArray 3)) (some ⟨w.heap.size, 0, none⟩) l := fun hn =>
  ⟨w.heap.size, 0, rfl, by simp, fun k hk => by
    rw [cell_of_heap (heap_new _ _)]
    simp [intsZ, hk]⟩
set_option maxRecDepth 100000 in
theorem among_any (l : List Int) (g c' : Nat) (b c M : Nat) (A : Option Addr) (xs : List UInt8) (w : World) (hc : CurLe w b A c M xs) (hat : M ≤ 1000000) (hxs : xs.length ≤ maxLen) (hl : IntsIn w (some ⟨g, 0, none⟩) l) (hne : g ≠ b) (h1 : 1 ≤ l.length) (h2 : l.length ≤ 200) :
    Calls Try.prog 80 #[.pointer (some ⟨b, 0, none⟩), .slice (some ⟨g, 0, none⟩) l.length c'] w fun e w' => (∃ s, s ∈ l ∧ e = .returned (.int .i64 s)) ∧ CurLe w' b A c (M + 1) xs ∧ w.grownBy w' (some b) := by
  have HC := Lib.hid hc; clear hc
  have HL := Lib.hid hl; clear hl
  go_enter Try.func80, Try.ntmps80
  go_wp2_with fail
  refine (pick_any l.length b c M A xs w HC.out hat hxs h1 h2).mono ?_
  rintro e w1 ⟨⟨x, hx, rfl⟩, hc1, hg1⟩
  obtain ⟨b', off, e, hbl, hcs⟩ := HL.out (by omega)
  obtain ⟨rfl, rfl⟩ : g = b' ∧ 0 = off := by simpa using e
  have hx0 := (cell_keep hg1 hbl (fun e => hne (Option.some.inj e).symm)).trans (hcs x hx)
  rw [Nat.zero_add] at hx0
  have HC1 := Lib.hid hc1
  have HG1 := Lib.hid hg1
  have hbl1 : g < w1.heap.size := Nat.lt_of_lt_of_le hbl hg1.size
  have hx1 : (x : Int) < (l.length : Int) := by omega
  clear hc1 hg1 hcs e
  go_wp2
  go_ret
  exact ⟨⟨l[x], List.getElem_mem _, rfl⟩, HC1.out, HG1.out⟩

theorem own_set {w : World} {base size n cap g i : Nat} {e : TypeId} {xs : List Value} (h : w.ownsRow base e size (.slice (some ⟨g, 0, none⟩) n cap) n xs) (hi : i < xs.length) (u : Value) :
    (w.setCell ⟨g, i, none⟩ u).ownsRow base e size (.slice (some ⟨g, 0, none⟩) n cap) n (xs.set i u) := by
  refine ⟨by rw [List.length_set]; exact h.1, ?_⟩
  rcases h.2 with ⟨hv, _⟩ | ⟨g', cap', cur, hv, hg, hh, h1, h2, h3, h4⟩
  · cases hv
  · injection hv with e1 e2 e3
    injection e1 with e1
    injection e1 with e1
    subst e1
    refine .inr ⟨g, cap', _, by rw [e3], hg, heap_set hh u, h1, h2, by simpa using h3, ?_⟩
    rw [Array.toList_setIfInBounds, List.take_set, h4]
theorem flat_set : ∀ (f : List (ByteArray × Int)) (k : Nat) (h : k < f.length) (s : ByteArray), (flat f).set (k * 2) (.string s) = flat (f.set k (s, f[k].2))
  | x :: r, 0, _, s => rfl
  | x :: r, k + 1, h, s => by
    have ih := flat_set r k (by simpa using h) s
    have e : ∀ (y : ByteArray × Int) (q : List (ByteArray × Int)), flat (y :: q) = .string y.1 :: .int .i64 y.2 :: flat q := fun _ _ => rfl
    rw [e, show (k + 1) * 2 = k * 2 + 1 + 1 from by omega, List.set_cons_succ, List.set_cons_succ, ih]
    rfl
theorem flat_set2 : ∀ (f : List (ByteArray × Int)) (k : Nat) (h : k < f.length) (z : Int), (flat f).set (k * 2 + 1) (.int .i64 z) = flat (f.set k (f[k].1, z))
  | x :: r, 0, _, z => rfl
  | x :: r, k + 1, h, z => by
    have ih := flat_set2 r k (by simpa using h) z
    have e : ∀ (y : ByteArray × Int) (q : List (ByteArray × Int)), flat (y :: q) = .string y.1 :: .int .i64 y.2 :: flat q := fun _ _ => rfl
    rw [e, show (k + 1) * 2 + 1 = k * 2 + 1 + 1 + 1 from by omega, List.set_cons_succ, List.set_cons_succ, ih]
    rfl
theorem own_slot {w : World} {base size n cap : Nat} {e : TypeId} {B : Option Addr} {xs : List Value} (h : w.ownsRow base e size (.slice B n cap) n xs) (hn : 1 ≤ n) :
    ∃ g, B = some ⟨g, 0, none⟩ ∧ base ≤ g ∧ g < w.heap.size ∧ ∀ i, i < xs.length → (∃ u, w.cell? ⟨g, i, none⟩ = some u) ∧ w.frozen? ⟨g, i, none⟩ = false := by
  rcases h.2 with ⟨hv, h0⟩ | ⟨g, cap', cur, hv, hg, hh, h1, h2, h3, h4⟩
  · omega
  · injection hv with e1 e2 e3
    refine ⟨g, e1, hg, lt_of_heap hh, fun i hi => ⟨?_, free_of_heap hh i⟩⟩
    rw [cell_of_heap hh]
    have hxl := h.1
    have : i < cur.size := by
      rw [h3]
      have := Nat.mul_le_mul_right size h1
      omega
    exact ⟨_, Array.getElem?_eq_getElem this⟩
def codeTexts : List ByteArray := [⟨#[]⟩, ⟨#[65]⟩, ⟨#[97, 98, 99, 100]⟩, ⟨#[97]⟩, ⟨#[122, 122, 122]⟩]
theorem codeTexts_size : ∀ s ∈ codeTexts, s.size ≤ 4 := by
  intro s hs
  simp only [codeTexts, List.mem_cons, List.not_mem_nil, or_false] at hs
  rcases hs with rfl | rfl | rfl | rfl | rfl <;> decide
def setInts : List Int := [0, 1, 54, 55, -1]
theorem codesOk_set {f : List (ByteArray × Int)} {k : Nat} {x : ByteArray × Int} (h : CodesOk f) (hx : x.1.size ≤ maxLen) : CodesOk (f.set k x) := by
  intro q hq
  rw [List.getElem_set]
  split
  · exact hx
  · exact h q _

end Go.Proofs.Ytllafkeheppkjaa

/-
  The draw of a case: spec.l1Cur.boxes answers as many boxes as it is given sorts, with their codes. (For FnHandWays, FnCases.)
-/
namespace Go.Proofs.Ytllafkeheppkjaa
open Go.RowKit
set_option linter.unusedVariables false

theorem SortsIn.keep {w w' : World} {lo : Nat} {g : Nat} {f : List (ByteArray × Int)} {row : Option Nat} (h : SortsIn w lo (some ⟨g, 0, none⟩) f) (hg : w.grownBy w' row) (hne : row ≠ some g) : SortsIn w' lo (some ⟨g, 0, none⟩) f := fun hn => by
  obtain ⟨b', off, e, h1, h2, h3⟩ := h hn
  obtain ⟨rfl, rfl⟩ : g = b' ∧ 0 = off := by simpa using e
  exact ⟨g, 0, rfl, h1, Nat.lt_of_lt_of_le h2 hg.size, fun k hk => ⟨(cell_keep hg h2 hne).trans (h3 k hk).1, (cell_keep hg h2 hne).trans (h3 k hk).2⟩⟩
theorem four_new (w : World) (x y z u : Value) (t : TypeId) : ∀ j q, ([x, y, z, u] : List Value)[j]? = some q → (w.alloc (.cells #[x, y, z, u] t)).cell? ((⟨w.heap.size, 0, none⟩ : Addr).add j) = some q := by
  intro j q hq
  have e : (⟨w.heap.size, 0, none⟩ : Addr).add j = ⟨w.heap.size, 0 + j, none⟩ := by
    unfold Addr.add
    by_cases hk : j = 0 <;> simp [hk]
  rw [e, cell_of_heap (heap_new _ _), Nat.zero_add, ← hq]
  simp
theorem snoc_bx {w : World} {base : Nat} {e : TypeId} {v : Value} {acc : List Bx} {s : ByteArray} {r c n : Int} (h : w.ownsRow base e 4 v (acc.length + 1) (flatBx acc ++ [.string s, .int .i64 r, .int .i64 c, .int .i64 n])) :
    w.ownsRow base e 4 v (acc ++ [(⟨s, r, c, n⟩ : Bx)]).length (flatBx (acc ++ [(⟨s, r, c, n⟩ : Bx)])) := by
  rw [List.length_append, flatBx_snoc]; exact h
theorem BxsOk.snoc {acc : List Bx} (h : BxsOk acc) (x : Bx) (hx : x.cod.size ≤ maxLen) : BxsOk (acc ++ [x]) := by
  intro q hq
  by_cases hqa : q < acc.length
  · rw [List.getElem_append_left hqa]; exact h q hqa
  · have : q = acc.length := by simp at hq; omega
    subst this
    simp
    exact hx
def handInts : List Int := [0, 1, 2, 5, 20]

set_option maxRecDepth 100000 in
set_option maxHeartbeats 1000000 in
theorem boxes_any (f : List (ByteArray × Int)) (gf d : Nat) (b c M : Nat) (A : Option Addr) (xs : List UInt8) (w : World) (hc : CurLe w b A c M xs) (hat : M ≤ 999900) (hxs : xs.length ≤ maxLen) (hf : SortsIn w 0 (some ⟨gf, 0, none⟩) f) (hgb : gf ≠ b) (hgl0 : gf < w.heap.size) (ho : CodesOk f) (hfl : f.length ≤ 12) :
    Calls Try.prog 94 #[.pointer (some ⟨b, 0, none⟩), .slice (some ⟨gf, 0, none⟩) f.length d] w fun e w' =>
      (∃ (l : List Bx) (B : Option Addr) (d : Nat), e = .returned (.slice B l.length d) ∧ l.length = f.length ∧ BxsOk l ∧ w'.ownsRow w.heap.size 26 4 (.slice B l.length d) l.length (flatBx l)) ∧
      CurLe w' b A c (M + 25) xs ∧ w.grownBy w' (some b) := by
  have hbl := hc.lt
  have HC := Lib.hid hc; have HF := Lib.hid hf; have HO := Lib.hid ho; clear hc hf ho
  obtain ⟨i0, hi0', hz0, hz1, hz2⟩ := info_parts infoBx
  have HI0 := Lib.hid hi0'; have HZ0 := Lib.hid hz0; have HZ1 := Lib.hid hz1; have HZ2 := Lib.hid hz2
  clear hi0' hz0 hz1 hz2
  go_enter Try.func94, Try.ntmps94
  go_wp2_with fail
  refine (pick_any 20 b c M A xs w HC.out (by omega) hxs (by omega) (by omega)).mono ?_
  rintro e w1 ⟨⟨z, hz, rfl⟩, hc1, hg1⟩
  have HC1 := Lib.hid hc1; have HG1 := Lib.hid hg1
  have HF1 := Lib.hid (HF.out.keep hg1 (fun e => hgb (Option.some.inj e).symm))
  have hz1 : (z : Int) < 20 := by omega
  clear hc1 hg1 HC HF
  go_wp2
  go_loopw [5, 6, 13] (fun v a i wr => ∃ (z : Nat) (acc : List Bx), acc.length ≤ f.length ∧ i = .int .i64 (acc.length : Int) ∧ a = .int .i64 (z : Int) ∧ z ≤ 20 + 2 * acc.length ∧ BxsOk acc ∧ wr.ownsRow w.heap.size 26 4 v acc.length (flatBx acc) ∧ SortsIn wr 0 (some ⟨gf, 0, none⟩) f ∧ CurLe wr b A c (M + 1 + 2 * acc.length) xs ∧ w.grownBy wr (some b)) (fun _ _ i _ => f.length - (intOf i).toNat)
  case atStart => exact ⟨z, [], Nat.zero_le _, rfl, rfl, by simp; omega, fun k h => absurd h (by simp), own_nil _ _ _ _, HF1.out, HC1.out, HG1.out⟩
  case round =>
    clear HC1 HG1 HF1 hz hz1
    obtain ⟨y, acc, hal, rfl, rfl, hy, hao, hown, hsf, hc, hg⟩ := hrel
    by_cases hlt : acc.length < f.length
    · obtain ⟨g', off, e, _, hgl, hcs⟩ := hsf (by omega)
      obtain ⟨rfl, rfl⟩ : gf = g' ∧ 0 = off := by simpa using e
      obtain ⟨x0, x1⟩ := hcs acc.length hlt
      rw [Nat.zero_add] at x0 x1
      have ht := HO.out acc.length hlt
      generalize (f[acc.length]'hlt).1 = t at *
      generalize (f[acc.length]'hlt).2 = u at *
      clear hcs e
      have hlt1 : (acc.length : Int) < (f.length : Int) := by omega
      have hwr : w.heap.size ≤ wr.heap.size := hg.size
      obtain ⟨n, hn⟩ : ∃ n, n = acc.length := ⟨_, rfl⟩
      have HAO := Lib.hid hao; have HOW := Lib.hid hown; have HSF := Lib.hid hsf; have HCC := Lib.hid hc; have HGG := Lib.hid hg; have HT := Lib.hid ht
      obtain ⟨w2, hw2⟩ : ∃ w2, w2 = wr.alloc (.cells #[.string t, .int .i64 u] 128) := ⟨_, rfl⟩
      have hb2 : Below wr.heap.size wr w2 := by rw [hw2]; exact (Below.refl _ _).alloc (Nat.le_refl _) _
      have hp0 : w2.cell? ⟨wr.heap.size, 0, none⟩ = some (.string t) := by rw [hw2, cell_of_heap (heap_new _ _)]; rfl
      have hsz2 : wr.heap.size < w2.heap.size := by rw [hw2]; simp
      have hbd : Below w2.heap.size w2 (w2.drew.alloc (.cells (intsZ handInts).toArray 3)) := ((Below.refl _ _).drew).alloc (Nat.le_refl _) _
      have hb3 := hb2.trans (hbd.mono hb2.size)
      have HC3 := Lib.hid (HCC.out.below hb3)
      have HROW := Lib.hid (row_ints w2.drew handInts)
      have HO3 := Lib.hid (own_below HOW.out hb3)
      have HG3 := Lib.hid (grown_below HGG.out hb3)
      have HS3 := Lib.hid (HSF.out.below hb3 (Nat.le_refl _))
      have hbdsz := hbd.size
      have hq0 := (hbd.cell (p := ⟨wr.heap.size, 0, none⟩) hsz2).trans hp0
      have HQ0 := Lib.hid hq0
      have hbwr : b < wr.heap.size := hc.lt
      have HW2 := Lib.hid hw2
      have hmx : acc.length + 1 ≤ maxLen := by unfold maxLen; omega
      have hrw := own_lt hown
      have HRW := Lib.hid hrw
      clear hao hown hsf hc hg ht hb2 hbd hb3 hw2 hrw hq0 hn
      go_wp2_with fail
      rw [← HW2.out]
      have hy60 : y ≤ 60 := by omega
      have hd1 : (y : Int).tdiv 10 = ((y / 10 : Nat) : Int) := by rw [Int.tdiv_eq_ediv_of_nonneg (by omega)]; omega
      have hd2 : IntKind.i64.wrap ((y / 10 : Nat) : Int) = ((y / 10 : Nat) : Int) := IntWalk.i64_in _ (by omega)
      have hd3 : ((y / 10 : Nat) : Int).tmod 10 = ((y / 10 % 10 : Nat) : Int) := by rw [Int.tmod_eq_emod_of_nonneg (by omega)]; omega
      have hd4 : (y : Int).tmod 10 = ((y % 10 : Nat) : Int) := by rw [Int.tmod_eq_emod_of_nonneg (by omega)]; omega
      have tok1 : True := trivial
      have HSZ3 := Lib.hid hbdsz
      have HY := Lib.hid hy60; have HYY := Lib.hid hy
      clear hy60 hlt1 hal hy x0 x1 hbdsz
      go_cut [5] (fun s5 wx => ∃ (r q m : Int), wx.ownsRow w.heap.size 26 4 s5 (acc.length + 1) (flatBx acc ++ [.string t, .int .i64 r, .int .i64 q, .int .i64 m]) ∧ SortsIn wx 0 (some ⟨gf, 0, none⟩) f ∧ CurLe wx b A c (M + 1 + 2 * acc.length + 1) xs ∧ w.grownBy wx (some b))
      case first =>
        go_region_law (first
          | (have _t := tok1; go_simp; go_at_call 80; refine (among_any handInts _ _ b c _ A xs _ HC3.out (by omega) hxs HROW.out (by simp; omega) (by decide) (by decide)).mono ?_; rintro e w3 ⟨⟨s, hs, rfl⟩, hc3, hg3⟩; clear tok1
             have hq3 := (cell_keep hg3 (Nat.lt_of_lt_of_le hsz2 HSZ3.out) (fun e => by have := Option.some.inj e; omega)).trans HQ0.out
             have hsz3 := hg3.size
             have HO4 := Lib.hid (own_grown HO3.out hg3 (fun k hk e => by have := HRW.out k hk; have := Option.some.inj e; omega))
             have HS4 := Lib.hid (HS3.out.keep hg3 (fun e => hgb (Option.some.inj e).symm))
             have HG4 := Lib.hid (grownBy_trans HG3.out hg3)
             have HC4 := Lib.hid hc3
             clear hc3 hg3)
          | (refine step_own _ (by rfl) _ _ _ (by rfl) w.heap.size 26 i0 (.agg #[.string .empty, .int .i64 0, .int .i64 0, .int .i64 0]) 4 40 Try.underlying32 HI0.out HZ0.out HZ1.out HZ2.out rfl (by decide) _ acc.length (flatBx acc) (by rfl) (HO4.out.alloc _) ⟨w3.heap.size, 0, none⟩ 1 1 [.string t, .int .i64 _, .int .i64 _, .int .i64 s] (by rfl) rfl (four_new w3 _ _ _ _ _) (by simp [Value.oneCell']) hmx (by omega) (by have := HG4.out.size; simp; omega) ?_
             intro v' w4 hown' hgrow))
        all_goals
          go_wp2_with fail
          go_meet
          exact ⟨_, _, _, hown', (SortsIn.below HS4.out ((Below.refl _ _).alloc (Nat.le_refl _) _) (Nat.le_refl _)).keep hgrow (fun e => by have := HRW.out _ e; omega), (HC4.out.below ((Below.refl _ _).alloc (Nat.le_refl _) _)).own hgrow (fun k hk => by have := HRW.out k hk; omega), grownBy_own (grownBy_alloc HG4.out _) hgrow (fun k hk => HRW.out k hk)⟩
      case rest =>
        obtain ⟨r, q, m, hown, hsf, hc, hg⟩ := hcut
        have HO5 := Lib.hid (snoc_bx hown)
        have HS5 := Lib.hid hsf; have HG5 := Lib.hid hg; have HC5 := Lib.hid hc
        have HAO5 := Lib.hid (HAO.out.snoc ⟨t, r, q, m⟩ HT.out)
        clear hown hsf hg hc HC3 HROW HO3 HG3 HS3 HQ0 HOW HSF HCC HGG
        go_wp2_with fail
        refine (pick_any 2 b c (M + 1 + 2 * acc.length + 1) A xs _ HC5.out (by omega) hxs (by omega) (by omega)).mono ?_
        rintro e w6 ⟨⟨x, hx, rfl⟩, hc6, hg6⟩
        have HO6 := Lib.hid (own_grown HO5.out hg6 (fun k hk e => by have := own_lt HO5.out k hk; have := Option.some.inj e; omega))
        have HS6 := Lib.hid (HS5.out.keep hg6 (fun e => hgb (Option.some.inj e).symm))
        have HG6 := Lib.hid (grownBy_trans HG5.out hg6)
        have HC6 := Lib.hid hc6
        have hx1 : (x : Int) < 2 := by omega
        clear hc6 hg6 hd1 hd2 hd3 hd4
        have hy2 : y ≤ 60 := HY.out
        go_wp2
        go_roundw
        case rel => exact ⟨y + (1 + x), acc ++ [(⟨t, r, q, m⟩ : Bx)], by simp; omega, by simp, by simp, by have := HYY.out; simp; omega, HAO5.out, HO6.out, HS6.out, HC6.out.more (by simp; omega), HG6.out⟩
        case measure => simp [intOf]; omega
    · obtain ⟨B', d', rfl⟩ := own_form_bx hown
      have hlt1 : ¬ (acc.length : Int) < (f.length : Int) := by omega
      go_wp2
      go_ret
      exact ⟨⟨acc, B', d', rfl, by omega, hao, hown⟩, hc.more (by omega), hg⟩
end Go.Proofs.Ytllafkeheppkjaa

/-
  The draws of any case: spec.l1Cur.anyCase. (For FnHandWays, FnCases.)
-/
namespace Go.Proofs.Ytllafkeheppkjaa
open Go.RowKit
set_option linter.unusedVariables false

theorem flatBx_cod : ∀ (l : List Bx) (k : Nat) (h : k < l.length) (z : ByteArray), (flatBx l).set (k * 4) (.string z) = flatBx (l.set k { l[k] with cod := z })
  | x :: r, 0, _, z => rfl
  | x :: r, k + 1, h, z => by
    have ih := flatBx_cod r k (by simpa using h) z
    have e : ∀ y : Bx, ∀ q : List Bx, flatBx (y :: q) = .string y.cod :: .int .i64 y.row :: .int .i64 y.col :: .int .i64 y.cnt :: flatBx q := fun _ _ => rfl
    rw [e, show (k + 1) * 4 = k * 4 + 1 + 1 + 1 + 1 from by omega]
    simp only [List.set_cons_succ, ih, List.getElem_cons_succ, e]
theorem BxsOk.set {l : List Bx} (h : BxsOk l) (k : Nat) (x : Bx) (hx : x.cod.size ≤ maxLen) : BxsOk (l.set k x) := by
  intro q hq
  rw [List.getElem_set]
  split
  · exact hx
  · exact h q _
theorem own_zero {w : World} {base size n : Nat} {e : TypeId} {B : Option Addr} {d : Nat} {xs : List Value} (h : w.ownsRow base e size (.slice B n d) n xs) : w.ownsRow base e size (.slice B 0 d) 0 [] := by
  refine ⟨by simp, ?_⟩
  rcases h.2 with ⟨hv, h0⟩ | ⟨g, cap, cur, hv, hg, hh, h1, h2, h3, h4⟩
  · injection hv with e1 e2 e3
    subst e1; subst e3
    exact .inl ⟨rfl, rfl⟩
  · injection hv with e1 e2 e3
    exact .inr ⟨g, cap, cur, by rw [e1, e3], hg, hh, Nat.zero_le _, h2, h3, by simp⟩
theorem own_cap {w : World} {base size n d : Nat} {e : TypeId} {B : Option Addr} {xs : List Value} (h : w.ownsRow base e size (.slice B n d) n xs) : n ≤ d := by
  rcases h.2 with ⟨hv, h0⟩ | ⟨g, cap, cur, hv, hg, hh, h1, h2, h3, h4⟩
  · omega
  · injection hv with e1 e2 e3
    omega
def rowInts : List Int := [10, -1, 9]
def cntInts : List Int := [9999, 10000, -1]
def caseTexts : List ByteArray := [⟨#[]⟩, ⟨#[97]⟩, ⟨#[122, 122]⟩]
theorem caseTexts_size : ∀ s ∈ caseTexts, s.size ≤ 4 := by
  intro s hs
  simp only [caseTexts, List.mem_cons, List.not_mem_nil, or_false] at hs
  rcases hs with rfl | rfl | rfl <;> decide

set_option maxRecDepth 100000 in
set_option maxHeartbeats 1000000 in
theorem anyCase_any (b c M : Nat) (A : Option Addr) (xs : List UInt8) (w : World) (hc : CurLe w b A c M xs) (hat : M ≤ 999800) (hxs : xs.length ≤ maxLen) :
    Calls Try.prog 79 #[.pointer (some ⟨b, 0, none⟩)] w fun e w' =>
      (∃ (l : List Bx) (B : Option Addr) (d : Nat), e = .returned (.slice B l.length d) ∧ l.length ≤ 33 ∧ BxsOk l ∧ w'.ownsRow (w.heap.size + 1) 26 4 (.slice B l.length d) l.length (flatBx l)) ∧
      CurLe w' b A c (M + 60) xs ∧ w.grownBy w' (some b) := by
  have hbl := hc.lt
  have HC := Lib.hid hc; clear hc
  go_enter Try.func79, Try.ntmps79
  go_wp2_with fail
  refine (font_any b c M A xs w HC.out (by omega) hxs).mono ?_
  rintro e w1 ⟨⟨f, B, d, rfl, hf1, hf2, hco, hown⟩, hc1, hg1⟩
  obtain ⟨g, rfl, hgb, hgz, _⟩ := own_slot hown hf1
  have HC1 := Lib.hid hc1; have HG1 := Lib.hid hg1; have HSF := Lib.hid (own_in_f hown); have HCO := Lib.hid hco
  have hw1 := hg1.size
  clear hc1 hg1 hown HC hco
  go_wp2_with fail
  refine (boxes_any f g d b c (M + 24) A xs w1 HC1.out (by omega) hxs HSF.out (by omega) (by omega) HCO.out hf2).mono ?_
  rintro e w2 ⟨⟨l, B2, d2, rfl, hlf, hlo, hown⟩, hc2, hg2⟩
  have HC2 := Lib.hid hc2; have HG2 := Lib.hid (grownBy_trans HG1.out hg2)
  have HO2 := Lib.hid (Joins.ownsRow_le hown (show w.heap.size + 1 ≤ w1.heap.size by omega))
  have hl1 : 1 ≤ l.length := by omega
  have hl2 : l.length ≤ 12 := by omega
  have HLO := Lib.hid hlo; have hw2 := hg2.size
  clear hc2 hg2 hown HC1 HG1 HSF HCO hlf hlo
  go_wp2_with fail
  refine (pick_any l.length b c (M + 24 + 25) A xs w2 HC2.out (by omega) hxs hl1 (by omega)).mono ?_
  rintro e w3 ⟨⟨k, hk, rfl⟩, hc3, hg3⟩
  have HC3 := Lib.hid hc3; have HG3 := Lib.hid (grownBy_trans HG2.out hg3)
  have HO3 := Lib.hid (own_grown HO2.out hg3 (fun k hk e => by have := own_lt HO2.out k hk; have := Option.some.inj e; omega))
  have hw3 := hg3.size
  clear hc3 hg3 HC2 HG2 HO2
  go_wp2_with fail
  refine (pick_any 30 b c (M + 24 + 25 + 1) A xs w3 HC3.out (by omega) hxs (by omega) (by omega)).mono ?_
  rintro e w4 ⟨⟨x, hx, rfl⟩, hc4, hg4⟩
  have HC4 := Lib.hid hc4; have HG4 := Lib.hid (grownBy_trans HG3.out hg4)
  have HO4 := Lib.hid (own_grown HO3.out hg4 (fun k hk e => by have := own_lt HO3.out k hk; have := Option.some.inj e; omega))
  have hw4 := hg4.size
  clear hc4 hg4 HC3 HG3 HO3
  have hk1 : (k : Int) < (l.length : Int) := by omega
  have hwz : w.heap.size + 1 ≤ w4.heap.size := by omega
  have hbl4 : b < w4.heap.size := by omega
  clear hw1 hw2 hw3 hw4
  rcases (by omega : x = 0 ∨ x = 1 ∨ x = 2 ∨ x = 3 ∨ x = 4 ∨ 5 ≤ x) with rfl | rfl | rfl | rfl | rfl | h5
  · have HC5 := Lib.hid (HC4.out.below ((Below.refl _ _).alloc (Nat.le_refl _) (.cells (intsZ rowInts).toArray 3)))
    have HG5 := Lib.hid (grownBy_alloc HG4.out (.cells (intsZ rowInts).toArray 3))
    have HO5 := Lib.hid (own_below HO4.out ((Below.refl _ _).alloc (Nat.le_refl _) (.cells (intsZ rowInts).toArray 3)))
    have HROW := Lib.hid (row_ints w4 rowInts)
    go_wp2_with fail
    refine (among_any rowInts w4.heap.size _ b c (M + 24 + 25 + 1 + 1) A xs _ HC5.out (by omega) hxs HROW.out (by omega) (by decide) (by decide)).mono ?_
    rintro e w5 ⟨⟨t, ht, rfl⟩, hc5, hg5⟩
    have hown5 := own_grown HO5.out hg5 (fun k hk e => by have := own_lt HO5.out k hk; have := Option.some.inj e; omega)
    have HG6 := Lib.hid (grownBy_trans HG5.out hg5)
    obtain ⟨g, rfl, hgb, hgz, hslot⟩ := own_slot hown5 hl1
    obtain ⟨⟨u, hu⟩, hfz⟩ := hslot (k * 4 + 1) (by rw [flatBx_len]; omega)
    have hset := own_set hown5 (i := k * 4 + 1) (by rw [flatBx_len]; omega) (.int .i64 t)
    rw [flatBx_row l k hk] at hset
    have HO6 : Hid ((w5.setCell ⟨g, k * 4 + 1, none⟩ (.int .i64 t)).ownsRow (w.heap.size + 1) 26 4 (.slice (some ⟨g, 0, none⟩) (l.set k { l[k] with row := t }).length d2) (l.set k { l[k] with row := t }).length (flatBx (l.set k { l[k] with row := t }))) := by
      rw [List.length_set]; exact hset
    have hgr : w5.grownBy (w5.setCell ⟨g, k * 4 + 1, none⟩ (.int .i64 t)) (some g) := grown_set (World.grownBy.refl _ _) _ _
    have HC6 := Lib.hid (hc5.own hgr (fun k hk => by have := Option.some.inj hk; omega))
    have HG7 := Lib.hid (grownBy_own HG6.out hgr (fun k hk => by have := Option.some.inj hk; omega))
    have HLS : Hid (BxsOk (l.set k { l[k] with row := t })) := HLO.out.set _ _ (by exact HLO.out k hk)
    clear hset hgr hc5 hg5 hown5 hslot HLO
    go_wp2
    go_ret
    exact ⟨⟨l.set k { l[k] with row := t }, _, d2, by rw [List.length_set]; rfl, by rw [List.length_set]; omega, HLS.out, HO6.out⟩, HC6.out.more (by omega), HG7.out⟩
  · have HC5 := Lib.hid (HC4.out.below ((Below.refl _ _).alloc (Nat.le_refl _) (.cells (intsZ cntInts).toArray 3)))
    have HG5 := Lib.hid (grownBy_alloc HG4.out (.cells (intsZ cntInts).toArray 3))
    have HO5 := Lib.hid (own_below HO4.out ((Below.refl _ _).alloc (Nat.le_refl _) (.cells (intsZ cntInts).toArray 3)))
    have HROW := Lib.hid (row_ints w4 cntInts)
    go_wp2_with fail
    refine (among_any cntInts w4.heap.size _ b c (M + 24 + 25 + 1 + 1) A xs _ HC5.out (by omega) hxs HROW.out (by omega) (by decide) (by decide)).mono ?_
    rintro e w5 ⟨⟨t, ht, rfl⟩, hc5, hg5⟩
    have hown5 := own_grown HO5.out hg5 (fun k hk e => by have := own_lt HO5.out k hk; have := Option.some.inj e; omega)
    have HG6 := Lib.hid (grownBy_trans HG5.out hg5)
    obtain ⟨g, rfl, hgb, hgz, hslot⟩ := own_slot hown5 hl1
    obtain ⟨⟨u, hu⟩, hfz⟩ := hslot (k * 4 + 3) (by rw [flatBx_len]; omega)
    have hset := own_set hown5 (i := k * 4 + 3) (by rw [flatBx_len]; omega) (.int .i64 t)
    rw [flatBx_cnt l k hk] at hset
    have HO6 : Hid ((w5.setCell ⟨g, k * 4 + 3, none⟩ (.int .i64 t)).ownsRow (w.heap.size + 1) 26 4 (.slice (some ⟨g, 0, none⟩) (l.set k { l[k] with cnt := t }).length d2) (l.set k { l[k] with cnt := t }).length (flatBx (l.set k { l[k] with cnt := t }))) := by
      rw [List.length_set]; exact hset
    have hgr : w5.grownBy (w5.setCell ⟨g, k * 4 + 3, none⟩ (.int .i64 t)) (some g) := grown_set (World.grownBy.refl _ _) _ _
    have HC6 := Lib.hid (hc5.own hgr (fun k hk => by have := Option.some.inj hk; omega))
    have HG7 := Lib.hid (grownBy_own HG6.out hgr (fun k hk => by have := Option.some.inj hk; omega))
    have HLS : Hid (BxsOk (l.set k { l[k] with cnt := t })) := HLO.out.set _ _ (by exact HLO.out k hk)
    clear hset hgr hc5 hg5 hown5 hslot HLO
    go_wp2
    go_ret
    exact ⟨⟨l.set k { l[k] with cnt := t }, _, d2, by rw [List.length_set]; rfl, by rw [List.length_set]; omega, HLS.out, HO6.out⟩, HC6.out.more (by omega), HG7.out⟩
  · have HC5 := Lib.hid (HC4.out.below ((Below.refl _ _).alloc (Nat.le_refl _) (.cells (strs caseTexts).toArray 9)))
    have HG5 := Lib.hid (grownBy_alloc HG4.out (.cells (strs caseTexts).toArray 9))
    have HO5 := Lib.hid (own_below HO4.out ((Below.refl _ _).alloc (Nat.le_refl _) (.cells (strs caseTexts).toArray 9)))
    have HROW := Lib.hid (row_strs w4 caseTexts)
    go_wp2_with fail
    refine (of_any caseTexts w4.heap.size _ b c (M + 24 + 25 + 1 + 1) A xs _ HC5.out (by omega) hxs HROW.out (by omega) (by decide) (by decide)).mono ?_
    rintro e w5 ⟨⟨t, ht, rfl⟩, hc5, hg5⟩
    have hown5 := own_grown HO5.out hg5 (fun k hk e => by have := own_lt HO5.out k hk; have := Option.some.inj e; omega)
    have HG6 := Lib.hid (grownBy_trans HG5.out hg5)
    obtain ⟨g, rfl, hgb, hgz, hslot⟩ := own_slot hown5 hl1
    obtain ⟨⟨u, hu⟩, hfz⟩ := hslot (k * 4) (by rw [flatBx_len]; omega)
    have hset := own_set hown5 (i := k * 4) (by rw [flatBx_len]; omega) (.string t)
    rw [flatBx_cod l k hk] at hset
    have HO6 : Hid ((w5.setCell ⟨g, k * 4, none⟩ (.string t)).ownsRow (w.heap.size + 1) 26 4 (.slice (some ⟨g, 0, none⟩) (l.set k { l[k] with cod := t }).length d2) (l.set k { l[k] with cod := t }).length (flatBx (l.set k { l[k] with cod := t }))) := by
      rw [List.length_set]; exact hset
    have hgr : w5.grownBy (w5.setCell ⟨g, k * 4, none⟩ (.string t)) (some g) := grown_set (World.grownBy.refl _ _) _ _
    have HC6 := Lib.hid (hc5.own hgr (fun k hk => by have := Option.some.inj hk; omega))
    have HG7 := Lib.hid (grownBy_own HG6.out hgr (fun k hk => by have := Option.some.inj hk; omega))
    have HLS : Hid (BxsOk (l.set k { l[k] with cod := t })) := HLO.out.set _ _ (by have := caseTexts_size t ht; show t.size ≤ _; unfold maxLen; omega)
    clear hset hgr hc5 hg5 hown5 hslot HLO
    go_wp2
    go_ret
    exact ⟨⟨l.set k { l[k] with cod := t }, _, d2, by rw [List.length_set]; rfl, by rw [List.length_set]; omega, HLS.out, HO6.out⟩, HC6.out.more (by omega), HG7.out⟩
  · obtain ⟨g, rfl, hgb, hgz, _⟩ := own_slot HO4.out hl1
    have hcap := own_cap HO4.out
    have HO5 := Lib.hid (own_zero HO4.out)
    clear HO4
    go_wp2
    go_ret
    exact ⟨⟨[], _, d2, rfl, by simp, fun q hq => absurd hq (by simp), HO5.out⟩, HC4.out.more (by omega), HG4.out⟩
  · go_wp2_with fail
    refine (pick_any 2 b c (M + 24 + 25 + 1 + 1) A xs w4 HC4.out (by omega) hxs (by omega) (by omega)).mono ?_
    rintro e w5 ⟨⟨y, hy, rfl⟩, hc5, hg5⟩
    have HC5 := Lib.hid hc5
    have HG5 := Lib.hid (grownBy_trans HG4.out hg5)
    have hsz5 : w.heap.size + 1 ≤ w5.heap.size := Nat.le_trans hwz hg5.size
    have hy1 : (y : Int) < 2 := by omega
    clear hc5 hg5 HC4 HG4 HO4 HLO hk1 hk
    obtain ⟨i0, hi0', hz0, hz1, hz2⟩ := info_parts infoBx
    have HI0 := Lib.hid hi0'; have HZ0 := Lib.hid hz0; have HZ1 := Lib.hid hz1; have HZ2 := Lib.hid hz2
    clear hi0' hz0 hz1 hz2
    go_wp2
    go_loopw [3] (fun v wr => ∃ (acc : List Bx), acc.length ≤ 33 ∧ BxsOk acc ∧ wr.ownsRow (w.heap.size + 1) 26 4 v acc.length (flatBx acc) ∧ CurLe wr b A c (M + 24 + 25 + 1 + 1 + 1) xs ∧ w.grownBy wr (some b) ∧ w.heap.size + 1 ≤ wr.heap.size) (fun v _ => match v with | .slice _ n _ => 40 - n | _ => 0)
    case atStart => exact ⟨[], by simp, fun q hq => absurd hq (by simp), own_nil _ _ _ _, HC5.out, HG5.out, hsz5⟩
    case round =>
      clear HC5 HG5 hsz5
      obtain ⟨acc, hal, hca, hown, hc, hg, hsz⟩ := hrel
      obtain ⟨B', d', rfl⟩ := own_form_bx hown
      by_cases hlt : (acc.length : Int) < 32 + (y : Int)
      · have hq0 : 0 ≤ (acc.length : Int) / 6 := by omega
        have hq1 : (acc.length : Int) / 6 ≤ 6 := by omega
        have hr0 : 0 ≤ (acc.length : Int) % 6 := by omega
        have hr1 : (acc.length : Int) % 6 ≤ 5 := by omega
        obtain ⟨x0, hx0⟩ : ∃ x0 : UInt8, (x0.toNat : Int) = 97 + (acc.length : Int) / 6 := ⟨UInt8.ofNat (97 + acc.length / 6), by simp; omega⟩
        obtain ⟨x1, hx1⟩ : ∃ x1 : UInt8, (x1.toNat : Int) = 97 + (acc.length : Int) % 6 := ⟨UInt8.ofNat (97 + acc.length % 6), by simp; omega⟩
        have HX0 := Lib.hid hx0; have HX1 := Lib.hid hx1
        clear hx0 hx1
        have hcv : ∀ W : World, W = wr.alloc (.cells #[.int .u8 (97 + (acc.length : Int) / 6), .int .u8 (97 + (acc.length : Int) % 6)] 5) → (convert 55 9 (.slice (some ⟨wr.heap.size, 0, none⟩) 2 2)).run Try.prog W = .ok (.string ⟨([x0, x1] : List UInt8).toArray⟩) W := fun W hW => by
          subst hW
          refine run_convert_bytes_back (P := Try.prog) _ 55 9 5 ⟨wr.heap.size, 0, none⟩ 2 [x0, x1] Try.underlying55 Try.underlying5 Try.underlying9 (fun i hi => ?_)
          refine two_new wr _ _ _ i _ ?_
          match i, hi with
          | 0, _ => rw [← HX0.out]; rfl
          | 1, _ => rw [← HX1.out]; rfl
        have hcv := hcv _ rfl
        have hmx : acc.length + 1 ≤ maxLen := by unfold maxLen; omega
        go_wp2_with (at_builtin; refine wpList_append_own _ rfl _ _ 32 rfl (w.heap.size + 1) 26 i0 (.agg #[.string .empty, .int .i64 0, .int .i64 0, .int .i64 0]) 4 40 Try.underlying32 HI0.out HZ0.out HZ1.out HZ2.out rfl (by decide) _ _ _ rfl ((hown.alloc _).alloc _) ⟨wr.heap.size + 1, 0, none⟩ 1 1 [.string ⟨([x0, x1] : List UInt8).toArray⟩, .int .i64 ((acc.length : Int) / 10), .int .i64 ((acc.length : Int) % 10), .int .i64 1] rfl rfl (by have h := four_new (wr.alloc (.cells #[.int .u8 (97 + (acc.length : Int) / 6), .int .u8 (97 + (acc.length : Int) % 6)] 5)) (.string ⟨([x0, x1] : List UInt8).toArray⟩) (.int .i64 ((acc.length : Int) / 10)) (.int .i64 ((acc.length : Int) % 10)) (.int .i64 1) 26; rw [show (wr.alloc (.cells #[.int .u8 (97 + (acc.length : Int) / 6), .int .u8 (97 + (acc.length : Int) % 6)] 5)).heap.size = wr.heap.size + 1 from by simp] at h; exact h) (by simp [Value.oneCell']) hmx (by omega) (by simp; omega) ?_)
        intro v' w6 hown' hgrow _
        have hrw := own_lt hown
        have hb1 : Below wr.heap.size wr ((wr.alloc (.cells #[.int .u8 (97 + (acc.length : Int) / 6), .int .u8 (97 + (acc.length : Int) % 6)] 5)).alloc (.cells #[.string ⟨([x0, x1] : List UInt8).toArray⟩, .int .i64 ((acc.length : Int) / 10), .int .i64 ((acc.length : Int) % 10), .int .i64 1] 26)) :=
          ((Below.refl _ _).alloc (Nat.le_refl _) _).alloc (by simp) _
        have HC6 := Lib.hid ((hc.below hb1).own hgrow (fun k hk => by have := hrw k hk; omega))
        have HG6 := Lib.hid (grownBy_own (grown_below hg hb1) hgrow (fun k hk => by have := hrw k hk; omega))
        have HO6 := Lib.hid (snoc_bx hown')
        have HLS := Lib.hid (hca.snoc ⟨⟨([x0, x1] : List UInt8).toArray⟩, (acc.length : Int) / 10, (acc.length : Int) % 10, 1⟩ (by show (2 : Nat) ≤ maxLen; unfold maxLen; omega))
        have HSZ : Hid (w.heap.size + 1 ≤ w6.heap.size) := Nat.le_trans hsz (Nat.le_trans hb1.size hgrow.size)
        obtain ⟨B6, d6, rfl⟩ := own_form_bx HO6.out
        clear hown' hgrow hown hc hg hcv hb1
        go_wp2
        go_roundw
        case rel => exact ⟨_, by simp; omega, HLS.out, HO6.out, HC6.out, HG6.out, HSZ.out⟩
        case measure => show 40 - (acc ++ [_]).length < 40 - acc.length; simp; omega
      · go_wp2
        go_ret
        exact ⟨⟨acc, B', d', rfl, by omega, hca, hown⟩, hc.more (by omega), hg⟩
  · have e0 : ((x : Int) == 0) = false := by rw [beq_eq_false_iff_ne]; omega
    have e1 : ((x : Int) == 1) = false := by rw [beq_eq_false_iff_ne]; omega
    have e2 : ((x : Int) == 2) = false := by rw [beq_eq_false_iff_ne]; omega
    have e3 : ((x : Int) == 3) = false := by rw [beq_eq_false_iff_ne]; omega
    have e4 : ((x : Int) == 4) = false := by rw [beq_eq_false_iff_ne]; omega
    go_wp2
    go_ret
    exact ⟨⟨l, B2, d2, rfl, by omega, HLO.out, HO4.out⟩, HC4.out.more (by omega), HG4.out⟩
end Go.Proofs.Ytllafkeheppkjaa

/-
  The draw of codes: spec.l1Cur.codesOf. (For FnHandWays, FnCases.)
-/
namespace Go.Proofs.Ytllafkeheppkjaa
open Go.RowKit
set_option linter.unusedVariables false

def dLen : Value → Nat | .slice _ n _ => n | _ => 0
def ShortD (l : List ByteArray) : Prop := ∀ s ∈ l, s.size ≤ maxLen
theorem ShortD.snoc {l : List ByteArray} {s : ByteArray} (h : ShortD l) (hs : s.size ≤ maxLen) : ShortD (l ++ [s]) := fun x hx => by
  rcases List.mem_append.1 hx with h1 | h1
  · exact h x h1
  · simp at h1; subst h1; exact hs
theorem ShortD.ok {l : List ByteArray} (h : ShortD l) : StrsOk l := fun k hk => by
  exact h _ (List.getElem_mem hk)
def askTexts : List ByteArray := [⟨#[122, 122, 122]⟩, ⟨#[]⟩, ⟨#[97]⟩]
theorem askTexts_size : ∀ s ∈ askTexts, s.size ≤ 4 := by
  intro s hs
  simp only [askTexts, List.mem_cons, List.not_mem_nil, or_false] at hs
  rcases hs with rfl | rfl | rfl <;> decide
theorem BxsIn.keep {w w' : World} {A : Option Addr} {f : List Bx} {row : Option Nat} (h : BxsIn w A f) (hg : w.grownBy w' row) (hne : ∀ g off, A = some ⟨g, off, none⟩ → row ≠ some g) : BxsIn w' A f := fun hn => by
  obtain ⟨b', off, rfl, h2, h3⟩ := h hn
  have hne := hne _ _ rfl
  refine ⟨b', off, rfl, Nat.lt_of_lt_of_le h2 hg.size, fun k hk => ?_⟩
  rw [cell_keep hg h2 hne, cell_keep hg h2 hne, cell_keep hg h2 hne, cell_keep hg h2 hne]
  exact h3 k hk

set_option maxRecDepth 100000 in
set_option maxHeartbeats 1000000 in
theorem codesOf_any (l : List Bx) (E : Option Addr) (dE : Nat) (b c M : Nat) (A : Option Addr) (xs : List UInt8) (w : World) (hc : CurLe w b A c M xs) (hat : M ≤ 999700) (hxs : xs.length ≤ maxLen) (hf : BxsIn w E l) (hne : ∀ g off, E = some ⟨g, off, none⟩ → some b ≠ some g) (ho : BxsOk l) (hl : l.length ≤ 33) :
    Calls Try.prog 93 #[.pointer (some ⟨b, 0, none⟩), .slice E l.length dE] w fun e w' =>
      (∃ (cs : List ByteArray) (B : Option Addr) (d : Nat), e = .returned (.slice B cs.length d) ∧ cs.length ≤ 61 ∧ ShortD cs ∧ w'.ownsRow w.heap.size 9 1 (.slice B cs.length d) cs.length (strs cs)) ∧
      CurLe w' b A c (M + 130) xs ∧ w.grownBy w' (some b) := by
  have hbl := hc.lt
  have HC := Lib.hid hc; have HB := Lib.hid hf; have HBO := Lib.hid ho; have HNE := Lib.hid hne; clear hc hf ho hne
  obtain ⟨i0, hi, hz0, hz1, hz2⟩ := info_parts infoStr
  have HI0 := Lib.hid hi; have HZ0 := Lib.hid hz0; have HZ1 := Lib.hid hz1; have HZ2 := Lib.hid hz2
  clear hi hz0 hz1 hz2
  go_enter Try.func93, Try.ntmps93
  go_wp2_with fail
  refine (pick_any 7 b c M A xs w HC.out (by omega) hxs (by omega) (by omega)).mono ?_
  rintro e w1 ⟨⟨x, hx, rfl⟩, hc1, hg1⟩
  have HC1 := Lib.hid hc1; have HG1 := Lib.hid hg1
  clear hc1 hg1 HC
  go_wp2_with fail
  refine (one_any 12 b c (M + 1) A xs w1 HC1.out (by omega) hxs (by omega) (by omega)).mono ?_
  rintro e w2 ⟨⟨r, rfl⟩, hc2, hg2⟩
  have HC2 := Lib.hid hc2; have HG2 := Lib.hid (grownBy_trans HG1.out hg2)
  clear hc2 hg2 HC1 HG1
  cases r
  · have hn61 : x ≤ 61 := by omega
    have HC0 := Lib.hid (HC2.out.more (M' := M + 3) (by omega))
    have HG0 := HG2
    clear HC2 HG2
    obtain ⟨n, hn⟩ : ∃ n : Nat, n = x := ⟨_, rfl⟩
    rw [← hn] at hn61 ⊢
    clear hx hn
    go_wp2
    go_loopw [5] (fun v wr => ∃ (acc : List ByteArray) (B : Option Addr) (d : Nat), acc.length ≤ n ∧ ShortD acc ∧ v = .slice B acc.length d ∧ wr.ownsRow w.heap.size 9 1 v acc.length (strs acc) ∧ CurLe wr b A c (M + 3 + 2 * acc.length) xs ∧ w.grownBy wr (some b)) (fun v _ => n - dLen v)
    case atStart => exact ⟨[], none, 0, Nat.zero_le _, fun s h => absurd h (by simp), rfl, own_nil _ _ _ _, HC0.out, HG0.out⟩
    case round =>
      obtain ⟨acc, B, d, hal, hs, rfl, hown, hc, hg⟩ := hrel
      clear HC0 HG0
      have HS := Lib.hid hs; have HO3 := Lib.hid hown; have HC3 := Lib.hid hc; have HG3 := Lib.hid hg
      clear hs hown hc hg
      by_cases hlt : acc.length < n
      · have hlt1 : (acc.length : Int) < (n : Int) := by omega
        by_cases h0 : l.length = 0
        · have hz : ((l.length : Int) == 0) = true := by rw [h0]; rfl
          have HZ0' := Lib.hid h0
          clear h0
          have HC4 := Lib.hid (HC3.out.below ((Below.refl _ _).alloc (Nat.le_refl _) (.cells (strs askTexts).toArray 9)))
          have HG4 := Lib.hid (grownBy_alloc HG3.out (.cells (strs askTexts).toArray 9))
          have HO4 := Lib.hid (own_below HO3.out ((Below.refl _ _).alloc (Nat.le_refl _) (.cells (strs askTexts).toArray 9)))
          have HROW := Lib.hid (row_strs wr askTexts)
          have hblW : b < wr.heap.size := HC3.out.lt
          go_wp2_with fail
          refine (of_any askTexts wr.heap.size _ b c (M + 3 + 2 * acc.length) A xs _ HC4.out (by omega) hxs HROW.out (by omega) (by decide) (by decide)).mono ?_
          rintro e w5 ⟨⟨s, hs, rfl⟩, hc5, hg5⟩
          have hown5 := own_grown HO4.out hg5 (fun k hk e => by have := own_lt HO4.out k hk; have := Option.some.inj e; omega)
          have HG5 := Lib.hid (grownBy_trans HG4.out hg5)
          have HC5 := Lib.hid hc5
          have HSS := Lib.hid hs
          clear hc5 hg5 HO3 HG3 HC3 HC4 HG4 HO4 HROW hs
          have hmx : acc.length + 1 ≤ maxLen := by unfold maxLen; omega
          have hszX : w.heap.size ≤ w5.heap.size := HG5.out.size
          go_wp2_with (at_builtin; refine wpList_append_own _ rfl _ _ 39 rfl w.heap.size 9 i0 (.string .empty) 1 16 Try.underlying39 HI0.out HZ0.out HZ1.out HZ2.out rfl (by decide) _ _ _ rfl (hown5.alloc _) ⟨w5.heap.size, 0, none⟩ 1 1 [.string s] rfl rfl (cell_one_new _ _ _) (by simp [Value.oneCell']) hmx (by omega) (by simp; omega) ?_)
          intro v' wz hown' hgrow _
          have hrw := own_lt hown5
          have hal : w5.grownBy (w5.alloc (.cells #[.string s] 9)) (some b) := grownBy_alloc (World.grownBy.refl _ _) _
          have HCz := Lib.hid ((HC5.out.below ((Below.refl _ _).alloc (Nat.le_refl _) (.cells #[.string s] 9))).own hgrow (fun k hk => by have := hrw k hk; omega))
          have HGz := Lib.hid (grownBy_own (grownBy_trans HG5.out hal) hgrow (fun k hk => by have := hrw k hk; omega))
          have hoz : wz.ownsRow w.heap.size 9 1 v' (acc ++ [s]).length (strs (acc ++ [s])) := by rw [List.length_append, strs_snoc]; exact hown'
          obtain ⟨B', d', rfl⟩ := own_form_s hoz
          have HOz := Lib.hid hoz
          have HSz := Lib.hid (HS.out.snoc (s := s) (by have := askTexts_size s HSS.out; unfold maxLen; omega))
          clear hown' hgrow hown5 hal hoz hszX
          go_wp2
          go_roundw
          case rel => exact ⟨acc ++ [s], B', d', by simp; omega, HSz.out, rfl, HOz.out, HCz.out.more (by simp; omega), HGz.out⟩
          case measure => simp [dLen]; omega
        · have hz : ((l.length : Int) == 0) = false := by rw [beq_eq_false_iff_ne]; omega
          have hl1 : 1 ≤ l.length := by omega
          clear h0
          go_wp2_with fail
          refine (one_any 60 b c (M + 3 + 2 * acc.length) A xs wr HC3.out (by omega) hxs (by omega) (by omega)).mono ?_
          rintro e w3 ⟨⟨r, rfl⟩, hc3, hg3⟩
          have HSB := Lib.hid ((HB.out.keep HG3.out HNE.out).keep hg3 HNE.out)
          have HO3' := Lib.hid (own_grown HO3.out hg3 (fun k hk e => by have := own_lt HO3.out k hk; have := Option.some.inj e; omega))
          have HG3' := Lib.hid (grownBy_trans HG3.out hg3)
          clear HO3 HG3 HC3
          have HO3 := HO3'; have HG3 := HG3'; have HC3 := Lib.hid hc3
          clear HO3' HG3' hc3 hg3
          cases r
          · go_wp2_with fail
            refine (pick_any l.length b c (M + 3 + 2 * acc.length + 1) A xs w3 HC3.out (by omega) hxs hl1 (by omega)).mono ?_
            rintro e w5 ⟨⟨k, hk, rfl⟩, hc5, hg5⟩
            have hown5 := own_grown HO3.out hg5 (fun k hk e => by have := own_lt HO3.out k hk; have := Option.some.inj e; omega)
            have HG5 := Lib.hid (grownBy_trans HG3.out hg5)
            have HC5 := Lib.hid hc5
            obtain ⟨gb, off, rfl, hgl, hcs⟩ := (HSB.out.keep hg5 HNE.out) (by omega)
            obtain ⟨hx0, _, _, _⟩ := hcs k hk
            have hok := HBO.out k hk
            have hk1 : (k : Int) < (l.length : Int) := by omega
            unfold BxOk at hok
            generalize (l[k]'hk).cod = s at *
            clear hc5 hg5 HO3 HG3 HC3 hcs HSB
            have hmx : acc.length + 1 ≤ maxLen := by unfold maxLen; omega
            have hszX : w.heap.size ≤ w5.heap.size := HG5.out.size
            go_wp2_with (at_builtin; refine wpList_append_own _ rfl _ _ 39 rfl w.heap.size 9 i0 (.string .empty) 1 16 Try.underlying39 HI0.out HZ0.out HZ1.out HZ2.out rfl (by decide) _ _ _ rfl (hown5.alloc _) ⟨w5.heap.size, 0, none⟩ 1 1 [.string s] rfl rfl (cell_one_new _ _ _) (by simp [Value.oneCell']) hmx (by omega) (by simp; omega) ?_)
            intro v' wz hown' hgrow _
            have hrw := own_lt hown5
            have hal : w5.grownBy (w5.alloc (.cells #[.string s] 9)) (some b) := grownBy_alloc (World.grownBy.refl _ _) _
            have HCz := Lib.hid ((HC5.out.below ((Below.refl _ _).alloc (Nat.le_refl _) (.cells #[.string s] 9))).own hgrow (fun k hk => by have := hrw k hk; omega))
            have HGz := Lib.hid (grownBy_own (grownBy_trans HG5.out hal) hgrow (fun k hk => by have := hrw k hk; omega))
            have hoz : wz.ownsRow w.heap.size 9 1 v' (acc ++ [s]).length (strs (acc ++ [s])) := by rw [List.length_append, strs_snoc]; exact hown'
            obtain ⟨B', d', rfl⟩ := own_form_s hoz
            have HOz := Lib.hid hoz
            have HSz := Lib.hid (HS.out.snoc (s := s) hok)
            clear hown' hgrow hown5 hal hoz hszX
            go_wp2
            go_roundw
            case rel => exact ⟨acc ++ [s], B', d', by simp; omega, HSz.out, rfl, HOz.out, HCz.out.more (by simp; omega), HGz.out⟩
            case measure => simp [dLen]; omega
          · 
            have HC4 := Lib.hid (HC3.out.below ((Below.refl _ _).alloc (Nat.le_refl _) (.cells (strs askTexts).toArray 9)))
            have HG4 := Lib.hid (grownBy_alloc HG3.out (.cells (strs askTexts).toArray 9))
            have HO4 := Lib.hid (own_below HO3.out ((Below.refl _ _).alloc (Nat.le_refl _) (.cells (strs askTexts).toArray 9)))
            have HROW := Lib.hid (row_strs w3 askTexts)
            have hblW : b < w3.heap.size := HC3.out.lt
            go_wp2_with fail
            refine (of_any askTexts w3.heap.size _ b c (M + 3 + 2 * acc.length + 1) A xs _ HC4.out (by omega) hxs HROW.out (by omega) (by decide) (by decide)).mono ?_
            rintro e w5 ⟨⟨s, hs, rfl⟩, hc5, hg5⟩
            have hown5 := own_grown HO4.out hg5 (fun k hk e => by have := own_lt HO4.out k hk; have := Option.some.inj e; omega)
            have HG5 := Lib.hid (grownBy_trans HG4.out hg5)
            have HC5 := Lib.hid hc5
            have HSS := Lib.hid hs
            clear hc5 hg5 HO3 HG3 HC3 HC4 HG4 HO4 HROW hs
            have hmx : acc.length + 1 ≤ maxLen := by unfold maxLen; omega
            have hszX : w.heap.size ≤ w5.heap.size := HG5.out.size
            go_wp2_with (at_builtin; refine wpList_append_own _ rfl _ _ 39 rfl w.heap.size 9 i0 (.string .empty) 1 16 Try.underlying39 HI0.out HZ0.out HZ1.out HZ2.out rfl (by decide) _ _ _ rfl (hown5.alloc _) ⟨w5.heap.size, 0, none⟩ 1 1 [.string s] rfl rfl (cell_one_new _ _ _) (by simp [Value.oneCell']) hmx (by omega) (by simp; omega) ?_)
            intro v' wz hown' hgrow _
            have hrw := own_lt hown5
            have hal : w5.grownBy (w5.alloc (.cells #[.string s] 9)) (some b) := grownBy_alloc (World.grownBy.refl _ _) _
            have HCz := Lib.hid ((HC5.out.below ((Below.refl _ _).alloc (Nat.le_refl _) (.cells #[.string s] 9))).own hgrow (fun k hk => by have := hrw k hk; omega))
            have HGz := Lib.hid (grownBy_own (grownBy_trans HG5.out hal) hgrow (fun k hk => by have := hrw k hk; omega))
            have hoz : wz.ownsRow w.heap.size 9 1 v' (acc ++ [s]).length (strs (acc ++ [s])) := by rw [List.length_append, strs_snoc]; exact hown'
            obtain ⟨B', d', rfl⟩ := own_form_s hoz
            have HOz := Lib.hid hoz
            have HSz := Lib.hid (HS.out.snoc (s := s) (by have := askTexts_size s HSS.out; unfold maxLen; omega))
            clear hown' hgrow hown5 hal hoz hszX
            go_wp2
            go_roundw
            case rel => exact ⟨acc ++ [s], B', d', by simp; omega, HSz.out, rfl, HOz.out, HCz.out.more (by simp; omega), HGz.out⟩
            case measure => simp [dLen]; omega
      · have hln : acc.length = n := by omega
        subst hln
        have hlt1 : ¬ (acc.length : Int) < (acc.length : Int) := by omega
        go_wp2
        go_ret
        exact ⟨⟨acc, B, d, rfl, by omega, HS.out, HO3.out⟩, HC3.out.more (by omega), HG3.out⟩
  · go_wp2_with fail
    refine (pick_any 2 b c (M + 1 + 1) A xs w2 HC2.out (by omega) hxs (by omega) (by omega)).mono ?_
    rintro e w0 ⟨⟨y, hy, rfl⟩, hc0, hg0⟩
    have HC0 := Lib.hid (hc0.more (M' := M + 3) (by omega))
    have HG0 := Lib.hid (grownBy_trans HG2.out hg0)
    clear hc0 hg0 HC2 HG2
    obtain ⟨n, hn⟩ : ∃ n : Nat, n = 60 + y := ⟨_, rfl⟩
    have hn61 : n ≤ 61 := by omega
    have hny : (60 : Int) + (y : Int) = (n : Int) := by omega
    have hy1 : (y : Int) < 2 := by omega
    clear hn hx
    go_wp2
    go_loopw [5] (fun v wr => ∃ (acc : List ByteArray) (B : Option Addr) (d : Nat), acc.length ≤ n ∧ ShortD acc ∧ v = .slice B acc.length d ∧ wr.ownsRow w.heap.size 9 1 v acc.length (strs acc) ∧ CurLe wr b A c (M + 3 + 2 * acc.length) xs ∧ w.grownBy wr (some b)) (fun v _ => n - dLen v)
    case atStart => exact ⟨[], none, 0, Nat.zero_le _, fun s h => absurd h (by simp), rfl, own_nil _ _ _ _, HC0.out, HG0.out⟩
    case round =>
      obtain ⟨acc, B, d, hal, hs, rfl, hown, hc, hg⟩ := hrel
      clear HC0 HG0
      have HS := Lib.hid hs; have HO3 := Lib.hid hown; have HC3 := Lib.hid hc; have HG3 := Lib.hid hg
      clear hs hown hc hg
      by_cases hlt : acc.length < n
      · have hlt1 : (acc.length : Int) < (n : Int) := by omega
        by_cases h0 : l.length = 0
        · have hz : ((l.length : Int) == 0) = true := by rw [h0]; rfl
          have HZ0' := Lib.hid h0
          clear h0
          have HC4 := Lib.hid (HC3.out.below ((Below.refl _ _).alloc (Nat.le_refl _) (.cells (strs askTexts).toArray 9)))
          have HG4 := Lib.hid (grownBy_alloc HG3.out (.cells (strs askTexts).toArray 9))
          have HO4 := Lib.hid (own_below HO3.out ((Below.refl _ _).alloc (Nat.le_refl _) (.cells (strs askTexts).toArray 9)))
          have HROW := Lib.hid (row_strs wr askTexts)
          have hblW : b < wr.heap.size := HC3.out.lt
          go_wp2_with fail
          refine (of_any askTexts wr.heap.size _ b c (M + 3 + 2 * acc.length) A xs _ HC4.out (by omega) hxs HROW.out (by omega) (by decide) (by decide)).mono ?_
          rintro e w5 ⟨⟨s, hs, rfl⟩, hc5, hg5⟩
          have hown5 := own_grown HO4.out hg5 (fun k hk e => by have := own_lt HO4.out k hk; have := Option.some.inj e; omega)
          have HG5 := Lib.hid (grownBy_trans HG4.out hg5)
          have HC5 := Lib.hid hc5
          have HSS := Lib.hid hs
          clear hc5 hg5 HO3 HG3 HC3 HC4 HG4 HO4 HROW hs
          have hmx : acc.length + 1 ≤ maxLen := by unfold maxLen; omega
          have hszX : w.heap.size ≤ w5.heap.size := HG5.out.size
          go_wp2_with (at_builtin; refine wpList_append_own _ rfl _ _ 39 rfl w.heap.size 9 i0 (.string .empty) 1 16 Try.underlying39 HI0.out HZ0.out HZ1.out HZ2.out rfl (by decide) _ _ _ rfl (hown5.alloc _) ⟨w5.heap.size, 0, none⟩ 1 1 [.string s] rfl rfl (cell_one_new _ _ _) (by simp [Value.oneCell']) hmx (by omega) (by simp; omega) ?_)
          intro v' wz hown' hgrow _
          have hrw := own_lt hown5
          have hal : w5.grownBy (w5.alloc (.cells #[.string s] 9)) (some b) := grownBy_alloc (World.grownBy.refl _ _) _
          have HCz := Lib.hid ((HC5.out.below ((Below.refl _ _).alloc (Nat.le_refl _) (.cells #[.string s] 9))).own hgrow (fun k hk => by have := hrw k hk; omega))
          have HGz := Lib.hid (grownBy_own (grownBy_trans HG5.out hal) hgrow (fun k hk => by have := hrw k hk; omega))
          have hoz : wz.ownsRow w.heap.size 9 1 v' (acc ++ [s]).length (strs (acc ++ [s])) := by rw [List.length_append, strs_snoc]; exact hown'
          obtain ⟨B', d', rfl⟩ := own_form_s hoz
          have HOz := Lib.hid hoz
          have HSz := Lib.hid (HS.out.snoc (s := s) (by have := askTexts_size s HSS.out; unfold maxLen; omega))
          clear hown' hgrow hown5 hal hoz hszX
          go_wp2
          go_roundw
          case rel => exact ⟨acc ++ [s], B', d', by simp; omega, HSz.out, rfl, HOz.out, HCz.out.more (by simp; omega), HGz.out⟩
          case measure => simp [dLen]; omega
        · have hz : ((l.length : Int) == 0) = false := by rw [beq_eq_false_iff_ne]; omega
          have hl1 : 1 ≤ l.length := by omega
          clear h0
          go_wp2_with fail
          refine (one_any 60 b c (M + 3 + 2 * acc.length) A xs wr HC3.out (by omega) hxs (by omega) (by omega)).mono ?_
          rintro e w3 ⟨⟨r, rfl⟩, hc3, hg3⟩
          have HSB := Lib.hid ((HB.out.keep HG3.out HNE.out).keep hg3 HNE.out)
          have HO3' := Lib.hid (own_grown HO3.out hg3 (fun k hk e => by have := own_lt HO3.out k hk; have := Option.some.inj e; omega))
          have HG3' := Lib.hid (grownBy_trans HG3.out hg3)
          clear HO3 HG3 HC3
          have HO3 := HO3'; have HG3 := HG3'; have HC3 := Lib.hid hc3
          clear HO3' HG3' hc3 hg3
          cases r
          · go_wp2_with fail
            refine (pick_any l.length b c (M + 3 + 2 * acc.length + 1) A xs w3 HC3.out (by omega) hxs hl1 (by omega)).mono ?_
            rintro e w5 ⟨⟨k, hk, rfl⟩, hc5, hg5⟩
            have hown5 := own_grown HO3.out hg5 (fun k hk e => by have := own_lt HO3.out k hk; have := Option.some.inj e; omega)
            have HG5 := Lib.hid (grownBy_trans HG3.out hg5)
            have HC5 := Lib.hid hc5
            obtain ⟨gb, off, rfl, hgl, hcs⟩ := (HSB.out.keep hg5 HNE.out) (by omega)
            obtain ⟨hx0, _, _, _⟩ := hcs k hk
            have hok := HBO.out k hk
            have hk1 : (k : Int) < (l.length : Int) := by omega
            unfold BxOk at hok
            generalize (l[k]'hk).cod = s at *
            clear hc5 hg5 HO3 HG3 HC3 hcs HSB
            have hmx : acc.length + 1 ≤ maxLen := by unfold maxLen; omega
            have hszX : w.heap.size ≤ w5.heap.size := HG5.out.size
            go_wp2_with (at_builtin; refine wpList_append_own _ rfl _ _ 39 rfl w.heap.size 9 i0 (.string .empty) 1 16 Try.underlying39 HI0.out HZ0.out HZ1.out HZ2.out rfl (by decide) _ _ _ rfl (hown5.alloc _) ⟨w5.heap.size, 0, none⟩ 1 1 [.string s] rfl rfl (cell_one_new _ _ _) (by simp [Value.oneCell']) hmx (by omega) (by simp; omega) ?_)
            intro v' wz hown' hgrow _
            have hrw := own_lt hown5
            have hal : w5.grownBy (w5.alloc (.cells #[.string s] 9)) (some b) := grownBy_alloc (World.grownBy.refl _ _) _
            have HCz := Lib.hid ((HC5.out.below ((Below.refl _ _).alloc (Nat.le_refl _) (.cells #[.string s] 9))).own hgrow (fun k hk => by have := hrw k hk; omega))
            have HGz := Lib.hid (grownBy_own (grownBy_trans HG5.out hal) hgrow (fun k hk => by have := hrw k hk; omega))
            have hoz : wz.ownsRow w.heap.size 9 1 v' (acc ++ [s]).length (strs (acc ++ [s])) := by rw [List.length_append, strs_snoc]; exact hown'
            obtain ⟨B', d', rfl⟩ := own_form_s hoz
            have HOz := Lib.hid hoz
            have HSz := Lib.hid (HS.out.snoc (s := s) hok)
            clear hown' hgrow hown5 hal hoz hszX
            go_wp2
            go_roundw
            case rel => exact ⟨acc ++ [s], B', d', by simp; omega, HSz.out, rfl, HOz.out, HCz.out.more (by simp; omega), HGz.out⟩
            case measure => simp [dLen]; omega
          · 
            have HC4 := Lib.hid (HC3.out.below ((Below.refl _ _).alloc (Nat.le_refl _) (.cells (strs askTexts).toArray 9)))
            have HG4 := Lib.hid (grownBy_alloc HG3.out (.cells (strs askTexts).toArray 9))
            have HO4 := Lib.hid (own_below HO3.out ((Below.refl _ _).alloc (Nat.le_refl _) (.cells (strs askTexts).toArray 9)))
            have HROW := Lib.hid (row_strs w3 askTexts)
            have hblW : b < w3.heap.size := HC3.out.lt
            go_wp2_with fail
            refine (of_any askTexts w3.heap.size _ b c (M + 3 + 2 * acc.length + 1) A xs _ HC4.out (by omega) hxs HROW.out (by omega) (by decide) (by decide)).mono ?_
            rintro e w5 ⟨⟨s, hs, rfl⟩, hc5, hg5⟩
            have hown5 := own_grown HO4.out hg5 (fun k hk e => by have := own_lt HO4.out k hk; have := Option.some.inj e; omega)
            have HG5 := Lib.hid (grownBy_trans HG4.out hg5)
            have HC5 := Lib.hid hc5
            have HSS := Lib.hid hs
            clear hc5 hg5 HO3 HG3 HC3 HC4 HG4 HO4 HROW hs
            have hmx : acc.length + 1 ≤ maxLen := by unfold maxLen; omega
            have hszX : w.heap.size ≤ w5.heap.size := HG5.out.size
            go_wp2_with (at_builtin; refine wpList_append_own _ rfl _ _ 39 rfl w.heap.size 9 i0 (.string .empty) 1 16 Try.underlying39 HI0.out HZ0.out HZ1.out HZ2.out rfl (by decide) _ _ _ rfl (hown5.alloc _) ⟨w5.heap.size, 0, none⟩ 1 1 [.string s] rfl rfl (cell_one_new _ _ _) (by simp [Value.oneCell']) hmx (by omega) (by simp; omega) ?_)
            intro v' wz hown' hgrow _
            have hrw := own_lt hown5
            have hal : w5.grownBy (w5.alloc (.cells #[.string s] 9)) (some b) := grownBy_alloc (World.grownBy.refl _ _) _
            have HCz := Lib.hid ((HC5.out.below ((Below.refl _ _).alloc (Nat.le_refl _) (.cells #[.string s] 9))).own hgrow (fun k hk => by have := hrw k hk; omega))
            have HGz := Lib.hid (grownBy_own (grownBy_trans HG5.out hal) hgrow (fun k hk => by have := hrw k hk; omega))
            have hoz : wz.ownsRow w.heap.size 9 1 v' (acc ++ [s]).length (strs (acc ++ [s])) := by rw [List.length_append, strs_snoc]; exact hown'
            obtain ⟨B', d', rfl⟩ := own_form_s hoz
            have HOz := Lib.hid hoz
            have HSz := Lib.hid (HS.out.snoc (s := s) (by have := askTexts_size s HSS.out; unfold maxLen; omega))
            clear hown' hgrow hown5 hal hoz hszX
            go_wp2
            go_roundw
            case rel => exact ⟨acc ++ [s], B', d', by simp; omega, HSz.out, rfl, HOz.out, HCz.out.more (by simp; omega), HGz.out⟩
            case measure => simp [dLen]; omega
      · have hln : acc.length = n := by omega
        subst hln
        have hlt1 : ¬ (acc.length : Int) < (acc.length : Int) := by omega
        go_wp2
        go_ret
        exact ⟨⟨acc, B, d, rfl, by omega, HS.out, HO3.out⟩, HC3.out.more (by omega), HG3.out⟩
end Go.Proofs.Ytllafkeheppkjaa

/-
  The draws of chapter 5's laws: spec.DrawHandWay, spec.DrawBestSwap, spec.DrawNearestFree. (For FnHandWays.)
-/
namespace Go.Proofs.Ytllafkeheppkjaa
open Go.RowKit
set_option linter.unusedVariables false

theorem cur_new {w : World} {A : Option Addr} {c : Nat} {xs : List UInt8} (hx : BytesIn w A xs) : CurLe (w.alloc (.cells #[.slice A xs.length c, .int .i64 0, .int .u64 0] 99)) w.heap.size A c 0 xs := by
  refine ⟨⟨0, Nat.le_refl _, 0, by omega, heap_new _ _⟩, fun hn => ?_⟩
  obtain ⟨b', off, e, hl, hc⟩ := hx hn
  exact ⟨b', off, e, hl, fun k hk => (((Below.refl w.heap.size w).alloc (Nat.le_refl _) _).cell (by show b' < _; exact hl)).trans (hc k hk)⟩

set_option maxRecDepth 100000 in
theorem drawHand_any (A : Option Addr) (c : Nat) (xs : List UInt8) (w : World) (hx : BytesIn w A xs) (hxs : xs.length ≤ maxLen) :
    Calls Try.prog 78 #[.slice A xs.length c] w fun e w' =>
      ∃ (l : List Bx) (B : Option Addr) (d : Nat) (cs : List ByteArray) (E : Option Addr) (dE : Nat), e = .returned (.tuple #[.slice B l.length d, .slice E cs.length dE]) ∧ l.length ≤ 33 ∧ l.length ≤ d ∧ BxsOk l ∧ BxsIn w' B l ∧ cs.length ≤ 61 ∧ StrsOk cs ∧ StrsIn w' E cs ∧ Below w.heap.size w w' := by
  have HCUR := Lib.hid (cur_new (c := c) hx)
  have HB0 := Lib.hid (show Below w.heap.size w (w.alloc (.cells #[.slice A xs.length c, .int .i64 0, .int .u64 0] 99)) from (Below.refl _ _).alloc (Nat.le_refl _) _)
  clear hx
  go_enter Try.func78, Try.ntmps78
  go_wp2_with fail
  refine (anyCase_any w.heap.size c 0 A xs _ HCUR.out (by omega) hxs).mono ?_
  rintro e w1 ⟨⟨l, B, d, rfl, hl, hlo, hown⟩, hc1, hg1⟩
  have HC1 := Lib.hid hc1
  have HB1 := Lib.hid (HB0.out.grown hg1 HB0.out.size (fun k hk => by have := Option.some.inj hk; omega))
  have HO1 := Lib.hid hown; have HLO := Lib.hid hlo
  have hne : ∀ g off, B = some ⟨g, off, none⟩ → some w.heap.size ≠ some g := by
    rintro g off rfl e
    have := own_lt hown g rfl
    have := Option.some.inj e
    simp at *
    omega
  have HNE := Lib.hid hne
  clear hc1 hg1 hown hne HB0 HCUR hlo
  go_wp2_with fail
  refine (codesOf_any l B d w.heap.size c (0 + 60) A xs w1 HC1.out (by omega) hxs (own_in_bx HO1.out) HNE.out HLO.out hl).mono ?_
  rintro e w2 ⟨⟨cs, E, dE, rfl, hcs, hso, hown⟩, hc2, hg2⟩
  have HB2 := Lib.hid (HB1.out.grown hg2 HB1.out.size (fun k hk => by have := Option.some.inj hk; omega))
  have HO2 := Lib.hid (own_grown HO1.out hg2 (fun k hk e => by have h1 := own_lt HO1.out k hk; have := Option.some.inj e; simp at h1; omega))
  have HS2 := Lib.hid hown; have HSO := Lib.hid hso
  clear hc2 hg2 hown hso
  go_wp2
  go_ret2
  exact ⟨l, B, d, cs, E, dE, rfl, hl, own_cap HO2.out, HLO.out, own_in_bx HO2.out, hcs, HSO.out.ok, own_in_s HS2.out, HB2.out⟩

theorem drawBest_any (A : Option Addr) (c : Nat) (xs : List UInt8) (w : World) (hx : BytesIn w A xs) (hxs : xs.length ≤ maxLen) :
    Calls Try.prog 46 #[.slice A xs.length c] w fun e w' =>
      ∃ (l : List Bx) (B : Option Addr) (d : Nat) (cs : List ByteArray) (E : Option Addr) (dE : Nat), e = .returned (.tuple #[.slice B l.length d, .slice E cs.length dE]) ∧ l.length ≤ 33 ∧ l.length ≤ d ∧ BxsOk l ∧ BxsIn w' B l ∧ cs.length ≤ 61 ∧ StrsOk cs ∧ StrsIn w' E cs ∧ Below w.heap.size w w' := by
  have HX := Lib.hid hx; clear hx
  go_enter Try.func46, Try.ntmps46
  go_wp2_with fail
  refine (drawHand_any A c xs w HX.out hxs).mono ?_
  rintro e w1 ⟨l, B, d, cs, E, dE, rfl, hr⟩
  have HR := Lib.hid hr; clear hr
  go_wp2
  go_ret2
  exact ⟨l, B, d, cs, E, dE, rfl, HR.out⟩

set_option maxRecDepth 100000 in
theorem drawNear_any (A : Option Addr) (c : Nat) (xs : List UInt8) (w : World) (hx : BytesIn w A xs) (hxs : xs.length ≤ maxLen) :
    Calls Try.prog 47 #[.slice A xs.length c] w fun e w' =>
      ∃ (l : List Bx) (B : Option Addr) (d : Nat) (r q : Int), e = .returned (.tuple #[.slice B l.length d, .int .i64 r, .int .i64 q]) ∧ l.length ≤ 33 ∧ l.length ≤ d ∧ BxsOk l ∧ BxsIn w' B l ∧ (-1 ≤ r ∧ r ≤ 10) ∧ (-1 ≤ q ∧ q ≤ 10) ∧ Below w.heap.size w w' := by
  have HCUR := Lib.hid (cur_new (c := c) hx)
  have HB0 := Lib.hid (show Below w.heap.size w (w.alloc (.cells #[.slice A xs.length c, .int .i64 0, .int .u64 0] 99)) from (Below.refl _ _).alloc (Nat.le_refl _) _)
  clear hx
  have in3 : ∀ s, s ∈ ([3, 10, -1] : List Int) → -1 ≤ s ∧ s ≤ 10 := by intro s hs; simp at hs; omega
  have in7 : ∀ s v : Int, (-1 ≤ v ∧ v ≤ 10) → s ∈ ([0, 0, 1, 2, 5, 9, v] : List Int) → -1 ≤ s ∧ s ≤ 10 := by intro s v hv hs; simp at hs; omega
  have in5 : ∀ s v : Int, (-1 ≤ v ∧ v ≤ 10) → s ∈ ([0, 1, 4, 9, v] : List Int) → -1 ≤ s ∧ s ≤ 10 := by intro s v hv hs; simp at hs; omega
  have HI3 := Lib.hid in3; have HI7 := Lib.hid in7; have HI5 := Lib.hid in5
  clear in3 in7 in5
  go_enter Try.func47, Try.ntmps47
  go_wp2_with fail
  refine (anyCase_any w.heap.size c 0 A xs _ HCUR.out (by omega) hxs).mono ?_
  rintro e w1 ⟨⟨l, B, d, rfl, hl, hlo, hown⟩, hc1, hg1⟩
  have HB1 := Lib.hid (HB0.out.grown hg1 HB0.out.size (fun k hk => by have := Option.some.inj hk; omega))
  have HLO := Lib.hid hlo
  have hw1 : w.heap.size < w1.heap.size := hc1.lt
  have HC2 := Lib.hid (hc1.below ((Below.refl _ _).alloc (Nat.le_refl _) (.cells (intsZ [3, 10, -1]).toArray 3)))
  have HB2 := Lib.hid (HB1.out.alloc HB1.out.size (.cells (intsZ [3, 10, -1]).toArray 3))
  have HO2 := Lib.hid (own_below hown ((Below.refl _ _).alloc (Nat.le_refl _) (.cells (intsZ [3, 10, -1]).toArray 3)))
  have HROW := Lib.hid (row_ints w1 [3, 10, -1])
  clear hc1 hg1 hown HB0 HCUR HB1 hlo
  go_wp2_with fail
  refine (among_any [3, 10, -1] w1.heap.size _ w.heap.size c (0 + 60) A xs _ HC2.out (by omega) hxs HROW.out (by omega) (by decide) (by decide)).mono ?_
  rintro e w3 ⟨⟨v1, hv1, rfl⟩, hc3, hg3⟩
  have HV1 := Lib.hid (HI3.out v1 hv1)
  have hw3 : w.heap.size < w3.heap.size := hc3.lt
  have HO3 := own_grown HO2.out hg3 (fun k hk e => by have h1 := own_lt HO2.out k hk; have := Option.some.inj e; simp at h1; omega)
  have HB3 := HB2.out.grown hg3 HB2.out.size (fun k hk => by have := Option.some.inj hk; omega)
  have HC4 := Lib.hid (hc3.below ((Below.refl _ _).alloc (Nat.le_refl _) (.cells (intsZ [0, 0, 1, 2, 5, 9, v1]).toArray 3)))
  have HB4 := Lib.hid (HB3.alloc HB3.size (.cells (intsZ [0, 0, 1, 2, 5, 9, v1]).toArray 3))
  have HO4 := Lib.hid (own_below HO3 ((Below.refl _ _).alloc (Nat.le_refl _) (.cells (intsZ [0, 0, 1, 2, 5, 9, v1]).toArray 3)))
  have HROW := Lib.hid (row_ints w3 [0, 0, 1, 2, 5, 9, v1])
  clear hc3 hg3 HB2 HB3 HO2 HO3 hv1 HC2
  go_wp2_with fail
  refine (among_any [0, 0, 1, 2, 5, 9, v1] w3.heap.size _ w.heap.size c (0 + 60 + 1) A xs _ HC4.out (by omega) hxs HROW.out (by omega) (by simp) (by simp)).mono ?_
  rintro e w5 ⟨⟨r, hr, rfl⟩, hc5, hg5⟩
  have HR := Lib.hid (HI7.out r v1 HV1.out hr)
  have hw5 : w.heap.size < w5.heap.size := hc5.lt
  have HO5 := own_grown HO4.out hg5 (fun k hk e => by have h1 := own_lt HO4.out k hk; have := Option.some.inj e; simp at h1; omega)
  have HB5 := HB4.out.grown hg5 HB4.out.size (fun k hk => by have := Option.some.inj hk; omega)
  have HC6 := Lib.hid (hc5.below ((Below.refl _ _).alloc (Nat.le_refl _) (.cells (intsZ [3, 10, -1]).toArray 3)))
  have HB6 := Lib.hid (HB5.alloc HB5.size (.cells (intsZ [3, 10, -1]).toArray 3))
  have HO6 := Lib.hid (own_below HO5 ((Below.refl _ _).alloc (Nat.le_refl _) (.cells (intsZ [3, 10, -1]).toArray 3)))
  have HROW := Lib.hid (row_ints w5 [3, 10, -1])
  clear hc5 hg5 HB4 HB5 HO4 HO5 hr HC4
  go_wp2_with fail
  refine (among_any [3, 10, -1] w5.heap.size _ w.heap.size c (0 + 60 + 1 + 1) A xs _ HC6.out (by omega) hxs HROW.out (by omega) (by decide) (by decide)).mono ?_
  rintro e w7 ⟨⟨v2, hv2, rfl⟩, hc7, hg7⟩
  have HV2 := Lib.hid (HI3.out v2 hv2)
  have hw7 : w.heap.size < w7.heap.size := hc7.lt
  have HO7 := own_grown HO6.out hg7 (fun k hk e => by have h1 := own_lt HO6.out k hk; have := Option.some.inj e; simp at h1; omega)
  have HB7 := HB6.out.grown hg7 HB6.out.size (fun k hk => by have := Option.some.inj hk; omega)
  have HC8 := Lib.hid (hc7.below ((Below.refl _ _).alloc (Nat.le_refl _) (.cells (intsZ [0, 1, 4, 9, v2]).toArray 3)))
  have HB8 := Lib.hid (HB7.alloc HB7.size (.cells (intsZ [0, 1, 4, 9, v2]).toArray 3))
  have HO8 := Lib.hid (own_below HO7 ((Below.refl _ _).alloc (Nat.le_refl _) (.cells (intsZ [0, 1, 4, 9, v2]).toArray 3)))
  have HROW := Lib.hid (row_ints w7 [0, 1, 4, 9, v2])
  clear hc7 hg7 HB6 HB7 HO6 HO7 hv2 HC6
  go_wp2_with fail
  refine (among_any [0, 1, 4, 9, v2] w7.heap.size _ w.heap.size c (0 + 60 + 1 + 1 + 1) A xs _ HC8.out (by omega) hxs HROW.out (by omega) (by simp) (by simp)).mono ?_
  rintro e w9 ⟨⟨q, hq, rfl⟩, hc9, hg9⟩
  have HQ := Lib.hid (HI5.out q v2 HV2.out hq)
  have HO9 := Lib.hid (own_grown HO8.out hg9 (fun k hk e => by have h1 := own_lt HO8.out k hk; have := Option.some.inj e; simp at h1; omega))
  have HB9 := Lib.hid (HB8.out.grown hg9 HB8.out.size (fun k hk => by have := Option.some.inj hk; omega))
  clear hc9 hg9 hq HO8 HB8
  go_wp2
  refine bodyPost_ret (v := .tuple #[.slice B l.length d, .int .i64 r, .int .i64 q]) (by simp [results, Try.results47, go_sem]) rfl ?_
  exact ⟨l, B, d, r, q, rfl, hl, own_cap HO9.out, HLO.out, own_in_bx HO9.out, HR.out, HQ.out, HB9.out⟩
end Go.Proofs.Ytllafkeheppkjaa

/-
  Plain facts for FnHandWays: a case with two boxes exchanged is a case; no exchange makes a shorter way than the best one; the nearest free place is free.
-/
namespace Go.Proofs.Ytllafkeheppkjaa
open Go.RowKit
set_option linter.unusedVariables false

theorem okB_parts {l : List Bx} {k : Nat} {h : k < l.length} : okB l k h = true ↔ boxB l[k] = true ∧ (k = 0 ∨ Op.bytesLess (l[k-1]'(by omega)).cod.toList l[k].cod.toList = true) ∧ ∀ j (hj : j < k), ¬ (l[j].row = l[k].row ∧ l[j].col = l[k].col) := by
  unfold okB
  rw [Bool.and_eq_true, Bool.and_eq_true, Bool.or_eq_true, beq_iff_eq, Bool.not_eq_true', ← Bool.not_eq_true, List.any_eq_true]
  refine and_congr_right fun _ => and_congr_right fun _ => ⟨fun hn j hj he => hn ⟨l[j], ?_, sameP_iff.2 he⟩, fun hn he => ?_⟩
  · rw [List.mem_take_iff_getElem]
    exact ⟨j, by omega, rfl⟩
  · obtain ⟨x, hx, hs⟩ := he
    rw [List.mem_take_iff_getElem] at hx
    obtain ⟨j, hj, rfl⟩ := hx
    exact hn j (by omega) (sameP_iff.1 hs)
theorem CaseOk.apart {l : List Bx} (h : CaseOk l) {i j : Nat} (hi : i < l.length) (hj : j < l.length) (hij : i ≠ j) : ¬ (l[i].row = l[j].row ∧ l[i].col = l[j].col) := by
  rcases Nat.lt_or_ge i j with h1 | h1
  · exact (okB_parts.1 (h.1 j hj)).2.2 i h1
  · rintro ⟨e1, e2⟩
    exact (okB_parts.1 (h.1 i hi)).2.2 j (by omega) ⟨e1.symm, e2.symm⟩
/-- Whose place box k has behind the exchange. -/
def tau (a b k : Nat) : Nat := if b = k then a else if a = k then b else k
theorem tau_lt {a b k n : Nat} (ha : a < n) (hb : b < n) (hk : k < n) : tau a b k < n := by unfold tau; split <;> (try split) <;> omega
theorem tau_inj {a b i j : Nat} (h : tau a b i = tau a b j) : i = j := by unfold tau at h; split at h <;> split at h <;> (try split at h) <;> (try split at h) <;> omega
theorem swapL_tau {l : List Bx} {a b : Nat} (ha : a < l.length) (hb : b < l.length) {k : Nat} (hk : k < l.length) (h : k < (swapL l a b).length) :
    (swapL l a b)[k].cod = l[k].cod ∧ (swapL l a b)[k].cnt = l[k].cnt ∧ (swapL l a b)[k].row = (l[tau a b k]'(tau_lt ha hb hk)).row ∧ (swapL l a b)[k].col = (l[tau a b k]'(tau_lt ha hb hk)).col := by
  simp only [swapL, getD_at ha, getD_at hb, tau]
  rw [List.getElem_set]
  by_cases e : b = k
  · subst e
    simp only [if_true]
    rw [getD_at (by simpa using hb), List.getElem_set]
    by_cases e : a = b
    · subst e; simp
    · simp [e]
  · simp only [e, if_false]
    rw [List.getElem_set]
    by_cases e : a = k
    · subst e; simp
    · simp [e]
theorem CaseOk.swap {l : List Bx} (h : CaseOk l) {a b : Nat} (ha : a < l.length) (hb : b < l.length) : CaseOk (swapL l a b) := by
  refine ⟨fun k hk => ?_, by rw [swapL_len]; exact h.2.1, by rw [swapL_len]; exact h.2.2⟩
  have hk' : k < l.length := by rwa [swapL_len] at hk
  obtain ⟨e1, e2, e3, e4⟩ := swapL_tau ha hb hk' hk
  obtain ⟨o1, o2, o3⟩ := okB_parts.1 (h.1 k hk')
  obtain ⟨q1, _, _⟩ := okB_parts.1 (h.1 _ (tau_lt ha hb hk'))
  rw [okB_parts]
  refine ⟨?_, ?_, fun j hj => ?_⟩
  · rw [boxB_iff] at o1 q1 ⊢
    rw [e1, e2, e3, e4]
    exact ⟨o1.1, q1.2.1, q1.2.2.1, o1.2.2.2⟩
  · rcases o2 with o2 | o2
    · exact .inl o2
    · right
      rw [e1, (swapL_tau ha hb (show k - 1 < l.length by omega) (by rw [swapL_len]; omega)).1]
      exact o2
  · have hj' : j < l.length := by omega
    obtain ⟨_, _, f3, f4⟩ := swapL_tau ha hb hj' (by rw [swapL_len]; exact hj')
    rw [e3, e4, f3, f4]
    exact h.apart _ _ (fun e => by have := tau_inj e; omega)
theorem askB2_swap {l : List Bx} {cs : List ByteArray} {a b : Nat} (ha : a < l.length) (hb : b < l.length) (h : askB2 l cs = true) : askB2 (swapL l a b) cs = true := by
  have h1 := (askB2_all h).1
  unfold askB2 at h ⊢
  simp only [swapL_caI ha hb]
  rw [Bool.and_eq_true, Bool.and_eq_true] at h ⊢
  exact ⟨h.1, caseB_iff.2 (h1.swap ha hb), h.2.2⟩
theorem hwR_swap {l : List Bx} {cs : List ByteArray} {a b : Nat} (ha : a < l.length) (hb : b < l.length) (h : askB2 l cs = true) : hwR (swapL l a b) cs = some (swW l (ixs l cs) a b) := by
  unfold hwR
  rw [if_pos (askB2_swap ha hb h), ixs_swap ha hb]
  rfl
theorem swR_yes {l : List Bx} {a b : Nat} (ha : a < l.length) (hb : b < l.length) (h : CaseOk l) : swR l a b = some (swapL l a b) := by
  unfold swR
  rw [if_pos ⟨caseB_iff.2 h, ⟨by omega, by omega⟩, by omega, by omega⟩]
  simp

def LeS (l : List Bx) (is : List Nat) (st : Option (Nat × Nat)) (v : Int) : Prop := ∃ q, st = some q ∧ swW l is q.1 q.2 ≤ v
theorem bsUpd_keep {l : List Bx} {is : List Nat} {st : Option (Nat × Nat)} {v : Int} (h : LeS l is st v) (a b : Nat) : LeS l is (bsUpd l is st a b) v := by
  obtain ⟨⟨x, y⟩, rfl, hv⟩ := h
  by_cases hlt : swW l is a b < swW l is x y
  · rw [bsUpd_lt hlt]; exact ⟨_, rfl, by show swW l is a b ≤ v; have : swW l is x y ≤ v := hv; omega⟩
  · rw [bsUpd_ge hlt]; exact ⟨_, rfl, hv⟩
theorem bsUpd_new {l : List Bx} {is : List Nat} {st : Option (Nat × Nat)} (a b : Nat) : LeS l is (bsUpd l is st a b) (swW l is a b) := by
  cases st with
  | none => exact ⟨_, rfl, Int.le_refl _⟩
  | some p =>
    obtain ⟨x, y⟩ := p
    by_cases hlt : swW l is a b < swW l is x y
    · rw [bsUpd_lt hlt]; exact ⟨_, rfl, Int.le_refl _⟩
    · rw [bsUpd_ge hlt]; exact ⟨_, rfl, by show swW l is x y ≤ _; omega⟩
theorem bsC_keep {l : List Bx} {is : List Nat} {st : Option (Nat × Nat)} {v : Int} (h : LeS l is st v) (a : Nat) : ∀ n : Nat, LeS l is (bsC l is st a n) v
  | 0 => h
  | n + 1 => bsUpd_keep (bsC_keep h a n) _ _
theorem bsC_new {l : List Bx} {is : List Nat} {st : Option (Nat × Nat)} (a : Nat) : ∀ n i : Nat, i < n → LeS l is (bsC l is st a n) (swW l is a (a + 1 + i))
  | n + 1, i, h => by
    rcases Nat.lt_or_ge i n with h1 | h1
    · exact bsUpd_keep (bsC_new a n i h1) _ _
    · obtain rfl : i = n := by omega
      exact bsUpd_new _ _
theorem bsR_new {l : List Bx} {is : List Nat} {s0 : Option (Nat × Nat)} : ∀ (m i k : Nat), i < m → i < k → k < l.length → LeS l is (bsR l is s0 m) (swW l is i k)
  | m + 1, i, k, h1, h2, h3 => by
    rcases Nat.lt_or_ge i m with h | h
    · exact bsC_keep (bsR_new m i k h h2 h3) _ _
    · obtain rfl : i = m := by omega
      have := bsC_new (l := l) (is := is) (st := bsR l is s0 i) i (l.length - (i + 1)) (k - (i + 1)) (by omega)
      rwa [show i + 1 + (k - (i + 1)) = k from by omega] at this
/-- What the law asks of one pair. -/
theorem best_least {l : List Bx} {cs : List ByteArray} {p : Nat × Nat} (h : bsA l cs = some p) {i k : Nat} (h1 : i < k) (h2 : k < l.length) : bsV l cs ≤ swW l (ixs l cs) i k ∧ ((i : Int) = (p.1 : Int) → (k : Int) = (p.2 : Int) → swW l (ixs l cs) i k = bsV l cs) := by
  have hv : bsV l cs = swW l (ixs l cs) p.1 p.2 := by unfold bsV; rw [h]
  refine ⟨?_, fun e1 e2 => ?_⟩
  · unfold bsA at h
    split at h
    · obtain ⟨q, hq, hle⟩ := bsR_new (l := l) (is := ixs l cs) (s0 := none) l.length i k (by omega) h1 h2
      rw [h] at hq
      obtain rfl := Option.some.inj hq
      rw [hv]; exact hle
    · cases h
  · rw [hv, show p.1 = i from by omega, show p.2 = k from by omega]
theorem bsA_ask {l : List Bx} {cs : List ByteArray} {p : Nat × Nat} (h : bsA l cs = some p) : askB2 l cs = true := by
  unfold bsA at h
  split at h
  · rename_i hc; exact hc.1
  · cases h

def FreeS (l : List Bx) (st : Option (Nat × Nat)) : Prop := ∀ p, st = some p → hasP l p.1 p.2 = false
theorem nfUpd_free {l : List Bx} {row col : Int} {st : Option (Nat × Nat)} (h : FreeS l st) (r c : Nat) : FreeS l (nfUpd l row col st r c) := by
  cases hh : hasP l r c with
  | true => rw [nfUpd_used hh]; exact h
  | false =>
    cases st with
    | none => rw [nfUpd_none hh]; intro p e; obtain rfl := Option.some.inj e; exact hh
    | some p =>
      obtain ⟨x, y⟩ := p
      by_cases hd : dst row col r c < dst row col x y
      · rw [nfUpd_lt hh hd]; intro p e; obtain rfl := Option.some.inj e; exact hh
      · rw [nfUpd_ge hh hd]; exact h
theorem nfC_free {l : List Bx} {row col : Int} {st : Option (Nat × Nat)} (h : FreeS l st) (r : Nat) : ∀ n : Nat, FreeS l (nfC l row col st r n)
  | 0 => h
  | n + 1 => nfUpd_free (nfC_free h r n) _ _
theorem nfR_free (l : List Bx) (row col : Int) : ∀ n : Nat, FreeS l (nfR l row col n)
  | 0 => fun p e => by cases e
  | n + 1 => nfC_free (nfR_free l row col n) _ _
theorem near_free {l : List Bx} {row col : Int} {p : Nat × Nat} (h : nfA l row col = some p) {k : Nat} (hk : k < l.length) : ¬ (l[k].row = (p.1 : Int) ∧ l[k].col = (p.2 : Int)) := by
  unfold nfA at h
  split at h
  · have hf := nfR_free l row col 10 p h
    unfold hasP at hf
    rw [List.any_eq_false] at hf
    have := hf l[k] (List.getElem_mem hk)
    rintro ⟨e1, e2⟩
    simp [e1, e2] at this
  · cases h
end Go.Proofs.Ytllafkeheppkjaa

/-
  The contracts that FnHandWays leans on, restated with their values by name.
-/
namespace Go.Proofs.Ytllafkeheppkjaa
open Go.RowKit
set_option linter.unusedVariables false

theorem BytesIn.under {w w' : World} {B : Nat} {A : Option Addr} {l : List UInt8} (h : BytesIn w A l) (hb : Below B w w') (hB : w.heap.size ≤ B) : BytesIn w' A l := by
  intro hn
  obtain ⟨b, off, rfl, h2, h3⟩ := h hn
  refine ⟨b, off, rfl, Nat.lt_of_lt_of_le h2 hb.size, fun k hk => ?_⟩
  rw [hb.cell (by show b < B; omega)]
  exact h3 k hk
def BestIs (l : List Bx) (cs : List ByteArray) (x y : Nat) (n : Int) (ok : Bool) : Prop := ((bsA l cs).getD (0, 0)).1 = x ∧ ((bsA l cs).getD (0, 0)).2 = y ∧ bsV l cs = n ∧ (bsA l cs).isSome = ok
def HandIs (l : List Bx) (cs : List ByteArray) (z : Int) (one : Bool) : Prop := (hwR l cs).getD 0 = z ∧ (hwR l cs).isSome = one
def NearIs (l : List Bx) (r q : Int) (x y : Nat) (fine : Bool) : Prop := ((nfA l r q).getD (0, 0)).1 = x ∧ ((nfA l r q).getD (0, 0)).2 = y ∧ (nfA l r q).isSome = fine
theorem implBest_is (l : List Bx) (A : Option Addr) (c : Nat) (cs : List ByteArray) (B : Option Addr) (d : Nat) (w : World) (hf : BxsIn w A l) (hn : l.length ≤ 1048576) (ho : BxsOk l) (hcap : l.length ≤ c) (hs : StrsIn w B cs) (hso : StrsOk cs) (hm : cs.length ≤ 1048576) (x y : Nat) (n : Int) (ok : Bool) (h : Hid (BestIs l cs x y n ok)) :
    Calls Try.prog 36 #[.slice A l.length c, .slice B cs.length d] w fun e w' => e = .returned (.tuple #[.int .i64 (x : Int), .int .i64 (y : Int), .int .i64 n, .bool ok]) ∧ Below w.heap.size w w' := by
  obtain ⟨rfl, rfl, rfl, rfl⟩ := h.out
  exact implBestSwap_any l A c cs B d w hf hn ho hcap hs hso hm
theorem implHand_is (l : List Bx) (A : Option Addr) (c : Nat) (cs : List ByteArray) (B : Option Addr) (d : Nat) (w : World) (hf : BxsIn w A l) (hn : l.length ≤ 1048576) (ho : BxsOk l) (hcap : l.length ≤ c) (hs : StrsIn w B cs) (hso : StrsOk cs) (hm : cs.length ≤ 1048576) (z : Int) (one : Bool) (h : Hid (HandIs l cs z one)) :
    Calls Try.prog 29 #[.slice A l.length c, .slice B cs.length d] w fun e w' => e = .returned (.tuple #[.int .i64 z, .bool one]) ∧ Below w.heap.size w w' := by
  obtain ⟨rfl, rfl⟩ := h.out
  exact implHandWay_any l A c cs B d w hf hn ho hcap hs hso hm
theorem implNear_is (l : List Bx) (A : Option Addr) (c : Nat) (r q : Int) (w : World) (hf : BxsIn w A l) (hn : l.length ≤ 1048576) (ho : BxsOk l) (hcap : l.length ≤ c) (x y : Nat) (fine : Bool) (h : Hid (NearIs l r q x y fine)) :
    Calls Try.prog 38 #[.slice A l.length c, .int .i64 r, .int .i64 q] w fun e w' => e = .returned (.tuple #[.int .i64 (x : Int), .int .i64 (y : Int), .bool fine]) ∧ Below w.heap.size w w' := by
  obtain ⟨rfl, rfl, rfl⟩ := h.out
  exact implNearestFree_any l A c r q w hf hn ho hcap
theorem specBest_is (l : List Bx) (A : Option Addr) (c : Nat) (cs : List ByteArray) (B : Option Addr) (d : Nat) (w : World) (hf : BxsIn w A l) (hn : l.length ≤ 1048576) (ho : BxsOk l) (hcap : l.length ≤ c) (hs : StrsIn w B cs) (hso : StrsOk cs) (hm : cs.length ≤ 1048576) (x y : Nat) (n : Int) (ok : Bool) (h : Hid (BestIs l cs x y n ok)) :
    Calls Try.prog 35 #[.slice A l.length c, .slice B cs.length d] w fun e w' => e = .returned (.tuple #[.int .i64 (x : Int), .int .i64 (y : Int), .int .i64 n, .bool ok]) ∧ Below w.heap.size w w' := by
  obtain ⟨rfl, rfl, rfl, rfl⟩ := h.out
  exact specBestSwap_any l A c cs B d w hf hn ho hcap hs hso hm
theorem specHand_is (l : List Bx) (A : Option Addr) (c : Nat) (cs : List ByteArray) (B : Option Addr) (d : Nat) (w : World) (hf : BxsIn w A l) (hn : l.length ≤ 1048576) (ho : BxsOk l) (hcap : l.length ≤ c) (hs : StrsIn w B cs) (hso : StrsOk cs) (hm : cs.length ≤ 1048576) (z : Int) (one : Bool) (h : Hid (HandIs l cs z one)) :
    Calls Try.prog 27 #[.slice A l.length c, .slice B cs.length d] w fun e w' => e = .returned (.tuple #[.int .i64 z, .bool one]) ∧ Below w.heap.size w w' := by
  obtain ⟨rfl, rfl⟩ := h.out
  exact specHandWay_any l A c cs B d w hf hn ho hcap hs hso hm
theorem specNear_is (l : List Bx) (A : Option Addr) (c : Nat) (r q : Int) (w : World) (hf : BxsIn w A l) (hn : l.length ≤ 1048576) (ho : BxsOk l) (hcap : l.length ≤ c) (x y : Nat) (fine : Bool) (h : Hid (NearIs l r q x y fine)) :
    Calls Try.prog 37 #[.slice A l.length c, .int .i64 r, .int .i64 q] w fun e w' => e = .returned (.tuple #[.int .i64 (x : Int), .int .i64 (y : Int), .bool fine]) ∧ Below w.heap.size w w' := by
  obtain ⟨rfl, rfl, rfl⟩ := h.out
  exact specNearestFree_any l A c r q w hf hn ho hcap
theorem swap_is (l : List Bx) (A : Option Addr) (c a b : Nat) (L : List Bx) (w : World) (hf : BxsIn w A l) (hn : l.length ≤ 1048576) (ho : BxsOk l) (hcap : l.length ≤ c) (h : Hid (swR l a b = some L)) :
    Calls Try.prog 31 #[.slice A l.length c, .int .i64 (a : Int), .int .i64 (b : Int)] w fun e w' => ∃ v, e = .returned (.tuple #[v, .bool true]) ∧ Below w.heap.size w w' ∧ w'.ownsRow w.heap.size 26 4 v L.length (flatBx L) := by
  refine (specSwapBoxes_any l A c a b w hf hn ho hcap).mono fun e w' hto => ?_
  rw [h.out] at hto
  exact hto
/-- What the law asks of all pairs. -/
def PairOk (l : List Bx) (cs : List ByteArray) (x y : Nat) (n : Int) : Prop := ∀ i k : Nat, i < k → k < l.length → ∃ z L, swR l i k = some L ∧ HandIs L cs z true ∧ BxsOk L ∧ L.length = l.length ∧ n ≤ z ∧ ((i : Int) = (x : Int) → (k : Int) = (y : Int) → z = n)
theorem swapL_ok {l : List Bx} {a b : Nat} (ha : a < l.length) (hb : b < l.length) (h : BxsOk l) : BxsOk (swapL l a b) := by
  intro k hk
  have hk' : k < l.length := by rwa [swapL_len] at hk
  show (swapL l a b)[k].cod.size ≤ maxLen
  rw [(swapL_tau ha hb hk' hk).1]
  exact h k hk'
theorem pair_ok {l : List Bx} {cs : List ByteArray} {x y : Nat} {n : Int} (h : BestIs l cs x y n true) (ho : BxsOk l) : PairOk l cs x y n := by
  obtain ⟨rfl, rfl, rfl, h4⟩ := h
  obtain ⟨p, hp⟩ := Option.isSome_iff_exists.1 h4
  have hask := bsA_ask hp
  intro i k h1 h2
  have hi : i < l.length := by omega
  refine ⟨swW l (ixs l cs) i k, swapL l i k, swR_yes hi h2 (askB2_all hask).1, ⟨by rw [hwR_swap hi h2 hask]; rfl, by rw [hwR_swap hi h2 hask]; rfl⟩, swapL_ok hi h2 ho, swapL_len _ _ _, (best_least hp h1 h2).1, ?_⟩
  rw [hp]
  exact (best_least hp h1 h2).2
theorem best_hand {l : List Bx} {cs : List ByteArray} {x y : Nat} {n z : Int} {one : Bool} (h : BestIs l cs x y n true) (h2 : HandIs l cs z one) : one = true := by
  obtain ⟨p, hp⟩ := Option.isSome_iff_exists.1 h.2.2.2
  rw [← h2.2]
  unfold hwR
  rw [if_pos (bsA_ask hp)]
  rfl
theorem near_no {l : List Bx} {r q : Int} {x y : Nat} (h : NearIs l r q x y true) {k : Nat} (hk : k < l.length) : ¬ (l[k].row = (x : Int) ∧ l[k].col = (y : Int)) := by
  obtain ⟨rfl, rfl, h3⟩ := h
  obtain ⟨p, hp⟩ := Option.isSome_iff_exists.1 h3
  have := near_free hp hk
  rw [hp]
  exact this
end Go.Proofs.Ytllafkeheppkjaa

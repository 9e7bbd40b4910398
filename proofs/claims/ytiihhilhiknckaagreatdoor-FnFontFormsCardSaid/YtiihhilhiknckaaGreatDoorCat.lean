/-
  The contracts of the instances of slices.Grow (at the nil slice) and of slices.Concat (over parts that are not nil): a new row that holds the parts one after the other.
-/
import Derived.Test.YtiihhilhiknckaaGreatDoorLaw
import Derived.Lib.AppendZerosOnto
import Derived.Lib.SliceRun
namespace Go.Proofs.YtiihhilhiknckaaGreatDoor
open Go.RowKit
set_option linter.unusedVariables false

def Grown0 (w w' : World) (e : Ending) : Prop := ∃ v, e = .returned v ∧ Below w.heap.size w w' ∧ w'.ownsRow w.heap.size 25 2 v 0 []

set_option maxHeartbeats 1000000 in
set_option maxRecDepth 100000 in
theorem grow_any (n : Nat) (w : World) (h0 : 1 ≤ n) (hn : n ≤ 1000) :
    Calls Tryz.prog 53 #[.slice none 0 0, .int .i64 n] w fun e w' => Grown0 w w' e := by
  obtain ⟨i0, hi, hz0, hz1, hz2⟩ := info_parts info39
  have h1 : ¬ ((n : Int) < 0) := by omega
  have h4 : (n : Int) > 0 := by omega
  have hold : (Builtin.firstCells i0.size 0 (.slice none 0 0)).run Tryz.prog w.drew = .ok ([] : List Value).toArray w.drew := run_firstCells_none w.drew i0.size 0 0 0
  have hrz : ∀ ty, (Builtin.append_ #[23, 3] ty #[.slice none 0 0, .int .i64 (n : Int)]).run Tryz.prog w =
      .ok (.slice (some ⟨w.heap.size, 0, none⟩) n (grownCap w n 0 25)) (w.drew.alloc (.cells (([] : List Value).toArray ++ Builtin.zeroCells #[.string .empty, .int .i64 0] n ++ Builtin.zeroCells #[.string .empty, .int .i64 0] (grownCap w n 0 25 - n)) 25)) := fun ty => by
    have h := Lib.run_append_grow_zeros w 23 3 ty 25 i0 _ .i64 .i64 Tryz.underlying23 Tryz.underlying3 hi hz0 none 0 0 [] hold n (by omega) (by omega) (by omega) (by omega)
      (by rw [hz2]; omega)
      (by rw [Nat.zero_add]; exact growslice_fits (by omega) (by rw [hz2]; omega))
    rw [Nat.zero_add] at h
    exact h
  have hGn := grownCap_ge w n 0 25
  have hG63 := grownCap_le_maxLen w n 0 25 (by unfold maxLen; omega)
  generalize grownCap w n 0 25 = G at *
  unfold maxLen at hG63
  have HG := Lib.hid hG63
  clear hold hz0 hz1 hz2 hi
  go_enter Tryz.func53, Tryz.ntmps53
  go_wp2_with (at_builtin; refine Lib.wpList_append_run _ rfl _ _ _ _ rfl _ _ rfl rfl _ _ (hrz _) ?_)
  have hcs : (Builtin.zeroCells #[.string .empty, .int .i64 0] n ++ Builtin.zeroCells #[.string .empty, .int .i64 0] (G - n) : Array Value).size = G * 2 := by
    simp [Builtin.zeroCells]; omega
  generalize (Builtin.zeroCells #[.string .empty, .int .i64 0] n ++ Builtin.zeroCells #[.string .empty, .int .i64 0] (G - n) : Array Value) = cs at *
  go_ret
  exact ⟨_, rfl, ((Below.refl _ _).alloc (Nat.le_refl _) _).drew, by simp, .inr ⟨w.heap.size, G, cs, rfl, Nat.le_refl _, heap_new _ _, Nat.zero_le _, by unfold maxLen; omega, hcs, by simp⟩⟩

/-- A part that is handed to slices.Concat: where it lies, its length and room, its cells. -/
structure Part3 where
  a : Addr
  m : Nat
  c : Nat
  xs : List Value
def Part3.val (p : Part3) : Value := .slice (some p.a) p.m p.c
/-- The part's cells are there. -/
def Part3.Reads (p : Part3) (w : World) : Prop := p.xs.length = p.m * 2 ∧ p.a.block < w.heap.size ∧ (∀ j u, p.xs[j]? = some u → w.cell? (p.a.add j) = some u) ∧ ∀ u ∈ p.xs, u.oneCell' = true
theorem block_add (a : Addr) (n : Nat) : (a.add n).block = a.block := by unfold Addr.add; split <;> rfl
theorem Part3.Reads.below {p : Part3} {w w' : World} {B : Nat} (h : p.Reads w) (hb : Below B w w') (hB : w.heap.size ≤ B) : p.Reads w' :=
  ⟨h.1, Nat.lt_of_lt_of_le h.2.1 hb.size, fun j u hu => (hb.cell (by rw [block_add]; have := h.2.1; omega)).trans (h.2.2.1 j u hu), h.2.2.2⟩
def lens : List Part3 → Nat
  | [] => 0
  | p :: r => p.m + lens r
def allXs : List Part3 → List Value
  | [] => []
  | p :: r => p.xs ++ allXs r
theorem lens_append (a b : List Part3) : lens (a ++ b) = lens a + lens b := by
  induction a with
  | nil => simp [lens]
  | cons x a ih => simp only [List.cons_append, lens, ih]; omega
theorem allXs_append (a b : List Part3) : allXs (a ++ b) = allXs a ++ allXs b := by
  induction a with
  | nil => simp [allXs]
  | cons x a ih => simp only [List.cons_append, allXs, ih, List.append_assoc]
theorem lens_snoc (l : List Part3) (k : Nat) (h : k < l.length) : lens (l.take (k + 1)) = lens (l.take k) + l[k].m := by
  rw [List.take_succ_eq_append_getElem h, lens_append]; simp [lens]
theorem allXs_snoc (l : List Part3) (k : Nat) (h : k < l.length) : allXs (l.take (k + 1)) = allXs (l.take k) ++ l[k].xs := by
  rw [List.take_succ_eq_append_getElem h, allXs_append]; simp [allXs]
theorem lens_take_le (l : List Part3) : ∀ k, lens (l.take k) ≤ lens l := by
  intro k
  have h : lens l = lens (l.take k) + lens (l.drop k) := by rw [← lens_append, List.take_append_drop]
  omega

/-- The answer: one row of the call's own with all cells. -/
def CatTo (ps : List Part3) (w w' : World) (e : Ending) : Prop := ∃ v, e = .returned v ∧ Below w.heap.size w w' ∧ w'.ownsRow w.heap.size 25 2 v (lens ps) (allXs ps)

set_option maxHeartbeats 1000000 in
set_option maxRecDepth 100000 in
theorem concat_any (ps : List Part3) (bS : Nat) (w : World) (hS : w.heap[bS]? = some (.cells (ps.map Part3.val).toArray 23 (0, 0))) (hr : ∀ p ∈ ps, p.Reads w) (hk : ps.length ≤ 10) (h0 : 1 ≤ lens ps) (hn : lens ps ≤ 1000) :
    Calls Tryz.prog 29 #[.slice (some ⟨bS, 0, none⟩) ps.length ps.length] w fun e w' => CatTo ps w w' e := by
  have hbS := lt_of_heap hS
  have hcell : ∀ k (h : k < ps.length), w.cell? ⟨bS, k, none⟩ = some (.slice (some ps[k].a) ps[k].m ps[k].c) := fun k h => by
    rw [cell_of_heap hS]
    simp [h, Part3.val]
  have HC := Lib.hid hcell; have HR := Lib.hid hr
  clear hcell hr hS
  go_enter Tryz.func29, Tryz.ntmps29
  go_wp2
  go_loop [3, 11] (fun q i => ∃ (k t : Nat), k ≤ ps.length ∧ i = .int .i64 k ∧ q = .int .i64 t ∧ t = lens (ps.take k) ∧ t ≤ 1000) (fun _ i => ps.length - (intOf i).toNat)
  case atStart => exact ⟨0, 0, Nat.zero_le _, rfl, rfl, by simp [lens], by omega⟩
  case round =>
    obtain ⟨k, t, hkl, rfl, rfl, ht, ht1⟩ := hrel
    have HT := Lib.hid ht; clear ht
    by_cases hlt : k < ps.length
    · have hc := HC.out k hlt
      have hs := lens_snoc ps k hlt
      have hle := lens_take_le ps (k + 1)
      have hb : t + ps[k].m ≤ 1000 := by have := HT.out; omega
      have HS := Lib.hid hs
      clear hs hle
      generalize ps[k].a = pa at *
      generalize hpm : ps[k].m = pm at *
      have HPM := Lib.hid hpm
      clear hpm
      generalize ps[k].c = pc at *
      have hneg : ¬ ((t : Int) + (pm : Int) < 0) := by omega
      go_wp2
      go_round
      case rel => exact ⟨k + 1, t + pm, by omega, by go_num, by go_num, by rw [HS.out, HT.out], hb⟩
      case measure => simp [intOf]; omega
    · obtain rfl : k = ps.length := by omega
      have htot : t = lens ps := by rw [HT.out, List.take_length]
      subst htot
      go_wp2_with fail
      refine (grow_any (lens ps) _ h0 hn).mono ?_
      intro e w1 hgr
      obtain ⟨v, rfl, hb1, ho1⟩ := hgr
      have HO1 := Lib.hid ho1
      clear ho1
      obtain ⟨i0, hi, hz0, hz1, hz2⟩ := info_parts info39
      have HI0 := Lib.hid hi; have HZ0 := Lib.hid hz0; have HZ1 := Lib.hid hz1; have HZ2 := Lib.hid hz2
      clear hi hz0 hz1 hz2 HT
      go_wp2
      go_loopw [6, 27] (fun o i wr => ∃ (k : Nat), k ≤ ps.length ∧ i = .int .i64 k ∧ wr.ownsRow w.heap.size 25 2 o (lens (ps.take k)) (allXs (ps.take k)) ∧ Below w.heap.size w wr) (fun _ i _ => ps.length - (intOf i).toNat)
      case atStart => exact ⟨0, Nat.zero_le _, rfl, HO1.out, hb1⟩
      case round =>
        obtain ⟨k, hkl, rfl, hown, hb⟩ := hrel
        by_cases hlt : k < ps.length
        · have hc := HC.out k hlt
          rw [← hb.cell (p := ⟨bS, k, none⟩) hbS] at hc
          have HS := Lib.hid (lens_snoc ps k hlt)
          have HX := Lib.hid (allXs_snoc ps k hlt)
          have hle := lens_take_le ps (k + 1)
          have hrd := (HR.out ps[k] (List.getElem_mem hlt)).below hb (Nat.le_refl _)
          have htot : lens (ps.take k) + ps[k].m ≤ 1000 := by have := HS.out; omega
          have HRD := Lib.hid hrd
          clear hle hrd
          have hmx : lens (ps.take k) + ps[k].m ≤ maxLen := by unfold maxLen; omega
          have hsw := hb.size
          go_wp2_with (at_builtin; refine wpList_append_own _ rfl _ _ 23 rfl w.heap.size 25 i0 (.agg #[.string .empty, .int .i64 0]) 2 24 Tryz.underlying23 HI0.out HZ0.out HZ1.out HZ2.out rfl (by decide) _ _ _ rfl hown ps[k].a ps[k].m ps[k].c ps[k].xs rfl HRD.out.1 HRD.out.2.2.1 HRD.out.2.2.2 hmx (by omega) hsw ?_)
          intro v' w4 hown' hgrow _
          have hb4 : Below w.heap.size w w4 := hb.grown hgrow hsw (own_lt hown)
          have HO4 : Hid (w4.ownsRow w.heap.size 25 2 v' (lens (ps.take (k + 1))) (allXs (ps.take (k + 1)))) := by rw [HS.out, HX.out]; exact hown'
          clear hown' hgrow hown hc hb
          go_wp2
          go_roundw
          case rel => exact ⟨k + 1, by omega, by go_num, HO4.out, hb4⟩
          case measure => simp [intOf]; omega
        · obtain rfl : k = ps.length := by omega
          rw [List.take_length] at hown
          go_wp2
          go_ret
          exact ⟨_, rfl, hb, hown⟩
end Go.Proofs.YtiihhilhiknckaaGreatDoor

import Derived.Test.YtnbnegkoanidmaaGreatDoorMsk
import Derived.OwnWalk
import Derived.Maps.AppendAt
import Derived.Deep.RegionLaw
import Derived.Outline
/-
  The contracts of cmp.Compare at ints, of the two function literals of impl.scarcestRow, of impl.tableOfCounts at supplies: each answers what the plain words here say and changes nothing that was there.
-/
namespace Go.Proofs.YtnbnegkoanidmaaGreatDoor.S1
open Go.RowKit
set_option linter.unusedVariables false

def cmpI (x y : Int) : Int := if x < y then -1 else if y < x then 1 else 0
theorem isNaN_any (x : Int) (w : World) : Calls Tryz.prog 67 #[.int .i64 x] w fun e w' => e = .returned (.bool false) ∧ w = w' := by
  have h : (x != x) = false := by simp
  go_enter Tryz.func67, Tryz.ntmps67
  go_wp2
  go_ret
  exact ⟨rfl, rfl⟩
theorem compare_any (x y : Int) (w : World) : Calls Tryz.prog 48 #[.int .i64 x, .int .i64 y] w fun e w' => e = .returned (.int .i64 (cmpI x y)) ∧ w = w' := by
  have HE : Hid (cmpI x y = if x < y then -1 else if y < x then 1 else 0) := Lib.hid rfl
  rcases (by omega : x < y ∨ (¬ x < y ∧ y < x) ∨ (¬ x < y ∧ ¬ y < x)) with h1 | ⟨h1, h2⟩ | ⟨h1, h2⟩
  all_goals
    go_enter Tryz.func48, Tryz.ntmps48
    go_wp2_with (go_at_call 67; refine (isNaN_any _ _).mono ?_; rintro e w' ⟨rfl, rfl⟩)
    go_ret
  · exact ⟨ret_int (by rw [HE.out, if_pos h1]), rfl⟩
  · exact ⟨ret_int (by rw [HE.out, if_neg (by omega), if_pos h2]), rfl⟩
  · exact ⟨ret_int (by rw [HE.out, if_neg (by omega), if_neg (by omega)]), rfl⟩

/-- A sort that is needed, its stock, its need. -/
structure Rw where
  i : Int
  s : Int
  n : Int
def flat3 (l : List Rw) : List Value := l.flatMap fun r => [.int .i64 r.i, .int .i64 r.s, .int .i64 r.n]
theorem flat3_len (l : List Rw) : (flat3 l).length = 3 * l.length := by
  induction l with
  | nil => rfl
  | cons x r ih => simp [flat3] at ih ⊢; omega
theorem flat3_snoc (l : List Rw) (x : Rw) : flat3 (l ++ [x]) = flat3 l ++ [.int .i64 x.i, .int .i64 x.s, .int .i64 x.n] := by simp [flat3]
theorem flat3_get : ∀ (l : List Rw) (k : Nat) (h : k < l.length), (flat3 l)[k * 3]? = some (.int .i64 l[k].i) ∧ (flat3 l)[k * 3 + 1]? = some (.int .i64 l[k].s) ∧ (flat3 l)[k * 3 + 2]? = some (.int .i64 l[k].n)
  | x :: r, 0, _ => ⟨rfl, rfl, rfl⟩
  | x :: r, k + 1, h => by
    have ih := flat3_get r k (by simpa using h)
    have e : flat3 (x :: r) = .int .i64 x.i :: .int .i64 x.s :: .int .i64 x.n :: flat3 r := rfl
    rw [e, show (k + 1) * 3 = k * 3 + 1 + 1 + 1 from by omega]
    simpa using ih
def supTo (N S : List Int) : Nat → List Rw
  | 0 => []
  | k + 1 => if N.getD k 0 = 0 then supTo N S k else supTo N S k ++ [⟨k, S.getD k 0, N.getD k 0⟩]
theorem supTo_len (N S : List Int) (k : Nat) : (supTo N S k).length ≤ k := by
  induction k with
  | zero => exact Nat.le_refl _
  | succ k ih =>
    simp only [supTo]
    split
    · omega
    · rw [List.length_append]; show _ + 1 ≤ _; omega
def RowsTo (w w' : World) (e : Ending) (rows : List Rw) : Prop := ∃ v, e = .returned v ∧ Below w.heap.size w w' ∧ w'.ownsRow w.heap.size 63 3 v rows.length (flat3 rows)
theorem infoBR : (Tryz.prog.info? 63).map (fun i => (i.zero, i.size, i.bytes)) = some (some (.agg #[.int .i64 0, .int .i64 0, .int .i64 0]), 3, 24) := by kernel_rfl

set_option maxRecDepth 100000 in
theorem lit1_any (i : Nat) (n : Int) (bs : Nat) (C : Option Addr) (S : List Int) (q : Nat) (w : World) (hS : w.cell? ⟨bs, 0, none⟩ = some (.slice C S.length q)) (hC : IntsIn w C S) (hi : i < S.length) (hs : S.length ≤ 1048576) :
    Calls Tryz.prog 51 #[.int .i64 (i : Int), .int .i64 n, .pointer (some ⟨bs, 0, none⟩)] w fun e w' => e = .returned (.agg #[.int .i64 S[i], .int .i64 n]) ∧ Below w.heap.size w w' := by
  obtain ⟨b, off, rfl, hbl, hc⟩ := hC (by omega)
  have hc0 := hc i hi
  have hbs := World.block_lt_of_cell? _ _ hS
  clear hc hC
  generalize S[i] = x at *
  go_enter Tryz.func51, Tryz.ntmps51
  go_wp2
  refine bodyPost_ret (v := .agg #[.int .i64 x, .int .i64 n]) (by simp [results, Tryz.results51, go_sem]) rfl ⟨rfl, ?_⟩
  repeat (first | (with_reducible exact Below.refl _ _) | (refine Below.setCell ?_ (by first | (simp; done) | (simp; omega)) _) | (refine Below.alloc ?_ (by first | (simp; done) | (simp; omega)) _))

set_option maxRecDepth 100000 in
theorem lit2_any (a b : Rw) (w : World) (ha : 0 ≤ a.s ∧ a.s ≤ 100000) (hb : 0 ≤ b.s ∧ b.s ≤ 100000) (ha' : 0 ≤ a.n ∧ a.n ≤ 640) (hb' : 0 ≤ b.n ∧ b.n ≤ 640) :
    Calls Tryz.prog 53 #[.agg #[.int .i64 a.i, .int .i64 a.s, .int .i64 a.n], .agg #[.int .i64 b.i, .int .i64 b.s, .int .i64 b.n]] w fun e w' => e = .returned (.int .i64 (cmpI (a.s * b.n) (b.s * a.n))) ∧ Below w.heap.size w w' := by
  obtain ⟨ai, ax, an⟩ := a
  obtain ⟨bi, bx, bn⟩ := b
  simp only at *
  have p0 := Int.mul_nonneg ha.1 hb'.1
  have p1 := Int.mul_le_mul ha.2 hb'.2 hb'.1 (by omega)
  have q0 := Int.mul_nonneg hb.1 ha'.1
  have q1 := Int.mul_le_mul hb.2 ha'.2 ha'.1 (by omega)
  simp only [Int.reduceMul] at p1 q1
  go_enter Tryz.func53, Tryz.ntmps53
  go_wp2_with fail
  refine (compare_any _ _ _).mono ?_
  rintro e w' ⟨rfl, rfl⟩
  go_wp2
  go_ret
  exact ⟨rfl, ((Below.refl _ _).alloc (Nat.le_refl _) _).alloc (by simp) _⟩

theorem news_three {a b c : Value} (w : World) {g : Nat} {t : TypeId} (h : w.heap[g]? = some (.cells #[a, b, c] t (0, 0))) : ∀ j u, [a, b, c][j]? = some u → w.cell? ((⟨g, 0, none⟩ : Addr).add j) = some u := by
  intro j u hu
  rw [show (⟨g, 0, none⟩ : Addr).add j = ⟨g, 0 + j, none⟩ from by unfold Addr.add; by_cases hk : j = 0 <;> simp [hk], Nat.zero_add, cell_of_heap h]
  simpa using hu

set_option maxRecDepth 100000 in
set_option maxHeartbeats 1000000 in
theorem tabOf_any (N S : List Int) (A C : Option Addr) (c q bs : Nat) (w : World) (hA : IntsIn w A N) (hS : w.cell? ⟨bs, 0, none⟩ = some (.slice C S.length q)) (hC : IntsIn w C S) (hn : N.length ≤ S.length) (hs : S.length ≤ 32) :
    Calls Tryz.prog 50 #[.slice A N.length c, .func (.func 51) #[] #[.pointer (some ⟨bs, 0, none⟩)]] w fun e w' => RowsTo w w' e (supTo N S N.length) := by
  have HA := Lib.hid hA; have HC := Lib.hid hC
  have HSC := Lib.hid hS
  have hbs : bs < w.heap.size := World.block_lt_of_cell? _ _ hS
  clear hA hC hS
  obtain ⟨i0, hi, hz0, hz1, hz2⟩ := info_parts infoBR
  have HI0 := Lib.hid hi; have HZ0 := Lib.hid hz0; have HZ1 := Lib.hid hz1; have HZ2 := Lib.hid hz2
  clear hi hz0 hz1 hz2
  go_enter Tryz.func50, Tryz.ntmps50
  go_wp2
  go_loopw [5, 10] (fun v i wr => ∃ (k : Nat), k ≤ N.length ∧ i = .int .i64 k ∧ wr.ownsRow w.heap.size 63 3 v (supTo N S k).length (flat3 (supTo N S k)) ∧ Below w.heap.size w wr) (fun _ i _ => N.length - (intOf i).toNat)
  case atStart => exact ⟨0, Nat.zero_le _, rfl, own_nil _ _ _ _, Below.refl _ _⟩
  case round =>
    obtain ⟨k, hk, rfl, hown, hb⟩ := hrel
    have HOWN := Lib.hid hown; clear hown
    have HBW := Lib.hid hb; clear hb
    by_cases hlt : k < N.length
    · obtain ⟨b, off, rfl, hbl, hc⟩ := HA.out (by omega)
      have hc0 := (HBW.out.cell (p := ⟨b, off + k, none⟩) hbl).trans (hc k hlt)
      clear hc
      have hkS : k < S.length := by omega
      have hSTEP : supTo N S (k + 1) = if N[k] = 0 then supTo N S k else supTo N S k ++ [⟨k, S[k], N[k]⟩] := by simp only [supTo]; rw [getD_of hlt, getD_of hkS]
      have HST := Lib.hid hSTEP; clear hSTEP
      have hSc := (HBW.out.cell (p := ⟨bs, 0, none⟩) hbs).trans HSC.out
      have HCw := Lib.hid (HC.out.below HBW.out (Nat.le_refl _))
      have hlen := supTo_len N S k
      generalize hx : N[k] = x at *
      by_cases hx0 : x = 0
      · have hxb : (x != 0) = false := by simp [hx0]
        have HE : Hid (supTo N S (k + 1) = supTo N S k) := Lib.hid (by rw [HST.out, if_pos hx0])
        clear hx0 hSc
        go_wp2
        go_roundw
        case rel => exact ⟨k + 1, by omega, by go_num, by rw [HE.out]; exact HOWN.out, HBW.out⟩
        case measure => simp [intOf]; omega
      · have hxb : (x != 0) = true := by simp [hx0]
        have HE : Hid (supTo N S (k + 1) = supTo N S k ++ [⟨k, S[k], x⟩]) := Lib.hid (by rw [HST.out, if_neg hx0])
        have HSC1 := Lib.hid hSc
        clear hx0 HST hSc
        go_wp2_with fail
        refine (lit1_any k x bs C S q _ HSC1.out HCw.out hkS (by omega)).mono ?_
        rintro e w3 ⟨rfl, hb3⟩
        have HB3 := Lib.hid (HBW.out.trans (hb3.mono HBW.out.size))
        have hownw := own_below HOWN.out hb3
        generalize S[k] = s at *
        have hmx : (supTo N S k).length + 1 ≤ maxLen := by unfold maxLen; omega
        have hsz := HB3.out.size
        clear hb3 HBW hc0
        go_wp2_with (at_builtin; refine wpList_append_own _ rfl _ _ 89 rfl w.heap.size 63 i0 (.agg #[.int .i64 0, .int .i64 0, .int .i64 0]) 3 24 Tryz.underlying89 HI0.out HZ0.out HZ1.out HZ2.out rfl (by decide) _ _ _ rfl (hownw.alloc _) ⟨w3.heap.size, 0, none⟩ 1 1 [.int .i64 (k : Int), .int .i64 s, .int .i64 x] rfl rfl (news_three _ (heap_new _ _)) (by simp [Value.oneCell']) hmx (by omega) (by simp; omega) ?_)
        intro v' w4 hown' hgrow _
        have HB1 : Hid (Below w.heap.size w w4) := Lib.hid ((HB3.out.alloc HB3.out.size _).grown hgrow (by simp; omega) (own_lt hownw))
        have HO3 : Hid (w4.ownsRow w.heap.size 63 3 v' (supTo N S (k + 1)).length (flat3 (supTo N S (k + 1)))) := Lib.hid (by
          rw [HE.out, flat3_snoc, List.length_append]; exact hown')
        clear hown' hgrow hownw HOWN HB3
        go_wp2
        go_roundw
        case rel => exact ⟨k + 1, by omega, by go_num, HO3.out, HB1.out⟩
        case measure => simp [intOf]; omega
    · obtain rfl : k = N.length := by omega
      go_wp2
      go_ret
      exact ⟨_, rfl, HBW.out, HOWN.out⟩
end Go.Proofs.YtnbnegkoanidmaaGreatDoor.S1

/-
  The contract of slices.MinFunc at supplies: it answers the first least row, and changes nothing that was there.
-/
namespace Go.Proofs.YtnbnegkoanidmaaGreatDoor.S1
open Go.RowKit
set_option linter.unusedVariables false

def r0 : Rw := ⟨0, 0, 0⟩
def pickR (x m : Rw) : Rw := if x.s * m.n < m.s * x.n then x else m
def minK (rows : List Rw) : Nat → Rw
  | 0 => rows.getD 0 r0
  | k + 1 => pickR (rows.getD (k + 1) r0) (minK rows k)
theorem rows_getD {l : List Rw} {k : Nat} (h : k < l.length) : l.getD k r0 = l[k] := by rw [List.getD_eq_getElem?_getD, List.getElem?_eq_getElem h]; rfl
def RwAt (w : World) (g : Nat) (r : Rw) : Prop := Own w g 63 [.int .i64 r.i, .int .i64 r.s, .int .i64 r.n]
theorem RwAt.cells {w : World} {g : Nat} {r : Rw} (h : RwAt w g r) : w.cell? ⟨g, 0, none⟩ = some (.int .i64 r.i) ∧ w.cell? ⟨g, 1, none⟩ = some (.int .i64 r.s) ∧ w.cell? ⟨g, 2, none⟩ = some (.int .i64 r.n) := ⟨Own.cell h 0, Own.cell h 1, Own.cell h 2⟩
theorem RwAt.next {w w' : World} {g : Nat} {r : Rw} (h : RwAt w g r) (hb : Below w.heap.size w w') : RwAt w' g r := Own.next h hb
theorem RwAt.put {w : World} {g : Nat} {r : Rw} (h : RwAt w g r) (x : Rw) : RwAt (((w.setCell ⟨g, 0, none⟩ (.int .i64 x.i)).setCell ⟨g, 1, none⟩ (.int .i64 x.s)).setCell ⟨g, 2, none⟩ (.int .i64 x.n)) g x := by
  have h1 := ((Own.set h 0 (.int .i64 x.i)).set 1 (.int .i64 x.s)).set 2 (.int .i64 x.n)
  exact h1
theorem own_new2 (w : World) (o : Obj) (t : TypeId) (l : List Value) : Own ((w.alloc o).alloc (.cells l.toArray t)) (w.heap.size + 1) t l := by
  unfold Own
  rw [show w.heap.size + 1 = (w.alloc o).heap.size from by simp]
  exact heap_new _ _
/-- The rows lie at block b. -/
def RowsAt (w : World) (b : Nat) (rows : List Rw) : Prop := b < w.heap.size ∧ ∀ k (h : k < rows.length), w.cell? ⟨b, k * 3, none⟩ = some (.int .i64 rows[k].i) ∧ w.cell? ⟨b, k * 3 + 1, none⟩ = some (.int .i64 rows[k].s) ∧ w.cell? ⟨b, k * 3 + 2, none⟩ = some (.int .i64 rows[k].n)
theorem RowsAt.below {w w' : World} {b B : Nat} {rows : List Rw} (h : RowsAt w b rows) (hb : Below B w w') (hB : b < B) : RowsAt w' b rows := by
  refine ⟨Nat.lt_of_lt_of_le h.1 hb.size, fun k hk => ?_⟩
  rw [hb.cell hB, hb.cell hB, hb.cell hB]
  exact h.2 k hk
theorem own_rows {w : World} {base n : Nat} {e : TypeId} {v : Value} {rows : List Rw} (h : w.ownsRow base e 3 v n (flat3 rows)) (h0 : 0 < rows.length) : ∃ b c, v = .slice (some ⟨b, 0, none⟩) rows.length c ∧ base ≤ b ∧ RowsAt w b rows := by
  have hn : n = rows.length := by have := h.1; rw [flat3_len] at this; omega
  subst hn
  rcases h.2 with ⟨rfl, h1⟩ | ⟨g, cap, cur, rfl, hg, hh, h1, h2, h3, h4⟩
  · omega
  · refine ⟨g, cap, rfl, hg, lt_of_heap hh, fun k hk => ?_⟩
    obtain ⟨g1, g2, g3⟩ := flat3_get rows k hk
    rw [h.cellAt (k * 3) (by omega), h.cellAt (k * 3 + 1) (by omega), h.cellAt (k * 3 + 2) (by omega)]
    exact ⟨g1, g2, g3⟩
theorem lit2_is (a b : Rw) (t : Int) (w : World) (ha : 0 ≤ a.s ∧ a.s ≤ 100000) (hb : 0 ≤ b.s ∧ b.s ≤ 100000) (ha' : 0 ≤ a.n ∧ a.n ≤ 640) (hb' : 0 ≤ b.n ∧ b.n ≤ 640) (h : Hid (cmpI (a.s * b.n) (b.s * a.n) = t)) :
    Calls Tryz.prog 53 #[.agg #[.int .i64 a.i, .int .i64 a.s, .int .i64 a.n], .agg #[.int .i64 b.i, .int .i64 b.s, .int .i64 b.n]] w fun e w' => e = .returned (.int .i64 t) ∧ Below w.heap.size w w' := by
  rw [← h.out]; exact lit2_any a b w ha hb ha' hb'

theorem minK_mem {rows : List Rw} : ∀ k, k < rows.length → minK rows k ∈ rows
  | 0, h => by simp only [minK]; rw [rows_getD h]; exact List.getElem_mem h
  | k + 1, h => by
    simp only [minK]
    unfold pickR
    split
    · rw [rows_getD h]; exact List.getElem_mem h
    · exact minK_mem k (by omega)
theorem minK_bound {rows : List Rw} (hb : ∀ r ∈ rows, (0 ≤ r.s ∧ r.s ≤ 100000) ∧ (0 ≤ r.n ∧ r.n ≤ 640)) (k : Nat) (h : k < rows.length) : (0 ≤ (minK rows k).s ∧ (minK rows k).s ≤ 100000) ∧ (0 ≤ (minK rows k).n ∧ (minK rows k).n ≤ 640) := hb _ (minK_mem k h)
set_option maxRecDepth 100000 in
set_option maxHeartbeats 1000000 in
theorem minFunc_any (rows : List Rw) (b c : Nat) (w : World) (hr : RowsAt w b rows) (h0 : 0 < rows.length) (hl : rows.length ≤ 32) (hb : ∀ r ∈ rows, (0 ≤ r.s ∧ r.s ≤ 100000) ∧ (0 ≤ r.n ∧ r.n ≤ 640)) :
    Calls Tryz.prog 52 #[.slice (some ⟨b, 0, none⟩) rows.length c, (.func (.func 53) #[] #[])] w fun e w' => e = .returned (.agg #[.int .i64 (minK rows (rows.length - 1)).i, .int .i64 (minK rows (rows.length - 1)).s, .int .i64 (minK rows (rows.length - 1)).n]) ∧ Below w.heap.size w w' := by
  have HR := Lib.hid hr
  have hbl := hr.1
  obtain ⟨c0, c1, c2⟩ := hr.2 0 h0
  simp only [Nat.zero_mul, Nat.zero_add] at c0 c1 c2
  have HB := Lib.hid hb
  have h1 : ¬ (rows.length : Int) < 1 := by omega
  clear hr hb
  go_enter Tryz.func52, Tryz.ntmps52
  go_wp2
  have HX : Hid (RwAt ((w.alloc (.cells #[.int .i64 0, .int .i64 0, .int .i64 0] 63)).alloc (.cells #[.int .i64 rows[0].i, .int .i64 rows[0].s, .int .i64 rows[0].n] 63)) w.heap.size r0) := Lib.hid (Own.alloc (heap_new _ _) _)
  have HM : Hid (RwAt ((w.alloc (.cells #[.int .i64 0, .int .i64 0, .int .i64 0] 63)).alloc (.cells #[.int .i64 rows[0].i, .int .i64 rows[0].s, .int .i64 rows[0].n] 63)) (w.heap.size + 1) (minK rows 0)) := Lib.hid (by
    have : minK rows 0 = rows[0] := by simp only [minK]; rw [rows_getD h0]
    rw [this]
    exact own_new2 _ _ _ _)
  have HA : Hid (Below w.heap.size w ((w.alloc (.cells #[.int .i64 0, .int .i64 0, .int .i64 0] 63)).alloc (.cells #[.int .i64 rows[0].i, .int .i64 rows[0].s, .int .i64 rows[0].n] 63))) := Lib.hid (((Below.refl _ _).alloc (Nat.le_refl _) _).alloc (by simp) _)
  clear c0 c1 c2
  obtain ⟨g, hg⟩ : ∃ g, g = w.heap.size := ⟨_, rfl⟩
  rw [← hg] at HX HM hbl ⊢
  have hgw : w.heap.size ≤ g := by omega
  clear hg
  go_loopw [6] (fun i wr => ∃ j k : Nat, j = k + 1 ∧ j ≤ rows.length ∧ i = .int .i64 (j : Int) ∧ RwAt wr g r0 ∧ RwAt wr (g + 1) (minK rows k) ∧ Below w.heap.size w wr) (fun i _ => rows.length - (intOf i).toNat)
  case atStart => exact ⟨1, 0, rfl, by omega, by simp, HX.out, HM.out, HA.out⟩
  case round =>
    obtain ⟨j, k, hjk, hk, rfl, hx, hm, hbw⟩ := hrel
    clear HX HM HA
    have HX := Lib.hid hx; have HM := Lib.hid hm; have HBW := Lib.hid hbw
    have HJK := Lib.hid hjk
    clear hx hm hbw
    obtain ⟨m, hm⟩ : ∃ m, m = minK rows k := ⟨_, rfl⟩
    rw [← hm] at HM
    have HMM := Lib.hid hm
    by_cases hlt : j < rows.length
    · obtain ⟨d0, d1, d2⟩ := HR.out.2 j hlt
      rw [← HBW.out.cell (p := ⟨b, j * 3, none⟩) HR.out.1] at d0
      rw [← HBW.out.cell (p := ⟨b, j * 3 + 1, none⟩) HR.out.1] at d1
      rw [← HBW.out.cell (p := ⟨b, j * 3 + 2, none⟩) HR.out.1] at d2
      obtain ⟨m0, m1, m2⟩ := HM.out.cells
      have hxb := HB.out _ (List.getElem_mem hlt)
      have hmb : (0 ≤ m.s ∧ m.s ≤ 100000) ∧ (0 ≤ m.n ∧ m.n ≤ 640) := by rw [hm]; exact minK_bound HB.out k (by omega)
      have hS : minK rows (k + 1) = pickR (rows.getD (k + 1) r0) (minK rows k) := rfl
      rw [← hjk, rows_getD hlt, ← hm] at hS
      have HST := Lib.hid hS; clear hS
      generalize rows[j] = x at *
      have hbw1 : b < wr.heap.size := Nat.lt_of_lt_of_le HR.out.1 HBW.out.size
      have hgw1 : g + 1 < wr.heap.size := HM.out.lt
      have x0 := KeptW.cell d0 hbw1
      have x1 := KeptW.cell d1 hbw1
      have x2 := KeptW.cell d2 hbw1
      have y0 := KeptW.cell m0 hgw1
      have y1 := KeptW.cell m1 hgw1
      have y2 := KeptW.cell m2 hgw1
      clear d0 d1 d2 m0 m1 m2 hjk hm
      have hj1 : (j : Int) < (rows.length : Int) := by omega
      have hj0 : (0 : Int) ≤ (j : Int) := by omega
      obtain ⟨q, hq⟩ : ∃ q, cmpI (x.s * m.n) (m.s * x.n) = q := ⟨_, rfl⟩
      have HQ := Lib.hid hq
      by_cases hls : x.s * m.n < m.s * x.n
      · have hqn : q < 0 := by rw [← hq]; unfold cmpI; rw [if_pos hls]; omega
        have HE : Hid (minK rows j = x) := Lib.hid (by rw [HST.out]; unfold pickR; rw [if_pos hls])
        clear hq hls HST
        go_wp2_with fail
        refine region_kept wr.heap.size (by kernel_rfl) (by kernel_rfl) ?_
        repeat (go_big_quiet_step (fail))
        go_big_quiet_step ((go_at_call 53; exact kept_call _ (Nat.le_refl _) (lit2_is x m q _ hxb.1 hmb.1 hxb.2 hmb.2 HQ)))
        repeat (go_big_quiet_step (fail))
        refine wpQuiet_nil ?_
        intro w1 hb1
        have HB1 := Lib.hid (HBW.out.trans (hb1.mono HBW.out.size))
        have HX1 := Lib.hid (HX.out.next hb1)
        have HM1 := Lib.hid (HM.out.next hb1)
        have d0' := x0 ⟨w1, hb1⟩
        have d1' := x1 ⟨w1, hb1⟩
        have d2' := x2 ⟨w1, hb1⟩
        simp only at d0' d1' d2'
        obtain ⟨m0, m1, m2⟩ := HM1.out.cells
        have mf0 := Own.free HM1.out 0; have mf1 := Own.free HM1.out 1; have mf2 := Own.free HM1.out 2
        have HM2 : Hid (RwAt (((w1.setCell ⟨g + 1, 0, none⟩ (.int .i64 x.i)).setCell ⟨g + 1, 1, none⟩ (.int .i64 x.s)).setCell ⟨g + 1, 2, none⟩ (.int .i64 x.n)) (g + 1) (minK rows j)) := Lib.hid (by rw [HE.out]; exact HM1.out.put x)
        have HX2 : Hid (RwAt (((w1.setCell ⟨g + 1, 0, none⟩ (.int .i64 x.i)).setCell ⟨g + 1, 1, none⟩ (.int .i64 x.s)).setCell ⟨g + 1, 2, none⟩ (.int .i64 x.n)) g r0) := Lib.hid (((Own.other HX1.out (p := ⟨g + 1, 0, none⟩) (by show g ≠ g + 1; omega) _).other (p := ⟨g + 1, 1, none⟩) (by show g ≠ g + 1; omega) _).other (p := ⟨g + 1, 2, none⟩) (by show g ≠ g + 1; omega) _)
        have HB2 := Lib.hid (((HB1.out.setCell (p := ⟨g + 1, 0, none⟩) (by show w.heap.size ≤ g + 1; omega) (.int .i64 x.i)).setCell (p := ⟨g + 1, 1, none⟩) (by show w.heap.size ≤ g + 1; omega) (.int .i64 x.s)).setCell (p := ⟨g + 1, 2, none⟩) (by show w.heap.size ≤ g + 1; omega) (.int .i64 x.n))
        clear x0 x1 x2 y0 y1 y2 hb1
        go_wp2
        go_roundw
        case rel => exact ⟨j + 1, j, rfl, by omega, by go_num, HX2.out, HM2.out, HB2.out⟩
        case measure => simp [intOf]; omega
      · have hqn : ¬ q < 0 := by rw [← hq]; unfold cmpI; rw [if_neg hls]; split <;> omega
        have HE : Hid (minK rows j = m) := Lib.hid (by rw [HST.out]; unfold pickR; rw [if_neg hls])
        clear hq hls HST
        go_wp2_with fail
        refine region_kept wr.heap.size (by kernel_rfl) (by kernel_rfl) ?_
        repeat (go_big_quiet_step (fail))
        go_big_quiet_step ((go_at_call 53; exact kept_call _ (Nat.le_refl _) (lit2_is x m q _ hxb.1 hmb.1 hxb.2 hmb.2 HQ)))
        repeat (go_big_quiet_step (fail))
        refine wpQuiet_nil ?_
        intro w1 hb1
        have HB1 := Lib.hid (HBW.out.trans (hb1.mono HBW.out.size))
        have HX1 := Lib.hid (HX.out.next hb1)
        have HM1 : Hid (RwAt w1 (g + 1) (minK rows j)) := Lib.hid (by rw [HE.out]; exact HM.out.next hb1)
        clear x0 x1 x2 y0 y1 y2 hb1
        go_wp2
        go_roundw
        case rel => exact ⟨j + 1, j, rfl, by omega, by go_num, HX1.out, HM1.out, HB1.out⟩
        case measure => simp [intOf]; omega
    · obtain rfl : j = rows.length := by omega
      have HE : Hid (m = minK rows (rows.length - 1)) := Lib.hid (by rw [hm]; congr 1; omega)
      obtain ⟨m0, m1, m2⟩ := HM.out.cells
      obtain ⟨e0, e1, e2⟩ := HX.out.cells
      have f0 := Own.free HX.out 0; have f1 := Own.free HX.out 1; have f2 := Own.free HX.out 2
      clear hm hjk
      go_wp2
      refine bodyPost_ret (v := .agg #[.int .i64 m.i, .int .i64 m.s, .int .i64 m.n]) (by simp [results, Tryz.results52, go_sem, e0, e1, e2]) rfl ⟨by rw [← HE.out], ?_⟩
      repeat (first | (with_reducible exact HBW.out) | (refine Below.setCell ?_ (by first | (simp; done) | (simp; omega)) _))
end Go.Proofs.YtnbnegkoanidmaaGreatDoor.S1

/-
  The contracts of impl.scarcestRow and of TimesToSet, ScarcestSort, in spec and in impl: each answers what the plain words here say and changes nothing that was there.
-/
namespace Go.Proofs.YtnbnegkoanidmaaGreatDoor.S1
open Go.RowKit
set_option linter.unusedVariables false

theorem setF_pos {f : List (ByteArray × Int)} {s : ByteArray} {n p : Nat} {l : List Nat} (hp : p < s.size) (h : setF f s n p = some l) : l ≠ [] := by
  cases n with
  | zero => simp only [setF] at h; rw [if_neg (by omega)] at h; cases h
  | succ n =>
    simp only [setF] at h
    rw [if_neg (by omega)] at h
    split at h
    · cases h
    · cases hr : setF f s n (p + (codeAt f _).length) with
      | none => rw [hr] at h; cases h
      | some m => rw [hr] at h; simp at h; subst h; simp
theorem need_pos {f : List (ByteArray × Int)} {ws : List ByteArray} (h : copyB f ws = true) (h0 : 0 < ws.length) : ∃ i, i < f.length ∧ (needF f ws).getD i 0 ≠ 0 := by
  obtain ⟨hF, hw, hc⟩ := copy_parts h
  have h1 := canB_at h0 hc
  have h2 := isWord_len (words_isWord hw h0)
  have h3 : sg f ws[0] ≠ [] := setF_pos (p := 0) (by omega) h1
  obtain ⟨i, r, hr⟩ := List.exists_cons_of_ne_nil h3
  have hm : i ∈ sg f ws[0] := by rw [hr]; simp
  have hi := sg_mem i hm
  refine ⟨i, hi, ?_⟩
  rw [getD_of (by rw [needF_len]; exact hi)]
  unfold needF
  rw [cntL_get]
  have hmem : i ∈ flS f ws := List.mem_flatMap.2 ⟨ws[0], List.getElem_mem h0, hm⟩
  have := List.count_pos_iff.2 hmem
  omega
theorem supTo_pos {N S : List Int} {i : Nat} (hi : N.getD i 0 ≠ 0) : ∀ k, i < k → 0 < (supTo N S k).length
  | 0, h => by omega
  | k + 1, h => by
    simp only [supTo]
    by_cases hk : N.getD k 0 = 0
    · rw [if_pos hk]
      refine supTo_pos hi k ?_
      rcases Nat.lt_or_ge i k with h1 | h1
      · exact h1
      · obtain rfl : i = k := by omega
        exact absurd hk hi
    · rw [if_neg hk]; simp
theorem supTo_zero {N S : List Int} : ∀ k, (∀ i, i < k → N.getD i 0 = 0) → supTo N S k = []
  | 0, _ => rfl
  | k + 1, h => by
    simp only [supTo]
    rw [if_pos (h k (by omega))]
    exact supTo_zero k fun i hi => h i (by omega)
theorem supTo_mem {N S : List Int} {r : Rw} : ∀ k, r ∈ supTo N S k → ∃ i : Nat, i < k ∧ r.i = (i : Int) ∧ r.s = S.getD i 0 ∧ r.n = N.getD i 0 ∧ N.getD i 0 ≠ 0
  | 0, h => by simp [supTo] at h
  | k + 1, h => by
    simp only [supTo] at h
    by_cases hk : N.getD k 0 = 0
    · rw [if_pos hk] at h
      obtain ⟨i, h1, h2⟩ := supTo_mem k h
      exact ⟨i, by omega, h2⟩
    · rw [if_neg hk] at h
      rcases List.mem_append.1 h with h | h
      · obtain ⟨i, h1, h2⟩ := supTo_mem k h
        exact ⟨i, by omega, h2⟩
      · simp at h; subst h
        exact ⟨k, by omega, rfl, rfl, rfl, hk⟩
/-- The first least row, if there is one. -/
def lastMin (rows : List Rw) : Option Rw := if 0 < rows.length then some (minK rows (rows.length - 1)) else none
theorem minK_append (a b : List Rw) : ∀ k, k < a.length → minK (a ++ b) k = minK a k
  | 0, h => by simp only [minK]; rw [rows_getD h, rows_getD (by simp; omega), List.getElem_append_left h]
  | k + 1, h => by simp only [minK]; rw [minK_append a b k (by omega), rows_getD h, rows_getD (by simp; omega), List.getElem_append_left h]
def newM : Option Rw → Rw → Rw | none, x => x | some m, x => pickR x m
theorem lastMin_nil : lastMin [] = none := rfl
theorem lastMin_snoc (rows : List Rw) (x : Rw) : lastMin (rows ++ [x]) = some (newM (lastMin rows) x) := by
  unfold lastMin
  rw [if_pos (by simp), List.length_append]
  congr 1
  by_cases h : 0 < rows.length
  · rw [if_pos h]
    show minK (rows ++ [x]) (rows.length + 1 - 1) = _
    obtain ⟨n, hn⟩ : ∃ n, rows.length = n + 1 := ⟨rows.length - 1, by omega⟩
    rw [show rows.length + 1 - 1 = n + 1 from by omega, show rows.length - 1 = n from by omega]
    simp only [minK]
    rw [minK_append _ _ n (by omega), rows_getD (by simp; omega), List.getElem_append_right (by omega)]
    simp [hn, newM]
  · rw [if_neg h]
    obtain rfl : rows = [] := List.eq_nil_of_length_eq_zero (by omega)
    rfl
theorem lastMin_some {rows : List Rw} (h : 0 < rows.length) : lastMin rows = some (minK rows (rows.length - 1)) := by unfold lastMin; rw [if_pos h]
theorem lastMin_mem {rows : List Rw} {m : Rw} (h : lastMin rows = some m) : m ∈ rows := by
  unfold lastMin at h
  split at h
  · injection h with h; subst h; exact minK_mem _ (by omega)
  · cases h
theorem sup_step {N S : List Int} {k : Nat} (h1 : k < N.length) (h2 : k < S.length) : lastMin (supTo N S (k + 1)) = if N[k] = 0 then lastMin (supTo N S k) else some (newM (lastMin (supTo N S k)) ⟨k, S[k], N[k]⟩) := by
  simp only [supTo]
  rw [getD_of h1, getD_of h2]
  split
  · rfl
  · rw [lastMin_snoc]

noncomputable def scR (f : List (ByteArray × Int)) (st : List Int) (ws : List ByteArray) : Option Rw := if askB f st ws && decide (0 < ws.length) then lastMin (supTo (needF f ws) st (needF f ws).length) else none
theorem sc_no {f : List (ByteArray × Int)} {st : List Int} {ws : List ByteArray} (h : askB f st ws = false ∨ ¬ 0 < ws.length) : scR f st ws = none := by
  unfold scR; rcases h with h | h <;> simp [h]
theorem sc_yes {f : List (ByteArray × Int)} {st : List Int} {ws : List ByteArray} (h : askB f st ws = true) (h0 : 0 < ws.length) : scR f st ws = lastMin (supTo (needF f ws) st (needF f ws).length) := by
  unfold scR; simp [h, h0]
/-- Without a word nothing is needed. -/
theorem need_none {f : List (ByteArray × Int)} {ws : List ByteArray} (h : ¬ 0 < ws.length) (S : List Int) : lastMin (supTo (needF f ws) S (needF f ws).length) = none := by
  obtain rfl : ws = [] := List.eq_nil_of_length_eq_zero (by omega)
  rw [supTo_zero]
  · rfl
  · intro i hi
    rw [getD_of hi]
    have h := cntL_get (n := f.length) (L := flS f []) (i := i) hi
    exact h.trans (by simp [flS])
theorem sup_bound {f : List (ByteArray × Int)} {st : List Int} {ws : List ByteArray} (h : askB f st ws = true) : ∀ r ∈ supTo (needF f ws) st (needF f ws).length, (0 ≤ r.s ∧ r.s ≤ 100000) ∧ (0 ≤ r.n ∧ r.n ≤ 640) := by
  intro r hr
  obtain ⟨h1, h2, _, _, h3, h4⟩ := need_stock h
  obtain ⟨i, hi, _, e1, e2, _⟩ := supTo_mem _ hr
  have hs : i < st.length := by omega
  rw [e1, e2, getD_of hi, getD_of hs]
  exact ⟨allB_at hs h4, h3 i hi⟩
theorem sc_bound {f : List (ByteArray × Int)} {st : List Int} {ws : List ByteArray} {m : Rw} (h : scR f st ws = some m) : (0 ≤ m.s ∧ m.s ≤ 100000) ∧ (1 ≤ m.n ∧ m.n ≤ 640) := by
  unfold scR at h
  split at h
  · rename_i ha
    simp only [Bool.and_eq_true] at ha
    have hm := lastMin_mem h
    have hb := sup_bound ha.1 m hm
    obtain ⟨i, _, _, _, e2, hne⟩ := supTo_mem _ hm
    have : m.n ≠ 0 := by rw [e2]; exact hne
    omega
  · cases h
def ScTo (w w' : World) (e : Ending) (r : Option Rw) : Prop := e = .returned (.tuple #[.agg #[.int .i64 (r.getD r0).i, .int .i64 (r.getD r0).s, .int .i64 (r.getD r0).n], .bool r.isSome]) ∧ Below w.heap.size w w'

set_option maxRecDepth 100000 in
set_option maxHeartbeats 1000000 in
theorem scarcestRow_any (f : List (ByteArray × Int)) (A : Option Addr) (c : Nat) (st : List Int) (C : Option Addr) (q : Nat) (ws : List ByteArray) (B : Option Addr) (d : Nat) (lo : Nat) (w : World) (hf : SortsIn w lo A f) (hn : f.length ≤ 1048576) (ho : CodesOk f) (hi : IntsIn w C st) (hq : st.length ≤ 1048576) (hg : StrsIn w B ws) (ho' : StrsOk ws) (hm : ws.length ≤ 1048576) :
    Calls Tryz.prog 27 #[.slice A f.length c, .slice C st.length q, .slice B ws.length d] w fun e w' => ScTo w w' e (scR f st ws) := by
  obtain ⟨w0, hw0⟩ : ∃ x : World, x = (w.alloc (.cells #[.slice C st.length q] 23)).alloc (.cells #[.int .i64 0, .int .i64 0, .int .i64 0] 63) := ⟨_, rfl⟩
  have HA0 : Hid (Below w.heap.size w w0) := Lib.hid (by rw [hw0]; exact ((Below.refl _ _).alloc (Nat.le_refl _) _).alloc (by simp) _)
  have HBX : Hid (Own w0 w.heap.size 23 [.slice C st.length q]) := Lib.hid (by rw [hw0]; exact Own.alloc (heap_new _ _) _)
  have HRW : Hid (RwAt w0 (w.heap.size + 1) r0) := Lib.hid (by rw [hw0]; exact own_new2 _ _ _ _)
  have HF0 := Lib.hid (hf.below HA0.out (Nat.le_refl _))
  have HG0 := Lib.hid (hg.below HA0.out (Nat.le_refl _))
  have HC0 := Lib.hid (hi.below HA0.out (Nat.le_refl _))
  have HW0 := Lib.hid hw0
  clear hw0 hf hg hi
  go_enter Tryz.func27, Tryz.ntmps27
  go_wp2_with fail
  rw [← HW0.out]
  refine (implCount_any f A c ws B d lo _ HF0.out hn ho HG0.out ho' hm).mono ?_
  intro e w1 hto
  clear ho ho'
  cases hcp : copyB f ws
  · obtain ⟨v, rfl, hb1⟩ := hto.none (need_no hcp)
    have HN := Lib.hid (sc_no (ws := ws) (.inl (askB_no (st := st) (.inl hcp))))
    have HB1 := Lib.hid (HA0.out.trans (hb1.mono HA0.out.size))
    have HR1 := Lib.hid (HRW.out.next hb1)
    obtain ⟨e0, e1, e2⟩ := HR1.out.cells
    have f0 := Own.free HR1.out 0; have f1 := Own.free HR1.out 1; have f2 := Own.free HR1.out 2
    clear hcp hto hb1
    go_wp2
    refine bodyPost_ret (v := .tuple #[.agg #[.int .i64 r0.i, .int .i64 r0.s, .int .i64 r0.n], .bool false]) (by simp [results, Tryz.results27, go_sem, r0, e0, e1, e2]) rfl ⟨by rw [HN.out]; rfl, ?_⟩
    repeat (first | (with_reducible exact HB1.out) | (refine Below.setCell ?_ (by first | (simp; done) | (simp; omega)) _))
  obtain ⟨A2, c2, rfl, hb1, ho2⟩ := hto.some (need_yes hcp)
  have HB1 := Lib.hid (HA0.out.trans (hb1.mono HA0.out.size))
  have HR1 := Lib.hid (HRW.out.next hb1)
  have HX1 := Lib.hid (HBX.out.next hb1)
  have HC1 := Lib.hid (HC0.out.below hb1 (Nat.le_refl _))
  have HI := Lib.hid (own_in ho2)
  have HCPY := Lib.hid hcp
  have HGT : Hid (w.heap.size + 1 < w1.heap.size) := Lib.hid HR1.out.lt
  clear hto hb1 ho2 hcp HA0 HBX HRW HF0 HG0 HC0 HW0
  have hbx : w1.cell? ⟨w.heap.size, 0, none⟩ = some (.slice C st.length q) := HX1.out.cell 0
  have hbxl := HX1.out.lt
  cases hsk : stockB f st
  · have HN := Lib.hid (sc_no (ws := ws) (.inl (askB_no (ws := ws) (.inr hsk))))
    have HK := Lib.hid hsk; clear hsk
    obtain ⟨e0, e1, e2⟩ := HR1.out.cells
    have f0 := Own.free HR1.out 0; have f1 := Own.free HR1.out 1; have f2 := Own.free HR1.out 2
    go_wp2_with fail
    refine (implStock_is f A c st C q false _ HC1.out hn hq HK).mono ?_
    rintro e w2 ⟨rfl, rfl⟩
    go_wp2
    refine bodyPost_ret (v := .tuple #[.agg #[.int .i64 r0.i, .int .i64 r0.s, .int .i64 r0.n], .bool false]) (by simp [results, Tryz.results27, go_sem, r0, e0, e1, e2]) rfl ⟨by rw [HN.out]; rfl, ?_⟩
    repeat (first | (with_reducible exact HB1.out) | (refine Below.setCell ?_ (by first | (simp; done) | (simp; omega)) _))
  have HV : Hid (askB f st ws = true) := Lib.hid (by unfold askB; rw [HCPY.out, hsk]; rfl)
  have HK := Lib.hid hsk; clear hsk
  by_cases h0 : 0 < ws.length
  rotate_left
  · have HN := Lib.hid (sc_no (f := f) (st := st) (ws := ws) (.inr h0))
    have hz : ((ws.length : Int) == 0) = true := by rw [beq_iff_eq]; omega
    obtain ⟨e0, e1, e2⟩ := HR1.out.cells
    have f0 := Own.free HR1.out 0; have f1 := Own.free HR1.out 1; have f2 := Own.free HR1.out 2
    go_wp2_with fail
    refine (implStock_is f A c st C q true _ HC1.out hn hq HK).mono ?_
    rintro e w2 ⟨rfl, rfl⟩
    go_wp2
    refine bodyPost_ret (v := .tuple #[.agg #[.int .i64 r0.i, .int .i64 r0.s, .int .i64 r0.n], .bool false]) (by simp [results, Tryz.results27, go_sem, r0, e0, e1, e2]) rfl ⟨by rw [HN.out]; rfl, ?_⟩
    repeat (first | (with_reducible exact HB1.out) | (refine Below.setCell ?_ (by first | (simp; done) | (simp; omega)) _))
  have hz : ((ws.length : Int) == 0) = false := by rw [beq_eq_false_iff_ne]; omega
  have HSC := Lib.hid (sc_yes HV.out h0)
  obtain ⟨hNl, hSl, h32, h1l, hNb, hSb⟩ := need_stock HV.out
  have HPOS : Hid (0 < (supTo (needF f ws) st (needF f ws).length).length) := Lib.hid (by
    obtain ⟨i, hi, hne⟩ := need_pos HCPY.out h0
    exact supTo_pos hne _ (by omega))
  have HSB := Lib.hid (sup_bound HV.out)
  have hlen := supTo_len (needF f ws) st (needF f ws).length
  have hNs : (needF f ws).length ≤ st.length := by omega
  have hs32 : st.length ≤ 32 := by omega
  have hN32 : (needF f ws).length ≤ 32 := by omega
  clear hNb hSb hNl hSl
  go_wp2_with fail
  refine (implStock_is f A c st C q true _ HC1.out hn hq HK).mono ?_
  rintro e w2 ⟨rfl, rfl⟩
  obtain ⟨N, hN⟩ : ∃ N, N = needF f ws := ⟨_, rfl⟩
  rw [← hN] at HI HSC HPOS HSB hlen hNs hN32 ⊢
  clear hN
  go_wp2_with fail
  refine (tabOf_any N st A2 C _ q _ _ HI.out hbx HC1.out hNs hs32).mono ?_
  rintro e w3 ⟨v, rfl, hb3, ho3⟩
  obtain ⟨b, c3, rfl, hb0, hra⟩ := own_rows ho3 HPOS.out
  have HB3 := Lib.hid (HB1.out.trans (hb3.mono HB1.out.size))
  have HR3 := Lib.hid (HR1.out.next hb3)
  have HRA := Lib.hid hra
  have HLM := Lib.hid (HSC.out.trans (lastMin_some HPOS.out))
  clear hb3 ho3 hra hbx hbxl HX1 HR1 HB1 HC1 HI
  obtain ⟨rows, hrows⟩ : ∃ rows, rows = supTo N st N.length := ⟨_, rfl⟩
  rw [← hrows] at HRA HPOS HSB hlen HLM ⊢
  clear hrows HSC
  go_wp2_with fail
  refine (minFunc_any rows b c3 _ HRA.out HPOS.out (by omega) HSB.out).mono ?_
  rintro e w4 ⟨rfl, hb4⟩
  have HB4 := Lib.hid (HB3.out.trans (hb4.mono HB3.out.size))
  have HR4 := Lib.hid (HR3.out.next hb4)
  obtain ⟨e0, e1, e2⟩ := HR4.out.cells
  have f0 := Own.free HR4.out 0; have f1 := Own.free HR4.out 1; have f2 := Own.free HR4.out 2
  generalize minK rows (rows.length - 1) = m at *
  clear hb4
  go_wp2
  refine bodyPost_ret (v := .tuple #[.agg #[.int .i64 m.i, .int .i64 m.s, .int .i64 m.n], .bool true]) (by simp [results, Tryz.results27, go_sem, e0, e1, e2]) rfl ⟨by rw [HLM.out]; rfl, ?_⟩
  repeat (first | (with_reducible exact HB4.out) | (refine Below.setCell ?_ (by first | (simp; done) | (simp; omega)) _))
end Go.Proofs.YtnbnegkoanidmaaGreatDoor.S1

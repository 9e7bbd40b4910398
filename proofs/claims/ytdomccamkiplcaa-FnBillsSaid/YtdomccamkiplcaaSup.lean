/-
  The contracts of cmp.Compare at ints, of the two function literals of impl.scarcestRow, of impl.tableOfCounts at supplies: each answers what the plain words here say and changes nothing that was there.
-/
import Derived.Test.YtdomccamkiplcaaEnf
import Derived.OwnWalk
import Derived.Maps.AppendAt
import Derived.Deep.RegionLaw
namespace Go.Proofs.Ytdomccamkiplcaa
open Go.RowKit
set_option linter.unusedVariables false

def cmpI (x y : Int) : Int := if x < y then -1 else if y < x then 1 else 0
theorem isNaN_any (x : Int) (w : World) : Calls Try.prog 97 #[.int .i64 x] w fun e w' => e = .returned (.bool false) ∧ w = w' := by
  have h : (x != x) = false := by simp
  go_enter Try.func97, Try.ntmps97
  go_wp2
  go_ret
  exact ⟨rfl, rfl⟩
theorem compare_any (x y : Int) (w : World) : Calls Try.prog 81 #[.int .i64 x, .int .i64 y] w fun e w' => e = .returned (.int .i64 (cmpI x y)) ∧ w = w' := by
  have HE : Hid (cmpI x y = if x < y then -1 else if y < x then 1 else 0) := Lib.hid rfl
  rcases (by omega : x < y ∨ (¬ x < y ∧ y < x) ∨ (¬ x < y ∧ ¬ y < x)) with h1 | ⟨h1, h2⟩ | ⟨h1, h2⟩
  all_goals
    go_enter Try.func81, Try.ntmps81
    go_wp2_with (go_at_call 97; refine (isNaN_any _ _).mono ?_; rintro e w' ⟨rfl, rfl⟩)
    go_ret
  · exact ⟨ret_int (by rw [HE.out, if_pos h1]), rfl⟩
  · exact ⟨ret_int (by rw [HE.out, if_neg (by omega), if_pos h2]), rfl⟩
  · exact ⟨ret_int (by rw [HE.out, if_neg (by omega), if_neg (by omega)]), rfl⟩

/-- A sort that is needed, its stock, its need. -/
structure Rw where
  i : Int
  s : Int
  n : Int
def flat3 (l : List Rw) : List Value := l.flatMap fun r => [.int .i64 r.i, .int .i64 r.s, .int .i64 r.n]
theorem flat3_len (l : List Rw) : (flat3 l).length = 3 * l.length := by
  induction l with
  | nil => rfl
  | cons x r ih => simp [flat3] at ih ⊢; omega
theorem flat3_snoc (l : List Rw) (x : Rw) : flat3 (l ++ [x]) = flat3 l ++ [.int .i64 x.i, .int .i64 x.s, .int .i64 x.n] := by simp [flat3]
theorem flat3_get : ∀ (l : List Rw) (k : Nat) (h : k < l.length), (flat3 l)[k * 3]? = some (.int .i64 l[k].i) ∧ (flat3 l)[k * 3 + 1]? = some (.int .i64 l[k].s) ∧ (flat3 l)[k * 3 + 2]? = some (.int .i64 l[k].n)
  | x :: r, 0, _ => ⟨rfl, rfl, rfl⟩
  | x :: r, k + 1, h => by
    have ih := flat3_get r k (by simpa using h)
    have e : flat3 (x :: r) = .int .i64 x.i :: .int .i64 x.s :: .int .i64 x.n :: flat3 r := rfl
    rw [e, show (k + 1) * 3 = k * 3 + 1 + 1 + 1 from by omega]
    simpa using ih
def supTo (N S : List Int) : Nat → List Rw
  | 0 => []
  | k + 1 => if N.getD k 0 = 0 then supTo N S k else supTo N S k ++ [⟨k, S.getD k 0, N.getD k 0⟩]
theorem supTo_len (N S : List Int) (k : Nat) : (supTo N S k).length ≤ k := by
  induction k with
  | zero => exact Nat.le_refl _
  | succ k ih =>
    simp only [supTo]
    split
    · omega
    · rw [List.length_append]; show _ + 1 ≤ _; omega
def RowsTo (w w' : World) (e : Ending) (rows : List Rw) : Prop := ∃ v, e = .returned v ∧ Below w.heap.size w w' ∧ w'.ownsRow w.heap.size 69 3 v rows.length (flat3 rows)
theorem infoBR : (Try.prog.info? 69).map (fun i => (i.zero, i.size, i.bytes)) = some (some (.agg #[.int .i64 0, .int .i64 0, .int .i64 0]), 3, 24) := by kernel_rfl

set_option maxRecDepth 100000 in
theorem lit1_any (i : Nat) (n : Int) (bs : Nat) (C : Option Addr) (S : List Int) (q : Nat) (w : World) (hS : w.cell? ⟨bs, 0, none⟩ = some (.slice C S.length q)) (hC : IntsIn w C S) (hi : i < S.length) (hs : S.length ≤ 1048576) :
    Calls Try.prog 78 #[.int .i64 (i : Int), .int .i64 n, .pointer (some ⟨bs, 0, none⟩)] w fun e w' => e = .returned (.agg #[.int .i64 S[i], .int .i64 n]) ∧ Below w.heap.size w w' := by
  obtain ⟨b, off, rfl, hbl, hc⟩ := hC (by omega)
  have hc0 := hc i hi
  have hbs := World.block_lt_of_cell? _ _ hS
  clear hc hC
  generalize S[i] = x at *
  go_enter Try.func78, Try.ntmps78
  go_wp2
  refine bodyPost_ret (v := .agg #[.int .i64 x, .int .i64 n]) (by simp [results, Try.results78, go_sem]) rfl ⟨rfl, ?_⟩
  repeat (first | (with_reducible exact Below.refl _ _) | (refine Below.setCell ?_ (by first | (simp; done) | (simp; omega)) _) | (refine Below.alloc ?_ (by first | (simp; done) | (simp; omega)) _))

set_option maxRecDepth 100000 in
theorem lit2_any (a b : Rw) (w : World) (ha : 0 ≤ a.s ∧ a.s ≤ 100000) (hb : 0 ≤ b.s ∧ b.s ≤ 100000) (ha' : 0 ≤ a.n ∧ a.n ≤ 640) (hb' : 0 ≤ b.n ∧ b.n ≤ 640) :
    Calls Try.prog 80 #[.agg #[.int .i64 a.i, .int .i64 a.s, .int .i64 a.n], .agg #[.int .i64 b.i, .int .i64 b.s, .int .i64 b.n]] w fun e w' => e = .returned (.int .i64 (cmpI (a.s * b.n) (b.s * a.n))) ∧ Below w.heap.size w w' := by
  obtain ⟨ai, ax, an⟩ := a
  obtain ⟨bi, bx, bn⟩ := b
  simp only at *
  have p0 := Int.mul_nonneg ha.1 hb'.1
  have p1 := Int.mul_le_mul ha.2 hb'.2 hb'.1 (by omega)
  have q0 := Int.mul_nonneg hb.1 ha'.1
  have q1 := Int.mul_le_mul hb.2 ha'.2 ha'.1 (by omega)
  simp only [Int.reduceMul] at p1 q1
  go_enter Try.func80, Try.ntmps80
  go_wp2_with fail
  refine (compare_any _ _ _).mono ?_
  rintro e w' ⟨rfl, rfl⟩
  go_wp2
  go_ret
  exact ⟨rfl, ((Below.refl _ _).alloc (Nat.le_refl _) _).alloc (by simp) _⟩

theorem news_three {a b c : Value} (w : World) {g : Nat} {t : TypeId} (h : w.heap[g]? = some (.cells #[a, b, c] t (0, 0))) : ∀ j u, [a, b, c][j]? = some u → w.cell? ((⟨g, 0, none⟩ : Addr).add j) = some u := by
  intro j u hu
  rw [show (⟨g, 0, none⟩ : Addr).add j = ⟨g, 0 + j, none⟩ from by unfold Addr.add; by_cases hk : j = 0 <;> simp [hk], Nat.zero_add, cell_of_heap h]
  simpa using hu

set_option maxRecDepth 100000 in
set_option maxHeartbeats 1000000 in
theorem tabOf_any (N S : List Int) (A C : Option Addr) (c q bs : Nat) (w : World) (hA : IntsIn w A N) (hS : w.cell? ⟨bs, 0, none⟩ = some (.slice C S.length q)) (hC : IntsIn w C S) (hn : N.length ≤ S.length) (hs : S.length ≤ 32) :
    Calls Try.prog 77 #[.slice A N.length c, .func (.func 78) #[] #[.pointer (some ⟨bs, 0, none⟩)]] w fun e w' => RowsTo w w' e (supTo N S N.length) := by
  have HA := Lib.hid hA; have HC := Lib.hid hC
  have HSC := Lib.hid hS
  have hbs : bs < w.heap.size := World.block_lt_of_cell? _ _ hS
  clear hA hC hS
  obtain ⟨i0, hi, hz0, hz1, hz2⟩ := info_parts infoBR
  have HI0 := Lib.hid hi; have HZ0 := Lib.hid hz0; have HZ1 := Lib.hid hz1; have HZ2 := Lib.hid hz2
  clear hi hz0 hz1 hz2
  go_enter Try.func77, Try.ntmps77
  go_wp2
  go_loopw [5, 10] (fun v i wr => ∃ (k : Nat), k ≤ N.length ∧ i = .int .i64 k ∧ wr.ownsRow w.heap.size 69 3 v (supTo N S k).length (flat3 (supTo N S k)) ∧ Below w.heap.size w wr) (fun _ i _ => N.length - (intOf i).toNat)
  case atStart => exact ⟨0, Nat.zero_le _, rfl, own_nil _ _ _ _, Below.refl _ _⟩
  case round =>
    obtain ⟨k, hk, rfl, hown, hb⟩ := hrel
    have HOWN := Lib.hid hown; clear hown
    have HBW := Lib.hid hb; clear hb
    by_cases hlt : k < N.length
    · obtain ⟨b, off, rfl, hbl, hc⟩ := HA.out (by omega)
      have hc0 := (HBW.out.cell (p := ⟨b, off + k, none⟩) hbl).trans (hc k hlt)
      clear hc
      have hkS : k < S.length := by omega
      have hSTEP : supTo N S (k + 1) = if N[k] = 0 then supTo N S k else supTo N S k ++ [⟨k, S[k], N[k]⟩] := by simp only [supTo]; rw [getD_of hlt, getD_of hkS]
      have HST := Lib.hid hSTEP; clear hSTEP
      have hSc := (HBW.out.cell (p := ⟨bs, 0, none⟩) hbs).trans HSC.out
      have HCw := Lib.hid (HC.out.below HBW.out (Nat.le_refl _))
      have hlen := supTo_len N S k
      generalize hx : N[k] = x at *
      by_cases hx0 : x = 0
      · have hxb : (x != 0) = false := by simp [hx0]
        have HE : Hid (supTo N S (k + 1) = supTo N S k) := Lib.hid (by rw [HST.out, if_pos hx0])
        clear hx0 hSc
        go_wp2
        go_roundw
        case rel => exact ⟨k + 1, by omega, by go_num, by rw [HE.out]; exact HOWN.out, HBW.out⟩
        case measure => simp [intOf]; omega
      · have hxb : (x != 0) = true := by simp [hx0]
        have HE : Hid (supTo N S (k + 1) = supTo N S k ++ [⟨k, S[k], x⟩]) := Lib.hid (by rw [HST.out, if_neg hx0])
        have HSC1 := Lib.hid hSc
        clear hx0 HST hSc
        go_wp2_with fail
        refine (lit1_any k x bs C S q _ HSC1.out HCw.out hkS (by omega)).mono ?_
        rintro e w3 ⟨rfl, hb3⟩
        have HB3 := Lib.hid (HBW.out.trans (hb3.mono HBW.out.size))
        have hownw := own_below HOWN.out hb3
        generalize S[k] = s at *
        have hmx : (supTo N S k).length + 1 ≤ maxLen := by unfold maxLen; omega
        have hsz := HB3.out.size
        clear hb3 HBW hc0
        go_wp2_with (at_builtin; refine wpList_append_own _ rfl _ _ 102 rfl w.heap.size 69 i0 (.agg #[.int .i64 0, .int .i64 0, .int .i64 0]) 3 24 Try.underlying102 HI0.out HZ0.out HZ1.out HZ2.out rfl (by decide) _ _ _ rfl (hownw.alloc _) ⟨w3.heap.size, 0, none⟩ 1 1 [.int .i64 (k : Int), .int .i64 s, .int .i64 x] rfl rfl (news_three _ (heap_new _ _)) (by simp [Value.oneCell']) hmx (by omega) (by simp; omega) ?_)
        intro v' w4 hown' hgrow _
        have HB1 : Hid (Below w.heap.size w w4) := Lib.hid ((HB3.out.alloc HB3.out.size _).grown hgrow (by simp; omega) (own_lt hownw))
        have HO3 : Hid (w4.ownsRow w.heap.size 69 3 v' (supTo N S (k + 1)).length (flat3 (supTo N S (k + 1)))) := Lib.hid (by
          rw [HE.out, flat3_snoc, List.length_append]; exact hown')
        clear hown' hgrow hownw HOWN HB3
        go_wp2
        go_roundw
        case rel => exact ⟨k + 1, by omega, by go_num, HO3.out, HB1.out⟩
        case measure => simp [intOf]; omega
    · obtain rfl : k = N.length := by omega
      go_wp2
      go_ret
      exact ⟨_, rfl, HBW.out, HOWN.out⟩
end Go.Proofs.Ytdomccamkiplcaa

/-
  The contract of impl.addSums: the sums that some spaces more of one width make.
-/
import Derived.Test.YtljakcfdjcjdbaaVb
namespace Go.Proofs.Ytljakcfdjcjdbaa
open Go.RowKit
set_option linter.unusedVariables false

/-- c of the width v go ahead of a sum of T. -/
def LcP (T : Nat → Bool) (v j c : Nat) : Prop := c * v ≤ j ∧ T (j - c * v) = true
/-- T' is T with up to s of the width v more. -/
def MoreOf (T T' : Nat → Bool) (v s : Nat) : Prop := ∀ j, T' j = true ↔ ∃ c, c ≤ s ∧ LcP T v j c
open Classical in
noncomputable def lcU (T T' : Nat → Bool) (v j : Nat) : Nat := if h : T' j = true ∧ ∃ c, LcP T v j c then Classical.choose (least_ex h.2) else 0
theorem lc_zero {T : Nat → Bool} {v j : Nat} : LcP T v j 0 ↔ T j = true := by unfold LcP; simp
theorem lc_succ {T : Nat → Bool} {v b c : Nat} : LcP T v (v + b) (c + 1) ↔ LcP T v b c := by
  unfold LcP
  rw [Nat.succ_mul, show v + b - (c * v + v) = b - c * v from by omega]
  exact ⟨fun ⟨h1, h2⟩ => ⟨by omega, h2⟩, fun ⟨h1, h2⟩ => ⟨by omega, h2⟩⟩
theorem lc_small {T : Nat → Bool} {v j c : Nat} (hj : j < v) (h : LcP T v j c) : c = 0 := by
  cases c with
  | zero => rfl
  | succ c => have := h.1; rw [Nat.succ_mul] at this; omega
theorem lcU_no {T T' : Nat → Bool} {v s : Nat} (_H : MoreOf T T' v s) {j : Nat} (h : T' j = false) : lcU T T' v j = 0 := by unfold lcU; rw [dif_neg]; rintro ⟨h1, _⟩; rw [h] at h1; cases h1
section
variable {T T' : Nat → Bool} {v s : Nat} (H : MoreOf T T' v s)
include H
theorem lcU_yes {j : Nat} (h : T' j = true) : LcP T v j (lcU T T' v j) ∧ ∀ c, LcP T v j c → lcU T T' v j ≤ c := by
  obtain ⟨c, _, hc⟩ := (H j).1 h
  have hh : T' j = true ∧ ∃ c, LcP T v j c := ⟨h, c, hc⟩
  unfold lcU
  rw [dif_pos hh]
  exact Classical.choose_spec (least_ex hh.2)
theorem lcU_le {j : Nat} : lcU T T' v j ≤ s := by
  cases h : T' j
  · rw [lcU_no H h]; omega
  · obtain ⟨c, hs, hc⟩ := (H j).1 h
    have := (lcU_yes H h).2 c hc; omega
theorem more_keep {j : Nat} (h : T j = true) : T' j = true ∧ lcU T T' v j = 0 := by
  have h1 : T' j = true := (H j).2 ⟨0, by omega, lc_zero.2 h⟩
  have := (lcU_yes H h1).2 0 (lc_zero.2 h)
  exact ⟨h1, by omega⟩
theorem more_small {j : Nat} (hj : j < v) : T' j = T j ∧ lcU T T' v j = 0 := by
  cases h : T j
  · have h1 : T' j = false := by
      cases h2 : T' j
      · rfl
      · obtain ⟨c, _, hc⟩ := (H j).1 h2
        obtain rfl := lc_small hj hc
        rw [lc_zero, h] at hc; cases hc
    exact ⟨h1, lcU_no H h1⟩
  · exact more_keep H h
theorem more_none {b : Nat} (h : T (v + b) = false) (hb : T' b = false) : T' (v + b) = false ∧ lcU T T' v (v + b) = 0 := by
  have h1 : T' (v + b) = false := by
    cases h2 : T' (v + b)
    · rfl
    · obtain ⟨c, hs, hc⟩ := (H _).1 h2
      cases c with
      | zero => rw [lc_zero, h] at hc; cases hc
      | succ c =>
        have := (H b).2 ⟨c, by omega, lc_succ.1 hc⟩
        rw [hb] at this; cases this
  exact ⟨h1, lcU_no H h1⟩
theorem more_full {b : Nat} (h : T (v + b) = false) (hb : T' b = true) (hu : ¬ lcU T T' v b < s) : T' (v + b) = false ∧ lcU T T' v (v + b) = 0 := by
  have h1 : T' (v + b) = false := by
    cases h2 : T' (v + b)
    · rfl
    · obtain ⟨c, hs, hc⟩ := (H _).1 h2
      cases c with
      | zero => rw [lc_zero, h] at hc; cases hc
      | succ c => have := (lcU_yes H hb).2 c (lc_succ.1 hc); omega
  exact ⟨h1, lcU_no H h1⟩
theorem more_one {b : Nat} (h : T (v + b) = false) (hb : T' b = true) (hu : lcU T T' v b < s) : T' (v + b) = true ∧ lcU T T' v (v + b) = lcU T T' v b + 1 := by
  obtain ⟨h1, h2⟩ := lcU_yes H hb
  have h3 : LcP T v (v + b) (lcU T T' v b + 1) := lc_succ.2 h1
  have h4 : T' (v + b) = true := (H _).2 ⟨_, by omega, h3⟩
  obtain ⟨h5, h6⟩ := lcU_yes H h4
  refine ⟨h4, ?_⟩
  have h7 := h6 _ h3
  rcases Nat.lt_or_ge (lcU T T' v (v + b)) (lcU T T' v b + 1) with h8 | h8
  · cases hq : lcU T T' v (v + b) with
    | zero => rw [hq, lc_zero, h] at h5; cases h5
    | succ q =>
      rw [hq] at h5
      have := h2 q (lc_succ.1 h5)
      omega
  · omega
end
/-- Sums below x with the new width, the others without it. -/
def mixB (T T' : Nat → Bool) (x : Nat) : Nat → Value := fun j => .bool (if j < x then T' j else T j)
noncomputable def mixU (T T' : Nat → Bool) (v x : Nat) : Nat → Value := fun j => .int .i64 (if j < x then (lcU T T' v j : Int) else 0)
theorem mixB_keep {T T' : Nat → Bool} {x : Nat} (h : T' x = T x) : mixB T T' x = mixB T T' (x + 1) := by
  funext j; unfold mixB
  by_cases h1 : j < x
  · rw [if_pos h1, if_pos (by omega)]
  · by_cases h2 : j = x
    · subst h2; rw [if_neg h1, if_pos (by omega), h]
    · rw [if_neg h1, if_neg (by omega)]
theorem mixB_set {T T' : Nat → Bool} {x : Nat} (h : T' x = true) : (fun j => if j = x then Value.bool true else mixB T T' x j) = mixB T T' (x + 1) := by
  funext j; unfold mixB
  by_cases h2 : j = x
  · subst h2; rw [if_pos rfl, if_pos (by omega), h]
  · rw [if_neg h2]
    by_cases h1 : j < x
    · rw [if_pos h1, if_pos (by omega)]
    · rw [if_neg h1, if_neg (by omega)]
theorem mixU_keep {T T' : Nat → Bool} {v x : Nat} (h : lcU T T' v x = 0) : mixU T T' v x = mixU T T' v (x + 1) := by
  funext j; unfold mixU
  by_cases h1 : j < x
  · rw [if_pos h1, if_pos (by omega)]
  · by_cases h2 : j = x
    · subst h2; rw [if_neg h1, if_pos (by omega), h]; rfl
    · rw [if_neg h1, if_neg (by omega)]
theorem mixU_set {T T' : Nat → Bool} {v x : Nat} {q : Int} (h : (lcU T T' v x : Int) = q) : (fun j => if j = x then Value.int .i64 q else mixU T T' v x j) = mixU T T' v (x + 1) := by
  funext j; unfold mixU
  by_cases h2 : j = x
  · subst h2; rw [if_pos rfl, if_pos (by omega), h]
  · rw [if_neg h2]
    by_cases h1 : j < x
    · rw [if_pos h1, if_pos (by omega)]
    · rw [if_neg h1, if_neg (by omega)]
theorem grown_new {w w' : World} {row : Option Nat} (h : w.grownBy w' row) (u j : Nat) (hu : w.heap.size ≤ u) (x : Value) : w.grownBy (w'.setCell ⟨u, j, none⟩ x) row :=
  ⟨h.os, h.tape, h.output, by simpa [World.setCell] using h.size, fun i hi hne => (Below.heap_setCell w' _ x i (by show i ≠ u; omega)).trans (h.block i hi hne)⟩

set_option maxRecDepth 100000 in
theorem addSums_any (g M v s : Nat) (T T' : Nat → Bool) (w : World) (hT : Tb w g 4 M (fun j => .bool (T j))) (H : MoreOf T T' v s) (hv : 1 ≤ v) (hv4 : v ≤ 200) (hM : M ≤ 401) (hs : s ≤ 400) :
    Calls Try.prog 83 #[.slice (some ⟨g, 0, none⟩) M M, .int .i64 (v : Int), .int .i64 (s : Int)] w fun e w' => e = .returned (.tuple #[]) ∧ Tb w' g 4 M (fun j => .bool (T' j)) ∧ w.grownBy w' (some g) := by
  obtain ⟨w1, hw1⟩ : ∃ x : World, x = w.alloc (.cells (madeCells #[.int .i64 0] (M * 1)) 3) := ⟨_, rfl⟩
  have hmk : (Instr.makeSlice 31 (.int .i64 (M : Int)) (.int .i64 (M : Int))).run Try.prog w = .ok (.slice (some ⟨w.heap.size, 0, none⟩) M M) w1 := by rw [hw1]; exact run_makeI M (by omega) w
  have hgl := hT.lt
  have HT0 : Hid (Tb w1 g 4 M (mixB T T' v)) := Lib.hid (by
    rw [hw1]; exact (hT.alloc _).cong (fun j _ => by
      unfold mixB
      by_cases h : j < v
      · rw [if_pos h, (more_small H h).1]
      · rw [if_neg h]))
  have HU0 : Hid (Tb w1 w.heap.size 3 M (mixU T T' v v)) := Lib.hid (by
    rw [hw1]; exact (made_int _ _ _).cong (fun j _ => by
      unfold mixU
      by_cases h : j < v
      · rw [if_pos h, (more_small H h).2]; rfl
      · rw [if_neg h]))
  have HG0 : Hid (w.grownBy w1 (some g)) := Lib.hid (by rw [hw1]; exact World.grownBy_alloc w _ _)
  have HH := Lib.hid H
  clear hw1 hT H
  go_enter Try.func83, Try.ntmps83
  go_wp2
  go_loopw [7] (fun i wr => ∃ x : Nat, v ≤ x ∧ x ≤ v + M ∧ i = .int .i64 (x : Int) ∧ Tb wr g 4 M (mixB T T' x) ∧ Tb wr w.heap.size 3 M (mixU T T' v x) ∧ w.grownBy wr (some g)) (fun i _ => v + M - (intOf i).toNat)
  case atStart => exact ⟨v, Nat.le_refl _, by omega, rfl, HT0.out, HU0.out, HG0.out⟩
  case round =>
    obtain ⟨x, hvx, hxM, rfl, ht, hu, hg⟩ := hrel
    clear hmk
    by_cases hlt : x < M
    · obtain ⟨b, hb⟩ : ∃ b, x = v + b := ⟨x - v, by omega⟩
      have hix : (x : Int) - (v : Int) = (b : Int) := by omega
      have hx1 : (x : Int) < (M : Int) := by omega
      have hx0 : (0 : Int) ≤ (x : Int) := by omega
      have hb1 : (b : Int) < (M : Int) := by omega
      have hb0 : (0 : Int) ≤ (b : Int) := by omega
      have e0 := ht.cell hlt
      have e1 := ht.cell (j := b) (by omega)
      have e2 := hu.cell (j := b) (by omega)
      unfold mixB at e0 e1
      unfold mixU at e2
      rw [if_neg (Nat.lt_irrefl _)] at e0
      rw [if_pos (by omega)] at e1 e2
      have HX : Hid (x + 1 ≤ v + M) := Lib.hid (by omega)
      have HXV : Hid (v ≤ x + 1) := Lib.hid (by omega)
      have hul := lcU_le HH.out (j := b)
      have hne : ¬ w.heap.size = g := by omega
      have hne' : ¬ g = w.heap.size := by omega
      cases hTx : T x with
      | true =>
        obtain ⟨k1, k2⟩ := more_keep HH.out hTx
        have HTN : Hid (Tb wr g 4 M (mixB T T' (x + 1))) := Lib.hid (by rw [← mixB_keep (by rw [k1, hTx])]; exact ht)
        have HUN : Hid (Tb wr w.heap.size 3 M (mixU T T' v (x + 1))) := Lib.hid (by rw [← mixU_keep k2]; exact hu)
        have HGN := Lib.hid hg
        rw [hTx] at e0
        clear hTx k1 k2 ht hu hg hb
        go_wp2
        go_roundw
        case rel => exact ⟨x + 1, HXV.out, HX.out, by go_num, HTN.out, HUN.out, HGN.out⟩
        case measure => simp [intOf]; omega
      | false =>
        rw [hTx] at e0
        cases hTb : T' b with
        | false =>
          obtain ⟨k1, k2⟩ := more_none HH.out (b := b) (by rw [← hb]; exact hTx) hTb
          rw [← hb] at k1 k2
          have HTN : Hid (Tb wr g 4 M (mixB T T' (x + 1))) := Lib.hid (by rw [← mixB_keep (by rw [k1, hTx])]; exact ht)
          have HUN : Hid (Tb wr w.heap.size 3 M (mixU T T' v (x + 1))) := Lib.hid (by rw [← mixU_keep k2]; exact hu)
          have HGN := Lib.hid hg
          rw [hTb] at e1
          clear hTx hTb k1 k2 ht hu hg hb
          go_wp2
          go_roundw
          case rel => exact ⟨x + 1, HXV.out, HX.out, by go_num, HTN.out, HUN.out, HGN.out⟩
          case measure => simp [intOf]; omega
        | true =>
          rw [hTb] at e1
          by_cases hus : lcU T T' v b < s
          · obtain ⟨k1, k2⟩ := more_one HH.out (b := b) (by rw [← hb]; exact hTx) hTb hus
            rw [← hb] at k1 k2
            obtain ⟨q, hq⟩ : ∃ q, q = lcU T T' v b := ⟨_, rfl⟩
            rw [← hq] at e2 hul hus k2
            have f0 := ht.free x
            have f1 := hu.free x
            obtain ⟨u1, hu1⟩ : ∃ u, wr.cell? ⟨w.heap.size, x, none⟩ = some u := ⟨_, hu.cell hlt⟩
            have hq1 : (q : Int) < (s : Int) := by omega
            have HTN : Hid (Tb ((wr.setCell ⟨g, x, none⟩ (.bool true)).setCell ⟨w.heap.size, x, none⟩ (.int .i64 ((q : Int) + 1))) g 4 M (mixB T T' (x + 1))) := Lib.hid (by
              have h := ht.set x (.bool true)
              rw [mixB_set k1] at h
              exact h.other _ hne')
            have HUN : Hid (Tb ((wr.setCell ⟨g, x, none⟩ (.bool true)).setCell ⟨w.heap.size, x, none⟩ (.int .i64 ((q : Int) + 1))) w.heap.size 3 M (mixU T T' v (x + 1))) := Lib.hid (by
              have h := (hu.other (c := g) (i := x) (.bool true) hne).set x (.int .i64 ((q : Int) + 1))
              rw [mixU_set (by rw [k2]; omega)] at h
              exact h)
            have HGN := Lib.hid (grown_new (grown_set hg x (.bool true)) w.heap.size x (Nat.le_refl _) (.int .i64 ((q : Int) + 1)))
            clear hTx hTb k1 k2 ht hu hg hb hq
            go_wp2
            go_roundw
            case rel => exact ⟨x + 1, HXV.out, HX.out, by go_num, HTN.out, HUN.out, HGN.out⟩
            case measure => simp [intOf]; omega
          · obtain ⟨k1, k2⟩ := more_full HH.out (b := b) (by rw [← hb]; exact hTx) hTb hus
            rw [← hb] at k1 k2
            have HTN : Hid (Tb wr g 4 M (mixB T T' (x + 1))) := Lib.hid (by rw [← mixB_keep (by rw [k1, hTx])]; exact ht)
            have HUN : Hid (Tb wr w.heap.size 3 M (mixU T T' v (x + 1))) := Lib.hid (by rw [← mixU_keep k2]; exact hu)
            have HGN := Lib.hid hg
            obtain ⟨q, hq⟩ : ∃ q, q = lcU T T' v b := ⟨_, rfl⟩
            rw [← hq] at e2 hul hus
            have hq1 : ¬ (q : Int) < (s : Int) := by omega
            clear hTx hTb k1 k2 ht hu hg hb hq
            go_wp2
            go_roundw
            case rel => exact ⟨x + 1, HXV.out, HX.out, by go_num, HTN.out, HUN.out, HGN.out⟩
            case measure => simp [intOf]; omega
    · have HTN := Lib.hid (ht.cong (g := fun j => .bool (T' j)) (fun j hj => by unfold mixB; rw [if_pos (by omega)]))
      have HGN := Lib.hid hg
      have hx1 : ¬ (x : Int) < (M : Int) := by omega
      clear ht hu hg
      go_wp2
      go_end0
      exact ⟨rfl, HTN.out, HGN.out⟩
end Go.Proofs.Ytljakcfdjcjdbaa

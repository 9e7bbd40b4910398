/-
  slices.Reverse over a row of ints of the caller's own.
-/
import Derived.Test.YteagclokobkigaaEw
import Derived.BigRegion
namespace Go.Proofs.Yteagclokobkigaa
open Go.RowKit
set_option linter.unusedVariables false

def rvF (T : Nat → Int) (n i p : Nat) : Int := if p < i ∨ n - i ≤ p then T (n - 1 - p) else T p
def rvK (T : Nat → Int) (n i : Nat) : List Int := (List.range n).map (rvF T n i)
theorem rvK_len (T : Nat → Int) (n i : Nat) : (rvK T n i).length = n := rng_len _ _
theorem rvK_get (T : Nat → Int) (n i : Nat) {j : Nat} (h : j < (rvK T n i).length) : (rvK T n i)[j] = rvF T n i j := rng_at _ _
theorem rvK_zero (T : Nat → Int) (n : Nat) : rvK T n 0 = (List.range n).map T := by
  refine List.map_congr_left fun j hj => ?_
  have : j < n := by simpa using hj
  unfold rvF; rw [if_neg (by omega)]
theorem rvK_all (T : Nat → Int) {n i : Nat} (h : n ≤ 2 * i + 1) : rvK T n i = (List.range n).map fun p => T (n - 1 - p) := by
  refine List.map_congr_left fun j hj => ?_
  have hj : j < n := by simpa using hj
  unfold rvF
  by_cases h1 : j < i ∨ n - i ≤ j
  · rw [if_pos h1]
  · rw [if_neg h1]; congr 1; omega
theorem rvF_lo (T : Nat → Int) {n i : Nat} (h : 2 * i + 1 < n) : rvF T n i i = T i := by unfold rvF; rw [if_neg (by omega)]
theorem rvF_hi (T : Nat → Int) {n i : Nat} (h : 2 * i + 1 < n) : rvF T n i (n - 1 - i) = T (n - 1 - i) := by unfold rvF; rw [if_neg (by omega)]
theorem rvK_succ (T : Nat → Int) {n i : Nat} (h : 2 * i + 1 < n) : ((rvK T n i).set i (T (n - 1 - i))).set (n - 1 - i) (T i) = rvK T n (i + 1) := by
  apply List.ext_getElem
  · rw [List.length_set, List.length_set, rvK_len, rvK_len]
  · intro p h1 h2
    have hp : p < n := by rw [rvK_len] at h2; exact h2
    rw [List.getElem_set, List.getElem_set, rvK_get, rvK_get]
    unfold rvF
    by_cases e1 : n - 1 - i = p
    · rw [if_pos e1, if_pos (by omega)]; congr 1; omega
    · rw [if_neg e1]
      by_cases e2 : i = p
      · rw [if_pos e2, if_pos (by omega)]; congr 1; omega
      · rw [if_neg e2]
        by_cases e3 : p < i ∨ n - i ≤ p
        · rw [if_pos e3, if_pos (by omega)]
        · rw [if_neg e3, if_neg (by omega)]
theorem set_comm (l : List Int) {i j : Nat} (h : i ≠ j) (x y : Int) : (l.set i x).set j y = (l.set j y).set i x := List.set_comm _ _ h
theorem grown_drew {w w' : World} {r : Option Nat} (h : w.grownBy w' r) : w.grownBy w'.drew r := ⟨h.os, h.tape, h.output, h.size, h.block⟩
set_option maxRecDepth 100000 in
set_option maxHeartbeats 4000000 in
theorem reverse_any (T : Nat → Int) (n base q cap : Nat) (w : World) (ho : w.ownsRow base 3 1 (.slice (some ⟨q, 0, none⟩) n cap) n (intsZ ((List.range n).map T))) (hn : 1 ≤ n) (hn1 : n ≤ 1000) (hnc : n ≤ cap) :
    Calls Try.prog 63 #[.slice (some ⟨q, 0, none⟩) n cap] w fun e w' => (∃ v, e = .returned v) ∧ w.grownBy w' (some q) ∧ w'.ownsRow base 3 1 (.slice (some ⟨q, 0, none⟩) n cap) n (intsZ ((List.range n).map fun p => T (n - 1 - p))) := by
  have HO := Lib.hid ho; clear ho
  go_enter Try.func63, Try.ntmps63
  go_wp2
  go_loopw [2, 3] (fun i j wr => ∃ k : Nat, 2 * k ≤ n ∧ i = .int .i64 (k : Int) ∧ j = .int .i64 ((n : Int) - 1 - (k : Int)) ∧ w.grownBy wr (some q) ∧ wr.ownsRow base 3 1 (.slice (some ⟨q, 0, none⟩) n cap) n (intsZ (rvK T n k))) (fun i _ _ => n - (intOf i).toNat)
  case atStart => exact ⟨0, by omega, rfl, by simp, World.grownBy.refl _ _, by rw [rvK_zero]; exact HO.out⟩
  case round =>
    obtain ⟨k, hk, rfl, rfl, hg, ho⟩ := hrel
    by_cases hlt : 2 * k + 1 < n
    · obtain ⟨m, hm⟩ : ∃ m, m = n - 1 - k := ⟨_, rfl⟩
      have hmi : (n : Int) - 1 - (k : Int) = (m : Int) := by omega
      have hkm : (k : Int) < (m : Int) := by omega
      have hmn : (m : Int) < (n : Int) := by omega
      have hkn : (k : Int) < (n : Int) := by omega
      have hkm2 : k < n - 1 - k := by omega
      have hll := rvK_len T n k
      obtain ⟨hql, hcells⟩ := own_at1 ho (by omega)
      have e0 : wr.cell? ⟨q, k, none⟩ = some (.int .i64 (T k)) := by
        rw [ho.cellAt k (by omega)]
        simp only [intsZ, List.getElem?_map, List.getElem?_eq_getElem (show k < (rvK T n k).length by omega), rvK_get, rvF_lo T hlt]
        rfl
      have e1 : wr.cell? ⟨q, m, none⟩ = some (.int .i64 (T m)) := by
        rw [ho.cellAt m (by omega)]
        simp only [intsZ, List.getElem?_map, List.getElem?_eq_getElem (show m < (rvK T n k).length by omega), rvK_get]
        rw [hm, rvF_hi T hlt]
        rfl
      have f0 := (hcells k (by omega)).2
      have f1 := (hcells m (by omega)).2
      have HS := Lib.hid (rvK_succ T hlt)
      rw [← hm] at HS
      have hne : ¬ k = m := by omega
      have hne' : ¬ m = k := by omega
      have HG := Lib.hid hg; have HOR := Lib.hid ho
      have H1 : Hid (∀ W : World, W.ownsRow base 3 1 (.slice (some ⟨q, 0, none⟩) n cap) n (intsZ (rvK T n k)) → ((W.setCell ⟨q, k, none⟩ (.int .i64 (T m))).setCell ⟨q, m, none⟩ (.int .i64 (T k))).ownsRow base 3 1 (.slice (some ⟨q, 0, none⟩) n cap) n (intsZ (rvK T n (k + 1)))) := Lib.hid (fun W h => by
        have h2 := own_set1 (i := m) (own_set1 (i := k) h (.int .i64 (T m))) (.int .i64 (T k))
        rw [← intsZ_set, ← intsZ_set, HS.out] at h2; exact h2)
      have H2 : Hid (∀ W : World, W.ownsRow base 3 1 (.slice (some ⟨q, 0, none⟩) n cap) n (intsZ (rvK T n k)) → ((W.setCell ⟨q, m, none⟩ (.int .i64 (T k))).setCell ⟨q, k, none⟩ (.int .i64 (T m))).ownsRow base 3 1 (.slice (some ⟨q, 0, none⟩) n cap) n (intsZ (rvK T n (k + 1)))) := Lib.hid (fun W h => by
        have h2 := own_set1 (i := k) (own_set1 (i := m) h (.int .i64 (T k))) (.int .i64 (T m))
        rw [← intsZ_set, ← intsZ_set, ← set_comm _ (by omega : k ≠ m), HS.out] at h2; exact h2)
      have HJ : Hid ((n : Int) - 1 - ((k + 1 : Nat) : Int) = (m : Int) - 1) := Lib.hid (by omega)
      rw [hmi]
      generalize T k = a at *
      generalize T m = b at *
      clear hg ho hcells hm hmi hll hkm2
      go_wp2_with fail
      go_region
      all_goals
        go_wp2
        go_roundw
        case rel =>
          refine ⟨k + 1, by omega, by go_num, by rw [HJ.out], ?_, ?_⟩
          · first
            | exact grown_set (grown_set HG.out _ _) _ _
            | exact grown_set (grown_set (grown_drew HG.out) _ _) _ _
          · first
            | exact H1.out _ HOR.out
            | exact H2.out _ HOR.out
            | exact H1.out _ (own_below HOR.out (Below.refl _ _).drew)
            | exact H2.out _ (own_below HOR.out (Below.refl _ _).drew)
        case measure => simp [intOf]; omega
    · have hnl : ¬ (k : Int) < (n : Int) - 1 - (k : Int) := by omega
      have HA := Lib.hid (rvK_all T (n := n) (i := k) (by omega))
      rw [HA.out] at ho
      have HO2 := Lib.hid ho; have HG2 := Lib.hid hg
      clear ho hg
      go_wp2
      go_end0
      exact ⟨⟨_, rfl⟩, HG2.out, HO2.out⟩
end Go.Proofs.Yteagclokobkigaa

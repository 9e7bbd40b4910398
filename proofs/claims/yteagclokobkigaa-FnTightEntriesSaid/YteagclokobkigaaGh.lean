/-
  FnTightEntries: what it asks, and its walk.
-/
import Derived.Test.YteagclokobkigaaGg
import Derived.Test.YteagclokobkigaaFa
import Derived.Test.YteagclokobkigaaFc
import Derived.Test.YteagclokobkigaaEx
namespace Go.Proofs.Yteagclokobkigaa
open Go.RowKit
set_option linter.unusedVariables false

theorem smF_bd {f : Nat → Int} : ∀ (k : Nat), (∀ j, j < k → -20000 ≤ f j ∧ f j ≤ 20000) → -20000 * (k : Int) ≤ smF f k ∧ smF f k ≤ 20000 * (k : Int)
  | 0, _ => by constructor <;> (show (_ : Int) ≤ _; simp [smF])
  | k + 1, h => by
    have ih := smF_bd k (fun j hj => h j (by omega))
    have := h k (by omega)
    show -20000 * ((k + 1 : Nat) : Int) ≤ smF f k + f k ∧ smF f k + f k ≤ 20000 * ((k + 1 : Nat) : Int)
    omega
theorem smI_takeR (f : Nat → Int) (N k : Nat) (h : k ≤ N) : smI (((List.range N).map f).take k) = smF f k := by
  have e : ((List.range N).map f).take k = (List.range k).map f := by
    rw [← List.map_take, List.take_range]
    congr 2; omega
  rw [e, smI_rng]
theorem lc_parts {n : Int} {l : List En} {g t : Int} (h : lcB n l g t = true) : GoodT n l ∧ 0 ≤ g ∧ g ≤ 36 ∧ 0 ≤ t ∧ t ≤ 5000 ∧ wdV l g n ≤ t := by
  unfold lcB at h
  rw [Bool.and_eq_true, Bool.and_eq_true, askT_iff, inBs_iff, decide_eq_true_iff] at h
  obtain ⟨⟨h1, h2, h3⟩, ⟨h4, h5⟩, h6⟩ := h
  exact ⟨h1, h2, h3, h4, h5, h6⟩
theorem sp_bd {n : Int} {l : List En} {g t : Int} (h : lcB n l g t = true) : ∀ k, k ≤ (spL n l g t).length → -1000000000 ≤ smI ((spL n l g t).take k) ∧ smI ((spL n l g t).take k) ≤ 1000000000 := by
  intro k hk
  obtain ⟨hG, h0, h36, ht0, ht1, hw⟩ := lc_parts h
  obtain ⟨N, rfl⟩ : ∃ N : Nat, n = (N : Int) := ⟨n.toNat, by have := hG.n0; omega⟩
  have hn1 := hG.n0; have hn2 := hG.n1
  rw [sp_yes h, rng_len] at hk
  rw [sp_yes h, smI_takeR _ _ _ hk]
  have hwd := lastWd (N := N) hG h0 h36 (by omega)
  have := smF_bd (f := spF l g (t - wdV l g (N : Int)) N) k (fun j hj => by
    have h1 := enV_bd hG.all h0 h36 (k := j) (by omega)
    have h2 := stV_all hG.all h0 h36 (k := j) (by omega)
    have h3 := tdiv_tame (t := t - wdV l g (N : Int)) (g := (N : Int)) (by omega) (by omega)
    unfold spF evI
    split <;> omega)
  omega
theorem sp_sum {n : Int} {l : List En} {g t : Int} (h : lcB n l g t = true) : smI (spL n l g t) + (n - 1) * g = t := by
  obtain ⟨hG, h0, h36, ht0, ht1, hw⟩ := lc_parts h
  obtain ⟨N, rfl⟩ : ∃ N : Nat, n = (N : Int) := ⟨n.toNat, by have := hG.n0; omega⟩
  rw [sp_yes h, smI_rng]
  exact sm_spread hG.all g t N rfl (by have := hG.n0; omega) hw
theorem lc_len {n : Int} {l : List En} {g t : Int} (h : lcB n l g t = true) : (lcL n l g t).length = (lsL n l g).length := by
  unfold lcL lsL stL
  rw [if_pos h, if_pos (lc_ask h).1]
  simp
theorem lc_le {n : Int} {l : List En} {g t : Int} (h : lcB n l g t = true) (k : Nat) (h1 : k < (lcL n l g t).length) (h2 : k < (lsL n l g).length) : (lsL n l g)[k] ≤ (lcL n l g t)[k] := by
  obtain ⟨hG, h0, h36, ht0, ht1, hw⟩ := lc_parts h
  have e1 : (lsL n l g)[k] = stV l g k := by
    have : lsL n l g = stL l g n.toNat := by unfold lsL; rw [if_pos (lc_ask h).1]
    simp only [this, stL]; exact rng_at _ (by rw [rng_len]; rw [this] at h2; unfold stL at h2; rw [rng_len] at h2; exact h2)
  have hkn : k < n.toNat := by
    have : lsL n l g = stL l g n.toNat := by unfold lsL; rw [if_pos (lc_ask h).1]
    rw [this] at h2; unfold stL at h2; rw [rng_len] at h2; exact h2
  have e2 : (lcL n l g t)[k] = lcF n l g t k := by
    have : lcL n l g t = (List.range n.toNat).map (lcF n l g t) := by unfold lcL; rw [if_pos h]
    simp only [this]; exact rng_at _ (by rw [rng_len]; exact hkn)
  rw [e1, e2]
  unfold lcF
  by_cases hk : k = 0
  · subst hk; rw [if_pos rfl, stV_zero]; exact Int.le_refl _
  · rw [if_neg hk]; exact lt_st hG.all g hw (by omega)
theorem ww_le {n : Int} {l : List En} {g i : Int} (h : wwB n l g i = true) : askT n l g = true ∧ wwV n l g i ≤ twV n l g := by
  unfold wwB at h
  rw [Bool.and_eq_true] at h
  obtain ⟨ha, hi⟩ := h
  have hA := askT_iff.1 ha
  refine ⟨ha, ?_⟩
  have hw : wwB n l g i = true := by unfold wwB; rw [ha, hi]; rfl
  unfold wwV twV
  rw [if_pos hw, if_pos ha]
  rw [inBs_iff] at hi
  exact wd_mono (woL_good hA.1 (by omega)).all hA.1.all woL_sub g
theorem te_in {n : Int} {l : List En} {g : Int} (h : askT n l g = true) {k : Nat} (hk : k < l.length) : (decide ((k : Int) ∈ teL n l g) = decide (rmV n l g l[k] = 0)) := by
  rw [te_yes h]
  have := tiK_mem (n := n) (l := l) (g := g) l.length (Nat.le_refl _) k hk
  by_cases h1 : rmV n l g l[k] = 0
  · rw [decide_eq_true h1]; exact decide_eq_true (this.2 ⟨hk, h1⟩)
  · rw [decide_eq_false h1]; exact decide_eq_false (fun h2 => h1 (this.1 h2).2)
theorem te_some {n : Int} {l : List En} {g : Int} (h : askT n l g = true) (hw : (n - 1) * g < twV n l g) : 0 < (teL n l g).length := by
  have hA := askT_iff.1 h
  unfold twV at hw
  rw [if_pos h] at hw
  obtain ⟨x, hx, hr⟩ := tight_some hA.1.all g hA.1.n0 hw
  obtain ⟨k, hk, rfl⟩ := List.mem_iff_getElem.1 hx
  have := te_in h hk
  rw [decide_eq_true hr] at this
  exact List.length_pos_of_mem (of_decide_eq_true this)
theorem mul_small {n g : Int} (h0 : 0 ≤ n - 1) (h1 : n - 1 ≤ 9) (h2 : 0 ≤ g) (h3 : g ≤ 36) : 0 ≤ (n - 1) * g ∧ (n - 1) * g ≤ 324 := by
  have a := Int.mul_nonneg h0 h2
  have b := Int.mul_le_mul_of_nonneg_right h1 h2
  omega
set_option maxRecDepth 100000 in
theorem big_any (xs ys : List UInt8) (A B : Option Addr) (c d : Nat) (w : World) (hx : xs.length ≤ maxLen) (hy : ys.length ≤ maxLen) :
    Calls Try.prog 5 #[.slice A xs.length c, .slice B ys.length d] w fun e w' => (∃ t : Bool, e = .returned (.bool t)) ∧ w = w' := by
  unfold maxLen at hx hy
  by_cases h1 : (1048576 : Int) < (xs.length : Int)
  · go_enter Try.func5, Try.ntmps5
    go_wp2
    go_ret
    first | exact ⟨⟨_, rfl⟩, rfl⟩ | exact ⟨.inl rfl, rfl⟩ | exact ⟨.inr rfl, rfl⟩
  by_cases h2 : 1048576 - (xs.length : Int) < (ys.length : Int)
  · go_enter Try.func5, Try.ntmps5
    go_wp2
    go_ret
    first | exact ⟨⟨_, rfl⟩, rfl⟩ | exact ⟨.inl rfl, rfl⟩ | exact ⟨.inr rfl, rfl⟩
  · go_enter Try.func5, Try.ntmps5
    go_wp2
    go_ret
    first | exact ⟨⟨_, rfl⟩, rfl⟩ | exact ⟨.inl rfl, rfl⟩ | exact ⟨.inr rfl, rfl⟩
end Go.Proofs.Yteagclokobkigaa

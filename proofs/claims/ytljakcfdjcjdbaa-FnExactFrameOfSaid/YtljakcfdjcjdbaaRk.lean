/-
  Slips of which no piece is left, in plain words: they do not change what can be made. (No function is named here.)
-/
import Derived.Test.YtljakcfdjcjdbaaRi
namespace Go.Proofs.Ytljakcfdjcjdbaa
open Go.RowKit
set_option linter.unusedVariables false

/-- The slips of which something is left. -/
def thin (f : List Sl) : List Sl := f.filter fun x => decide (x.cnt ≠ 0)
theorem fwR_none {Z : Nat} {x : Sl} {r : List Sl} (h : ctN x = 0) (n : Nat) : fwR Z (x :: r) n = fwR Z r n := by
  show accS Z (fwR Z r) (lnN x) n (rds x n) = _
  have e : rds x n = 1 := by unfold rds; rw [h, Nat.zero_min]
  rw [e, accS_one _ _ _ (fwR_le _ _ _)]
theorem accS_cong {Z L n : Nat} {g g' : Nat → Nat} (h : ∀ m, g m = g' m) : ∀ k, accS Z g L n k = accS Z g' L n k
  | 0 => rfl
  | k + 1 => by show min _ _ = min _ _; rw [accS_cong h k, h]
theorem fwR_thin (Z : Nat) : ∀ (l : List Sl), (∀ x ∈ l, 0 ≤ x.cnt) → ∀ n, fwR Z (l.filter fun x => decide (x.cnt ≠ 0)) n = fwR Z l n
  | [], _, _ => rfl
  | x :: r, h, n => by
    have ih := fwR_thin Z r (fun y hy => h y (List.mem_cons_of_mem _ hy))
    by_cases e : x.cnt = 0
    · rw [List.filter_cons_of_neg (by simp [e]), ih, fwR_none (by unfold ctN; omega)]
    · rw [List.filter_cons_of_pos (by simp [e])]
      exact accS_cong ih _
theorem FW_thin {f : List Sl} (hG : GoodS f) (Z n : Nat) : FW Z (thin f) n = FW Z f n := by
  unfold FW thin
  rw [← List.filter_reverse]
  refine fwR_thin Z _ (fun x hx => ?_) n
  obtain ⟨j, hj, rfl⟩ := List.mem_iff_getElem.1 (List.mem_reverse.1 hx)
  exact (hG.bd hj).2.1
/-- A rising list of slips, at most eight, is a stock. -/
theorem good_of {f : List Sl} (h8 : f.length ≤ 8) (hr : Rise f) (hg : ∀ x ∈ f, goodSl x = true) : GoodS f := by
  refine ⟨h8, fun j hj _ => ?_⟩
  have h1 := goodSl_iff.1 (hg _ (List.getElem_mem hj))
  refine ⟨⟨?_, h1.1.2⟩, h1.2⟩
  cases j with
  | zero => show (0 : Int) < _; omega
  | succ i =>
    rw [prvS_succ (by omega)]
    exact List.pairwise_iff_getElem.1 hr i (i + 1) (by omega) hj (by omega)
theorem thin_good {f : List Sl} (hG : GoodS f) : GoodS (thin f) := by
  refine good_of (Nat.le_trans (List.length_filter_le _ _) hG.eight) (List.Pairwise.filter _ hG.risen) fun x hx => ?_
  obtain ⟨j, hj, rfl⟩ := List.mem_iff_getElem.1 (List.mem_filter.1 hx).1
  exact hG.at_ hj
theorem asM_cons (x : Sl) (r : List Sl) (a : Int) : asM (x :: r) a = if a = x.len then some x.cnt else asM r a := rfl
theorem thin_as {f : List Sl} (hr : Rise f) (a : Int) : asM (thin f) a = if (asM f a).getD 0 = 0 then none else asM f a := by
  induction f with
  | nil => rfl
  | cons x r ih =>
    obtain ⟨h1, h2⟩ := List.pairwise_cons.1 hr
    have ih := ih h2
    unfold thin at ih ⊢
    by_cases e : x.cnt = 0
    · rw [List.filter_cons_of_neg (by simp [e]), ih, asM_cons]
      by_cases e2 : a = x.len
      · rw [if_pos e2, e2, asM_none (fun z hz => by have := h1 z hz; omega)]
        simp [e]
      · rw [if_neg e2]
    · rw [List.filter_cons_of_pos (by simp [e]), asM_cons, asM_cons]
      by_cases e2 : a = x.len
      · rw [if_pos e2, if_pos e2]; simp [e]
      · rw [if_neg e2, if_neg e2]; exact ih
theorem takM_same (m : Int → Option Int) (k c : Int) : takM m k c k = if (m k).getD 0 - c = 0 then none else some ((m k).getD 0 - c) := by
  unfold takM
  by_cases h : (m k).getD 0 - c = 0
  · rw [if_pos h, if_pos h, delM_same]
  · rw [if_neg h, if_neg h, upM_same]
theorem mpT_done {P : List Sl} (hG : GoodS P) {n : Nat} : ∀ d, d ≤ P.length → ∀ e, e < d → mpT P n d (slipD P e).len = if (slipD P e).cnt - (tkC P n e : Int) = 0 then none else some ((slipD P e).cnt - (tkC P n e : Int))
  | 0, _, e, he => absurd he (by omega)
  | d + 1, hd, e, he => by
    show takM (mpT P n d) (slipD P d).len (tkC P n d : Int) _ = _
    rcases Nat.lt_or_ge e d with h | h
    · rw [takM_other (fun h2 => by
        have e1 := slipD_at (f := P) (d := e) (by omega) rfl
        have e2 := slipD_at (f := P) (d := d) (by omega) rfl
        rw [e1, e2] at h2
        have := hG.inj (by omega) (by omega) h2
        omega)]
      exact mpT_done hG d (by omega) e h
    · obtain rfl : e = d := by omega
      rw [takM_same, mpT_at hG (by omega)]
/-- What is left of a stock behind a rule. -/
def nxtS (Z : Nat) (f : List Sl) (n : Nat) : List Sl := restK f (ruL Z f n) f.length
theorem nxtS_len (Z : Nat) (f : List Sl) (n : Nat) : (nxtS Z f n).length = f.length := restK_len _ _ _
theorem nxtS_get (Z : Nat) {f : List Sl} {n i : Nat} (h : i < f.length) : (nxtS Z f n)[i]'(by rw [nxtS_len]; exact h) = ⟨f[i].len, f[i].cnt - ruC Z f n i⟩ := by
  have e := restK_get f (ruL Z f n) f.length i h
  rw [if_pos h] at e
  have e2 : (ruL Z f n).getD i 0 = ruC Z f n i := by rw [getI (by rw [ruL_len]; exact h), ruL_get]
  rw [e2] at e
  exact e
theorem ruC_bd {Z : Nat} {f : List Sl} (hG : GoodS f) {n i : Nat} (hn : FW Z f n < Z) (hi : i < f.length) : 0 ≤ ruC Z f n i ∧ ruC Z f n i ≤ f[i].cnt := by
  have h0 : tblD Z f 0 n < Z := by unfold tblD; rw [Nat.sub_zero, List.take_length]; exact hn
  have h1 := (cD_ok hG (show f.length - 1 - i < f.length by omega) (remD_ok hG h0 (f.length - 1 - i) (by omega))).2
  have h2 := (top_le hG (by omega) h1).1
  rw [slipD_at (f := f) (d := f.length - 1 - i) (j := i) (by omega) (by omega)] at h2
  have hb := hG.bd hi
  unfold ctN at h2
  unfold ruC
  omega
theorem nxtS_good {Z : Nat} {f : List Sl} (hG : GoodS f) {n : Nat} (hn : FW Z f n < Z) : GoodS (nxtS Z f n) := by
  refine good_of (by rw [nxtS_len]; exact hG.eight) (List.pairwise_iff_getElem.2 fun i j hi hj hij => ?_) fun x hx => ?_
  · rw [nxtS_len] at hi hj
    rw [nxtS_get Z hi, nxtS_get Z hj]
    exact hG.lt hj hij
  · obtain ⟨j, hj, rfl⟩ := List.mem_iff_getElem.1 hx
    rw [nxtS_len] at hj
    rw [nxtS_get Z hj]
    have h1 := hG.bd hj
    have h2 := ruC_bd hG hn hj
    exact goodSl_iff.2 ⟨h1.1, by show 0 ≤ _ - _; omega, by show _ - _ ≤ (20 : Int); omega⟩
/-- What takeRule leaves in the map. -/
theorem mpT_nxt {P : List Sl} (hG : GoodS P) {n : Nat} (hn : FW 401 P n < 401) (a : Int) : mpT P n P.length a = asM (thin (nxtS 401 P n)) a := by
  have hG2 := nxtS_good hG hn
  rw [thin_as hG2.risen]
  by_cases h : ∃ i, ∃ hi : i < P.length, a = P[i].len
  · obtain ⟨i, hi, rfl⟩ := h
    have hm := asM_mem hG2.risen (List.getElem_mem (show i < (nxtS 401 P n).length by rw [nxtS_len]; exact hi))
    rw [nxtS_get 401 hi] at hm
    have hm' : asM (nxtS 401 P n) P[i].len = some (P[i].cnt - ruC 401 P n i) := hm
    have hd := mpT_done hG (n := n) P.length (Nat.le_refl _) (P.length - 1 - i) (by omega)
    rw [slipD_at (f := P) (d := P.length - 1 - i) (j := i) (by omega) (by omega)] at hd
    rw [hm', hd]
    rfl
  · have hne : ∀ i (hi : i < P.length), a ≠ P[i].len := fun i hi e => h ⟨i, hi, e⟩
    rw [mpT_other P.length (fun e he => by
      rw [slipD_at (f := P) (d := e) (by omega) rfl]; exact hne _ _)]
    rw [asM_none (fun x hx => by
      obtain ⟨j, hj, rfl⟩ := List.mem_iff_getElem.1 hx
      exact (hne j hj).symm), asM_none (l := nxtS 401 P n) (fun x hx => by
      obtain ⟨j, hj, rfl⟩ := List.mem_iff_getElem.1 hx
      rw [nxtS_len] at hj
      rw [nxtS_get 401 hj]
      exact (hne j hj).symm)]
    simp
/-- The rule's count at a Length, the last slip first on the list. -/
def stC (Z : Nat) (x : Sl) (r : List Sl) (n : Nat) : Nat := dwn (fun c => fwR Z r (n - c * lnN x) + c == fwR Z (x :: r) n) (min (ctN x) (n / lnN x))
def cR (Z : Nat) : List Sl → Nat → Int → Int
  | [], _, _ => 0
  | x :: r, n, a => if a = x.len then (stC Z x r n : Int) else cR Z r (n - stC Z x r n * lnN x) a
theorem cR_cons (Z : Nat) (x : Sl) (r : List Sl) (n : Nat) (a : Int) : cR Z (x :: r) n a = if a = x.len then (stC Z x r n : Int) else cR Z r (n - stC Z x r n * lnN x) a := rfl
theorem cR_zero {Z : Nat} : ∀ {l : List Sl} {n : Nat} {a : Int}, (∀ y ∈ l, y.len ≠ a) → cR Z l n a = 0
  | [], _, _, _ => rfl
  | x :: r, n, a, h => by
    rw [cR_cons, if_neg (fun e => h x (by simp) e.symm)]
    exact cR_zero fun y hy => h y (List.mem_cons_of_mem _ hy)
theorem stC_cong {Z : Nat} {x : Sl} {r r' : List Sl} {n : Nat} (h : ∀ m, fwR Z r m = fwR Z r' m) : stC Z x r n = stC Z x r' n := by
  have e : fwR Z (x :: r) n = fwR Z (x :: r') n := accS_cong h _
  unfold stC
  rw [show (fun c => fwR Z r (n - c * lnN x) + c == fwR Z (x :: r) n) = (fun c => fwR Z r' (n - c * lnN x) + c == fwR Z (x :: r') n) from funext fun c => by rw [h, e]]
theorem stC_none {Z : Nat} {x : Sl} {r : List Sl} {n : Nat} (h : ctN x = 0) : stC Z x r n = 0 := by unfold stC; rw [h, Nat.zero_min]; rfl
theorem cR_thin (Z : Nat) : ∀ (l : List Sl), (∀ x ∈ l, 0 ≤ x.cnt) → l.Pairwise (fun x y => y.len < x.len) → ∀ n a, cR Z (l.filter fun x => decide (x.cnt ≠ 0)) n a = cR Z l n a
  | [], _, _, _, _ => rfl
  | x :: r, h, hp, n, a => by
    obtain ⟨p1, p2⟩ := List.pairwise_cons.1 hp
    have hr : ∀ y ∈ r, 0 ≤ y.cnt := fun y hy => h y (List.mem_cons_of_mem _ hy)
    have ih := cR_thin Z r hr p2
    by_cases e : x.cnt = 0
    · rw [List.filter_cons_of_neg (by simp [e]), ih, cR_cons, stC_none (by unfold ctN; omega), Nat.zero_mul, Nat.sub_zero]
      by_cases e2 : a = x.len
      · rw [if_pos e2, e2, cR_zero (fun y hy => by have := p1 y hy; omega)]; rfl
      · rw [if_neg e2]
    · rw [List.filter_cons_of_pos (by simp [e]), cR_cons, cR_cons, stC_cong (fwR_thin Z r hr), ih]
theorem cR_take {Z : Nat} {f : List Sl} (hG : GoodS f) {n : Nat} : ∀ k, k ≤ f.length → ∀ i (hi : i < k) (hl : i < f.length), cR Z (f.take k).reverse (remD Z f n (f.length - k)) f[i].len = ruC Z f n i
  | 0, _, i, hi, _ => absurd hi (by omega)
  | k + 1, hk, i, hi, hl => by
    obtain ⟨d, hd⟩ : ∃ d, d = f.length - (k + 1) := ⟨_, rfl⟩
    have hkl : k < f.length := by omega
    have e1 : (f.take (k + 1)).reverse = f[k] :: (f.take k).reverse := by rw [List.take_succ_eq_append_getElem hkl, List.reverse_append]; rfl
    have e2 : slipD f d = f[k] := slipD_at (by omega) (by omega)
    have e3 : stC Z f[k] (f.take k).reverse (remD Z f n d) = cD Z f (remD Z f n d) d := by
      unfold stC cD askD topD
      rw [e2]
      have h1 : ∀ m, tblD Z f (d + 1) m = fwR Z (f.take k).reverse m := fun m => (tblD_at Z (show d < f.length by omega) (show k = f.length - 1 - d by omega) m).2
      have h2 : tblD Z f d (remD Z f n d) = fwR Z (f[k] :: (f.take k).reverse) (remD Z f n d) := by
        rw [(tblD_at Z (show d < f.length by omega) (show k = f.length - 1 - d by omega) _).1]
        unfold FW; rw [e1]
      rw [h2]
      simp only [h1]
    rw [← hd, e1, cR_cons, e3]
    by_cases e : i = k
    · subst e
      rw [if_pos rfl]
      unfold ruC
      rw [show f.length - 1 - i = d by omega]
    · rw [if_neg (fun h => e (hG.inj hl hkl h))]
      have ih := cR_take (Z := Z) hG (n := n) k (by omega) i (by omega) hl
      rw [show f.length - k = d + 1 by omega] at ih
      have e4 : remD Z f n (d + 1) = remD Z f n d - cD Z f (remD Z f n d) d * lnN f[k] := by
        show remD Z f n d - cD Z f (remD Z f n d) d * lnN (slipD f d) = _
        rw [e2]
      rw [e4] at ih
      exact ih
theorem cR_ru {Z : Nat} {f : List Sl} (hG : GoodS f) {n i : Nat} (hi : i < f.length) : cR Z f.reverse n f[i].len = ruC Z f n i := by
  have h := cR_take (Z := Z) hG (n := n) f.length (Nat.le_refl _) i hi hi
  rw [Nat.sub_self, List.take_length] at h
  exact h
theorem good_down {f : List Sl} (hG : GoodS f) : f.reverse.Pairwise (fun x y => y.len < x.len) := List.pairwise_reverse.2 hG.risen
theorem good_nn {f : List Sl} (hG : GoodS f) : ∀ x ∈ f.reverse, 0 ≤ x.cnt := fun x hx => by
  obtain ⟨j, hj, rfl⟩ := List.mem_iff_getElem.1 (List.mem_reverse.1 hx)
  exact (hG.bd hj).2.1
/-- Slips with no piece don't change the rule. -/
theorem cR_same {Z : Nat} {f g : List Sl} (hf : GoodS f) (hg : GoodS g) (h : thin f = thin g) (n : Nat) (a : Int) : cR Z f.reverse n a = cR Z g.reverse n a := by
  have e1 := cR_thin Z f.reverse (good_nn hf) (good_down hf) n a
  have e2 := cR_thin Z g.reverse (good_nn hg) (good_down hg) n a
  unfold thin at h
  rw [List.filter_reverse] at e1 e2
  rw [← e1, ← e2, h]
theorem FW_same {Z : Nat} {f g : List Sl} (hf : GoodS f) (hg : GoodS g) (h : thin f = thin g) (n : Nat) : FW Z f n = FW Z g n := by
  rw [← FW_thin hf, ← FW_thin hg, h]
end Go.Proofs.Ytljakcfdjcjdbaa

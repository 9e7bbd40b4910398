/-
  Plain words on the fewest pieces that make a length up, and on lengths that can be made. (No function is named here.)
-/
import Derived.Test.YtljakcfdjcjdbaaPd
namespace Go.Proofs.Ytljakcfdjcjdbaa
open Go.RowKit
set_option linter.unusedVariables false

/-- The least of the first k ways. -/
def accS (Z : Nat) (g : Nat → Nat) (L n : Nat) : Nat → Nat
  | 0 => Z
  | k + 1 => min (accS Z g L n k) (g (n - k * L) + k)
theorem accS_le (Z : Nat) (g : Nat → Nat) (L n : Nat) : ∀ k, accS Z g L n k ≤ Z
  | 0 => Nat.le_refl _
  | k + 1 => Nat.le_trans (Nat.min_le_left _ _) (accS_le Z g L n k)
theorem accS_at (Z : Nat) (g : Nat → Nat) (L n : Nat) {j : Nat} : ∀ {k : Nat}, j < k → accS Z g L n k ≤ g (n - j * L) + j
  | 0, h => absurd h (by omega)
  | k + 1, h => by
    rcases Nat.lt_or_ge j k with h1 | h1
    · exact Nat.le_trans (Nat.min_le_left _ _) (accS_at Z g L n h1)
    · obtain rfl : j = k := by omega
      exact Nat.min_le_right _ _
theorem accS_or (Z : Nat) (g : Nat → Nat) (L n : Nat) : ∀ k, accS Z g L n k = Z ∨ ∃ j, j < k ∧ accS Z g L n k = g (n - j * L) + j
  | 0 => .inl rfl
  | k + 1 => by
    show min _ _ = Z ∨ ∃ j, j < k + 1 ∧ min _ _ = _
    rcases Nat.le_total (accS Z g L n k) (g (n - k * L) + k) with h | h
    · rw [Nat.min_eq_left h]
      rcases accS_or Z g L n k with h1 | ⟨j, h1, h2⟩
      · exact .inl h1
      · exact .inr ⟨j, by omega, h2⟩
    · rw [Nat.min_eq_right h]
      exact .inr ⟨k, by omega, rfl⟩
def lnN (x : Sl) : Nat := x.len.toNat
def ctN (x : Sl) : Nat := x.cnt.toNat
def rds (x : Sl) (n : Nat) : Nat := min (ctN x) (n / lnN x) + 1
theorem rds_iff {x : Sl} {n j : Nat} (h : 1 ≤ lnN x) : j < rds x n ↔ j ≤ ctN x ∧ j * lnN x ≤ n := by
  unfold rds
  rw [Nat.lt_add_one_iff, Nat.le_min, Nat.le_div_iff_mul_le (by omega)]
/-- The fewest pieces, the last slip first on the list; Z where there are none. -/
def fwR (Z : Nat) : List Sl → Nat → Nat
  | [], n => if n = 0 then 0 else Z
  | x :: r, n => accS Z (fwR Z r) (lnN x) n (rds x n)
def FW (Z : Nat) (f : List Sl) (n : Nat) : Nat := fwR Z f.reverse n
theorem FW_nil (Z n : Nat) : FW Z [] n = if n = 0 then 0 else Z := rfl
theorem FW_snoc (Z : Nat) (f : List Sl) (x : Sl) (n : Nat) : FW Z (f ++ [x]) n = accS Z (FW Z f) (lnN x) n (rds x n) := by
  unfold FW; rw [List.reverse_append]; rfl
theorem FW_succ (Z : Nat) {f : List Sl} {i : Nat} (h : i < f.length) (n : Nat) : FW Z (f.take (i + 1)) n = accS Z (FW Z (f.take i)) (lnN f[i]) n (rds f[i] n) := by
  rw [List.take_succ_eq_append_getElem h, FW_snoc]
theorem fwR_le (Z : Nat) : ∀ (l : List Sl) (n : Nat), fwR Z l n ≤ Z
  | [], n => by unfold fwR; split <;> omega
  | x :: r, n => accS_le _ _ _ _ _
theorem FW_le (Z : Nat) (f : List Sl) (n : Nat) : FW Z f n ≤ Z := fwR_le _ _ _
/-- All slips have a Length. -/
def PosR (l : List Sl) : Prop := ∀ x, x ∈ l → 1 ≤ lnN x
theorem PosR.tail {x : Sl} {r : List Sl} (h : PosR (x :: r)) : PosR r := fun y hy => h y (List.mem_cons_of_mem _ hy)
def CanR : List Sl → Nat → Prop
  | [], n => n = 0
  | x :: r, n => ∃ c, (c ≤ ctN x ∧ c * lnN x ≤ n) ∧ CanR r (n - c * lnN x)
theorem fw_can {Z : Nat} : ∀ {l : List Sl} {n : Nat}, PosR l → fwR Z l n < Z → CanR l n
  | [], n, _, h => by
    unfold fwR at h
    by_cases e : n = 0
    · exact e
    · rw [if_neg e] at h; omega
  | x :: r, n, hp, h => by
    have h' : accS Z (fwR Z r) (lnN x) n (rds x n) < Z := h
    rcases accS_or Z (fwR Z r) (lnN x) n (rds x n) with h1 | ⟨j, h1, h2⟩
    · omega
    · exact ⟨j, (rds_iff (hp x (by simp))).1 h1, fw_can (Z := Z) hp.tail (by omega)⟩
theorem can_fw {Z : Nat} : ∀ {l : List Sl} {n : Nat}, PosR l → CanR l n → fwR Z l n ≤ n
  | [], n, _, h => by have h : n = 0 := h; subst h; exact Nat.le_refl _
  | x :: r, n, hp, ⟨c, hc, h⟩ => by
    have h1 := hp x (by simp)
    have h2 := accS_at Z (fwR Z r) (lnN x) n ((rds_iff h1).2 hc)
    have h3 := can_fw (Z := Z) hp.tail h
    have h4 : c * 1 ≤ c * lnN x := Nat.mul_le_mul_left _ h1
    show accS Z (fwR Z r) (lnN x) n (rds x n) ≤ n
    omega
theorem accS_Z {Z Z' : Nat} {g g' : Nat → Nat} (hZ : Z ≤ Z') (hg : ∀ n, g n = min Z (g' n)) (L n : Nat) : ∀ k, accS Z g L n k = min Z (accS Z' g' L n k)
  | 0 => (Nat.min_eq_left hZ).symm
  | k + 1 => by
    have ih := accS_Z hZ hg L n k
    have h := hg (n - k * L)
    show min _ _ = min Z (min _ _)
    rw [ih, h]
    omega
theorem fwR_Z {Z Z' : Nat} (hZ : Z ≤ Z') : ∀ (l : List Sl) (n : Nat), fwR Z l n = min Z (fwR Z' l n)
  | [], n => by unfold fwR; split <;> omega
  | x :: r, n => accS_Z hZ (fwR_Z hZ r) _ _ _
/-- The number is the same, whatever is written where there are none. -/
theorem fwR_same {Z Z' : Nat} {l : List Sl} {n : Nat} (hp : PosR l) (h : CanR l n) (h1 : n < Z) (h2 : n < Z') : fwR Z l n = fwR Z' l n := by
  have a := can_fw (Z := Z) hp h; have b := can_fw (Z := Z') hp h
  rcases Nat.le_total Z Z' with h3 | h3
  · have := fwR_Z h3 l n; omega
  · have := fwR_Z h3 l n; omega
theorem GoodS.pos {f : List Sl} (h : GoodS f) : PosR f.reverse := fun x hx => by
  obtain ⟨j, hj, rfl⟩ := List.mem_iff_getElem.1 (List.mem_reverse.1 hx)
  have := (h.bd hj).1
  unfold lnN; omega
theorem GoodS.posT {f : List Sl} (h : GoodS f) (i : Nat) : PosR (f.take i).reverse := fun x hx => h.pos x (by
  rw [List.mem_reverse] at hx ⊢; exact List.mem_of_mem_take hx)
/-- The same, in the words of sums out of a stock. -/
theorem can_stu {f : List Sl} (h : GoodS f) : ∀ (i : Nat), i ≤ f.length → ∀ n : Nat, CanR (f.take i).reverse n ↔ StU (lensL f) (cntsL f) i (n : Int)
  | 0, _, n => by show n = 0 ↔ (n : Int) = 0; omega
  | i + 1, hi, n => by
    have ih := can_stu h i (by omega)
    have hb := h.bd (j := i) (by omega)
    have e1 : (lensL f).getD i 0 = f[i].len := by rw [getI (by rw [lensL_len]; omega)]; simp [lensL]
    have e2 : (cntsL f).getD i 0 = f[i].cnt := by rw [getI (by rw [cntsL_len]; omega)]; simp [cntsL]
    rw [List.take_succ_eq_append_getElem (show i < f.length by omega), List.reverse_append]
    show (∃ c, (c ≤ ctN f[i] ∧ c * lnN f[i] ≤ n) ∧ CanR (f.take i).reverse (n - c * lnN f[i])) ↔ ∃ c : Nat, (c : Int) ≤ (cntsL f).getD i 0 ∧ StU (lensL f) (cntsL f) i ((n : Int) - c * (lensL f).getD i 0)
    rw [e1, e2]
    have el : f[i].len = (lnN f[i] : Int) := by unfold lnN; omega
    have ec : f[i].cnt = (ctN f[i] : Int) := by unfold ctN; omega
    rw [el, ec]
    have hp : Pos (lensL f) := fun k hk => by
      obtain ⟨j, hj, rfl⟩ := List.mem_iff_getElem.1 hk
      rw [lensL_len] at hj
      have := (h.bd hj).1
      simp only [lensL, List.getElem_map]; omega
    constructor
    · rintro ⟨c, ⟨h1, h2⟩, h3⟩
      refine ⟨c, by omega, ?_⟩
      have := (ih _).1 h3
      rw [show ((n - c * lnN f[i] : Nat) : Int) = (n : Int) - c * (lnN f[i] : Int) from by rw [← Int.natCast_mul]; omega] at this
      exact this
    · rintro ⟨c, h1, h2⟩
      have h0 := stu_nonneg hp (by rw [lensL_len]; omega) h2
      have h3 : c * lnN f[i] ≤ n := by rw [← Int.natCast_mul] at h0; omega
      refine ⟨c, ⟨by omega, h3⟩, (ih _).2 ?_⟩
      rw [show ((n - c * lnN f[i] : Nat) : Int) = (n : Int) - c * (lnN f[i] : Int) from by rw [← Int.natCast_mul]; omega]
      exact h2
/-- A length that can be made. -/
noncomputable def mkB (f : List Sl) (n : Nat) : Bool := stB (lensL f) (cntsL f) f.length (n : Int)
theorem mkB_can {f : List Sl} (h : GoodS f) {n : Nat} : mkB f n = true ↔ CanR f.reverse n := by
  unfold mkB
  rw [stB_iff, ← can_stu h f.length (Nat.le_refl _) n, List.take_length]
theorem mkB_fw {f : List Sl} (h : GoodS f) {Z n : Nat} (hn : n < Z) : mkB f n = true ↔ FW Z f n < Z := by
  rw [mkB_can h]
  exact ⟨fun h1 => by have := can_fw (Z := Z) h.pos h1; unfold FW; omega, fun h1 => fw_can h.pos h1⟩
theorem mkB_zero {f : List Sl} (h : GoodS f) : mkB f 0 = true := (mkB_can h).2 (by
  have : ∀ l : List Sl, CanR l 0 := fun l => by
    induction l with
    | nil => rfl
    | cons x r ih => exact ⟨0, ⟨Nat.zero_le _, by omega⟩, by simpa using ih⟩
  exact this _)
end Go.Proofs.Ytljakcfdjcjdbaa

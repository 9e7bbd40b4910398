/-
  The rule that the tables of the fewest pieces give, from the longest slip down. (No function is named here.)
-/
import Derived.Test.YtljakcfdjcjdbaaPg
namespace Go.Proofs.Ytljakcfdjcjdbaa
open Go.RowKit
set_option linter.unusedVariables false

/-- The greatest number up to c that does. -/
def dwn (p : Nat → Bool) : Nat → Nat
  | 0 => 0
  | c + 1 => if p (c + 1) then c + 1 else dwn p c
theorem dwn_le (p : Nat → Bool) : ∀ c, dwn p c ≤ c
  | 0 => Nat.le_refl _
  | c + 1 => by
    unfold dwn; split
    · exact Nat.le_refl _
    · exact Nat.le_succ_of_le (dwn_le p c)
theorem dwn_hit {p : Nat → Bool} {c : Nat} (h : p c = true) : dwn p c = c := by
  cases c with
  | zero => rfl
  | succ c => unfold dwn; rw [if_pos h]
theorem dwn_miss {p : Nat → Bool} {c : Nat} (h : p (c + 1) = false) : dwn p (c + 1) = dwn p c := by
  show (if p (c + 1) then c + 1 else dwn p c) = _
  rw [if_neg (by rw [h]; decide)]
theorem dwn_p {p : Nat → Bool} : ∀ {c : Nat}, (∃ j, j ≤ c ∧ p j = true) → p (dwn p c) = true
  | 0, ⟨j, hj, h⟩ => by obtain rfl : j = 0 := by omega
                        exact h
  | c + 1, ⟨j, hj, h⟩ => by
    by_cases e : p (c + 1) = true
    · rw [dwn_hit e]; exact e
    · rw [dwn_miss (by simpa using e)]
      refine dwn_p ⟨j, ?_, h⟩
      rcases Nat.lt_or_ge j (c + 1) with h1 | h1
      · omega
      · obtain rfl : j = c + 1 := by omega
        exact absurd h e
/-- The slip behind which d others stand, and the table of those before the last d. -/
def slipD (f : List Sl) (d : Nat) : Sl := f.getD (f.length - 1 - d) ⟨0, 0⟩
def tblD (Z : Nat) (f : List Sl) (d n : Nat) : Nat := FW Z (f.take (f.length - d)) n
def askD (Z : Nat) (f : List Sl) (m d c : Nat) : Bool := tblD Z f (d + 1) (m - c * lnN (slipD f d)) + c == tblD Z f d m
def topD (f : List Sl) (m d : Nat) : Nat := min (ctN (slipD f d)) (m / lnN (slipD f d))
def cD (Z : Nat) (f : List Sl) (m d : Nat) : Nat := dwn (askD Z f m d) (topD f m d)
/-- What is left behind d slips. -/
def remD (Z : Nat) (f : List Sl) (n : Nat) : Nat → Nat
  | 0 => n
  | d + 1 => remD Z f n d - cD Z f (remD Z f n d) d * lnN (slipD f d)
theorem slipD_at {f : List Sl} {d j : Nat} (hd : d < f.length) (hj : j = f.length - 1 - d) : slipD f d = f[j]'(by omega) := by
  subst hj; unfold slipD; rw [getS (by omega)]
theorem tblD_at (Z : Nat) {f : List Sl} {d j : Nat} (hd : d < f.length) (hj : j = f.length - 1 - d) (m : Nat) : tblD Z f d m = FW Z (f.take (j + 1)) m ∧ tblD Z f (d + 1) m = FW Z (f.take j) m := by
  unfold tblD
  rw [show f.length - d = j + 1 from by omega, show f.length - (d + 1) = j from by omega]
  exact ⟨rfl, rfl⟩
theorem cD_ok {Z : Nat} {f : List Sl} (h : GoodS f) {d m : Nat} (hd : d < f.length) (hm : tblD Z f d m < Z) : askD Z f m d (cD Z f m d) = true ∧ cD Z f m d ≤ topD f m d := by
  refine ⟨?_, dwn_le _ _⟩
  refine dwn_p ?_
  obtain ⟨j, hj⟩ : ∃ j, j = f.length - 1 - d := ⟨_, rfl⟩
  have hjl : j < f.length := by omega
  have e1 := slipD_at hd hj
  have hb := h.bd hjl
  rw [(tblD_at Z hd hj m).1, FW_succ Z hjl] at hm
  rcases accS_or Z (FW Z (f.take j)) (lnN f[j]) m (rds f[j] m) with h1 | ⟨c, h1, h2⟩
  · omega
  · refine ⟨c, ?_, ?_⟩
    · unfold topD; rw [e1]; unfold rds at h1; omega
    · unfold askD
      rw [e1, (tblD_at Z hd hj m).1, (tblD_at Z hd hj _).2, FW_succ Z hjl, h2]
      simp
theorem top_le {f : List Sl} (h : GoodS f) {d m c : Nat} (hd : d < f.length) (hc : c ≤ topD f m d) : c ≤ ctN (slipD f d) ∧ c * lnN (slipD f d) ≤ m := by
  obtain ⟨j, hj⟩ : ∃ j, j = f.length - 1 - d := ⟨_, rfl⟩
  have hb := h.bd (j := j) (by omega)
  have e1 := slipD_at hd hj
  unfold topD at hc
  have hl : 1 ≤ lnN (slipD f d) := by rw [e1]; unfold lnN; omega
  exact ⟨by omega, (Nat.le_div_iff_mul_le (by omega)).1 (by omega)⟩
theorem remD_ok {Z : Nat} {f : List Sl} (h : GoodS f) {n : Nat} (hn : tblD Z f 0 n < Z) : ∀ d, d ≤ f.length → tblD Z f d (remD Z f n d) < Z
  | 0, _ => hn
  | d + 1, hd => by
    have ih := remD_ok h hn d (by omega)
    have h1 := (cD_ok h (show d < f.length by omega) ih).1
    unfold askD at h1
    have h2 : tblD Z f (d + 1) (remD Z f n d - cD Z f (remD Z f n d) d * lnN (slipD f d)) + cD Z f (remD Z f n d) d = tblD Z f d (remD Z f n d) := by simpa using h1
    show tblD Z f (d + 1) (remD Z f n d - _) < Z
    omega
theorem remD_le (Z : Nat) (f : List Sl) (n : Nat) : ∀ d, remD Z f n d ≤ n
  | 0 => Nat.le_refl _
  | d + 1 => by have := remD_le Z f n d; show remD Z f n d - _ ≤ n; omega
/-- The counts of the rule. -/
def ruC (Z : Nat) (f : List Sl) (n i : Nat) : Int := (cD Z f (remD Z f n (f.length - 1 - i)) (f.length - 1 - i) : Nat)
def ruL (Z : Nat) (f : List Sl) (n : Nat) : List Int := (List.range f.length).map (ruC Z f n)
theorem ruL_len (Z : Nat) (f : List Sl) (n : Nat) : (ruL Z f n).length = f.length := by simp [ruL]
theorem ruL_get {Z : Nat} {f : List Sl} {n i : Nat} (h : i < (ruL Z f n).length) : (ruL Z f n)[i] = ruC Z f n i := by simp [ruL]
/-- The counts that are written behind d slips. -/
def outD (Z : Nat) (f : List Sl) (n d : Nat) (i : Nat) : Value := if f.length - d ≤ i then .int .i64 (ruC Z f n i) else .int .i64 0
theorem outD_succ {Z : Nat} {f : List Sl} {n d j : Nat} (hd : d < f.length) (hj : j = f.length - 1 - d) : (fun i => if i = j then Value.int .i64 ((cD Z f (remD Z f n d) d : Nat) : Int) else outD Z f n d i) = outD Z f n (d + 1) := by
  funext i
  unfold outD
  by_cases h : i = j
  · rw [if_pos h, if_pos (by omega), h]
    unfold ruC
    rw [show f.length - 1 - j = d from by omega]
  · rw [if_neg h]
    by_cases h2 : f.length - d ≤ i
    · rw [if_pos h2, if_pos (by omega)]
    · rw [if_neg h2, if_neg (by omega)]
def ruB (Z : Nat) (f : List Sl) (n : Nat) : Bool := decide (FW Z f n < Z)
def ruV (Z : Nat) (f : List Sl) (n : Nat) : List Int := if ruB Z f n then ruL Z f n else []
theorem ru_no {Z : Nat} {f : List Sl} {n : Nat} (h : ¬ FW Z f n < Z) : ruV Z f n = [] ∧ ruB Z f n = false := by
  have e : ruB Z f n = false := by unfold ruB; simpa using h
  unfold ruV; rw [e]; exact ⟨rfl, rfl⟩
theorem ru_yes {Z : Nat} {f : List Sl} {n : Nat} (h : FW Z f n < Z) : ruV Z f n = ruL Z f n ∧ ruB Z f n = true := by
  have e : ruB Z f n = true := by unfold ruB; simpa using h
  unfold ruV; rw [e]; exact ⟨rfl, rfl⟩
end Go.Proofs.Ytljakcfdjcjdbaa

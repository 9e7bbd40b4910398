/-
  Rules, lines and measures, and the contracts of the small functions of stage 9, in spec and in impl: each answers what the plain words here say and changes nothing that was there.
-/
import Derived.Test.YtpbkeagpipipmaaUa
import Derived.Test.YtpbkeagpipipmaaYa
namespace Go.Proofs.Ytpbkeagpipipmaa
open Go.RowKit
set_option linter.unusedVariables false

/-- A rule. -/
def juB (r : Ru) : Bool := decide (1 ≤ r.lst) && decide (r.lst ≤ r.nrm) && decide (r.nrm ≤ r.mst) && decide (r.mst ≤ 54)
structure GoodR (r : Ru) : Prop where
  a : 1 ≤ r.lst
  b : r.lst ≤ r.nrm
  c : r.nrm ≤ r.mst
  d : r.mst ≤ 54
theorem juB_iff {r : Ru} : juB r = true ↔ GoodR r := by
  unfold juB
  simp only [Bool.and_eq_true, decide_eq_true_eq]
  exact ⟨fun h => ⟨h.1.1.1, h.1.1.2, h.1.2, h.2⟩, fun h => ⟨⟨⟨h.a, h.b⟩, h.c⟩, h.d⟩⟩
/-- A line. -/
def juL (l : List Int) : Bool := inB 1 20 (l.length : Int) && allB 1 600 l
structure GoodL (l : List Int) : Prop where
  one : 1 ≤ l.length
  most : l.length ≤ 20
  all : ∀ j (h : j < l.length), 1 ≤ l[j] ∧ l[j] ≤ 600
theorem juL_iff {l : List Int} : juL l = true ↔ GoodL l := by
  unfold juL
  rw [Bool.and_eq_true, inB_iff, allB_iff]
  exact ⟨fun h => ⟨by omega, by omega, h.2⟩, fun h => ⟨⟨by have := h.one; omega, by have := h.most; omega⟩, h.all⟩⟩
theorem GoodL.take {l : List Int} (h : GoodL l) {k : Nat} (h1 : 1 ≤ k) (h2 : k ≤ l.length) : GoodL (l.take k) :=
  ⟨by rw [List.length_take]; omega, by have := h.most; rw [List.length_take]; omega, fun j hj => by rw [List.getElem_take]; exact h.all j (by rw [List.length_take] at hj; omega)⟩
/-- The sum of the first k. -/
def smK (l : List Int) (k : Nat) : Int := (l.take k).sum
theorem smK_zero (l : List Int) : smK l 0 = 0 := rfl
theorem smK_succ {l : List Int} {k : Nat} (h : k < l.length) : smK l (k + 1) = smK l k + l[k] := by
  unfold smK; rw [List.take_succ_eq_append_getElem h, List.sum_append]; simp only [List.sum_cons, List.sum_nil, Int.add_zero]
theorem smK_all (l : List Int) : smK l l.length = l.sum := by unfold smK; rw [List.take_length]
theorem smK_take (l : List Int) {j k : Nat} (h : j ≤ k) : smK (l.take k) j = smK l j := by unfold smK; rw [List.take_take, Nat.min_eq_left h]
theorem smK_range {l : List Int} {b : Int} (hb : 0 ≤ b) (ha : ∀ j (h : j < l.length), 0 ≤ l[j] ∧ l[j] ≤ b) : ∀ k, k ≤ l.length → 0 ≤ smK l k ∧ smK l k ≤ b * (k : Int)
  | 0, _ => by rw [smK_zero]; simp
  | k + 1, h => by
    have ih := smK_range hb ha k (by omega)
    have h1 := ha k (by omega)
    have e : b * ((k + 1 : Nat) : Int) = b * (k : Int) + b := by rw [show ((k + 1 : Nat) : Int) = (k : Int) + 1 from rfl, Int.mul_add, Int.mul_one]
    rw [smK_succ (by omega), e]
    omega
theorem GoodL.sums {l : List Int} (h : GoodL l) (k : Nat) (hk : k ≤ l.length) : 0 ≤ smK l k ∧ smK l k ≤ 12000 := by
  have h1 := smK_range (l := l) (b := 600) (by omega) (fun j hj => by have := h.all j hj; omega) k hk
  have := h.most
  omega
theorem GoodL.sum {l : List Int} (h : GoodL l) : 0 ≤ l.sum ∧ l.sum ≤ 12000 := by rw [← smK_all]; exact h.sums _ (Nat.le_refl _)
/-- The product of a width and of a number of gaps. -/
theorem gaps_mul {s g : Int} (h1 : 0 ≤ s) (h2 : s ≤ 600) (h3 : 0 ≤ g) (h4 : g ≤ 20) : 0 ≤ s * g ∧ s * g ≤ 12000 := by
  refine ⟨Int.mul_nonneg h1 h3, ?_⟩
  have := Int.mul_le_mul h2 h4 h3 (by omega)
  omega
/-- The width of a line with spaces that are all the same. -/
def widV (l : List Int) (s : Int) : Int := s * ((l.length : Int) - 1) + l.sum
theorem widV_comm (l : List Int) (s : Int) : l.sum + ((l.length : Int) - 1) * s = widV l s := by unfold widV; rw [Int.add_comm, Int.mul_comm]
theorem ret_bs {v : Value} {x y : Bool} (h : x = y) : Ending.returned (.tuple #[v, .bool x]) = .returned (.tuple #[v, .bool y]) := by rw [h]

set_option maxRecDepth 100000 in
theorem juRule_any (r : Ru) (w : World) : Calls Try.prog 65 #[.agg #[.int .i64 r.lst, .int .i64 r.nrm, .int .i64 r.mst]] w fun e w' => e = .returned (.bool (juB r)) ∧ Below w.heap.size w w' := by
  have HB : Hid (Below w.heap.size w (w.alloc (.cells #[.int .i64 r.lst, .int .i64 r.nrm, .int .i64 r.mst] 25))) := Lib.hid ((Below.refl _ _).alloc (Nat.le_refl _) _)
  have HE : Hid (juB r = (decide (1 ≤ r.lst) && decide (r.lst ≤ r.nrm) && decide (r.nrm ≤ r.mst) && decide (r.mst ≤ 54))) := Lib.hid rfl
  obtain ⟨a, b, c⟩ := r
  simp only at HE ⊢
  rcases (by omega : ¬ 1 ≤ a ∨ (1 ≤ a ∧ ¬ a ≤ b) ∨ (1 ≤ a ∧ a ≤ b ∧ ¬ b ≤ c) ∨ (1 ≤ a ∧ a ≤ b ∧ b ≤ c ∧ ¬ c ≤ 54) ∨ (1 ≤ a ∧ a ≤ b ∧ b ≤ c ∧ c ≤ 54)) with h1 | ⟨h1, h2⟩ | ⟨h1, h2, h3⟩ | ⟨h1, h2, h3, h4⟩ | ⟨h1, h2, h3, h4⟩
  all_goals
    go_enter Try.func65, Try.ntmps65
    go_wp2
    go_ret
    refine ⟨ret_bool (by rw [HE.out]; simp <;> omega), HB.out⟩
set_option maxRecDepth 100000 in
theorem implIsRule_any (r : Ru) (w : World) : Calls Try.prog 26 #[.agg #[.int .i64 r.lst, .int .i64 r.nrm, .int .i64 r.mst]] w fun e w' => e = .returned (.bool (juB r)) ∧ Below w.heap.size w w' := by
  have HB : Hid (Below w.heap.size w (w.alloc (.cells #[.int .i64 r.lst, .int .i64 r.nrm, .int .i64 r.mst] 25))) := Lib.hid ((Below.refl _ _).alloc (Nat.le_refl _) _)
  have HE : Hid (juB r = (decide (1 ≤ r.lst) && decide (r.lst ≤ r.nrm) && decide (r.nrm ≤ r.mst) && decide (r.mst ≤ 54))) := Lib.hid rfl
  obtain ⟨a, b, c⟩ := r
  simp only at HE ⊢
  rcases (by omega : ¬ 1 ≤ a ∨ (1 ≤ a ∧ ¬ a ≤ b) ∨ (1 ≤ a ∧ a ≤ b ∧ ¬ b ≤ c) ∨ (1 ≤ a ∧ a ≤ b ∧ b ≤ c ∧ ¬ c ≤ 54) ∨ (1 ≤ a ∧ a ≤ b ∧ b ≤ c ∧ c ≤ 54)) with h1 | ⟨h1, h2⟩ | ⟨h1, h2, h3⟩ | ⟨h1, h2, h3, h4⟩ | ⟨h1, h2, h3, h4⟩
  all_goals
    go_enter Try.func26, Try.ntmps26
    go_wp2
    go_ret
    refine ⟨ret_bool (by rw [HE.out]; simp <;> omega), HB.out⟩
theorem specIsRule_any (r : Ru) (w : World) : Calls Try.prog 29 #[.agg #[.int .i64 r.lst, .int .i64 r.nrm, .int .i64 r.mst]] w fun e w' => e = .returned (.bool (juB r)) ∧ Below w.heap.size w w' := by
  go_enter Try.func29, Try.ntmps29
  go_wp2_with fail
  refine (juRule_any r _).mono ?_
  rintro e w1 ⟨rfl, hb⟩
  have HB := Lib.hid (((Below.refl w.heap.size w).alloc (Nat.le_refl _) (.cells #[.int .i64 r.lst, .int .i64 r.nrm, .int .i64 r.mst] 25)).trans (hb.mono (by simp)))
  clear hb
  go_wp2
  go_ret
  exact ⟨rfl, HB.out⟩
theorem isMeasure_any (a : Int) (w : World) : Calls Try.prog 57 #[.int .i64 a] w fun e w' => e = .returned (.bool (inB 1 2000 a)) ∧ w = w' := by
  by_cases h1 : (1 : Int) ≤ a <;> by_cases h2 : a ≤ 2000 <;>
  · go_enter Try.func57, Try.ntmps57
    go_wp2
    go_ret
    exact ⟨by simp [inB, h1, h2], rfl⟩
theorem juMeasure_any (a : Int) (w : World) : Calls Try.prog 68 #[.int .i64 a] w fun e w' => e = .returned (.bool (inB 1 2000 a)) ∧ w = w' := by
  go_enter Try.func68, Try.ntmps68
  go_wp2_with fail
  refine (l1In_any _ _ _ _).mono ?_
  rintro e w' ⟨rfl, rfl⟩
  go_wp2
  go_ret
  exact ⟨rfl, rfl⟩
theorem juLine_any (l : List Int) (A : Option Addr) (c : Nat) (w : World) (hf : IntsIn w A l) (hn : l.length ≤ 1048576) :
    Calls Try.prog 64 #[.slice A l.length c] w fun e w' => e = .returned (.bool (juL l)) ∧ w = w' := by
  have HF := Lib.hid hf; clear hf
  go_enter Try.func64, Try.ntmps64
  go_wp2_with fail
  refine (l1In_any _ _ _ _).mono ?_
  rintro e w' ⟨rfl, rfl⟩
  cases hin : inB 1 20 (l.length : Int)
  · have H : Hid (juL l = false) := Lib.hid (by unfold juL; rw [hin]; rfl)
    clear hin
    go_wp2
    go_ret
    exact ⟨ret_bool H.out.symm, rfl⟩
  · have H : Hid (juL l = allB 1 600 l) := Lib.hid (by unfold juL; rw [hin]; rfl)
    clear hin
    go_wp2_with fail
    refine (l1All_any l A c _ _ _ HF.out (by unfold maxLen; omega)).mono ?_
    rintro e w' ⟨rfl, rfl⟩
    generalize allB 1 600 l = q at *
    go_wp2
    go_ret
    exact ⟨ret_bool H.out.symm, rfl⟩
theorem isLine_any (l : List Int) (A : Option Addr) (c : Nat) (w : World) (hf : IntsIn w A l) (hn : l.length ≤ 1048576) :
    Calls Try.prog 56 #[.slice A l.length c] w fun e w' => e = .returned (.bool (juL l)) ∧ w = w' := by
  have HF := Lib.hid hf; clear hf
  by_cases h1 : l.length < 1
  · have H : Hid (juL l = false) := Lib.hid (by unfold juL; rw [inB_no.2 (by omega)]; rfl)
    have h2 : (l.length : Int) < 1 := by omega
    go_enter Try.func56, Try.ntmps56
    go_wp2
    go_ret
    exact ⟨ret_bool H.out.symm, rfl⟩
  by_cases h2 : 20 < l.length
  · have H : Hid (juL l = false) := Lib.hid (by unfold juL; rw [inB_no.2 (by omega)]; rfl)
    go_enter Try.func56, Try.ntmps56
    go_wp2
    go_ret
    exact ⟨ret_bool H.out.symm, rfl⟩
  have HA : Hid (juL l = allB 1 600 l) := Lib.hid (by unfold juL; rw [inB_iff.2 (by omega)]; rfl)
  go_enter Try.func56, Try.ntmps56
  go_wp2
  go_loop [15] (fun i => ∃ (k : Nat), k ≤ l.length ∧ i = .int .i64 k ∧ allB 1 600 (l.take k) = true) (fun i => l.length - (intOf i).toNat)
  case atStart => exact ⟨0, Nat.zero_le _, rfl, rfl⟩
  case round =>
    obtain ⟨k, hk, rfl, hs⟩ := hrel
    have HS := Lib.hid hs; clear hs
    by_cases hlt : k < l.length
    · obtain ⟨b, off, rfl, hbl, hc⟩ := HF.out (by omega)
      have hc0 := hc k hlt
      clear hc
      have hst : allB 1 600 (l.take (k + 1)) = inB 1 600 l[k] := by rw [List.take_succ_eq_append_getElem hlt, allB_snoc, HS.out]; rfl
      have hno := allB_no (lo := 1) (hi := 600) hlt
      have HST := Lib.hid hst; have HNO := Lib.hid hno
      clear hst hno
      generalize l[k] = x at *
      rcases (by omega : x < 1 ∨ (¬ x < 1 ∧ 600 < x) ∨ (¬ x < 1 ∧ ¬ 600 < x)) with g1 | ⟨g1, g2⟩ | ⟨g1, g2⟩
      · have H : Hid (inB 1 600 x = false) := Lib.hid (inB_no.2 (by omega))
        go_wp2
        go_ret
        exact ⟨ret_bool (by rw [HA.out, HNO.out H.out]), rfl⟩
      · have H : Hid (inB 1 600 x = false) := Lib.hid (inB_no.2 (by omega))
        go_wp2
        go_ret
        exact ⟨ret_bool (by rw [HA.out, HNO.out H.out]), rfl⟩
      · have H : Hid (inB 1 600 x = true) := Lib.hid (inB_iff.2 (by omega))
        go_wp2
        go_round
        case rel => exact ⟨k + 1, by omega, by go_num, by rw [HST.out, H.out]⟩
        case measure => simp [intOf]; omega
    · obtain rfl : k = l.length := by omega
      go_wp2
      go_ret
      exact ⟨ret_bool (by have e := HS.out; rw [List.take_length] at e; rw [HA.out, e]), rfl⟩
theorem juSum_any (l : List Int) (A : Option Addr) (c : Nat) (w : World) (hf : IntsIn w A l) (hl : GoodL l) :
    Calls Try.prog 66 #[.slice A l.length c] w fun e w' => e = .returned (.int .i64 l.sum) ∧ w = w' := by
  have HF := Lib.hid hf; clear hf
  have HL := Lib.hid hl
  have hn := hl.most
  clear hl
  go_enter Try.func66, Try.ntmps66
  go_wp2
  go_loop [3, 8] (fun s i => ∃ (k : Nat), k ≤ l.length ∧ i = .int .i64 k ∧ s = .int .i64 (smK l k)) (fun _ i => l.length - (intOf i).toNat)
  case atStart => exact ⟨0, Nat.zero_le _, rfl, by rw [smK_zero]⟩
  case round =>
    obtain ⟨k, hk, rfl, rfl⟩ := hrel
    by_cases hlt : k < l.length
    · obtain ⟨b, off, rfl, hbl, hc⟩ := HF.out (by omega)
      have hc0 := hc k hlt
      clear hc
      have HST := Lib.hid (smK_succ hlt)
      have hx := HL.out.all k hlt
      have hq := HL.out.sums k hk
      generalize l[k] = x at *
      generalize hcq : smK l k = q at *
      clear hcq
      go_wp2
      go_round
      case rel => exact ⟨k + 1, by omega, by go_num, by rw [HST.out]⟩
      case measure => simp [intOf]; omega
    · obtain rfl : k = l.length := by omega
      go_wp2
      go_ret
      exact ⟨ret_int (smK_all l), rfl⟩
theorem widthOfLine_any (l : List Int) (A : Option Addr) (c : Nat) (s : Int) (w : World) (hf : IntsIn w A l) (hl : GoodL l) (h1 : 0 ≤ s) (h2 : s ≤ 54) :
    Calls Try.prog 63 #[.slice A l.length c, .int .i64 s] w fun e w' => e = .returned (.int .i64 (widV l s)) ∧ w = w' := by
  have HF := Lib.hid hf; clear hf
  have HL := Lib.hid hl
  have hn := hl.most
  have hn1 := hl.one
  clear hl
  have hp := gaps_mul (s := s) (g := (l.length : Int) - 1) h1 (by omega) (by omega) (by omega)
  go_enter Try.func63, Try.ntmps63
  go_wp2
  go_loop [5, 15] (fun s' i => ∃ (k : Nat), k ≤ l.length ∧ i = .int .i64 k ∧ s' = .int .i64 (s * ((l.length : Int) - 1) + smK l k)) (fun _ i => l.length - (intOf i).toNat)
  case atStart => exact ⟨0, Nat.zero_le _, rfl, by rw [smK_zero, Int.add_zero]⟩
  case round =>
    obtain ⟨k, hk, rfl, rfl⟩ := hrel
    by_cases hlt : k < l.length
    · obtain ⟨b, off, rfl, hbl, hc⟩ := HF.out (by omega)
      have hc0 := hc k hlt
      clear hc
      have HST := Lib.hid (smK_succ hlt)
      have hx := HL.out.all k hlt
      have hq := HL.out.sums k hk
      generalize l[k] = x at *
      generalize hcq : smK l k = q at *
      clear hcq
      go_wp2
      go_round
      case rel => exact ⟨k + 1, by omega, by go_num, by rw [HST.out, Int.add_assoc]⟩
      case measure => simp [intOf]; omega
    · obtain rfl : k = l.length := by omega
      go_wp2
      go_ret
      exact ⟨ret_int (by rw [smK_all]; rfl), rfl⟩
end Go.Proofs.Ytpbkeagpipipmaa

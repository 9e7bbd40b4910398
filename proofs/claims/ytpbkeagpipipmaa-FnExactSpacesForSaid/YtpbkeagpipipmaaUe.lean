/-
  Why a line cannot be justified, and the attempt to justify one: the contracts of spec.juWhy and impl.attemptLine, and of the methods of what it answers.
-/
import Derived.Test.YtpbkeagpipipmaaUd
namespace Go.Proofs.Ytpbkeagpipipmaa
open Go.RowKit
set_option linter.unusedVariables false

/-- The number of gaps, and what the spaces fill. -/
def gpI (l : List Int) : Int := (l.length : Int) - 1
def rmI (l : List Int) (m : Int) : Int := m - l.sum
/-- The reason. -/
def whyV (l : List Int) (r : Ru) (m : Int) : Int :=
  if gpI l * r.lst ≤ rmI l m ∧ rmI l m ≤ gpI l * r.mst then 0 else if gpI l = 0 then 3 else if rmI l m < gpI l * r.lst then 1 else 2
theorem why_fits {l : List Int} {r : Ru} {m : Int} : whyV l r m = 0 ↔ gpI l * r.lst ≤ rmI l m ∧ rmI l m ≤ gpI l * r.mst := by
  unfold whyV
  split
  · rename_i h; exact ⟨fun _ => h, fun _ => rfl⟩
  · rename_i h
    refine ⟨fun e => absurd e ?_, fun h' => absurd h' h⟩
    repeat' split
    all_goals omega
theorem why_range (l : List Int) (r : Ru) (m : Int) : 0 ≤ whyV l r m ∧ whyV l r m ≤ 3 := by
  unfold whyV
  repeat' split
  all_goals omega
/-- What the attempt answers. -/
def attV (l : List Int) (r : Ru) (m : Int) : Value :=
  if whyV l r m = 0 then .iface 100 (.agg #[.int .i64 (gpI l), .int .i64 (rmI l m)]) else .iface 101 (.int .i64 (whyV l r m))
theorem attV_yes {l : List Int} {r : Ru} {m : Int} (h : whyV l r m = 0) : attV l r m = .iface 100 (.agg #[.int .i64 (gpI l), .int .i64 (rmI l m)]) := if_pos h
theorem attV_no {l : List Int} {r : Ru} {m : Int} (h : ¬ whyV l r m = 0) : attV l r m = .iface 101 (.int .i64 (whyV l r m)) := if_neg h
theorem ret_v {a b : Value} (h : a = b) : Ending.returned a = .returned b := by rw [h]
theorem why_cases (l : List Int) (r : Ru) (m : Int) :
    (gpI l * r.lst ≤ rmI l m ∧ rmI l m ≤ gpI l * r.mst ∧ whyV l r m = 0) ∨ (¬ gpI l * r.lst ≤ rmI l m ∧ gpI l = 0 ∧ whyV l r m = 3) ∨
    (gpI l * r.lst ≤ rmI l m ∧ ¬ rmI l m ≤ gpI l * r.mst ∧ gpI l = 0 ∧ whyV l r m = 3) ∨ (¬ gpI l * r.lst ≤ rmI l m ∧ ¬ gpI l = 0 ∧ whyV l r m = 1) ∨
    (gpI l * r.lst ≤ rmI l m ∧ ¬ rmI l m ≤ gpI l * r.mst ∧ ¬ gpI l = 0 ∧ whyV l r m = 2) := by
  unfold whyV
  generalize gpI l * r.lst = a
  generalize gpI l * r.mst = b
  generalize gpI l = g
  generalize rmI l m = x
  repeat' split
  all_goals omega
set_option maxRecDepth 100000 in
theorem juWhy_any (l : List Int) (A : Option Addr) (c : Nat) (r : Ru) (m : Int) (w : World) (hf : IntsIn w A l) (hl : GoodL l) (hr : GoodR r) (hm1 : 1 ≤ m) (hm2 : m ≤ 2000) : Calls Try.prog 60 #[.slice A l.length c, .agg #[.int .i64 r.lst, .int .i64 r.nrm, .int .i64 r.mst], .int .i64 m] w fun e w' => e = .returned (.int .i64 (whyV l r m)) ∧ Below w.heap.size w w' := by
  have HF := Lib.hid hf; have HL := Lib.hid hl; have HR := Lib.hid hr
  have HA : Hid (Below w.heap.size w (w.alloc (.cells #[.int .i64 r.lst, .int .i64 r.nrm, .int .i64 r.mst] 25))) := Lib.hid ((Below.refl _ _).alloc (Nat.le_refl _) _)
  have h20 := hl.most; have h01 := hl.one
  have hsum := hl.sum
  have r1 := hr.a; have r2 := hr.b; have r3 := hr.c; have r4 := hr.d
  clear hf hl hr
  have hp := gaps_mul (s := r.lst) (g := gpI l) (by omega) (by omega) (by unfold gpI; omega) (by unfold gpI; omega)
  have hq := gaps_mul (s := r.mst) (g := gpI l) (by omega) (by omega) (by unfold gpI; omega) (by unfold gpI; omega)
  rw [Int.mul_comm] at hp hq
  have hg : (l.length : Int) - 1 = gpI l := rfl
  have hx : m - l.sum = rmI l m := rfl
  have hgr : 0 ≤ gpI l ∧ gpI l ≤ 19 := by unfold gpI; omega
  have hxr : -20000 ≤ rmI l m ∧ rmI l m ≤ 2000 := by unfold rmI; omega
  have hcase := why_cases l r m
  have HV : Hid (whyV l r m = whyV l r m) := Lib.hid rfl
  go_enter Try.func60, Try.ntmps60
  go_wp2_with fail
  refine (juSum_any l A c _ (HF.out.below HA.out (Nat.le_refl _)) HL.out).mono ?_
  rintro e w' ⟨rfl, rfl⟩
  generalize hG : gpI l = G at *
  generalize hX : rmI l m = X at *
  have HGX := Lib.hid (And.intro hG hX)
  clear hG hX
  generalize hW : whyV l r m = W at *
  have HW := Lib.hid hW
  clear hW
  rcases hcase with ⟨c1, c2, rfl⟩ | ⟨c1, c2, rfl⟩ | ⟨c1, c2, c3, rfl⟩ | ⟨c1, c2, rfl⟩ | ⟨c1, c2, c3, rfl⟩
  · go_wp2
    go_ret
    exact ⟨ret_int HW.out.symm, HA.out⟩
  · have d1 : X < 0 := by rw [c2, Int.zero_mul] at c1; omega
    clear c1 hp hq
    have e0 : (G == 0) = true := by simp [c2]
    go_wp2
    go_ret
    exact ⟨ret_int HW.out.symm, HA.out⟩
  · have d1 : 0 < X := by rw [c3, Int.zero_mul] at c2; omega
    clear c1 c2 hp hq
    have e0 : (G == 0) = true := by simp [c3]
    go_wp2
    go_ret
    exact ⟨ret_int HW.out.symm, HA.out⟩
  · have e0 : (G == 0) = false := by simp [c2]
    have c4 : X < G * r.lst := by omega
    go_wp2
    go_ret
    exact ⟨ret_int HW.out.symm, HA.out⟩
  · have e0 : (G == 0) = false := by simp [c3]
    have c4 : ¬ X < G * r.lst := by omega
    go_wp2
    go_ret
    exact ⟨ret_int HW.out.symm, HA.out⟩
set_option maxRecDepth 100000 in
theorem attemptLine_any (l : List Int) (A : Option Addr) (c : Nat) (r : Ru) (m : Int) (w : World) (hf : IntsIn w A l) (hl : GoodL l) (hr : GoodR r) (hm1 : 1 ≤ m) (hm2 : m ≤ 2000) : Calls Try.prog 58 #[.slice A l.length c, .agg #[.int .i64 r.lst, .int .i64 r.nrm, .int .i64 r.mst], .int .i64 m] w fun e w' => e = .returned (attV l r m) ∧ Below w.heap.size w w' := by
  have HF := Lib.hid hf; have HL := Lib.hid hl; have HR := Lib.hid hr
  have HA : Hid (Below w.heap.size w (w.alloc (.cells #[.int .i64 r.lst, .int .i64 r.nrm, .int .i64 r.mst] 25))) := Lib.hid ((Below.refl _ _).alloc (Nat.le_refl _) _)
  have h20 := hl.most; have h01 := hl.one
  have hsum := hl.sum
  have r1 := hr.a; have r2 := hr.b; have r3 := hr.c; have r4 := hr.d
  clear hf hl hr
  have hp := gaps_mul (s := r.lst) (g := gpI l) (by omega) (by omega) (by unfold gpI; omega) (by unfold gpI; omega)
  have hq := gaps_mul (s := r.mst) (g := gpI l) (by omega) (by omega) (by unfold gpI; omega) (by unfold gpI; omega)
  rw [Int.mul_comm] at hp hq
  have hg : (l.length : Int) - 1 = gpI l := rfl
  have hx : m - l.sum = rmI l m := rfl
  have hgr : 0 ≤ gpI l ∧ gpI l ≤ 19 := by unfold gpI; omega
  have hxr : -20000 ≤ rmI l m ∧ rmI l m ≤ 2000 := by unfold rmI; omega
  have hcase := why_cases l r m
  have HV : Hid (whyV l r m = whyV l r m) := Lib.hid rfl
  have hw0 : widV l 0 = l.sum := by unfold widV; simp
  go_enter Try.func58, Try.ntmps58
  go_wp2_with fail
  refine (widthOfLine_any l A c 0 _ (HF.out.below HA.out (Nat.le_refl _)) HL.out (by omega) (by omega)).mono ?_
  rintro e w' ⟨rfl, rfl⟩
  rw [hw0]
  have HY := Lib.hid (attV_yes (l := l) (r := r) (m := m)); have HN := Lib.hid (attV_no (l := l) (r := r) (m := m))
  generalize hG : gpI l = G at *
  generalize hX : rmI l m = X at *
  have HGX := Lib.hid (And.intro hG hX)
  clear hG hX
  generalize hW : whyV l r m = W at *
  have HW := Lib.hid hW
  clear hW
  rcases hcase with ⟨c1, c2, rfl⟩ | ⟨c1, c2, rfl⟩ | ⟨c1, c2, c3, rfl⟩ | ⟨c1, c2, rfl⟩ | ⟨c1, c2, c3, rfl⟩
  · go_wp2
    go_ret
    exact ⟨ret_v (HY.out trivial).symm, HA.out⟩
  · have d1 : X < 0 := by rw [c2, Int.zero_mul] at c1; omega
    clear c1 hp hq
    have e0 : (G == 0) = true := by simp [c2]
    go_wp2
    go_ret
    exact ⟨ret_v (HN.out (by decide)).symm, HA.out⟩
  · have d1 : 0 < X := by rw [c3, Int.zero_mul] at c2; omega
    clear c1 c2 hp hq
    have e0 : (G == 0) = true := by simp [c3]
    go_wp2
    go_ret
    exact ⟨ret_v (HN.out (by decide)).symm, HA.out⟩
  · have e0 : (G == 0) = false := by simp [c2]
    have c4 : X < G * r.lst := by omega
    go_wp2
    go_ret
    exact ⟨ret_v (HN.out (by decide)).symm, HA.out⟩
  · have e0 : (G == 0) = false := by simp [c3]
    have c4 : ¬ X < G * r.lst := by omega
    go_wp2
    go_ret
    exact ⟨ret_v (HN.out (by decide)).symm, HA.out⟩
theorem jReason_any (g x : Int) (w : World) : Calls Try.prog 121 #[.agg #[.int .i64 g, .int .i64 x]] w fun e w' => e = .returned (.int .i64 0) ∧ Below w.heap.size w w' := by
  go_enter Try.func121, Try.ntmps121
  go_wp2
  go_ret
  exact ⟨rfl, (Below.refl _ _).alloc (Nat.le_refl _) _⟩
theorem fReason_any (k : Int) (w : World) : Calls Try.prog 124 #[.int .i64 k] w fun e w' => e = .returned (.int .i64 k) ∧ Below w.heap.size w w' := by
  go_enter Try.func124, Try.ntmps124
  go_wp2
  go_ret
  exact ⟨rfl, Below.refl _ _⟩
theorem fSpaces_any (k : Int) (w : World) : Calls Try.prog 125 #[.int .i64 k] w fun e w' => e = .returned (.slice none 0 0) ∧ Below w.heap.size w w' := by
  go_enter Try.func125, Try.ntmps125
  go_wp2
  go_ret
  exact ⟨rfl, Below.refl _ _⟩
set_option maxRecDepth 100000 in
theorem jSpaces_any (n : Nat) (x : Int) (w : World) (hn : n ≤ 20) (h0 : 0 ≤ x) (h1 : x ≤ 12000) :
    Calls Try.prog 122 #[.agg #[.int .i64 (n : Int), .int .i64 x]] w fun e w' => RowTo w w' e (evL x n) := by
  have HA : Hid (Below w.heap.size w (w.alloc (.cells #[.int .i64 (n : Int), .int .i64 x] 100))) := Lib.hid ((Below.refl _ _).alloc (Nat.le_refl _) _)
  go_enter Try.func122, Try.ntmps122
  go_wp2_with fail
  refine (evenShares_any x n _ hn h0 h1).mono ?_
  rintro e w1 ⟨v, rfl, hb, ho⟩
  have HB := Lib.hid (HA.out.trans (hb.mono HA.out.size))
  have HO := Lib.hid (Joins.ownsRow_le ho HA.out.size)
  clear hb ho
  go_wp2
  go_ret
  exact ⟨_, rfl, HB.out, HO.out⟩
end Go.Proofs.Ytpbkeagpipipmaa

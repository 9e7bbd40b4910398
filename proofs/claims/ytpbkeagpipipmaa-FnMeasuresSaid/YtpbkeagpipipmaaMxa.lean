import Derived.Test.YtpbkeagpipipmaaInts
import Derived.Test.YtpbkeagpipipmaaYa
/-
  The struct type Rule: its words, and the contracts of the laws' own helpers on it (to, sz, eq, mark): each answers what the plain words here say. (The text is made by a program of mine.)
-/
namespace Go.Proofs.Ytpbkeagpipipmaa
open Go.RowKit
set_option linter.unusedVariables false

structure Ru where
  lst : Int
  nrm : Int
  mst : Int
deriving DecidableEq, Inhabited

def Ru.zs (s : Ru) : List Int := [s.lst, s.nrm, s.mst]
def flatRu (f : List Ru) : List Value := f.flatMap fun s => intsZ s.zs
theorem flatRu_len (f : List Ru) : (flatRu f).length = 3 * f.length := by
  induction f with
  | nil => rfl
  | cons x r ih => simp [flatRu, intsZ, Ru.zs] at ih ⊢; omega
theorem flatRu_snoc (f : List Ru) (s : Ru) : flatRu (f ++ [s]) = flatRu f ++ [.int .i64 s.lst, .int .i64 s.nrm, .int .i64 s.mst] := by simp [flatRu, intsZ, Ru.zs]
theorem flatRu_get : ∀ (f : List Ru) (k : Nat) (h : k < f.length), (flatRu f)[k * 3]? = some (.int .i64 f[k].lst) ∧ (flatRu f)[k * 3 + 1]? = some (.int .i64 f[k].nrm) ∧ (flatRu f)[k * 3 + 2]? = some (.int .i64 f[k].mst)
  | x :: r, 0, _ => ⟨rfl, rfl, rfl⟩
  | x :: r, k + 1, h => by
    have ih := flatRu_get r k (by simpa using h)
    have e : flatRu (x :: r) = .int .i64 x.lst :: .int .i64 x.nrm :: .int .i64 x.mst :: flatRu r := rfl
    rw [e, show (k + 1) * 3 = k * 3 + 1 + 1 + 1 from by omega]
    simpa using ih
/-- A slice of them at A reads as f. -/
def RusIn (w : World) (A : Option Addr) (f : List Ru) : Prop :=
  0 < f.length → ∃ b off, A = some ⟨b, off, none⟩ ∧ b < w.heap.size ∧ ∀ k (h : k < f.length), w.cell? ⟨b, off + k * 3, none⟩ = some (.int .i64 f[k].lst) ∧ w.cell? ⟨b, off + k * 3 + 1, none⟩ = some (.int .i64 f[k].nrm) ∧ w.cell? ⟨b, off + k * 3 + 2, none⟩ = some (.int .i64 f[k].mst)
theorem RusIn.below {w w' : World} {B : Nat} {A : Option Addr} {f : List Ru} (h : RusIn w A f) (hb : Below B w w') (hB : w.heap.size ≤ B) : RusIn w' A f := by
  intro hn
  obtain ⟨b, off, rfl, h2, h3⟩ := h hn
  refine ⟨b, off, rfl, Nat.lt_of_lt_of_le h2 hb.size, fun k hk => ?_⟩
  rw [hb.cell (by show b < B; omega), hb.cell (by show b < B; omega), hb.cell (by show b < B; omega)]
  exact h3 k hk
theorem Own.rus {w : World} {b : Nat} {t : TypeId} {f : List Ru} (h : Own w b t (flatRu f)) : RusIn w (some ⟨b, 0, none⟩) f := fun _ =>
  ⟨b, 0, rfl, h.lt, fun k hk => by
    have hg := flatRu_get f k hk
    simp only [Nat.zero_add, h.cell]
    exact hg⟩
/-- Block b is a box that holds s. -/
def RuAt (w : World) (b : Nat) (t : TypeId) (s : Ru) : Prop := w.heap[b]? = some (.cells #[.int .i64 s.lst, .int .i64 s.nrm, .int .i64 s.mst] t (0, 0))
theorem RuAt.lt {w : World} {b : Nat} {t : TypeId} {s : Ru} (h : RuAt w b t s) : b < w.heap.size := lt_of_heap h
theorem RuAt.below {w w' : World} {b B : Nat} {t : TypeId} {s : Ru} (h : RuAt w b t s) (hb : Below B w w') (hB : b < B) : RuAt w' b t s := (hb.block b hB).trans h
theorem RuAt.next {w w' : World} {b : Nat} {t : TypeId} {s : Ru} (h : RuAt w b t s) (hb : Below w.heap.size w w') : RuAt w' b t s := h.below hb h.lt
theorem RuAt.cells {w : World} {b : Nat} {t : TypeId} {s : Ru} (h : RuAt w b t s) : w.cell? ⟨b, 0, none⟩ = some (.int .i64 s.lst) ∧ w.cell? ⟨b, 1, none⟩ = some (.int .i64 s.nrm) ∧ w.cell? ⟨b, 2, none⟩ = some (.int .i64 s.mst) := by
  refine ⟨?_, ?_, ?_⟩ <;> (rw [cell_of_heap h]; rfl)
theorem RuAt.free {w : World} {b : Nat} {t : TypeId} {s : Ru} (h : RuAt w b t s) (i : Nat) : w.frozen? ⟨b, i, none⟩ = false := free_of_heap h i
theorem RuAt.new (w : World) (t : TypeId) (s : Ru) : RuAt (w.alloc (.cells #[.int .i64 s.lst, .int .i64 s.nrm, .int .i64 s.mst] t)) w.heap.size t s := heap_new _ _
theorem RuAt.alloc {w : World} {b : Nat} {t : TypeId} {s : Ru} (h : RuAt w b t s) (o : Obj) : RuAt (w.alloc o) b t s := h.next ((Below.refl _ _).alloc (Nat.le_refl _) _)
theorem RuAt.kept {w : World} {b B : Nat} {t : TypeId} {s : Ru} (h : RuAt w b t s) (hB : b < B) : (∀ x : KeptW B w, x.at_.cell? ⟨b, 0, none⟩ = some (.int .i64 s.lst)) ∧ (∀ x : KeptW B w, x.at_.cell? ⟨b, 1, none⟩ = some (.int .i64 s.nrm)) ∧ (∀ x : KeptW B w, x.at_.cell? ⟨b, 2, none⟩ = some (.int .i64 s.mst)) :=
  ⟨KeptW.cell h.cells.1 hB, KeptW.cell h.cells.2.1 hB, KeptW.cell h.cells.2.2 hB⟩
theorem toRule_any (s : Ru) (w : World) :
    Calls Try.prog 40 #[.agg #[.int .i64 s.lst, .int .i64 s.nrm, .int .i64 s.mst]] w fun e w' => e = .returned (.agg #[.int .i64 s.lst, .int .i64 s.nrm, .int .i64 s.mst]) ∧ Below w.heap.size w w' := by
  go_enter Try.func40, Try.ntmps40
  go_wp2
  refine bodyPost_ret (v := .agg #[.int .i64 s.lst, .int .i64 s.nrm, .int .i64 s.mst]) (by simp [results, Try.results40, go_sem]) rfl ⟨rfl, ?_⟩
  exact (((Below.refl _ _).alloc (Nat.le_refl _) _).alloc (by simp) _).alloc (by simp; omega) _

theorem infoRu : (Try.prog.info? 25).map (fun i => (i.zero, i.size, i.bytes)) = some (some (.agg #[.int .i64 0, .int .i64 0, .int .i64 0]), 3, 24) := by kernel_rfl
end Go.Proofs.Ytpbkeagpipipmaa

/-
  Rules, lines and measures, and the contracts of the small functions of stage 9, in spec and in impl: each answers what the plain words here say and changes nothing that was there.
-/
namespace Go.Proofs.Ytpbkeagpipipmaa
open Go.RowKit
set_option linter.unusedVariables false

/-- A rule. -/
def juB (r : Ru) : Bool := decide (1 ≤ r.lst) && decide (r.lst ≤ r.nrm) && decide (r.nrm ≤ r.mst) && decide (r.mst ≤ 54)
structure GoodR (r : Ru) : Prop where
  a : 1 ≤ r.lst
  b : r.lst ≤ r.nrm
  c : r.nrm ≤ r.mst
  d : r.mst ≤ 54
theorem juB_iff {r : Ru} : juB r = true ↔ GoodR r := by
  unfold juB
  simp only [Bool.and_eq_true, decide_eq_true_eq]
  exact ⟨fun h => ⟨h.1.1.1, h.1.1.2, h.1.2, h.2⟩, fun h => ⟨⟨⟨h.a, h.b⟩, h.c⟩, h.d⟩⟩
/-- A line. -/
def juL (l : List Int) : Bool := inB 1 20 (l.length : Int) && allB 1 600 l
structure GoodL (l : List Int) : Prop where
  one : 1 ≤ l.length
  most : l.length ≤ 20
  all : ∀ j (h : j < l.length), 1 ≤ l[j] ∧ l[j] ≤ 600
theorem juL_iff {l : List Int} : juL l = true ↔ GoodL l := by
  unfold juL
  rw [Bool.and_eq_true, inB_iff, allB_iff]
  exact ⟨fun h => ⟨by omega, by omega, h.2⟩, fun h => ⟨⟨by have := h.one; omega, by have := h.most; omega⟩, h.all⟩⟩
theorem GoodL.take {l : List Int} (h : GoodL l) {k : Nat} (h1 : 1 ≤ k) (h2 : k ≤ l.length) : GoodL (l.take k) :=
  ⟨by rw [List.length_take]; omega, by have := h.most; rw [List.length_take]; omega, fun j hj => by rw [List.getElem_take]; exact h.all j (by rw [List.length_take] at hj; omega)⟩
/-- The sum of the first k. -/
def smK (l : List Int) (k : Nat) : Int := (l.take k).sum
theorem smK_zero (l : List Int) : smK l 0 = 0 := rfl
theorem smK_succ {l : List Int} {k : Nat} (h : k < l.length) : smK l (k + 1) = smK l k + l[k] := by
  unfold smK; rw [List.take_succ_eq_append_getElem h, List.sum_append]; simp only [List.sum_cons, List.sum_nil, Int.add_zero]
theorem smK_all (l : List Int) : smK l l.length = l.sum := by unfold smK; rw [List.take_length]
theorem smK_take (l : List Int) {j k : Nat} (h : j ≤ k) : smK (l.take k) j = smK l j := by unfold smK; rw [List.take_take, Nat.min_eq_left h]
theorem smK_range {l : List Int} {b : Int} (hb : 0 ≤ b) (ha : ∀ j (h : j < l.length), 0 ≤ l[j] ∧ l[j] ≤ b) : ∀ k, k ≤ l.length → 0 ≤ smK l k ∧ smK l k ≤ b * (k : Int)
  | 0, _ => by rw [smK_zero]; simp
  | k + 1, h => by
    have ih := smK_range hb ha k (by omega)
    have h1 := ha k (by omega)
    have e : b * ((k + 1 : Nat) : Int) = b * (k : Int) + b := by rw [show ((k + 1 : Nat) : Int) = (k : Int) + 1 from rfl, Int.mul_add, Int.mul_one]
    rw [smK_succ (by omega), e]
    omega
theorem GoodL.sums {l : List Int} (h : GoodL l) (k : Nat) (hk : k ≤ l.length) : 0 ≤ smK l k ∧ smK l k ≤ 12000 := by
  have h1 := smK_range (l := l) (b := 600) (by omega) (fun j hj => by have := h.all j hj; omega) k hk
  have := h.most
  omega
theorem GoodL.sum {l : List Int} (h : GoodL l) : 0 ≤ l.sum ∧ l.sum ≤ 12000 := by rw [← smK_all]; exact h.sums _ (Nat.le_refl _)
/-- The product of a width and of a number of gaps. -/
theorem gaps_mul {s g : Int} (h1 : 0 ≤ s) (h2 : s ≤ 600) (h3 : 0 ≤ g) (h4 : g ≤ 20) : 0 ≤ s * g ∧ s * g ≤ 12000 := by
  refine ⟨Int.mul_nonneg h1 h3, ?_⟩
  have := Int.mul_le_mul h2 h4 h3 (by omega)
  omega
/-- The width of a line with spaces that are all the same. -/
def widV (l : List Int) (s : Int) : Int := s * ((l.length : Int) - 1) + l.sum
theorem widV_comm (l : List Int) (s : Int) : l.sum + ((l.length : Int) - 1) * s = widV l s := by unfold widV; rw [Int.add_comm, Int.mul_comm]
theorem ret_bs {v : Value} {x y : Bool} (h : x = y) : Ending.returned (.tuple #[v, .bool x]) = .returned (.tuple #[v, .bool y]) := by rw [h]

set_option maxRecDepth 100000 in
theorem juRule_any (r : Ru) (w : World) : Calls Try.prog 65 #[.agg #[.int .i64 r.lst, .int .i64 r.nrm, .int .i64 r.mst]] w fun e w' => e = .returned (.bool (juB r)) ∧ Below w.heap.size w w' := by
  have HB : Hid (Below w.heap.size w (w.alloc (.cells #[.int .i64 r.lst, .int .i64 r.nrm, .int .i64 r.mst] 25))) := Lib.hid ((Below.refl _ _).alloc (Nat.le_refl _) _)
  have HE : Hid (juB r = (decide (1 ≤ r.lst) && decide (r.lst ≤ r.nrm) && decide (r.nrm ≤ r.mst) && decide (r.mst ≤ 54))) := Lib.hid rfl
  obtain ⟨a, b, c⟩ := r
  simp only at HE ⊢
  rcases (by omega : ¬ 1 ≤ a ∨ (1 ≤ a ∧ ¬ a ≤ b) ∨ (1 ≤ a ∧ a ≤ b ∧ ¬ b ≤ c) ∨ (1 ≤ a ∧ a ≤ b ∧ b ≤ c ∧ ¬ c ≤ 54) ∨ (1 ≤ a ∧ a ≤ b ∧ b ≤ c ∧ c ≤ 54)) with h1 | ⟨h1, h2⟩ | ⟨h1, h2, h3⟩ | ⟨h1, h2, h3, h4⟩ | ⟨h1, h2, h3, h4⟩
  all_goals
    go_enter Try.func65, Try.ntmps65
    go_wp2
    go_ret
    refine ⟨ret_bool (by rw [HE.out]; simp <;> omega), HB.out⟩
set_option maxRecDepth 100000 in
theorem implIsRule_any (r : Ru) (w : World) : Calls Try.prog 26 #[.agg #[.int .i64 r.lst, .int .i64 r.nrm, .int .i64 r.mst]] w fun e w' => e = .returned (.bool (juB r)) ∧ Below w.heap.size w w' := by
  have HB : Hid (Below w.heap.size w (w.alloc (.cells #[.int .i64 r.lst, .int .i64 r.nrm, .int .i64 r.mst] 25))) := Lib.hid ((Below.refl _ _).alloc (Nat.le_refl _) _)
  have HE : Hid (juB r = (decide (1 ≤ r.lst) && decide (r.lst ≤ r.nrm) && decide (r.nrm ≤ r.mst) && decide (r.mst ≤ 54))) := Lib.hid rfl
  obtain ⟨a, b, c⟩ := r
  simp only at HE ⊢
  rcases (by omega : ¬ 1 ≤ a ∨ (1 ≤ a ∧ ¬ a ≤ b) ∨ (1 ≤ a ∧ a ≤ b ∧ ¬ b ≤ c) ∨ (1 ≤ a ∧ a ≤ b ∧ b ≤ c ∧ ¬ c ≤ 54) ∨ (1 ≤ a ∧ a ≤ b ∧ b ≤ c ∧ c ≤ 54)) with h1 | ⟨h1, h2⟩ | ⟨h1, h2, h3⟩ | ⟨h1, h2, h3, h4⟩ | ⟨h1, h2, h3, h4⟩
  all_goals
    go_enter Try.func26, Try.ntmps26
    go_wp2
    go_ret
    refine ⟨ret_bool (by rw [HE.out]; simp <;> omega), HB.out⟩
theorem specIsRule_any (r : Ru) (w : World) : Calls Try.prog 29 #[.agg #[.int .i64 r.lst, .int .i64 r.nrm, .int .i64 r.mst]] w fun e w' => e = .returned (.bool (juB r)) ∧ Below w.heap.size w w' := by
  go_enter Try.func29, Try.ntmps29
  go_wp2_with fail
  refine (juRule_any r _).mono ?_
  rintro e w1 ⟨rfl, hb⟩
  have HB := Lib.hid (((Below.refl w.heap.size w).alloc (Nat.le_refl _) (.cells #[.int .i64 r.lst, .int .i64 r.nrm, .int .i64 r.mst] 25)).trans (hb.mono (by simp)))
  clear hb
  go_wp2
  go_ret
  exact ⟨rfl, HB.out⟩
theorem isMeasure_any (a : Int) (w : World) : Calls Try.prog 57 #[.int .i64 a] w fun e w' => e = .returned (.bool (inB 1 2000 a)) ∧ w = w' := by
  by_cases h1 : (1 : Int) ≤ a <;> by_cases h2 : a ≤ 2000 <;>
  · go_enter Try.func57, Try.ntmps57
    go_wp2
    go_ret
    exact ⟨by simp [inB, h1, h2], rfl⟩
theorem juMeasure_any (a : Int) (w : World) : Calls Try.prog 68 #[.int .i64 a] w fun e w' => e = .returned (.bool (inB 1 2000 a)) ∧ w = w' := by
  go_enter Try.func68, Try.ntmps68
  go_wp2_with fail
  refine (l1In_any _ _ _ _).mono ?_
  rintro e w' ⟨rfl, rfl⟩
  go_wp2
  go_ret
  exact ⟨rfl, rfl⟩
theorem juLine_any (l : List Int) (A : Option Addr) (c : Nat) (w : World) (hf : IntsIn w A l) (hn : l.length ≤ 1048576) :
    Calls Try.prog 64 #[.slice A l.length c] w fun e w' => e = .returned (.bool (juL l)) ∧ w = w' := by
  have HF := Lib.hid hf; clear hf
  go_enter Try.func64, Try.ntmps64
  go_wp2_with fail
  refine (l1In_any _ _ _ _).mono ?_
  rintro e w' ⟨rfl, rfl⟩
  cases hin : inB 1 20 (l.length : Int)
  · have H : Hid (juL l = false) := Lib.hid (by unfold juL; rw [hin]; rfl)
    clear hin
    go_wp2
    go_ret
    exact ⟨ret_bool H.out.symm, rfl⟩
  · have H : Hid (juL l = allB 1 600 l) := Lib.hid (by unfold juL; rw [hin]; rfl)
    clear hin
    go_wp2_with fail
    refine (l1All_any l A c _ _ _ HF.out (by unfold maxLen; omega)).mono ?_
    rintro e w' ⟨rfl, rfl⟩
    generalize allB 1 600 l = q at *
    go_wp2
    go_ret
    exact ⟨ret_bool H.out.symm, rfl⟩
theorem isLine_any (l : List Int) (A : Option Addr) (c : Nat) (w : World) (hf : IntsIn w A l) (hn : l.length ≤ 1048576) :
    Calls Try.prog 56 #[.slice A l.length c] w fun e w' => e = .returned (.bool (juL l)) ∧ w = w' := by
  have HF := Lib.hid hf; clear hf
  by_cases h1 : l.length < 1
  · have H : Hid (juL l = false) := Lib.hid (by unfold juL; rw [inB_no.2 (by omega)]; rfl)
    have h2 : (l.length : Int) < 1 := by omega
    go_enter Try.func56, Try.ntmps56
    go_wp2
    go_ret
    exact ⟨ret_bool H.out.symm, rfl⟩
  by_cases h2 : 20 < l.length
  · have H : Hid (juL l = false) := Lib.hid (by unfold juL; rw [inB_no.2 (by omega)]; rfl)
    go_enter Try.func56, Try.ntmps56
    go_wp2
    go_ret
    exact ⟨ret_bool H.out.symm, rfl⟩
  have HA : Hid (juL l = allB 1 600 l) := Lib.hid (by unfold juL; rw [inB_iff.2 (by omega)]; rfl)
  go_enter Try.func56, Try.ntmps56
  go_wp2
  go_loop [15] (fun i => ∃ (k : Nat), k ≤ l.length ∧ i = .int .i64 k ∧ allB 1 600 (l.take k) = true) (fun i => l.length - (intOf i).toNat)
  case atStart => exact ⟨0, Nat.zero_le _, rfl, rfl⟩
  case round =>
    obtain ⟨k, hk, rfl, hs⟩ := hrel
    have HS := Lib.hid hs; clear hs
    by_cases hlt : k < l.length
    · obtain ⟨b, off, rfl, hbl, hc⟩ := HF.out (by omega)
      have hc0 := hc k hlt
      clear hc
      have hst : allB 1 600 (l.take (k + 1)) = inB 1 600 l[k] := by rw [List.take_succ_eq_append_getElem hlt, allB_snoc, HS.out]; rfl
      have hno := allB_no (lo := 1) (hi := 600) hlt
      have HST := Lib.hid hst; have HNO := Lib.hid hno
      clear hst hno
      generalize l[k] = x at *
      rcases (by omega : x < 1 ∨ (¬ x < 1 ∧ 600 < x) ∨ (¬ x < 1 ∧ ¬ 600 < x)) with g1 | ⟨g1, g2⟩ | ⟨g1, g2⟩
      · have H : Hid (inB 1 600 x = false) := Lib.hid (inB_no.2 (by omega))
        go_wp2
        go_ret
        exact ⟨ret_bool (by rw [HA.out, HNO.out H.out]), rfl⟩
      · have H : Hid (inB 1 600 x = false) := Lib.hid (inB_no.2 (by omega))
        go_wp2
        go_ret
        exact ⟨ret_bool (by rw [HA.out, HNO.out H.out]), rfl⟩
      · have H : Hid (inB 1 600 x = true) := Lib.hid (inB_iff.2 (by omega))
        go_wp2
        go_round
        case rel => exact ⟨k + 1, by omega, by go_num, by rw [HST.out, H.out]⟩
        case measure => simp [intOf]; omega
    · obtain rfl : k = l.length := by omega
      go_wp2
      go_ret
      exact ⟨ret_bool (by have e := HS.out; rw [List.take_length] at e; rw [HA.out, e]), rfl⟩
theorem juSum_any (l : List Int) (A : Option Addr) (c : Nat) (w : World) (hf : IntsIn w A l) (hl : GoodL l) :
    Calls Try.prog 66 #[.slice A l.length c] w fun e w' => e = .returned (.int .i64 l.sum) ∧ w = w' := by
  have HF := Lib.hid hf; clear hf
  have HL := Lib.hid hl
  have hn := hl.most
  clear hl
  go_enter Try.func66, Try.ntmps66
  go_wp2
  go_loop [3, 8] (fun s i => ∃ (k : Nat), k ≤ l.length ∧ i = .int .i64 k ∧ s = .int .i64 (smK l k)) (fun _ i => l.length - (intOf i).toNat)
  case atStart => exact ⟨0, Nat.zero_le _, rfl, by rw [smK_zero]⟩
  case round =>
    obtain ⟨k, hk, rfl, rfl⟩ := hrel
    by_cases hlt : k < l.length
    · obtain ⟨b, off, rfl, hbl, hc⟩ := HF.out (by omega)
      have hc0 := hc k hlt
      clear hc
      have HST := Lib.hid (smK_succ hlt)
      have hx := HL.out.all k hlt
      have hq := HL.out.sums k hk
      generalize l[k] = x at *
      generalize hcq : smK l k = q at *
      clear hcq
      go_wp2
      go_round
      case rel => exact ⟨k + 1, by omega, by go_num, by rw [HST.out]⟩
      case measure => simp [intOf]; omega
    · obtain rfl : k = l.length := by omega
      go_wp2
      go_ret
      exact ⟨ret_int (smK_all l), rfl⟩
theorem widthOfLine_any (l : List Int) (A : Option Addr) (c : Nat) (s : Int) (w : World) (hf : IntsIn w A l) (hl : GoodL l) (h1 : 0 ≤ s) (h2 : s ≤ 54) :
    Calls Try.prog 63 #[.slice A l.length c, .int .i64 s] w fun e w' => e = .returned (.int .i64 (widV l s)) ∧ w = w' := by
  have HF := Lib.hid hf; clear hf
  have HL := Lib.hid hl
  have hn := hl.most
  have hn1 := hl.one
  clear hl
  have hp := gaps_mul (s := s) (g := (l.length : Int) - 1) h1 (by omega) (by omega) (by omega)
  go_enter Try.func63, Try.ntmps63
  go_wp2
  go_loop [5, 15] (fun s' i => ∃ (k : Nat), k ≤ l.length ∧ i = .int .i64 k ∧ s' = .int .i64 (s * ((l.length : Int) - 1) + smK l k)) (fun _ i => l.length - (intOf i).toNat)
  case atStart => exact ⟨0, Nat.zero_le _, rfl, by rw [smK_zero, Int.add_zero]⟩
  case round =>
    obtain ⟨k, hk, rfl, rfl⟩ := hrel
    by_cases hlt : k < l.length
    · obtain ⟨b, off, rfl, hbl, hc⟩ := HF.out (by omega)
      have hc0 := hc k hlt
      clear hc
      have HST := Lib.hid (smK_succ hlt)
      have hx := HL.out.all k hlt
      have hq := HL.out.sums k hk
      generalize l[k] = x at *
      generalize hcq : smK l k = q at *
      clear hcq
      go_wp2
      go_round
      case rel => exact ⟨k + 1, by omega, by go_num, by rw [HST.out, Int.add_assoc]⟩
      case measure => simp [intOf]; omega
    · obtain rfl : k = l.length := by omega
      go_wp2
      go_ret
      exact ⟨ret_int (by rw [smK_all]; rfl), rfl⟩
end Go.Proofs.Ytpbkeagpipipmaa

/-
  The contracts of NaturalWidth, WidthBounds and spec.juAsked: each answers what the plain words here say and changes nothing that was there.
-/
namespace Go.Proofs.Ytpbkeagpipipmaa
open Go.RowKit
set_option linter.unusedVariables false

/-- Line and rule are valid. -/
def lrB (l : List Int) (r : Ru) : Bool := juL l && juB r
def askB (l : List Int) (r : Ru) (m : Int) : Bool := lrB l r && inB 1 2000 m
theorem lrB_iff {l : List Int} {r : Ru} : lrB l r = true ↔ GoodL l ∧ GoodR r := by unfold lrB; rw [Bool.and_eq_true, juL_iff, juB_iff]
theorem askB_iff {l : List Int} {r : Ru} {m : Int} : askB l r m = true ↔ GoodL l ∧ GoodR r ∧ 1 ≤ m ∧ m ≤ 2000 := by unfold askB; rw [Bool.and_eq_true, lrB_iff, inB_iff, and_assoc]
def nwV (l : List Int) (r : Ru) : Int := if lrB l r then widV l r.nrm else 0
def wbL (l : List Int) (r : Ru) : Int := if lrB l r then widV l r.lst else 0
def wbH (l : List Int) (r : Ru) : Int := if lrB l r then widV l r.mst else 0
theorem lr_no {l : List Int} {r : Ru} (h : lrB l r = false) : nwV l r = 0 ∧ wbL l r = 0 ∧ wbH l r = 0 := by unfold nwV wbL wbH; rw [h]; exact ⟨rfl, rfl, rfl⟩
theorem lr_yes {l : List Int} {r : Ru} (h : lrB l r = true) : nwV l r = widV l r.nrm ∧ wbL l r = widV l r.lst ∧ wbH l r = widV l r.mst := by unfold nwV wbL wbH; rw [h]; exact ⟨rfl, rfl, rfl⟩
theorem lr_not1 {l : List Int} {r : Ru} (h : juL l = false) : lrB l r = false := by unfold lrB; rw [h]; rfl
theorem lr_not2 {l : List Int} {r : Ru} (h : juB r = false) : lrB l r = false := by unfold lrB; rw [h, Bool.and_false]

set_option maxRecDepth 100000 in
theorem implNaturalWidth_any (l : List Int) (A : Option Addr) (c : Nat) (r : Ru) (w : World) (hf : IntsIn w A l) (hn : l.length ≤ 1048576) : Calls Try.prog 23 #[.slice A l.length c, .agg #[.int .i64 r.lst, .int .i64 r.nrm, .int .i64 r.mst]] w fun e w' => e = .returned (.tuple #[.int .i64 (nwV l r), .bool (lrB l r)]) ∧ Below w.heap.size w w' := by
  have HF := Lib.hid hf; clear hf
  have HA : Hid (Below w.heap.size w (w.alloc (.cells #[.int .i64 r.lst, .int .i64 r.nrm, .int .i64 r.mst] 25))) := Lib.hid ((Below.refl _ _).alloc (Nat.le_refl _) _)
  have HR : Hid (RuAt (w.alloc (.cells #[.int .i64 r.lst, .int .i64 r.nrm, .int .i64 r.mst] 25)) w.heap.size 25 r) := Lib.hid (RuAt.new _ _ _)
  go_enter Try.func23, Try.ntmps23
  go_wp2_with fail
  refine (isLine_any l A c _ (HF.out.below HA.out (Nat.le_refl _)) hn).mono ?_
  rintro e w' ⟨rfl, rfl⟩
  cases hg1 : juL l
  · have H := Lib.hid (lr_not1 (r := r) hg1); clear hg1
    have HV := Lib.hid (lr_no H.out)
    go_wp2
    (refine bodyPost_ret (v := .tuple #[.int .i64 (0), .bool false]) (by simp [results, Try.results23, go_sem]) rfl ?_; exact ⟨ret_ib HV.out.1.symm H.out.symm, HA.out⟩)
  have HG1 := Lib.hid hg1; clear hg1
  go_wp2_with fail
  refine (implIsRule_any r _).mono ?_
  rintro e w1 ⟨rfl, hb1⟩
  have HB1 := Lib.hid (HA.out.trans (hb1.mono HA.out.size))
  have HR1 := Lib.hid (HR.out.next hb1)
  have HF1 := Lib.hid (HF.out.below HB1.out (Nat.le_refl _))
  clear hb1
  cases hg2 : juB r
  · have H := Lib.hid (lr_not2 (l := l) hg2); clear hg2
    have HV := Lib.hid (lr_no H.out)
    go_wp2
    (refine bodyPost_ret (v := .tuple #[.int .i64 (0), .bool false]) (by simp [results, Try.results23, go_sem]) rfl ?_; exact ⟨ret_ib HV.out.1.symm H.out.symm, HB1.out⟩)
  have hy : lrB l r = true := by unfold lrB; rw [HG1.out, hg2]; rfl
  clear hg2
  obtain ⟨gl, gr⟩ := lrB_iff.1 hy
  have HGL := Lib.hid gl; have HGR := Lib.hid gr
  have HV := Lib.hid (lr_yes hy)
  have HY := Lib.hid hy
  clear hy gl gr
  obtain ⟨m0, m1, m2⟩ := HR1.out.cells
  have ml := HR1.out.lt
  have hs := HGR.out.a; have hs1 := HGR.out.b; have hs2 := HGR.out.c; have hs3 := HGR.out.d
  go_wp2_with fail
  refine (widthOfLine_any l A c r.nrm _ HF1.out HGL.out (by omega) (by omega)).mono ?_
  rintro e w' ⟨rfl, rfl⟩
  generalize widV l r.nrm = V at *
  go_wp2
  refine bodyPost_ret (v := .tuple #[.int .i64 (V), .bool true]) (by simp [results, Try.results23, go_sem]) rfl ?_
  exact ⟨ret_ib HV.out.1.symm HY.out.symm, HB1.out⟩
set_option maxRecDepth 100000 in
theorem specNaturalWidth_any (l : List Int) (A : Option Addr) (c : Nat) (r : Ru) (w : World) (hf : IntsIn w A l) (hn : l.length ≤ 1048576) : Calls Try.prog 24 #[.slice A l.length c, .agg #[.int .i64 r.lst, .int .i64 r.nrm, .int .i64 r.mst]] w fun e w' => e = .returned (.tuple #[.int .i64 (nwV l r), .bool (lrB l r)]) ∧ Below w.heap.size w w' := by
  have HF := Lib.hid hf; clear hf
  have HA : Hid (Below w.heap.size w (w.alloc (.cells #[.int .i64 r.lst, .int .i64 r.nrm, .int .i64 r.mst] 25))) := Lib.hid ((Below.refl _ _).alloc (Nat.le_refl _) _)
  have HR : Hid (RuAt (w.alloc (.cells #[.int .i64 r.lst, .int .i64 r.nrm, .int .i64 r.mst] 25)) w.heap.size 25 r) := Lib.hid (RuAt.new _ _ _)
  go_enter Try.func24, Try.ntmps24
  go_wp2_with fail
  refine (juLine_any l A c _ (HF.out.below HA.out (Nat.le_refl _)) hn).mono ?_
  rintro e w' ⟨rfl, rfl⟩
  cases hg1 : juL l
  · have H := Lib.hid (lr_not1 (r := r) hg1); clear hg1
    have HV := Lib.hid (lr_no H.out)
    go_wp2
    (refine bodyPost_ret (v := .tuple #[.int .i64 (0), .bool false]) (by simp [results, Try.results24, go_sem]) rfl ?_; exact ⟨ret_ib HV.out.1.symm H.out.symm, HA.out⟩)
  have HG1 := Lib.hid hg1; clear hg1
  go_wp2_with fail
  refine (juRule_any r _).mono ?_
  rintro e w1 ⟨rfl, hb1⟩
  have HB1 := Lib.hid (HA.out.trans (hb1.mono HA.out.size))
  have HR1 := Lib.hid (HR.out.next hb1)
  have HF1 := Lib.hid (HF.out.below HB1.out (Nat.le_refl _))
  clear hb1
  cases hg2 : juB r
  · have H := Lib.hid (lr_not2 (l := l) hg2); clear hg2
    have HV := Lib.hid (lr_no H.out)
    go_wp2
    (refine bodyPost_ret (v := .tuple #[.int .i64 (0), .bool false]) (by simp [results, Try.results24, go_sem]) rfl ?_; exact ⟨ret_ib HV.out.1.symm H.out.symm, HB1.out⟩)
  have hy : lrB l r = true := by unfold lrB; rw [HG1.out, hg2]; rfl
  clear hg2
  obtain ⟨gl, gr⟩ := lrB_iff.1 hy
  have HGL := Lib.hid gl; have HGR := Lib.hid gr
  have HV := Lib.hid (lr_yes hy)
  have HY := Lib.hid hy
  clear hy gl gr
  obtain ⟨m0, m1, m2⟩ := HR1.out.cells
  have ml := HR1.out.lt
  have hs := HGR.out.a; have hs1 := HGR.out.b; have hs2 := HGR.out.c; have hs3 := HGR.out.d
  have hw1 := HGL.out.one; have hw2 := HGL.out.most
  have hsum := HGL.out.sum
  have hp := gaps_mul (s := r.nrm) (g := (l.length : Int) - 1) (by omega) (by omega) (by omega) (by omega)
  rw [Int.mul_comm] at hp
  have HW := Lib.hid (widV_comm l r.nrm)
  generalize hS : l.sum = S at *
  have hj : ∀ x : KeptW w1.heap.size w1, Calls Try.prog 66 #[.slice A l.length c] x.at_ fun e w' => e = .returned (.int .i64 S) ∧ ∃ y : KeptW w1.heap.size w1, w' = y.at_ := fun x =>
    kept_same x (by rw [← hS]; exact juSum_any l A c x.at_ (HF1.out.below x.below (Nat.le_refl _)) HGL.out)
  obtain ⟨-, k1, -⟩ := HR1.out.kept ml
  clear m0 m1 m2 hS
  go_wp2_with fail
  refine region_kept w1.heap.size (by kernel_rfl) (by kernel_rfl) ?_
  repeat (go_big_quiet_step ((go_at_call 66; exact hj _)))
  refine wpQuiet_nil ?_
  intro w2 hb2
  have HB2 := Lib.hid (HB1.out.trans (hb2.mono HB1.out.size))
  clear hb2 hj k1
  go_wp2
  refine bodyPost_ret (v := .tuple #[.int .i64 (S + ((l.length : Int) - 1) * r.nrm), .bool true]) (by simp [results, Try.results24, go_sem]) rfl ?_
  exact ⟨ret_ib (HW.out.trans HV.out.1.symm) HY.out.symm, HB2.out⟩
set_option maxRecDepth 100000 in
theorem implWidthBounds_any (l : List Int) (A : Option Addr) (c : Nat) (r : Ru) (w : World) (hf : IntsIn w A l) (hn : l.length ≤ 1048576) : Calls Try.prog 21 #[.slice A l.length c, .agg #[.int .i64 r.lst, .int .i64 r.nrm, .int .i64 r.mst]] w fun e w' => e = .returned (.tuple #[.int .i64 (wbL l r), .int .i64 (wbH l r), .bool (lrB l r)]) ∧ Below w.heap.size w w' := by
  have HF := Lib.hid hf; clear hf
  have HA : Hid (Below w.heap.size w (w.alloc (.cells #[.int .i64 r.lst, .int .i64 r.nrm, .int .i64 r.mst] 25))) := Lib.hid ((Below.refl _ _).alloc (Nat.le_refl _) _)
  have HR : Hid (RuAt (w.alloc (.cells #[.int .i64 r.lst, .int .i64 r.nrm, .int .i64 r.mst] 25)) w.heap.size 25 r) := Lib.hid (RuAt.new _ _ _)
  go_enter Try.func21, Try.ntmps21
  go_wp2_with fail
  refine (isLine_any l A c _ (HF.out.below HA.out (Nat.le_refl _)) hn).mono ?_
  rintro e w' ⟨rfl, rfl⟩
  cases hg1 : juL l
  · have H := Lib.hid (lr_not1 (r := r) hg1); clear hg1
    have HV := Lib.hid (lr_no H.out)
    go_wp2
    (refine bodyPost_ret (v := .tuple #[.int .i64 (0), .int .i64 (0), .bool false]) (by simp [results, Try.results21, go_sem]) rfl ?_; exact ⟨ret_iib HV.out.2.1.symm HV.out.2.2.symm H.out.symm, HA.out⟩)
  have HG1 := Lib.hid hg1; clear hg1
  go_wp2_with fail
  refine (implIsRule_any r _).mono ?_
  rintro e w1 ⟨rfl, hb1⟩
  have HB1 := Lib.hid (HA.out.trans (hb1.mono HA.out.size))
  have HR1 := Lib.hid (HR.out.next hb1)
  have HF1 := Lib.hid (HF.out.below HB1.out (Nat.le_refl _))
  clear hb1
  cases hg2 : juB r
  · have H := Lib.hid (lr_not2 (l := l) hg2); clear hg2
    have HV := Lib.hid (lr_no H.out)
    go_wp2
    (refine bodyPost_ret (v := .tuple #[.int .i64 (0), .int .i64 (0), .bool false]) (by simp [results, Try.results21, go_sem]) rfl ?_; exact ⟨ret_iib HV.out.2.1.symm HV.out.2.2.symm H.out.symm, HB1.out⟩)
  have hy : lrB l r = true := by unfold lrB; rw [HG1.out, hg2]; rfl
  clear hg2
  obtain ⟨gl, gr⟩ := lrB_iff.1 hy
  have HGL := Lib.hid gl; have HGR := Lib.hid gr
  have HV := Lib.hid (lr_yes hy)
  have HY := Lib.hid hy
  clear hy gl gr
  obtain ⟨m0, m1, m2⟩ := HR1.out.cells
  have ml := HR1.out.lt
  have hs := HGR.out.a; have hs1 := HGR.out.b; have hs2 := HGR.out.c; have hs3 := HGR.out.d
  have hj : ∀ (s : Int), 0 ≤ s → s ≤ 54 → ∀ x : KeptW w1.heap.size w1, Calls Try.prog 63 #[.slice A l.length c, .int .i64 s] x.at_ fun e w' => e = .returned (.int .i64 (widV l s)) ∧ ∃ y : KeptW w1.heap.size w1, w' = y.at_ := fun s h1 h2 x =>
    kept_same x (widthOfLine_any l A c s x.at_ (HF1.out.below x.below (Nat.le_refl _)) HGL.out h1 h2)
  obtain ⟨k0, -, k2⟩ := HR1.out.kept ml
  clear m0 m1 m2
  have hj1 := hj r.lst (by omega) (by omega)
  have hj2 := hj r.mst (by omega) (by omega)
  clear hj
  generalize widV l r.lst = V at *
  generalize widV l r.mst = V' at *
  go_wp2_with fail
  refine region_kept w1.heap.size (by kernel_rfl) (by kernel_rfl) ?_
  repeat (go_big_quiet_step (fail))
  go_big_quiet_step ((go_at_call 63; exact hj1 _))
  repeat (go_big_quiet_step (fail))
  go_big_quiet_step ((go_at_call 63; exact hj2 _))
  repeat (go_big_quiet_step (fail))
  refine wpQuiet_nil ?_
  intro w2 hb2
  have HB2 := Lib.hid (HB1.out.trans (hb2.mono HB1.out.size))
  clear hb2 hj1 hj2 k0 k2
  go_wp2
  refine bodyPost_ret (v := .tuple #[.int .i64 (V), .int .i64 (V'), .bool true]) (by simp [results, Try.results21, go_sem]) rfl ?_
  exact ⟨ret_iib HV.out.2.1.symm HV.out.2.2.symm HY.out.symm, HB2.out⟩
set_option maxRecDepth 100000 in
theorem specWidthBounds_any (l : List Int) (A : Option Addr) (c : Nat) (r : Ru) (w : World) (hf : IntsIn w A l) (hn : l.length ≤ 1048576) : Calls Try.prog 22 #[.slice A l.length c, .agg #[.int .i64 r.lst, .int .i64 r.nrm, .int .i64 r.mst]] w fun e w' => e = .returned (.tuple #[.int .i64 (wbL l r), .int .i64 (wbH l r), .bool (lrB l r)]) ∧ Below w.heap.size w w' := by
  have HF := Lib.hid hf; clear hf
  have HA : Hid (Below w.heap.size w (w.alloc (.cells #[.int .i64 r.lst, .int .i64 r.nrm, .int .i64 r.mst] 25))) := Lib.hid ((Below.refl _ _).alloc (Nat.le_refl _) _)
  have HR : Hid (RuAt (w.alloc (.cells #[.int .i64 r.lst, .int .i64 r.nrm, .int .i64 r.mst] 25)) w.heap.size 25 r) := Lib.hid (RuAt.new _ _ _)
  go_enter Try.func22, Try.ntmps22
  go_wp2_with fail
  refine (juLine_any l A c _ (HF.out.below HA.out (Nat.le_refl _)) hn).mono ?_
  rintro e w' ⟨rfl, rfl⟩
  cases hg1 : juL l
  · have H := Lib.hid (lr_not1 (r := r) hg1); clear hg1
    have HV := Lib.hid (lr_no H.out)
    go_wp2
    (refine bodyPost_ret (v := .tuple #[.int .i64 (0), .int .i64 (0), .bool false]) (by simp [results, Try.results22, go_sem]) rfl ?_; exact ⟨ret_iib HV.out.2.1.symm HV.out.2.2.symm H.out.symm, HA.out⟩)
  have HG1 := Lib.hid hg1; clear hg1
  go_wp2_with fail
  refine (juRule_any r _).mono ?_
  rintro e w1 ⟨rfl, hb1⟩
  have HB1 := Lib.hid (HA.out.trans (hb1.mono HA.out.size))
  have HR1 := Lib.hid (HR.out.next hb1)
  have HF1 := Lib.hid (HF.out.below HB1.out (Nat.le_refl _))
  clear hb1
  cases hg2 : juB r
  · have H := Lib.hid (lr_not2 (l := l) hg2); clear hg2
    have HV := Lib.hid (lr_no H.out)
    go_wp2
    (refine bodyPost_ret (v := .tuple #[.int .i64 (0), .int .i64 (0), .bool false]) (by simp [results, Try.results22, go_sem]) rfl ?_; exact ⟨ret_iib HV.out.2.1.symm HV.out.2.2.symm H.out.symm, HB1.out⟩)
  have hy : lrB l r = true := by unfold lrB; rw [HG1.out, hg2]; rfl
  clear hg2
  obtain ⟨gl, gr⟩ := lrB_iff.1 hy
  have HGL := Lib.hid gl; have HGR := Lib.hid gr
  have HV := Lib.hid (lr_yes hy)
  have HY := Lib.hid hy
  clear hy gl gr
  obtain ⟨m0, m1, m2⟩ := HR1.out.cells
  have ml := HR1.out.lt
  have hs := HGR.out.a; have hs1 := HGR.out.b; have hs2 := HGR.out.c; have hs3 := HGR.out.d
  have hw1 := HGL.out.one; have hw2 := HGL.out.most
  have hsum := HGL.out.sum
  have hp := gaps_mul (s := r.lst) (g := (l.length : Int) - 1) (by omega) (by omega) (by omega) (by omega)
  have hq := gaps_mul (s := r.mst) (g := (l.length : Int) - 1) (by omega) (by omega) (by omega) (by omega)
  rw [Int.mul_comm] at hp hq
  have HW := Lib.hid (widV_comm l r.lst)
  have HW2 := Lib.hid (widV_comm l r.mst)
  generalize hS : l.sum = S at *
  have hj : ∀ x : KeptW w1.heap.size w1, Calls Try.prog 66 #[.slice A l.length c] x.at_ fun e w' => e = .returned (.int .i64 S) ∧ ∃ y : KeptW w1.heap.size w1, w' = y.at_ := fun x =>
    kept_same x (by rw [← hS]; exact juSum_any l A c x.at_ (HF1.out.below x.below (Nat.le_refl _)) HGL.out)
  obtain ⟨k0, -, k2⟩ := HR1.out.kept ml
  clear m0 m1 m2 hS
  go_wp2_with fail
  refine region_kept w1.heap.size (by kernel_rfl) (by kernel_rfl) ?_
  repeat (go_big_quiet_step ((go_at_call 66; exact hj _)))
  refine wpQuiet_nil ?_
  intro w2 hb2
  have HB2 := Lib.hid (HB1.out.trans (hb2.mono HB1.out.size))
  clear hb2 hj k0 k2
  go_wp2
  refine bodyPost_ret (v := .tuple #[.int .i64 (S + ((l.length : Int) - 1) * r.lst), .int .i64 (S + ((l.length : Int) - 1) * r.mst), .bool true]) (by simp [results, Try.results22, go_sem]) rfl ?_
  exact ⟨ret_iib (HW.out.trans HV.out.2.1.symm) (HW2.out.trans HV.out.2.2.symm) HY.out.symm, HB2.out⟩
set_option maxRecDepth 100000 in
theorem juAsked_any (l : List Int) (A : Option Addr) (c : Nat) (r : Ru) (m : Int) (w : World) (hf : IntsIn w A l) (hn : l.length ≤ 1048576) :
    Calls Try.prog 59 #[.slice A l.length c, .agg #[.int .i64 r.lst, .int .i64 r.nrm, .int .i64 r.mst], .int .i64 m] w fun e w' => e = .returned (.bool (askB l r m)) ∧ Below w.heap.size w w' := by
  have HF := Lib.hid hf; clear hf
  have HA : Hid (Below w.heap.size w (w.alloc (.cells #[.int .i64 r.lst, .int .i64 r.nrm, .int .i64 r.mst] 25))) := Lib.hid ((Below.refl _ _).alloc (Nat.le_refl _) _)
  have HR : Hid (RuAt (w.alloc (.cells #[.int .i64 r.lst, .int .i64 r.nrm, .int .i64 r.mst] 25)) w.heap.size 25 r) := Lib.hid (RuAt.new _ _ _)
  go_enter Try.func59, Try.ntmps59
  go_wp2_with fail
  refine (juLine_any l A c _ (HF.out.below HA.out (Nat.le_refl _)) hn).mono ?_
  rintro e w' ⟨rfl, rfl⟩
  cases hg1 : juL l
  · have H := Lib.hid (lr_not1 (r := r) hg1); clear hg1
    go_wp2
    go_ret
    exact ⟨ret_bool (by unfold askB; rw [H.out]; rfl), HA.out⟩
  have HG1 := Lib.hid hg1; clear hg1
  go_wp2_with fail
  refine (juRule_any r _).mono ?_
  rintro e w1 ⟨rfl, hb1⟩
  have HB1 := Lib.hid (HA.out.trans (hb1.mono HA.out.size))
  have HR1 := Lib.hid (HR.out.next hb1)
  have HF1 := Lib.hid (HF.out.below HB1.out (Nat.le_refl _))
  clear hb1
  cases hg2 : juB r
  · have H := Lib.hid (lr_not2 (l := l) hg2); clear hg2
    go_wp2
    go_ret
    exact ⟨ret_bool (by unfold askB; rw [H.out]; rfl), HB1.out⟩
  have HY : Hid (lrB l r = true) := Lib.hid (by unfold lrB; rw [HG1.out, hg2]; rfl)
  clear hg2
  go_wp2_with fail
  refine (juMeasure_any _ _).mono ?_
  rintro e w' ⟨rfl, rfl⟩
  generalize hq : inB 1 2000 m = q at *
  have HQ := Lib.hid hq; clear hq
  go_wp2
  go_ret
  exact ⟨ret_bool (by unfold askB; rw [HY.out, HQ.out]; rfl), HB1.out⟩
end Go.Proofs.Ytpbkeagpipipmaa

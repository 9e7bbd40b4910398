/-
  Tables of entries in plain words, and the contracts of spec.tbEntry, tbGood, IsTable, tbGap, tbAsked and impl.isEntry, IsTable, newGappedTable.
-/
import Derived.Test.YteagclokobkigaaEa
import Derived.Test.YteagclokobkigaaIn
import Derived.Test.YteagclokobkigaaTail
import Derived.IntWalk
namespace Go.Proofs.Yteagclokobkigaa
open Go.RowKit
set_option linter.unusedVariables false

theorem inBs_iff {a b c : Int} : inB a b c = true ↔ a ≤ c ∧ c ≤ b := by simp [inB]
theorem inBs_no {a b c : Int} (h : ¬ (a ≤ c ∧ c ≤ b)) : inB a b c = false := by cases hb : inB a b c with | false => rfl | true => exact absurd (inBs_iff.1 hb) h
/-- An entry of a table of n columns. -/
structure EnOk (n : Int) (x : En) : Prop where
  c0 : 0 ≤ x.col
  c1 : x.col ≤ n - 1
  s0 : 1 ≤ x.spa
  s1 : x.spa ≤ n - x.col
  w0 : 0 ≤ x.wid
  w1 : x.wid ≤ 600
open Classical in
noncomputable def enB (n : Int) (x : En) : Bool := decide (EnOk n x)
theorem enB_iff {n : Int} {x : En} : enB n x = true ↔ EnOk n x := by unfold enB; exact @decide_eq_true_iff _ (Classical.propDecidable _)
theorem enB_no {n : Int} {x : En} (h : ¬ EnOk n x) : enB n x = false := by cases hb : enB n x with | false => rfl | true => exact absurd (enB_iff.1 hb) h
def EnsUp (n : Int) (l : List En) (k : Nat) : Prop := ∀ j (h : j < l.length), j < k → EnOk n l[j]
theorem EnsUp.zero (n : Int) (l : List En) : EnsUp n l 0 := fun _ _ h => absurd h (by omega)
theorem EnsUp.succ {n : Int} {l : List En} {k : Nat} (h : EnsUp n l k) (hk : k < l.length) (h1 : EnOk n l[k]) : EnsUp n l (k + 1) := fun j hj hjk => by
  rcases Nat.lt_or_ge j k with h3 | h3
  · exact h j hj h3
  · obtain rfl : j = k := by omega
    exact h1
/-- A table. -/
structure GoodT (n : Int) (l : List En) : Prop where
  n0 : 1 ≤ n
  n1 : n ≤ 10
  len : l.length ≤ 20
  at_ : EnsUp n l l.length
theorem GoodT.en {n : Int} {l : List En} (h : GoodT n l) {j : Nat} (hj : j < l.length) : EnOk n l[j] := h.at_ j hj hj
/-- The columns are ints. -/
def EnR (l : List En) : Prop := ∀ (j : Nat) (h : j < l.length), l[j].col ≤ 9223372036854775807
open Classical in
noncomputable def tbB (n : Int) (l : List En) : Bool := decide (GoodT n l)
theorem tbB_iff {n : Int} {l : List En} : tbB n l = true ↔ GoodT n l := by unfold tbB; exact @decide_eq_true_iff _ (Classical.propDecidable _)
theorem tbB_no {n : Int} {l : List En} (h : ¬ GoodT n l) : tbB n l = false := by cases hb : tbB n l with | false => rfl | true => exact absurd (tbB_iff.1 hb) h
noncomputable def askT (n : Int) (l : List En) (g : Int) : Bool := tbB n l && inB 0 36 g
theorem askT_iff {n : Int} {l : List En} {g : Int} : askT n l g = true ↔ GoodT n l ∧ 0 ≤ g ∧ g ≤ 36 := by unfold askT; rw [Bool.and_eq_true, tbB_iff, inBs_iff]
theorem ret_ib {a a' : Int} {b b' : Bool} (h1 : a = a') (h2 : b = b') : Ending.returned (.tuple #[.int .i64 a, .bool b]) = .returned (.tuple #[.int .i64 a', .bool b']) := by rw [h1, h2]
theorem ret_vb {v : Value} {b b' : Bool} (h2 : b = b') : Ending.returned (.tuple #[v, .bool b]) = .returned (.tuple #[v, .bool b']) := by rw [h2]

/-- The first number of a table, wrapped or not. -/
theorem subw {a b : Int} : Go.IntKind.i64.wrap (a - b) = Go.IntKind.i64.wrap (a - b) := rfl
set_option maxRecDepth 100000 in
set_option maxHeartbeats 1000000 in
theorem isEntry_any (n : Int) (x : En) (w : World) (h1 : 1 ≤ n) (h10 : n ≤ 10) (hr : x.col ≤ 9223372036854775807) :
    Calls Try.prog 48 #[.int .i64 n, .agg #[.int .i64 x.col, .int .i64 x.spa, .int .i64 x.wid]] w fun e w' => e = .returned (.bool (enB n x)) ∧ Below w.heap.size w w' := by
  have HB : Hid (Below w.heap.size w (w.alloc (.cells #[.int .i64 x.col, .int .i64 x.spa, .int .i64 x.wid] 36))) := Lib.hid ((Below.refl _ _).alloc (Nat.le_refl _) _)
  have HI := Lib.hid (enB_iff (n := n) (x := x)); have HN := Lib.hid (enB_no (n := n) (x := x))
  rcases x with ⟨p, q, r⟩
  simp only at hr
  rcases (by omega : p < 0 ∨ (0 ≤ p ∧ q < 1) ∨ (0 ≤ p ∧ 1 ≤ q ∧ (n < p + q)) ∨ (0 ≤ p ∧ 1 ≤ q ∧ p + q ≤ n ∧ r < 0) ∨ (0 ≤ p ∧ 1 ≤ q ∧ p + q ≤ n ∧ 0 ≤ r ∧ 600 < r) ∨ (0 ≤ p ∧ 1 ≤ q ∧ p + q ≤ n ∧ 0 ≤ r ∧ r ≤ 600)) with h | ⟨h2, h3⟩ | ⟨h2, h3, h4⟩ | ⟨h2, h3, h4, h5⟩ | ⟨h2, h3, h4, h5, h6⟩ | ⟨h2, h3, h4, h5, h6⟩
  · have HE : Hid (enB n ⟨p, q, r⟩ = false) := Lib.hid (HN.out fun g => by have := g.c0; simp only at this; omega)
    go_enter Try.func48, Try.ntmps48
    go_wp2
    go_ret
    exact ⟨ret_bool (by first | exact HE.out.symm | (rw [HE.out]; simp; omega)), HB.out⟩
  · have HE : Hid (enB n ⟨p, q, r⟩ = false) := Lib.hid (HN.out fun g => by have := g.s0; simp only at this; omega)
    go_enter Try.func48, Try.ntmps48
    go_wp2
    go_ret
    exact ⟨ret_bool (by first | exact HE.out.symm | (rw [HE.out]; simp; omega)), HB.out⟩
  · have HE : Hid (enB n ⟨p, q, r⟩ = false) := Lib.hid (HN.out fun g => by have := g.s1; simp only at this; omega)
    have hno : ¬ q ≤ n - p := by omega
    have hw : wrap64 (n - p) = n - p := IntWalk.wrap64_in _ (by omega)
    go_enter Try.func48, Try.ntmps48
    go_wp2
    go_ret
    exact ⟨ret_bool (by first | exact HE.out.symm | (rw [HE.out]; simp; omega)), HB.out⟩
  · have HE : Hid (enB n ⟨p, q, r⟩ = false) := Lib.hid (HN.out fun g => by have := g.w0; simp only at this; omega)
    have hno : q ≤ n - p := by omega
    have hw : wrap64 (n - p) = n - p := IntWalk.wrap64_in _ (by omega)
    go_enter Try.func48, Try.ntmps48
    go_wp2
    go_ret
    exact ⟨ret_bool (by first | exact HE.out.symm | (rw [HE.out]; simp; omega)), HB.out⟩
  · have HE : Hid (enB n ⟨p, q, r⟩ = false) := Lib.hid (HN.out fun g => by have := g.w1; simp only at this; omega)
    have hno : q ≤ n - p := by omega
    have hw : wrap64 (n - p) = n - p := IntWalk.wrap64_in _ (by omega)
    go_enter Try.func48, Try.ntmps48
    go_wp2
    go_ret
    exact ⟨ret_bool (by first | exact HE.out.symm | (rw [HE.out]; simp; omega)), HB.out⟩
  · have HE : Hid (enB n ⟨p, q, r⟩ = true) := Lib.hid (HI.out.2 ⟨h2, by show p ≤ n - 1; omega, h3, by show q ≤ n - p; omega, h5, h6⟩)
    have hno : q ≤ n - p := by omega
    have hw : wrap64 (n - p) = n - p := IntWalk.wrap64_in _ (by omega)
    go_enter Try.func48, Try.ntmps48
    go_wp2
    go_ret
    exact ⟨ret_bool (by first | exact HE.out.symm | (rw [HE.out]; simp; omega)), HB.out⟩
set_option maxRecDepth 100000 in
set_option maxHeartbeats 1000000 in
theorem implIsTable_any (n : Int) (f : List En) (A : Option Addr) (c : Nat) (w : World) (hf : EnsIn w A f) (hn : f.length ≤ 1048577) (hr : EnR f) :
    Calls Try.prog 14 #[.int .i64 n, .slice A f.length c] w fun e w' => e = .returned (.bool (tbB n f)) ∧ Below w.heap.size w w' := by
  have HF := Lib.hid hf; clear hf
  by_cases h1 : n < 1
  · have HV : Hid (tbB n f = false) := Lib.hid (tbB_no fun g => by have := g.n0; omega)
    go_enter Try.func14, Try.ntmps14
    go_wp2
    go_ret
    exact ⟨ret_bool HV.out.symm, Below.refl _ _⟩
  by_cases h10 : 10 < n
  · have HV : Hid (tbB n f = false) := Lib.hid (tbB_no fun g => by have := g.n1; omega)
    go_enter Try.func14, Try.ntmps14
    go_wp2
    go_ret
    exact ⟨ret_bool HV.out.symm, Below.refl _ _⟩
  by_cases hl : (20 : Int) < (f.length : Int)
  · have HV : Hid (tbB n f = false) := Lib.hid (tbB_no fun g => by have := g.len; omega)
    go_enter Try.func14, Try.ntmps14
    go_wp2
    go_ret
    exact ⟨ret_bool HV.out.symm, Below.refl _ _⟩
  have h1' : 1 ≤ n := by omega
  have h10' : n ≤ 10 := by omega
  go_enter Try.func14, Try.ntmps14
  go_wp2
  go_loopw [20] (fun i wr => ∃ k : Nat, k ≤ f.length ∧ i = .int .i64 k ∧ EnsUp n f k ∧ Below w.heap.size w wr) (fun i _ => f.length - (intOf i).toNat)
  case atStart => exact ⟨0, Nat.zero_le _, rfl, EnsUp.zero _ _, Below.refl _ _⟩
  case round =>
    obtain ⟨k, hk, rfl, hs, hb⟩ := hrel
    have HS := Lib.hid hs; clear hs
    by_cases hlt : k < f.length
    · obtain ⟨b, off, rfl, hbl, hc⟩ := HF.out (by omega)
      obtain ⟨hc0, hc1, hc2⟩ := hc k hlt
      clear hc
      rw [← hb.cell (p := ⟨b, off + k * 3, none⟩) hbl] at hc0; rw [← hb.cell (p := ⟨b, off + k * 3 + 1, none⟩) hbl] at hc1; rw [← hb.cell (p := ⟨b, off + k * 3 + 2, none⟩) hbl] at hc2
      have HNX := Lib.hid (HS.out.succ hlt)
      have HNO : Hid (¬ EnOk n f[k] → tbB n f = false) := Lib.hid (fun h => tbB_no fun g => h (g.en hlt))
      have HEB := Lib.hid (enB_iff (n := n) (x := f[k]))
      have HB := Lib.hid (hb.alloc hb.size (.cells #[.int .i64 f[k].col, .int .i64 f[k].spa, .int .i64 f[k].wid] 36))
      have hrk := hr k hlt
      clear hb
      generalize f[k] = x at *
      go_wp2_with fail
      refine (isEntry_any n x _ h1' h10' hrk).mono ?_
      rintro e w1 ⟨rfl, hb1⟩
      have HB1 := Lib.hid (HB.out.trans (hb1.mono HB.out.size))
      clear hb1 HB
      cases hx : enB n x
      · have HR := Lib.hid (HNO.out fun g => by rw [HEB.out.2 g] at hx; cases hx)
        clear hx hc0 hc1 hc2
        go_wp2
        go_ret
        exact ⟨ret_bool HR.out.symm, HB1.out⟩
      · have HR := Lib.hid (HNX.out (HEB.out.1 hx))
        clear hx hc0 hc1 hc2
        go_wp2
        go_roundw
        case rel => exact ⟨k + 1, by omega, by go_num, HR.out, HB1.out⟩
        case measure => simp [intOf]; omega
    · obtain rfl : k = f.length := by omega
      have HV : Hid (tbB n f = true) := Lib.hid (tbB_iff.2 ⟨h1', h10', by omega, HS.out⟩)
      go_wp2
      go_ret
      exact ⟨ret_bool HV.out.symm, hb⟩

theorem implIsTableS_any (n : Int) (f : List En) (A : Option Addr) (c : Nat) (w : World) (hf : EnsIn w A f) (hn : f.length ≤ 1048576) (hr : EnR f) :
    Calls Try.prog 14 #[.int .i64 n, .slice A f.length c] w fun e w' => e = .returned (.bool (tbB n f)) ∧ Below w.heap.size w w' := implIsTable_any n f A c w hf (by omega) hr

/-! The specification's side: also at numbers of columns that no table has. -/
set_option maxRecDepth 100000 in
set_option maxHeartbeats 1000000 in
theorem tbEntry_any (n : Int) (x : En) (w : World) :
    Calls Try.prog 53 #[.int .i64 n, .agg #[.int .i64 x.col, .int .i64 x.spa, .int .i64 x.wid]] w fun e w' => (∃ b, e = .returned (.bool b) ∧ (1 ≤ n → n ≤ 10 → b = enB n x)) ∧ Below w.heap.size w w' := by
  have HB : Hid (Below w.heap.size w (w.alloc (.cells #[.int .i64 x.col, .int .i64 x.spa, .int .i64 x.wid] 36))) := Lib.hid ((Below.refl _ _).alloc (Nat.le_refl _) _)
  have HI : Hid (1 ≤ n → n ≤ 10 → enB n x = (inB 0 (wrap64 (n - 1)) x.col && (inB 1 (wrap64 (n - x.col)) x.spa && inB 0 600 x.wid))) := Lib.hid (fun h1 h2 => by
    rw [IntWalk.wrap64_in _ (by omega)]
    cases h3 : inB 0 (n - 1) x.col
    · rw [Bool.false_and]
      exact enB_no fun g => by rw [inBs_iff.2 ⟨g.c0, g.c1⟩] at h3; cases h3
    · have h4 := inBs_iff.1 h3
      rw [Bool.true_and, IntWalk.wrap64_in _ (by omega)]
      cases h5 : inB 1 (n - x.col) x.spa
      · rw [Bool.false_and]
        exact enB_no fun g => by rw [inBs_iff.2 ⟨g.s0, g.s1⟩] at h5; cases h5
      · have h6 := inBs_iff.1 h5
        rw [Bool.true_and]
        cases h7 : inB 0 600 x.wid
        · exact enB_no fun g => by rw [inBs_iff.2 ⟨g.w0, g.w1⟩] at h7; cases h7
        · have h8 := inBs_iff.1 h7
          exact enB_iff.2 ⟨h4.1, h4.2, h6.1, h6.2, h8.1, h8.2⟩)
  rcases x with ⟨p, q, r⟩
  simp only at HI
  go_enter Try.func53, Try.ntmps53
  go_wp2_with fail
  refine (l1In_any _ _ _ _).mono ?_
  rintro e w' ⟨rfl, rfl⟩
  cases h1 : inB 0 (wrap64 (n - 1)) p
  · have H1 := Lib.hid h1; clear h1
    go_wp2
    go_ret
    exact ⟨⟨_, rfl, fun a b => by rw [HI.out a b, H1.out]; rfl⟩, HB.out⟩
  have H1 := Lib.hid h1; clear h1
  go_wp2_with fail
  refine (l1In_any _ _ _ _).mono ?_
  rintro e w' ⟨rfl, rfl⟩
  cases h2 : inB 1 (wrap64 (n - p)) q
  · have H2 := Lib.hid h2; clear h2
    go_wp2
    go_ret
    exact ⟨⟨_, rfl, fun a b => by rw [HI.out a b, H1.out, H2.out]; rfl⟩, HB.out⟩
  have H2 := Lib.hid h2; clear h2
  go_wp2_with fail
  refine (l1In_any _ _ _ _).mono ?_
  rintro e w' ⟨rfl, rfl⟩
  cases h3 : inB 0 600 r
  all_goals
    have H3 := Lib.hid h3; clear h3
    go_wp2
    go_ret
    exact ⟨⟨_, rfl, fun a b => by rw [HI.out a b, H1.out, H2.out, H3.out]; rfl⟩, HB.out⟩
set_option maxRecDepth 100000 in
set_option maxHeartbeats 1000000 in
theorem tbGood_any (n : Int) (f : List En) (A : Option Addr) (c : Nat) (w : World) (hf : EnsIn w A f) (hn : f.length ≤ 1048576) :
    Calls Try.prog 52 #[.int .i64 n, .slice A f.length c] w fun e w' => e = .returned (.bool (tbB n f)) ∧ Below w.heap.size w w' := by
  have HF := Lib.hid hf; clear hf
  go_enter Try.func52, Try.ntmps52
  go_wp2
  go_loopw [9] (fun i wr => ∃ k : Nat, k ≤ f.length ∧ i = .int .i64 k ∧ (1 ≤ n → n ≤ 10 → EnsUp n f k) ∧ Below w.heap.size w wr) (fun i _ => f.length - (intOf i).toNat)
  case atStart => exact ⟨0, Nat.zero_le _, rfl, fun _ _ => EnsUp.zero _ _, Below.refl _ _⟩
  case round =>
    obtain ⟨k, hk, rfl, hs, hb⟩ := hrel
    have HS := Lib.hid hs; clear hs
    by_cases hlt : k < f.length
    · obtain ⟨b, off, rfl, hbl, hc⟩ := HF.out (by omega)
      obtain ⟨hc0, hc1, hc2⟩ := hc k hlt
      clear hc
      rw [← hb.cell (p := ⟨b, off + k * 3, none⟩) hbl] at hc0; rw [← hb.cell (p := ⟨b, off + k * 3 + 1, none⟩) hbl] at hc1; rw [← hb.cell (p := ⟨b, off + k * 3 + 2, none⟩) hbl] at hc2
      have HNX : Hid (1 ≤ n → n ≤ 10 → EnOk n f[k] → EnsUp n f (k + 1)) := Lib.hid (fun a b h => (HS.out a b).succ hlt h)
      have HNO : Hid ((1 ≤ n → n ≤ 10 → enB n f[k] = false) → tbB n f = false) := Lib.hid (fun h => tbB_no fun g => by have h1 := h g.n0 g.n1; rw [enB_iff.2 (g.en hlt)] at h1; cases h1)
      have HEB := Lib.hid (enB_iff (n := n) (x := f[k]))
      have HB := Lib.hid (hb.alloc hb.size (.cells #[.int .i64 f[k].col, .int .i64 f[k].spa, .int .i64 f[k].wid] 36))
      clear hb
      generalize f[k] = x at *
      go_wp2_with fail
      refine (tbEntry_any n x _).mono ?_
      rintro e w1 ⟨⟨v, rfl, hv⟩, hb1⟩
      have HB1 := Lib.hid (HB.out.trans (hb1.mono HB.out.size))
      have HV := Lib.hid hv
      clear hb1 HB hv
      cases v
      · have HR := Lib.hid (HNO.out fun a b => (HV.out a b).symm)
        clear hc0 hc1 hc2
        go_wp2
        go_ret
        exact ⟨ret_bool HR.out.symm, HB1.out⟩
      · have HR : Hid (1 ≤ n → n ≤ 10 → EnsUp n f (k + 1)) := Lib.hid (fun a b => HNX.out a b (HEB.out.1 (HV.out a b).symm))
        clear hc0 hc1 hc2
        go_wp2
        go_roundw
        case rel => exact ⟨k + 1, by omega, by go_num, HR.out, HB1.out⟩
        case measure => simp [intOf]; omega
    · obtain rfl : k = f.length := by omega
      have HE : Hid (tbB n f = (inB 1 10 n && decide ((f.length : Int) ≤ 20))) := Lib.hid (by
        cases h1 : inB 1 10 n
        · exact tbB_no fun g => by rw [inBs_iff.2 ⟨g.n0, g.n1⟩] at h1; cases h1
        · have h2 := inBs_iff.1 h1
          by_cases h3 : (f.length : Int) ≤ 20
          · rw [decide_eq_true h3]; exact tbB_iff.2 ⟨h2.1, h2.2, by omega, HS.out h2.1 h2.2⟩
          · rw [decide_eq_false h3]; exact tbB_no fun g => by have := g.len; omega)
      go_wp2_with fail
      refine (l1In_any _ _ _ _).mono ?_
      rintro e w' ⟨rfl, rfl⟩
      cases h1 : inB 1 10 n
      · have H1 := Lib.hid h1; clear h1
        go_wp2
        go_ret
        exact ⟨ret_bool (by rw [HE.out, H1.out]; rfl), hb⟩
      · have H1 := Lib.hid h1; clear h1
        go_wp2
        go_ret
        exact ⟨ret_bool (by rw [HE.out, H1.out]; first | rfl | simp), hb⟩
theorem tbAsked_any (n : Int) (f : List En) (A : Option Addr) (c : Nat) (g : Int) (w : World) (hf : EnsIn w A f) (hn : f.length ≤ 1048576) :
    Calls Try.prog 41 #[.int .i64 n, .slice A f.length c, .int .i64 g] w fun e w' => e = .returned (.bool (askT n f g)) ∧ Below w.heap.size w w' := by
  have HF := Lib.hid hf; clear hf
  have HGAP : Hid (∀ W, Calls Try.prog 67 #[.int .i64 g] W fun e w' => e = .returned (.bool (inB 0 36 g)) ∧ W = w') := Lib.hid (fun W => by
    go_enter Try.func67, Try.ntmps67
    go_wp2_with fail
    refine (l1In_any _ _ _ _).mono ?_
    rintro e w' ⟨rfl, rfl⟩
    go_wp2
    go_ret
    exact ⟨rfl, rfl⟩)
  have HE : Hid (askT n f g = (tbB n f && inB 0 36 g)) := Lib.hid rfl
  go_enter Try.func41, Try.ntmps41
  go_wp2_with fail
  refine (tbGood_any n f A c _ HF.out hn).mono ?_
  rintro e w1 ⟨rfl, hb⟩
  cases h : tbB n f
  · have H := Lib.hid h; clear h
    go_wp2
    go_ret
    exact ⟨ret_bool (by rw [HE.out, H.out]; rfl), hb⟩
  · have H := Lib.hid h; clear h
    go_wp2_with fail
    refine (HGAP.out _).mono ?_
    rintro e w2 ⟨rfl, rfl⟩
    go_wp2
    go_ret
    exact ⟨ret_bool (by rw [HE.out, H.out]; rfl), hb⟩
end Go.Proofs.Yteagclokobkigaa

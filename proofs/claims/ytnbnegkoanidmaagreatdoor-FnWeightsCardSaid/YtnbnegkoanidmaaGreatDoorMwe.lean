import Derived.Test.YtnbnegkoanidmaaGreatDoorJh
import Derived.Test.YtnbnegkoanidmaaGreatDoorMwd
import Derived.Test.YtnbnegkoanidmaaGreatDoorMva
import Derived.BigRegion
/-
  The contract of slices.symMergeCmpFunc: all three ways; with it those of slices.SortStableFunc and impl.greatestFirst.
-/
namespace Go.Proofs.YtnbnegkoanidmaaGreatDoor
open Go.RowKit
set_option linter.unusedVariables false
theorem sym_all : ∀ n, SymTo n
  | 0 => fun b N c a m hi f w hfu hr hN hhi hmg => by have := hmg.am; have := hmg.mb; omega
  | n + 1 => fun b N c a m hi f w hfu hr hN hhi hmg => by
    by_cases h1 : m = a + 1
    · exact symMerge_first b N c a m hi f w hr hN hhi hmg h1
    · by_cases h2 : hi = m + 1
      · exact symMerge_last b N c a m hi f w hr hN hhi hmg h1 h2
      · exact symMerge_main b N c a m hi f w hr hN hhi hmg h1 h2 n hfu (sym_all n)
theorem greatest_any (R : List Int) (A : Option Addr) (c : Nat) (w : World) (hA : IntsIn w A R) (hs : R.length ≤ 32) :
    Calls Tryz.prog 23 #[.slice A R.length c] w fun e w' => GrTo w w' e R := greatestFirst_any sym_all R A c w hA hs
end Go.Proofs.YtnbnegkoanidmaaGreatDoor

/-
  The contracts of impl.sumOfWeights and impl.DivideByWeights.
-/
namespace Go.Proofs.YtnbnegkoanidmaaGreatDoor
open Go.RowKit
set_option linter.unusedVariables false

def okW (l : List Int) (k : Nat) : Prop := ∀ j (h : j < l.length), j < k → 0 ≤ l[j] ∧ l[j] ≤ 1000000
def SumTo (l : List Int) (e : Ending) : Prop := ∃ (s : Int) (b : Bool), e = .returned (.tuple #[.int .i64 s, .bool b]) ∧ (b = true ↔ l.length ≤ 32 ∧ okW l l.length ∧ 0 < sumW l l.length) ∧ (b = true → s = sumW l l.length)
theorem sumOfWeights_any (l : List Int) (A : Option Addr) (c : Nat) (w : World) (hA : IntsIn w A l) (hn : l.length ≤ 1048576) :
    Calls Tryz.prog 22 #[.slice A l.length c] w fun e w' => SumTo l e ∧ w = w' := by
  have HA := Lib.hid hA; clear hA
  by_cases h32 : 32 < l.length
  · have hi : (32 : Int) < (l.length : Int) := by omega
    go_enter Tryz.func22, Tryz.ntmps22
    go_wp2
    go_ret2
    exact ⟨⟨0, false, rfl, ⟨fun h => (by cases h), fun h => by omega⟩, fun h => (by cases h)⟩, rfl⟩
  · have hi : ¬ (32 : Int) < (l.length : Int) := by omega
    go_enter Tryz.func22, Tryz.ntmps22
    go_wp2
    go_loop [4, 12] (fun sv i => ∃ k : Nat, k ≤ l.length ∧ i = .int .i64 (k : Int) ∧ sv = .int .i64 (sumW l k) ∧ okW l k) (fun _ i => l.length - (intOf i).toNat)
    case atStart => exact ⟨0, Nat.zero_le _, rfl, rfl, fun j _ h => by omega⟩
    case round =>
      obtain ⟨k, hk, rfl, rfl, hok⟩ := hrel
      have HOK := Lib.hid hok; clear hok
      have hsr : 0 ≤ sumW l k ∧ sumW l k ≤ 1000000 * (k : Int) := by
        have h2 : ∀ k, k ≤ l.length → okW l k → 0 ≤ sumW l k ∧ sumW l k ≤ 1000000 * (k : Int) := fun k => by
          induction k with
          | zero => intro _ _; simp [sumW]
          | succ k ih =>
            intro h1 h2
            have := ih (by omega) (fun j hj hjk => h2 j hj (by omega))
            have h3 := h2 k (by omega) (by omega)
            show 0 ≤ sumW l k + l.getD k 0 ∧ sumW l k + l.getD k 0 ≤ _
            rw [getI_of (show k < l.length by omega)]
            omega
        exact h2 k hk HOK.out
      by_cases hlt : k < l.length
      · obtain ⟨b, off, rfl, hbl, hc⟩ := HA.out (by omega)
        have hc0 := hc k hlt
        clear hc
        have HST : Hid (sumW l (k + 1) = sumW l k + l[k]) := Lib.hid (by show sumW l k + l.getD k 0 = _; rw [getI_of hlt])
        have HOK2 : Hid (0 ≤ l[k] ∧ l[k] ≤ 1000000 → okW l (k + 1)) := Lib.hid (fun h j hj hjk => by
          rcases Nat.lt_or_ge j k with d | d
          · exact HOK.out j hj d
          · have : j = k := by omega
            subst this; exact h)
        have HNO : Hid (¬ (0 ≤ l[k] ∧ l[k] ≤ 1000000) → ¬ okW l l.length) := Lib.hid (fun h h2 => h (h2 k hlt hlt))
        generalize l[k]'hlt = x at *
        generalize sumW l k = s at *
        rcases (by omega : x < 0 ∨ (0 ≤ x ∧ 1000000 < x) ∨ (0 ≤ x ∧ x ≤ 1000000)) with h1 | ⟨h1, h2⟩ | ⟨h1, h2⟩
        · go_wp2
          go_ret2
          exact ⟨⟨0, false, rfl, ⟨fun h => (by cases h), fun h => absurd h.2.1 (HNO.out (by omega))⟩, fun h => (by cases h)⟩, rfl⟩
        · go_wp2
          go_ret2
          exact ⟨⟨0, false, rfl, ⟨fun h => (by cases h), fun h => absurd h.2.1 (HNO.out (by omega))⟩, fun h => (by cases h)⟩, rfl⟩
        · have HOK3 := Lib.hid (HOK2.out ⟨h1, h2⟩)
          go_wp2
          go_round
          case rel => exact ⟨k + 1, by omega, by go_num, by rw [HST.out], HOK3.out⟩
          case measure => simp [intOf]; omega
      · obtain rfl : k = l.length := by omega
        obtain ⟨s, hs⟩ : ∃ s, s = sumW l l.length := ⟨_, rfl⟩
        rw [← hs] at hsr ⊢
        have HS := Lib.hid hs; clear hs
        by_cases h0 : 0 < s
        · have HB : Hid (l.length ≤ 32 ∧ okW l l.length ∧ 0 < sumW l l.length) := Lib.hid ⟨by omega, HOK.out, by rw [← HS.out]; exact h0⟩
          go_wp2
          go_ret2
          exact ⟨⟨s, true, rfl, ⟨fun _ => HB.out, fun _ => rfl⟩, fun _ => HS.out⟩, rfl⟩
        · have HB : Hid (¬ 0 < sumW l l.length) := Lib.hid (by rw [← HS.out]; exact h0)
          go_wp2
          go_ret2
          exact ⟨⟨s, false, rfl, ⟨fun h => (by cases h), fun h => absurd h.2.2 (by have := HB.out; omega)⟩, fun h => (by cases h)⟩, rfl⟩
theorem divB_parts {l : List Int} {T : Int} : divB l T = true ↔ (l.length ≤ 32 ∧ okW l l.length ∧ 0 < sumW l l.length) ∧ 0 ≤ T ∧ T ≤ 100000 := by
  rw [divB_iff]
  constructor
  · intro h; exact ⟨⟨h.len.2, fun j hj _ => h.all j hj, h.pos⟩, h.tot⟩
  · rintro ⟨⟨h1, h2, h3⟩, h4⟩
    refine ⟨⟨?_, h1⟩, fun j hj => h2 j hj hj, h4, rfl, h3⟩
    rcases Nat.eq_zero_or_pos l.length with d | d
    · rw [d] at h3; simp [sumW] at h3
    · exact d
theorem divB_false {l : List Int} {T : Int} (h : ¬ ((l.length ≤ 32 ∧ okW l l.length ∧ 0 < sumW l l.length) ∧ 0 ≤ T ∧ T ≤ 100000)) : divB l T = false := by
  cases hb : divB l T with
  | false => rfl
  | true => exact absurd (divB_parts.1 hb) h
end Go.Proofs.YtnbnegkoanidmaaGreatDoor

/-
  The contract of impl.DivideByWeights.
-/
namespace Go.Proofs.YtnbnegkoanidmaaGreatDoor
open Go.RowKit
set_option linter.unusedVariables false

theorem elemR : Tryz.prog.elem 53 = 56 := by kernel_rfl
theorem sizeR (W : World) : (sizeOf (Tryz.prog.elem 53)).run Tryz.prog W = .ok 2 W := by
  obtain ⟨i0, hi, hz0, hz1, hz2⟩ := info_partsR infoR2
  rw [elemR]
  simp [sizeOf, typeInfo, hi, hz1]
theorem underR : Tryz.prog.underlying 53 = some (.slice (Tryz.prog.elem 53)) := by rw [elemR]; exact Tryz.underlying53
theorem headR (B : Option Addr) (n cap k : Nat) (hk : k ≤ n) (hn : n ≤ cap) (hB : B = none → cap = 0) (W : World) :
    (Instr.slice 53 (.slice B n cap) none (some (.int .i64 (k : Int))) none).run Tryz.prog W = .ok (.slice B k cap) W := by
  rw [run_slice_h W _ _ _ _ underR .i64 (k : Int) (by omega) (by omega), sizeR]
  cases B with
  | none =>
    have := hB rfl
    subst this
    obtain rfl : k = 0 := by omega
    simp [sliced, Result.andThen]
  | some a => by_cases hc : cap = 0 <;> simp [sliced, Result.andThen, Addr.add, hc]
/-- The shares and the remainders of the first k weights; 0 behind them. -/
def shF (l : List Int) (T S : Int) (k : Nat) : Nat → Value := fun j => .int .i64 (if j < k then dq l T S j else 0)
def rmF (l : List Int) (T S : Int) (k : Nat) : Nat → Value := fun j => .int .i64 (if j < k then dr l T S j else 0)
theorem shF_step (l : List Int) (T S : Int) (k : Nat) : (fun j => if j = k then Value.int .i64 (dq l T S k) else shF l T S k j) = shF l T S (k + 1) := by
  funext j
  unfold shF
  by_cases h : j = k
  · subst h; rw [if_pos rfl, if_pos (by omega)]
  · rw [if_neg h]
    by_cases h2 : j < k
    · rw [if_pos h2, if_pos (by omega)]
    · rw [if_neg h2, if_neg (by omega)]
theorem rmF_step (l : List Int) (T S : Int) (k : Nat) : (fun j => if j = k then Value.int .i64 (dr l T S k) else rmF l T S k j) = rmF l T S (k + 1) := by
  funext j
  unfold rmF
  by_cases h : j = k
  · subst h; rw [if_pos rfl, if_pos (by omega)]
  · rw [if_neg h]
    by_cases h2 : j < k
    · rw [if_pos h2, if_pos (by omega)]
    · rw [if_neg h2, if_neg (by omega)]
noncomputable def ouF (l : List Int) (T S : Int) (t : Nat) : Nat → Value := fun j => .int .i64 (outF l T S t j)
theorem ouF_step {l : List Int} {T S : Int} {t b : Nat} (h : topF (remL l T S) t = rowI (remL l T S) b) (hf : ¬ Gvn (remL l T S) t b) : (fun j => if j = b then Value.int .i64 (outF l T S t b + 1) else ouF l T S t j) = ouF l T S (t + 1) := by
  funext j
  unfold ouF
  by_cases e : j = b
  · subst e; rw [if_pos rfl, out_here h hf]
  · rw [if_neg e, out_else h e]

set_option maxRecDepth 100000 in
set_option maxHeartbeats 4000000 in
theorem implDivide_any (l : List Int) (A : Option Addr) (c : Nat) (T : Int) (w : World) (hf : IntsIn w A l) (hlen : l.length ≤ 1048576) :
    Calls Tryz.prog 5 #[.slice A l.length c, .int .i64 T] w fun e w' => ∃ v t, e = .returned (.tuple #[v, .bool (divB l T)]) ∧ Below w.heap.size w w' ∧ w'.ownsRow w.heap.size t 1 v (divL l T).length (intsZ (divL l T)) := by
  have HF := Lib.hid hf; clear hf
  obtain ⟨w1, hw1⟩ : ∃ x : World, x = w.alloc (.cells (madeCells #[.int .i64 0] (l.length * 1)) 3) := ⟨_, rfl⟩
  obtain ⟨g2, hg2⟩ : ∃ g, g = w1.heap.size := ⟨_, rfl⟩
  have hz1 : g2 = w.heap.size + 1 := by rw [hg2, hw1, World.size_alloc]
  obtain ⟨w2, hw2⟩ : ∃ x : World, x = w1.alloc (.cells (madeCells #[.int .i64 0] (l.length * 1)) 3) := ⟨_, rfl⟩
  have hmk1 : (Instr.makeSlice 23 (.int .i64 (l.length : Int)) (.int .i64 (l.length : Int))).run Tryz.prog w = .ok (.slice (some ⟨w.heap.size, 0, none⟩) l.length l.length) w1 := by rw [hw1]; exact run_makeI l.length (by omega) w
  have hmk2 : (Instr.makeSlice 23 (.int .i64 (l.length : Int)) (.int .i64 (l.length : Int))).run Tryz.prog w1 = .ok (.slice (some ⟨g2, 0, none⟩) l.length l.length) w2 := by rw [hw2, hg2]; exact run_makeI l.length (by omega) w1
  have HB2 : Hid (Below w.heap.size w w2) := Lib.hid (by rw [hw2]; exact Below.alloc (by rw [hw1]; exact (Below.refl _ _).alloc (Nat.le_refl _) _) (by rw [hw1, World.size_alloc]; omega) _)
  have HT1 : Hid (Tb w2 w.heap.size 3 l.length (fun _ => .int .i64 0)) := Lib.hid (by rw [hw2]; exact Tb.alloc (by rw [hw1]; exact made_int _ _ _) _)
  have HT2 : Hid (Tb w2 g2 3 l.length (fun _ => .int .i64 0)) := Lib.hid (by rw [hw2, hg2]; exact made_int _ _ _)
  have HZ := Lib.hid hz1
  have hne : ¬ w.heap.size = g2 := by omega
  have hne' : ¬ g2 = w.heap.size := by omega
  have hgl : w.heap.size ≤ g2 := by omega
  have HM1 := Lib.hid hmk1; have HM2 := Lib.hid hmk2
  clear hw1 hw2 hg2 hz1 hmk1 hmk2
  go_enter Tryz.func5, Tryz.ntmps5
  go_wp2_with fail
  refine (sumOfWeights_any l A c _ HF.out hlen).mono ?_
  rintro e w' ⟨⟨S, b, rfl, hb, hs⟩, rfl⟩
  cases b with
  | false =>
    have hno : ¬ (l.length ≤ 32 ∧ okW l l.length ∧ 0 < sumW l l.length) := fun h => Bool.noConfusion (hb.2 h)
    have HNO := Lib.hid hno
    clear hb hs hno
    have HV : Hid (divB l T = false) := Lib.hid (divB_false (fun h => HNO.out h.1))
    go_wp2
    go_ret2
    exact ⟨.slice none 0 0, 3, by rw [HV.out]; rfl, Below.refl _ _, by rw [divL_no HV.out]; exact own_nil _ _ _ _⟩
  | true =>
    obtain rfl := hs rfl
    have HOK := Lib.hid (hb.1 rfl)
    clear hb hs
    by_cases h0 : T < 0
    · skip
      have HV : Hid (divB l T = false) := Lib.hid (divB_false (fun h => by omega))
      go_wp2
      go_ret2
      exact ⟨.slice none 0 0, 3, by rw [HV.out]; rfl, Below.refl _ _, by rw [divL_no HV.out]; exact own_nil _ _ _ _⟩
    by_cases h1 : 100000 < T
    · skip
      have HV : Hid (divB l T = false) := Lib.hid (divB_false (fun h => by omega))
      go_wp2
      go_ret2
      exact ⟨.slice none 0 0, 3, by rw [HV.out]; rfl, Below.refl _ _, by rw [divL_no HV.out]; exact own_nil _ _ _ _⟩
    have HV : Hid (divB l T = true) := Lib.hid (divB_parts.2 ⟨HOK.out, by omega, by omega⟩)
    obtain ⟨S, hS⟩ : ∃ S, S = sumW l l.length := ⟨_, rfl⟩
    have HG : Hid (GoodW l T S) := Lib.hid (by rw [hS]; exact divB_iff.1 HV.out)
    rw [← hS]
    have HS := Lib.hid hS
    clear hS
    have hl32 := HG.out.len.2
    have hm1 := HM1.out; have hm2 := HM2.out
    go_wp2
    clear hm1 hm2
    go_loopw [10, 39] (fun lv i wr => ∃ k : Nat, k ≤ l.length ∧ i = .int .i64 (k : Int) ∧ lv = .int .i64 (lefT l T S k) ∧ Tb wr w.heap.size 3 l.length (shF l T S k) ∧ Tb wr g2 3 l.length (rmF l T S k) ∧ Below w.heap.size w wr) (fun _ i _ => l.length - (intOf i).toNat)
    case atStart => exact ⟨0, Nat.zero_le _, rfl, rfl, HT1.out.cong (fun j _ => by unfold shF; rw [if_neg (by omega)]), HT2.out.cong (fun j _ => by unfold rmF; rw [if_neg (by omega)]), HB2.out⟩
    case round =>
      obtain ⟨k, hk, rfl, rfl, ht1, ht2, hb⟩ := hrel
      have KT1 := Lib.hid ht1; have KT2 := Lib.hid ht2; have HB := Lib.hid hb
      clear ht1 ht2
      by_cases hlt : k < l.length
      · obtain ⟨bb, off, rfl, hbl, hc⟩ := HF.out (by omega)
        have hc0 := (hb.cell (p := ⟨bb, off + k, none⟩) hbl).trans (hc k hlt)
        clear hc hb
        obtain ⟨hp1, ⟨hr0, hr1⟩, hq0, hq1⟩ := HG.out.parts hlt
        obtain ⟨hm0, hm1⟩ := HG.out.mul hlt
        have hpos := HG.out.pos
        have hlr := HG.out.leftR k hk
        have hSmax : S ≤ 32000000 := by have := (sumW_range HG.out.all l.length (Nat.le_refl _)).2; rw [← HS.out] at this; omega
        have HLS : Hid (lefT l T S (k + 1) = lefT l T S k - dq l T S k) := Lib.hid rfl
        obtain ⟨d, hd⟩ : ∃ d, d = dq l T S k := ⟨_, rfl⟩
        obtain ⟨r, hr⟩ : ∃ r, r = dr l T S k := ⟨_, rfl⟩
        have hd2 : (T * l[k]).tdiv S = d := by rw [hd, dq, getI_of hlt]
        have hr2 : (T * l[k]).tmod S = r := by rw [hr, dr, getI_of hlt]
        rw [getI_of hlt] at hm0 hm1
        rw [← hd] at hq0 hq1 HLS
        rw [← hr] at hr0 hr1
        have HN1 : Hid (∀ W, Tb W w.heap.size 3 l.length (shF l T S k) → Tb (W.setCell ⟨w.heap.size, k, none⟩ (.int .i64 d)) w.heap.size 3 l.length (shF l T S (k + 1))) := Lib.hid (fun W h => by
          have := h.set k (.int .i64 d)
          rw [hd, shF_step] at this
          rw [hd]; exact this)
        have HN2 : Hid (∀ W, Tb W g2 3 l.length (rmF l T S k) → Tb (W.setCell ⟨g2, k, none⟩ (.int .i64 r)) g2 3 l.length (rmF l T S (k + 1))) := Lib.hid (fun W h => by
          have := h.set k (.int .i64 r)
          rw [hr, rmF_step] at this
          rw [hr]; exact this)
        have HD : Hid (shF l T S (k + 1) k = .int .i64 d) := Lib.hid (by unfold shF; rw [if_pos (by omega), hd])
        clear hp1 hd hr
        have c1 := KT1.out.cell hlt; have c2 := KT2.out.cell hlt
        have f1 := KT1.out.free k; have f2 := KT2.out.free k
        generalize l[k]'hlt = x at *
        generalize lefT l T S k = L at *
        obtain ⟨p, hp⟩ : ∃ p, T * x = p := ⟨_, rfl⟩
        rw [hp] at hd2 hr2 hm0 hm1
        have hki : (k : Int) < (l.length : Int) := by omega
        have hk0 : (0 : Int) ≤ (k : Int) := by omega
        have hSz : ¬ S = 0 := by omega
        have hSb : (S == 0) = false := by simp; omega
        have hSm : ¬ S = -1 := by omega
        have wp : IntKind.i64.wrap p = p := by rw [IntKind.wrap_i64]; omega
        have wd : IntKind.i64.wrap d = d := by rw [IntKind.wrap_i64]; omega
        have wr' : IntKind.i64.wrap r = r := by rw [IntKind.wrap_i64]; omega
        go_wp2_with fail
        go_region
        have K1 : Tb ((wr.setCell ⟨w.heap.size, k, none⟩ (.int .i64 d)).setCell ⟨g2, k, none⟩ (.int .i64 r)).drew w.heap.size 3 l.length (shF l T S (k + 1)) := ((HN1.out wr KT1.out).other (c := g2) (i := k) (.int .i64 r) hne).next ((Below.refl _ _).drew)
        have K2 : Tb ((wr.setCell ⟨w.heap.size, k, none⟩ (.int .i64 d)).setCell ⟨g2, k, none⟩ (.int .i64 r)).drew g2 3 l.length (rmF l T S (k + 1)) := (HN2.out _ (KT2.out.other (c := w.heap.size) (i := k) (.int .i64 d) hne')).next ((Below.refl _ _).drew)
        have KB : Below w.heap.size w ((wr.setCell ⟨w.heap.size, k, none⟩ (.int .i64 d)).setCell ⟨g2, k, none⟩ (.int .i64 r)).drew := Below.drew (Below.setCell (Below.setCell HB.out (by first | exact Nat.le_refl _ | (simp; done)) _) (by first | exact hgl | (simp; omega)) _)
        have c3 := K1.cell hlt
        rw [HD.out] at c3
        have K1' := Lib.hid K1; have K2' := Lib.hid K2; have KB' := Lib.hid KB
        clear K1 K2 KB c1 c2 f1 f2 KT1 KT2 HB hc0 HN1 HN2 HD
        generalize ((wr.setCell ⟨w.heap.size, k, none⟩ (.int .i64 d)).setCell ⟨g2, k, none⟩ (.int .i64 r)).drew = W3 at *
        go_wp2
        go_roundw
        case rel => exact ⟨k + 1, by omega, by go_num, by rw [HLS.out], K1'.out, K2'.out, KB'.out⟩
        case measure => simp [intOf]; omega
      · obtain rfl : k = l.length := by omega
        have HC := Lib.hid HG.out.cnt
        have hRl := remL_len l T S
        have HRI : Hid (IntsIn wr (some ⟨g2, 0, none⟩) (remL l T S)) := Lib.hid (fun _ => ⟨g2, 0, rfl, KT2.out.lt, fun j hj => by
          rw [Nat.zero_add, KT2.out.cell (by rw [← hRl]; exact hj)]
          have hj' : j < l.length := by rw [← hRl]; exact hj
          unfold rmF
          rw [if_pos hj', ← getI_of hj, remL_get hj']⟩)
        obtain ⟨L, hL⟩ : ∃ L : Nat, lefT l T S l.length = (L : Int) := ⟨(lefT l T S l.length).toNat, by have := HC.out; omega⟩
        rw [hL]
        have HL := Lib.hid hL
        have hLc : L ≤ (gtT (remL l T S) l.length).length := by have := HC.out; omega
        clear hL hb
        have HRL := Lib.hid hRl
        obtain ⟨R, hR⟩ : ∃ R, R = remL l T S := ⟨_, rfl⟩
        rw [← hR] at hLc HRI HRL
        have HRE := Lib.hid hR
        have KR : Hid (Calls Tryz.prog 23 #[.slice (some ⟨g2, 0, none⟩) l.length l.length] wr fun e w' => GrTo wr w' e R) := Lib.hid (by
          have h := greatest_any R (some ⟨g2, 0, none⟩) l.length wr HRI.out (by rw [HRL.out]; exact hl32)
          rw [HRL.out] at h
          exact h)
        clear hRl hR HC
        go_wp2_with fail
        refine KR.out.mono ?_
        rintro e w5 ⟨B, cc, rfl, hb5, ⟨hcc, hBn⟩, hrow⟩
        have hRL := HRL.out
        rw [hRL] at hcc hrow ⊢
        have HHEAD := Lib.hid (headR B (gtT R l.length).length cc L hLc hcc hBn)
        have KT : Hid (Tb w5 w.heap.size 3 l.length (ouF l T S 0)) := Lib.hid ((KT1.out.next hb5).cong (fun j hj => by unfold shF ouF; rw [if_pos hj, out_zero]))
        have KB : Hid (Below w.heap.size w w5) := Lib.hid (HB.out.trans (hb5.mono HB.out.size))
        have HROW := Lib.hid hrow
        have HBS := Lib.hid hb5.size
        have hgw := KT2.out.lt
        clear hb5 hrow hRL hcc hBn KT1 KT2 HB
        have hC32 : (gtT R l.length).length ≤ 32 := by have := gtT_len R l.length; omega
        obtain ⟨C, hC⟩ : ∃ C, C = (gtT R l.length).length := ⟨_, rfl⟩
        rw [← hC] at hLc HROW HHEAD hC32 ⊢
        have HC2 := Lib.hid hC; clear hC
        have hh := HHEAD.out
        go_wp2
        clear hh
        go_loopw [72] (fun i wr2 => ∃ t : Nat, t ≤ L ∧ i = .int .i64 (t : Int) ∧ Tb wr2 w.heap.size 3 l.length (ouF l T S t) ∧ (0 < C → ∃ g, B = some ⟨g, 0, none⟩ ∧ g2 < g ∧ RowsF wr2 g C (topF R)) ∧ Below w.heap.size w wr2) (fun i _ => L - (intOf i).toNat)
        case atStart => exact ⟨0, Nat.zero_le _, rfl, KT.out, fun h => by obtain ⟨g, e1, e2, e3⟩ := HROW.out h; exact ⟨g, e1, by omega, e3⟩, KB.out⟩
        case round =>
          obtain ⟨t, ht, rfl, htb, hrw, hb⟩ := hrel
          have HTB := Lib.hid htb; have HBB := Lib.hid hb
          clear htb hb KT KB HROW
          by_cases hlt : t < L
          · obtain ⟨g, rfl, hgg, hrf⟩ := hrw (by omega)
            obtain ⟨b, hb1, hb2, he⟩ := top_mem (R := R) (k := t) (by rw [HRL.out, ← HC2.out]; omega)
            rw [HRL.out] at hb1
            have hfr : ¬ Gvn R t b := gvn_fresh (by rw [HRL.out, ← HC2.out]; omega) he
            obtain ⟨x0, x1⟩ := hrf.at_ (show t < C by omega)
            rw [he] at x0 x1
            have x0' : wr.cell? ⟨g, t * 2, none⟩ = some (.int .i64 (b : Int)) := x0
            obtain ⟨vv, hvv⟩ : ∃ vv, vv = (rowI R b).v := ⟨_, rfl⟩
            rw [← hvv] at x1
            clear x0 hvv
            have c1 : wr.cell? ⟨w.heap.size, b, none⟩ = some (.int .i64 (outF l T S t b)) := HTB.out.cell hb1
            have f1 := HTB.out.free b
            have hor := out_range HG.out t hb1
            have HN : Hid (∀ W, Tb W w.heap.size 3 l.length (ouF l T S t) → Tb (W.setCell ⟨w.heap.size, b, none⟩ (.int .i64 (outF l T S t b + 1))) w.heap.size 3 l.length (ouF l T S (t + 1))) := Lib.hid (fun W h => by
              have h2 := h.set b (.int .i64 (outF l T S t b + 1))
              rw [ouF_step (by rw [← HRE.out]; exact he) (by rw [← HRE.out]; exact hfr)] at h2
              exact h2)
            have HRF := Lib.hid hrf
            have hgl2 : g < wr.heap.size := hrf.lt
            have hwl : w.heap.size < wr.heap.size := HTB.out.lt
            clear he hfr hrf hrw hb2
            generalize outF l T S t b = o at *
            have hti : (t : Int) < (L : Int) := by omega
            have ht0 : (0 : Int) ≤ (t : Int) := by omega
            have hbi : (b : Int) < (l.length : Int) := by omega
            have hb0 : (0 : Int) ≤ (b : Int) := by omega
            go_wp2
            go_roundw
            case rel => exact ⟨t + 1, by omega, by go_num, (HN.out _ HTB.out).alloc _, fun _ => ⟨g, rfl, hgg, (HRF.out.other (grown_set (World.grownBy.refl wr (some w.heap.size)) b (.int .i64 (o + 1))) (fun e => by have := Option.some.inj e; omega)).below ((Below.refl _ _).alloc (Nat.le_refl _) _)⟩, Below.alloc (Below.setCell HBB.out (Nat.le_refl _) _) (by simp; omega) _⟩
            case measure => simp [intOf]; omega
          · obtain rfl : t = L := by omega
            have HVL : Hid (divL l T = outL l T S t) := Lib.hid (by rw [divL_yes HV.out, ← HS.out, HL.out, Int.toNat_natCast])
            go_wp2
            go_ret2
            refine ⟨.slice (some ⟨w.heap.size, 0, none⟩) l.length l.length, 3, by rw [HV.out]; rfl, HBB.out, ?_⟩
            rw [HVL.out, outL_len]
            have h := Tb.own (l := outL l T S t) (base := w.heap.size) (b := w.heap.size) (w := wr) (t := 3) (f := ouF l T S t) (by rw [outL_len]; exact HTB.out) (Nat.le_refl _) (by rw [outL_len]; unfold maxLen; omega) (fun j hj => by unfold ouF; rw [outL_get hj])
            rw [outL_len] at h
            exact h
end Go.Proofs.YtnbnegkoanidmaaGreatDoor

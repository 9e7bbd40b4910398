/-
  The contracts of impl.boxesAsGiven, spec.SwapBoxes, impl.isBoxIndex, impl.SwapBoxes.
-/
import Derived.Test.YtllafkeheppkjaaSy
namespace Go.Proofs.Ytllafkeheppkjaa
open Go.RowKit
set_option linter.unusedVariables false

set_option maxRecDepth 100000 in
set_option maxHeartbeats 1000000 in
theorem boxesAsGiven_any (f : List Bx) (A : Option Addr) (c : Nat) (w : World) (hf : PbsIn w A f) (hn : f.length ≤ 1048576) :
    Calls Try.prog 70 #[.slice A f.length c] w fun e w' => BxTo w w' e f := by
  have HF := Lib.hid hf; clear hf
  have hmk := run_makeBx f.length hn
  have hst : Marked (w.alloc (.cells (madeCells #[.string .empty, .int .i64 0, .int .i64 0, .int .i64 0] (f.length * 4)) 26)) w.heap.size 26 (f.length * 4) (flatBx (f.take 0)) := ⟨_, heap_new _ _, size_madeCells _ _, by simp [flatBx]⟩
  generalize hz : madeCells #[.string .empty, .int .i64 0, .int .i64 0, .int .i64 0] (f.length * 4) = cs0 at *
  go_enter Try.func70, Try.ntmps70
  have HST := Lib.hid hst; clear hst hz
  go_wp2
  go_loopw [11] (fun i wr => ∃ (k : Nat), k ≤ f.length ∧ i = .int .i64 k ∧ Marked wr w.heap.size 26 (f.length * 4) (flatBx (f.take k)) ∧ Below w.heap.size w wr) (fun i _ => f.length - (intOf i).toNat)
  case atStart => exact ⟨0, Nat.zero_le _, rfl, HST.out, (Below.refl _ _).alloc (Nat.le_refl _) _⟩
  case round =>
    obtain ⟨k, hk, rfl, hp, hb⟩ := hrel
    clear hmk
    by_cases hlt : k < f.length
    · obtain ⟨b, off, rfl, hbl, hc⟩ := HF.out (by omega)
      obtain ⟨hc0, hc1, hc2, hc3⟩ := hc k hlt
      clear hc
      rw [← hb.cell (p := ⟨b, off + k * 4, none⟩) hbl] at hc0
      rw [← hb.cell (p := ⟨b, off + k * 4 + 1, none⟩) hbl] at hc1
      rw [← hb.cell (p := ⟨b, off + k * 4 + 2, none⟩) hbl] at hc2
      rw [← hb.cell (p := ⟨b, off + k * 4 + 3, none⟩) hbl] at hc3
      obtain ⟨w1, hw1⟩ : ∃ w1 : World, w1 = wr.alloc (.cells #[.int .i64 f[k].row, .int .i64 f[k].col, .string f[k].cod, .int .i64 f[k].cnt] 72) := ⟨_, rfl⟩
      have hp1 : Marked w1 w.heap.size 26 (f.length * 4) (flatBx (f.take k)) := by rw [hw1]; exact hp.below ((Below.refl _ _).alloc (Nat.le_refl _) _)
      have hb' : Below w.heap.size w w1 := by rw [hw1]; exact hb.alloc hb.size _
      have hl : (flatBx (f.take k)).length = k * 4 := by rw [flatBx_len, List.length_take]; omega
      obtain ⟨⟨u0, hu0⟩, hz0⟩ := hp1.at_ (j := k * 4) (by omega)
      obtain ⟨⟨u1, hu1⟩, hz1⟩ := hp1.at_ (j := k * 4 + 1) (by omega)
      obtain ⟨⟨u2, hu2⟩, hz2⟩ := hp1.at_ (j := k * 4 + 2) (by omega)
      obtain ⟨⟨u3, hu3⟩, hz3⟩ := hp1.at_ (j := k * 4 + 3) (by omega)
      have m0 : Marked (w1.setCell ⟨w.heap.size, k * 4, none⟩ (.string f[k].cod)) w.heap.size 26 (f.length * 4) (flatBx (f.take k) ++ [.string f[k].cod]) := hp1.stepAt (k * 4) (by simp only [List.length_append, List.length_cons, List.length_nil, hl]) (by omega) _
      have m1 : Marked ((w1.setCell ⟨w.heap.size, k * 4, none⟩ (.string f[k].cod)).setCell ⟨w.heap.size, k * 4 + 1, none⟩ (.int .i64 f[k].row)) w.heap.size 26 (f.length * 4) ((flatBx (f.take k) ++ [.string f[k].cod]) ++ [.int .i64 f[k].row]) := m0.stepAt (k * 4 + 1) (by simp only [List.length_append, List.length_cons, List.length_nil, hl]) (by omega) _
      have m2 : Marked (((w1.setCell ⟨w.heap.size, k * 4, none⟩ (.string f[k].cod)).setCell ⟨w.heap.size, k * 4 + 1, none⟩ (.int .i64 f[k].row)).setCell ⟨w.heap.size, k * 4 + 2, none⟩ (.int .i64 f[k].col)) w.heap.size 26 (f.length * 4) (((flatBx (f.take k) ++ [.string f[k].cod]) ++ [.int .i64 f[k].row]) ++ [.int .i64 f[k].col]) := m1.stepAt (k * 4 + 2) (by simp only [List.length_append, List.length_cons, List.length_nil, hl]) (by omega) _
      have m3 : Marked ((((w1.setCell ⟨w.heap.size, k * 4, none⟩ (.string f[k].cod)).setCell ⟨w.heap.size, k * 4 + 1, none⟩ (.int .i64 f[k].row)).setCell ⟨w.heap.size, k * 4 + 2, none⟩ (.int .i64 f[k].col)).setCell ⟨w.heap.size, k * 4 + 3, none⟩ (.int .i64 f[k].cnt)) w.heap.size 26 (f.length * 4) ((((flatBx (f.take k) ++ [.string f[k].cod]) ++ [.int .i64 f[k].row]) ++ [.int .i64 f[k].col]) ++ [.int .i64 f[k].cnt]) := m2.stepAt (k * 4 + 3) (by simp only [List.length_append, List.length_cons, List.length_nil, hl]) (by omega) _
      have HP : Hid (Marked ((((w1.setCell ⟨w.heap.size, k * 4, none⟩ (.string f[k].cod)).setCell ⟨w.heap.size, k * 4 + 1, none⟩ (.int .i64 f[k].row)).setCell ⟨w.heap.size, k * 4 + 2, none⟩ (.int .i64 f[k].col)).setCell ⟨w.heap.size, k * 4 + 3, none⟩ (.int .i64 f[k].cnt)) w.heap.size 26 (f.length * 4) (flatBx (f.take (k + 1)))) := by
        show Marked _ _ _ _ _
        rw [List.take_succ_eq_append_getElem hlt, flatBx_snoc]
        simpa only [List.append_assoc, List.cons_append, List.nil_append] using m3
      have HB := Lib.hid ((((hb'.setCell (p := ⟨w.heap.size, k * 4, none⟩) (Nat.le_refl _) (.string f[k].cod)).setCell (p := ⟨w.heap.size, k * 4 + 1, none⟩) (Nat.le_refl _) (.int .i64 f[k].row)).setCell (p := ⟨w.heap.size, k * 4 + 2, none⟩) (Nat.le_refl _) (.int .i64 f[k].col)).setCell (p := ⟨w.heap.size, k * 4 + 3, none⟩) (Nat.le_refl _) (.int .i64 f[k].cnt))
      have hgl : w.heap.size < wr.heap.size := by obtain ⟨cur, h1, _⟩ := hp; exact lt_of_heap h1
      have hne1 : ¬ w.heap.size = wr.heap.size := by omega
      have hne2 : ¬ wr.heap.size = w.heap.size := by omega
      clear hp hb hp1 hb' hl m0 m1 m2 m3 hgl
      subst hw1
      go_wp2
      go_roundw
      case rel => exact ⟨k + 1, by omega, by go_num, HP.out, HB.out⟩
      case measure => simp [intOf]; omega
    · obtain rfl : k = f.length := by omega
      rw [List.take_length] at hp
      have hd := Lib.hid (hp.own_bx (base := w.heap.size) rfl (Nat.le_refl _) (by unfold maxLen; omega))
      clear hp
      go_wp2
      go_ret
      exact ⟨_, rfl, hb, hd.out⟩

/-- The answer of SwapBoxes. -/
noncomputable def swR (l : List Bx) (a b : Int) : Option (List Bx) := if caseB l = true ∧ (0 ≤ a ∧ a < l.length) ∧ (0 ≤ b ∧ b < l.length) then some (swapL l a.toNat b.toNat) else none
theorem swR_short (l : List Bx) (a b : Int) : ((swR l a b).getD []).length ≤ 64 := by
  unfold swR
  split
  · rename_i h
    have := (caseB_iff.1 h.1).2.2
    simp [swapL_len]; omega
  · simp

set_option maxRecDepth 100000 in
set_option maxHeartbeats 1000000 in
theorem specSwapBoxes_any (l : List Bx) (A : Option Addr) (c : Nat) (a b : Int) (w : World) (hf : BxsIn w A l) (hn : l.length ≤ 1048576) (ho : BxsOk l) (hcap : l.length ≤ c) :
    Calls Try.prog 31 #[.slice A l.length c, .int .i64 a, .int .i64 b] w fun e w' => BxsTo w w' e (swR l a b) := by
  have HF := Lib.hid hf; clear hf
  have HO := Lib.hid ho; clear ho
  cases hv : caseB l
  · have HE : Hid (swR l a b = none) := Lib.hid (by unfold swR; rw [hv]; simp)
    have HV := Lib.hid hv; clear hv
    go_enter Try.func31, Try.ntmps31
    go_wp2_with fail
    refine (caGood_is l _ A c _ HF.out hn HO.out hcap HV).mono ?_
    rintro e w1 ⟨rfl, hb1⟩
    go_wp2
    go_ret2
    exact BxsTo.no HE.out hb1
  · have hC := caseB_iff.1 hv
    have h32 := hC.2.2
    have h1 := hC.2.1
    cases ha : inR a 0 ((l.length : Int) - 1)
    · have HE : Hid (swR l a b = none) := Lib.hid (by unfold swR; rw [if_neg]; rintro ⟨_, h, _⟩; rw [inR_no] at ha; omega)
      have HV := Lib.hid hv; have HA := Lib.hid ha; clear hv ha hC
      go_enter Try.func31, Try.ntmps31
      go_wp2_with fail
      refine (caGood_is l _ A c _ HF.out hn HO.out hcap HV).mono ?_
      rintro e w1 ⟨rfl, hb1⟩
      go_wp2_with fail
      refine (inR_is a 0 _ _ _ HA).mono ?_
      rintro e w2 ⟨rfl, rfl⟩
      go_wp2
      go_ret2
      exact BxsTo.no HE.out hb1
    · cases hb : inR b 0 ((l.length : Int) - 1)
      · have HE : Hid (swR l a b = none) := Lib.hid (by unfold swR; rw [if_neg]; rintro ⟨_, _, h⟩; rw [inR_no] at hb; omega)
        have HV := Lib.hid hv; have HA := Lib.hid ha; have HB := Lib.hid hb; clear hv ha hb hC
        go_enter Try.func31, Try.ntmps31
        go_wp2_with fail
        refine (caGood_is l _ A c _ HF.out hn HO.out hcap HV).mono ?_
        rintro e w1 ⟨rfl, hb1⟩
        go_wp2_with fail
        refine (inR_is a 0 _ _ _ HA).mono ?_
        rintro e w2 ⟨rfl, rfl⟩
        go_wp2_with fail
        refine (inR_is b 0 _ _ _ HB).mono ?_
        rintro e w2 ⟨rfl, rfl⟩
        go_wp2
        go_ret2
        exact BxsTo.no HE.out hb1
      · have ra := inR_iff.1 ha; have rb := inR_iff.1 hb
        obtain ⟨i, rfl⟩ : ∃ i : Nat, a = (i : Int) := ⟨a.toNat, by omega⟩
        obtain ⟨j, rfl⟩ : ∃ j : Nat, b = (j : Int) := ⟨b.toNat, by omega⟩
        have hi : i < l.length := by omega
        have hj : j < l.length := by omega
        have HE : Hid (swR l (i : Int) (j : Int) = some (swapL l i j)) := Lib.hid (by unfold swR; rw [if_pos ⟨hv, by omega, by omega⟩]; simp)
        have HV := Lib.hid hv; have HA := Lib.hid ha; have HB := Lib.hid hb; clear hv ha hb hC
        go_enter Try.func31, Try.ntmps31
        go_wp2_with fail
        refine (caGood_is l _ A c _ HF.out hn HO.out hcap HV).mono ?_
        rintro e w1 ⟨rfl, hb1⟩
        have HF1 := Lib.hid (HF.out.next hb1)
        go_wp2_with fail
        refine (inR_is (i : Int) 0 _ _ _ HA).mono ?_
        rintro e w2 ⟨rfl, rfl⟩
        go_wp2_with fail
        refine (inR_is (j : Int) 0 _ _ _ HB).mono ?_
        rintro e w2 ⟨rfl, rfl⟩
        go_wp2_with fail
        refine (caSwap_any l A c i j _ HF1.out hn hi hj).mono ?_
        intro e w3 hto
        obtain ⟨v, rfl, hb3, hown⟩ := hto
        have HOW : Hid (w3.ownsRow w.heap.size 26 4 v (swapL l i j).length (flatBx (swapL l i j))) := Lib.hid ⟨hown.1, hown.2.imp id fun ⟨g, cap, cur, e1, e2, e3⟩ => ⟨g, cap, cur, e1, Nat.le_trans hb1.size e2, e3⟩⟩
        have hbb := hb1.trans (hb3.mono hb1.size)
        clear hown hb1 hb3
        go_wp2
        go_ret2
        exact ⟨_, by rw [HE.out]; rfl, hbb, by rw [HE.out]; exact HOW.out⟩

theorem isBoxIndex_any (A : Option Addr) (n c : Nat) (i : Int) (w : World) :
    Calls Try.prog 69 #[.slice A n c, .int .i64 i] w fun e w' => e = .returned (.bool (decide (0 ≤ i ∧ i < n))) ∧ w = w' := by
  by_cases h : 0 ≤ i
  · by_cases h2 : i < n
    · go_enter Try.func69, Try.ntmps69
      go_wp2
      go_ret
      exact ⟨ret_bool (decide_eq_true ⟨h, h2⟩).symm, rfl⟩
    · have HN : Hid (decide (0 ≤ i ∧ i < n) = false) := Lib.hid (decide_eq_false (fun h => h2 h.2))
      go_enter Try.func69, Try.ntmps69
      go_wp2
      go_ret
      exact ⟨ret_bool (by symm; exact decide_eq_false (by omega)), rfl⟩
  · have HN : Hid (decide (0 ≤ i ∧ i < n) = false) := Lib.hid (decide_eq_false (fun h2 => h h2.1))
    go_enter Try.func69, Try.ntmps69
    go_wp2
    go_ret
    exact ⟨ret_bool (by symm; first | exact decide_eq_false (by omega) | (rw [← Bool.decide_and]; exact decide_eq_false (by omega))), rfl⟩
theorem isBoxIndex_is (A : Option Addr) (n c : Nat) (i : Int) (v : Bool) (w : World) (h : Hid (decide (0 ≤ i ∧ i < n) = v)) :
    Calls Try.prog 69 #[.slice A n c, .int .i64 i] w fun e w' => e = .returned (.bool v) ∧ w = w' := by
  rw [← h.out]; exact isBoxIndex_any A n c i w

set_option maxRecDepth 100000 in
set_option maxHeartbeats 1000000 in
theorem implSwapBoxes_any (l : List Bx) (A : Option Addr) (c : Nat) (a b : Int) (w : World) (hf : BxsIn w A l) (hn : l.length ≤ 1048576) (ho : BxsOk l) (hcap : l.length ≤ c) :
    Calls Try.prog 32 #[.slice A l.length c, .int .i64 a, .int .i64 b] w fun e w' => BxsTo w w' e (swR l a b) := by
  have HF := Lib.hid hf; clear hf
  have HO := Lib.hid ho; clear ho
  cases hv : caseB l
  · have HE : Hid (swR l a b = none) := Lib.hid (by unfold swR; rw [hv]; simp)
    have HV := Lib.hid hv; clear hv
    go_enter Try.func32, Try.ntmps32
    go_wp2_with fail
    refine (implIsCase_is l _ A c _ HF.out hn HO.out HV).mono ?_
    rintro e w1 ⟨rfl, hb1⟩
    go_wp2
    go_ret2
    exact BxsTo.no HE.out hb1
  · cases ha : decide (0 ≤ a ∧ a < (l.length : Int))
    · have HE : Hid (swR l a b = none) := Lib.hid (by unfold swR; rw [if_neg]; rintro ⟨_, h, _⟩; exact of_decide_eq_false ha h)
      have HV := Lib.hid hv; have HA := Lib.hid ha; clear hv ha
      go_enter Try.func32, Try.ntmps32
      go_wp2_with fail
      refine (implIsCase_is l _ A c _ HF.out hn HO.out HV).mono ?_
      rintro e w1 ⟨rfl, hb1⟩
      go_wp2_with fail
      refine (isBoxIndex_is _ _ _ a _ _ HA).mono ?_
      rintro e w2 ⟨rfl, rfl⟩
      go_wp2
      go_ret2
      exact BxsTo.no HE.out hb1
    · cases hb : decide (0 ≤ b ∧ b < (l.length : Int))
      · have HE : Hid (swR l a b = none) := Lib.hid (by unfold swR; rw [if_neg]; rintro ⟨_, _, h⟩; exact of_decide_eq_false hb h)
        have HV := Lib.hid hv; have HA := Lib.hid ha; have HB := Lib.hid hb; clear hv ha hb
        go_enter Try.func32, Try.ntmps32
        go_wp2_with fail
        refine (implIsCase_is l _ A c _ HF.out hn HO.out HV).mono ?_
        rintro e w1 ⟨rfl, hb1⟩
        go_wp2_with fail
        refine (isBoxIndex_is _ _ _ a _ _ HA).mono ?_
        rintro e w2 ⟨rfl, rfl⟩
        go_wp2_with fail
        refine (isBoxIndex_is _ _ _ b _ _ HB).mono ?_
        rintro e w2 ⟨rfl, rfl⟩
        go_wp2
        go_ret2
        exact BxsTo.no HE.out hb1
      · have ra := of_decide_eq_true ha; have rb := of_decide_eq_true hb
        obtain ⟨i, rfl⟩ : ∃ i : Nat, a = (i : Int) := ⟨a.toNat, by omega⟩
        obtain ⟨j, rfl⟩ : ∃ j : Nat, b = (j : Int) := ⟨b.toNat, by omega⟩
        have hi : i < l.length := by omega
        have hj : j < l.length := by omega
        have HE : Hid (swR l (i : Int) (j : Int) = some (swapL l i j)) := Lib.hid (by unfold swR; rw [if_pos ⟨hv, ra, rb⟩]; simp)
        have HV := Lib.hid hv; have HA := Lib.hid ha; have HB := Lib.hid hb; clear hv ha hb ra rb
        go_enter Try.func32, Try.ntmps32
        go_wp2_with fail
        refine (implIsCase_is l _ A c _ HF.out hn HO.out HV).mono ?_
        rintro e w1 ⟨rfl, hb1⟩
        have HF1 := Lib.hid (HF.out.next hb1)
        go_wp2_with fail
        refine (isBoxIndex_is _ _ _ (i : Int) _ _ HA).mono ?_
        rintro e w2 ⟨rfl, rfl⟩
        go_wp2_with fail
        refine (isBoxIndex_is _ _ _ (j : Int) _ _ HB).mono ?_
        rintro e w2 ⟨rfl, rfl⟩
        go_wp2_with fail
        refine (placeBoxes_any l A c _ HF1.out hn).mono ?_
        intro e w3 hto
        obtain ⟨v, rfl, hb3, hown⟩ := hto
        obtain ⟨A3, c3, rfl, _, _, hpb⟩ := own_pbs hown
        have HPB := Lib.hid hpb
        have hbb := hb1.trans (hb3.mono hb1.size)
        clear hown hb1 hb3 hpb
        go_wp2_with fail
        refine (withSwap_any l A3 c3 i j _ HPB.out hn hi hj).mono ?_
        intro e w4 hto
        obtain ⟨v4, rfl, hb4, hown⟩ := hto
        obtain ⟨A4, c4, rfl, _, _, hpb⟩ := own_pbs hown
        have HPB4 := Lib.hid hpb
        have hbb4 := hbb.trans (hb4.mono hbb.size)
        clear hown hbb hb4 hpb
        go_wp2_with fail
        refine (boxesAsGiven_any (swapL l i j) A4 c4 _ HPB4.out (by rw [swapL_len]; exact hn)).mono ?_
        intro e w5 hto
        obtain ⟨v5, rfl, hb5, hown⟩ := hto
        have HOW : Hid (w5.ownsRow w.heap.size 26 4 v5 (swapL l i j).length (flatBx (swapL l i j))) := Lib.hid ⟨hown.1, hown.2.imp id fun ⟨g, cap, cur, e1, e2, e3⟩ => ⟨g, cap, cur, e1, Nat.le_trans hbb4.size e2, e3⟩⟩
        have hbb5 := hbb4.trans (hb5.mono hbb4.size)
        clear hown hbb4 hb5
        go_wp2
        go_ret2
        exact ⟨_, by rw [HE.out]; rfl, hbb5, by rw [HE.out]; exact HOW.out⟩
end Go.Proofs.Ytllafkeheppkjaa

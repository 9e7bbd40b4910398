/-
  The contracts of impl.slipPieces.take and countsFor.
-/
import Derived.Test.YtljakcfdjcjdbaaRd
namespace Go.Proofs.Ytljakcfdjcjdbaa
open Go.RowKit
set_option linter.unusedVariables false

/-- Some pieces of a Length less; a Length of which nothing is left goes. -/
def takM (m : Int → Option Int) (k c : Int) : Int → Option Int := if (m k).getD 0 - c = 0 then delM (upM m k ((m k).getD 0 - c)) k else upM m k ((m k).getD 0 - c)
theorem grown_trans {a w w' : World} {row : Option Nat} (h : a.grownBy w row) (k : w.grownBy w' row) : a.grownBy w' row :=
  ⟨k.os.trans h.os, k.tape.trans h.tape, k.output.trans h.output, Nat.le_trans h.size k.size, fun i hi hne => (k.block i (Nat.lt_of_lt_of_le hi h.size) hne).trans (h.block i hi hne)⟩
set_option maxRecDepth 100000 in
set_option maxHeartbeats 1000000 in
theorem take_any (b N : Nat) (m : Int → Option Int) (k c : Int) (w : World) (hm : IsMp w b N m) (hN : N ≤ 1000) (wk : WF k) (hv : -100000 ≤ (m k).getD 0 ∧ (m k).getD 0 ≤ 100000) (hc : -100000 ≤ c ∧ c ≤ 100000) :
    Calls Try.prog 81 #[.map (some b), .int .i64 k, .int .i64 c] w fun e w' => e = .returned (.tuple #[]) ∧ IsMp w' b (N + 1) (takM m k c) ∧ w.grownBy w' (some b) := by
  have HM := Lib.hid hm
  have hlk := hm.look wk
  have HTK : Hid (takM m k c = if (m k).getD 0 - c = 0 then delM (upM m k ((m k).getD 0 - c)) k else upM m k ((m k).getD 0 - c)) := Lib.hid rfl
  have HL2 : Hid (∀ W v, IsMp W b (N + 1) (upM m k v) → (Instr.lookup 76 (.map (some b)) (.int .i64 k) false).run Try.prog W = .ok (.int .i64 v) W) := Lib.hid (fun W v h => by
    have := h.look wk
    rw [upM_same] at this; exact this)
  clear hm
  generalize (m k).getD 0 = x at *
  have hxc : -9223372036854775808 ≤ x - c ∧ x - c ≤ 9223372036854775807 := by omega
  go_enter Try.func81, Try.ntmps81
  go_wp2_with (at_mapUpdate; refine wpList_put _ rfl _ _ _ rfl b N m rfl HM.out (by unfold maxLen; omega) k (x - c) rfl rfl wk (wf_of hxc.1 hxc.2) ?_)
  intro w5 hm5 hg5
  have HM5 := Lib.hid hm5; have HG5 := Lib.hid hg5
  have hl5 := HL2.out w5 _ hm5
  clear hm5 hg5 hlk
  by_cases hz : x - c = 0
  · have hT : takM m k c = delM (upM m k (x - c)) k := by rw [HTK.out, if_pos hz]
    have HT := Lib.hid hT
    have hd : (x - c == 0) = true := by simp [hz]
    clear hT HTK HL2
    rw [hz] at hl5
    go_wp2_with (at_delete; refine wpList_del _ rfl _ _ rfl b (N + 1) (upM m k (x - c)) rfl HM5.out k rfl wk ?_)
    intro w6 hm6 hg6
    have HM6 := Lib.hid hm6; have HG6 := Lib.hid (grown_trans HG5.out hg6)
    clear hm6 hg6 hl5
    go_wp2
    go_end0
    exact ⟨rfl, by rw [HT.out, hz]; exact HM6.out, HG6.out⟩
  · have HT : Hid (takM m k c = upM m k (x - c)) := Lib.hid (by rw [HTK.out, if_neg hz])
    have hd : (x - c == 0) = false := by simp [hz]
    clear HTK HL2
    go_wp2
    go_end0
    exact ⟨rfl, by rw [HT.out]; exact HM5.out, HG5.out⟩
/-- What is counted for a stock. -/
def cntM (m : Int → Option Int) (f : List Sl) : List Int := f.map fun x => (m x.len).getD 0
theorem cntM_len (m : Int → Option Int) (f : List Sl) : (cntM m f).length = f.length := by simp [cntM]
theorem cntM_get {m : Int → Option Int} {f : List Sl} {i : Nat} (h : i < f.length) : (cntM m f)[i]'(by rw [cntM_len]; exact h) = (m f[i].len).getD 0 := by simp [cntM]
def upC (m : Int → Option Int) (f : List Sl) (k j : Nat) : Value := if j < k then .int .i64 ((cntM m f).getD j 0) else .int .i64 0
set_option maxRecDepth 100000 in
set_option maxHeartbeats 1000000 in
theorem countsFor_any (b NM : Nat) (m : Int → Option Int) (f : List Sl) (A : Option Addr) (cq : Nat) (w : World) (hm : IsMp w b NM m) (hf : SlsIn w A f) (hG : GoodS f) :
    Calls Try.prog 68 #[.map (some b), .slice A f.length cq] w fun e w' => e = .returned (.slice (some ⟨w.heap.size, 0, none⟩) f.length f.length) ∧ Below w.heap.size w w' ∧ Tb w' w.heap.size 3 f.length (fun j => .int .i64 ((cntM m f).getD j 0)) := by
  have HM := Lib.hid hm; have HF := Lib.hid hf; have HG := Lib.hid hG
  clear hm hf hG
  have hn8 := HG.out.eight
  obtain ⟨w1, hw1⟩ : ∃ x : World, x = w.alloc (.cells (madeCells #[.int .i64 0] (f.length * 1)) 3) := ⟨_, rfl⟩
  have hmk : (Instr.makeSlice 31 (.int .i64 (f.length : Int)) (.int .i64 (f.length : Int))).run Try.prog w = .ok (.slice (some ⟨w.heap.size, 0, none⟩) f.length f.length) w1 := by rw [hw1]; exact run_makeI f.length (by omega) w
  have HT1 : Hid (Tb w1 w.heap.size 3 f.length (upC m f 0)) := Lib.hid (by rw [hw1]; exact (made_int _ _ _).cong (fun j hj => by unfold upC; rw [if_neg (by omega)]))
  have HB1 : Hid (Below w.heap.size w w1) := Lib.hid (by rw [hw1]; exact (Below.refl _ _).alloc (Nat.le_refl _) _)
  have hwl : w.heap.size < w1.heap.size := by rw [hw1]; simp
  clear hw1
  go_enter Try.func68, Try.ntmps68
  go_wp2
  clear hmk
  go_loopw [13] (fun i wr => ∃ k : Nat, k ≤ f.length ∧ i = .int .i64 (k : Int) ∧ Tb wr w.heap.size 3 f.length (upC m f k) ∧ Below w.heap.size w wr) (fun i _ => f.length - (RowKit.intOf i).toNat)
  case atStart => exact ⟨0, Nat.zero_le _, rfl, HT1.out, HB1.out⟩
  case round =>
    obtain ⟨k, hk, rfl, ht, hb⟩ := hrel
    by_cases hlt : k < f.length
    · obtain ⟨kb, koff, rfl, hbl, hc⟩ := HF.out (by omega)
      obtain ⟨hc0, hc1⟩ := hc k hlt
      clear hc
      rw [← hb.cell (p := ⟨kb, koff + k * 2, none⟩) hbl] at hc0
      rw [← hb.cell (p := ⟨kb, koff + k * 2 + 1, none⟩) hbl] at hc1
      have hbd := HG.out.bd hlt
      have hlk := (HM.out.next (hb.trans (((Below.refl wr.heap.size wr).alloc (Nat.le_refl _) (.cells #[.int .i64 f[k].len, .int .i64 f[k].cnt] 57)).mono hb.size))).look (a := f[k].len) (wf_of (by omega) (by omega))
      have HQ : Hid ((cntM m f).getD k 0 = (m f[k].len).getD 0) := Lib.hid (by rw [getI (by rw [cntM_len]; exact hlt), cntM_get hlt])
      have s1 := ht.cell (j := k) hlt
      have s2 := ht.free k
      have s3 := ht.lt
      have HN : Hid (∀ o, Tb ((wr.setCell ⟨w.heap.size, k, none⟩ (.int .i64 ((m f[k].len).getD 0))).alloc o) w.heap.size 3 f.length (upC m f (k + 1))) := Lib.hid (fun o => (((ht.set k (.int .i64 ((m f[k].len).getD 0))).cong (fun j hj => by
        unfold upC
        by_cases e : j = k
        · subst e; rw [if_pos rfl, if_pos (by omega), HQ.out]
        · rw [if_neg e]
          by_cases e2 : j < k
          · rw [if_pos e2, if_pos (by omega)]
          · rw [if_neg e2, if_neg (by omega)])).alloc o))
      have HBN : Hid (∀ o, Below w.heap.size w ((wr.setCell ⟨w.heap.size, k, none⟩ (.int .i64 ((m f[k].len).getD 0))).alloc o)) := Lib.hid (fun o => (hb.setCell (p := ⟨w.heap.size, k, none⟩) (Nat.le_refl _) _).alloc (by have := hb.size; simp; omega) o)
      clear ht hb
      generalize (m f[k].len).getD 0 = x at *
      generalize f[k].len = y at *
      generalize f[k].cnt = z at *
      go_wp2
      go_roundw
      case rel => exact ⟨k + 1, by omega, by go_num, HN.out _, HBN.out _⟩
      case measure => simp [RowKit.intOf]; omega
    · obtain rfl : k = f.length := by omega
      have HT := Lib.hid (ht.cong (g := fun j => .int .i64 ((cntM m f).getD j 0)) (fun j hj => by unfold upC; rw [if_pos hj]))
      have HB := Lib.hid hb
      clear ht hb
      go_wp2
      go_ret
      exact ⟨rfl, HB.out, HT.out⟩
/-- All lengths are those of rules. -/
def LenB (ls : List Int) : Prop := ls.length ≤ 6 ∧ ∀ j (h : j < ls.length), 1 ≤ ls[j] ∧ ls[j] ≤ 400
open Classical in
noncomputable def lenB (ls : List Int) : Bool := decide (LenB ls)
theorem lenB_iff {ls : List Int} : lenB ls = true ↔ LenB ls := by unfold lenB; exact @decide_eq_true_iff _ (Classical.propDecidable _)
theorem lenB_no {ls : List Int} (h : ¬ LenB ls) : lenB ls = false := by cases hb : lenB ls with | false => rfl | true => exact absurd (lenB_iff.1 hb) h
set_option maxHeartbeats 1000000 in
theorem areRuleLengths_any (ls : List Int) (B : Option Addr) (d : Nat) (w : World) (hc : IntsIn w B ls) (hm : ls.length ≤ 1048576) :
    Calls Try.prog 65 #[.slice B ls.length d] w fun e w' => e = .returned (.bool (lenB ls)) ∧ w = w' := by
  have HC := Lib.hid hc; clear hc
  by_cases h6 : 6 < ls.length
  · have HV := Lib.hid (lenB_no (ls := ls) (fun h => by have := h.1; omega))
    have h6' : (6 : Int) < (ls.length : Int) := by omega
    go_enter Try.func65, Try.ntmps65
    go_wp2
    go_ret
    exact ⟨by rw [HV.out]; rfl, rfl⟩
  have h6' : ¬ (6 : Int) < (ls.length : Int) := by omega
  go_enter Try.func65, Try.ntmps65
  go_wp2
  go_loop [10] (fun i => ∃ k : Nat, k ≤ ls.length ∧ i = .int .i64 (k : Int) ∧ ∀ j (h : j < ls.length), j < k → 1 ≤ ls[j] ∧ ls[j] ≤ 400) (fun i => ls.length - (RowKit.intOf i).toNat)
  case atStart => exact ⟨0, Nat.zero_le _, rfl, fun j h1 h2 => absurd h2 (by omega)⟩
  case round =>
    obtain ⟨k, hk, rfl, hall⟩ := hrel
    have HA := Lib.hid hall; clear hall
    by_cases hlt : k < ls.length
    · obtain ⟨b, off, rfl, hbl, hc⟩ := HC.out (by omega)
      have hc0 := hc k hlt
      clear hc
      have HNX : Hid (1 ≤ ls[k] ∧ ls[k] ≤ 400 → ∀ j (h : j < ls.length), j < k + 1 → 1 ≤ ls[j] ∧ ls[j] ≤ 400) := Lib.hid (fun h j hj hjk => by
        rcases Nat.lt_or_ge j k with h3 | h3
        · exact HA.out j hj h3
        · obtain rfl : j = k := by omega
          exact h)
      have HNO : Hid (¬ (1 ≤ ls[k] ∧ ls[k] ≤ 400) → lenB ls = false) := Lib.hid (fun h => lenB_no (fun hp => h (hp.2 k hlt)))
      generalize ls[k] = y at *
      go_wp2_with fail
      refine (isRuleLength_any y _).mono ?_
      rintro e w' ⟨rfl, rfl⟩
      cases hy : inB 1 400 y
      · have HV := Lib.hid (HNO.out (fun h => by rw [inBs_iff.2 h] at hy; cases hy))
        clear hy
        go_wp2
        go_ret
        exact ⟨by rw [HV.out]; rfl, rfl⟩
      · have HV := Lib.hid (HNX.out (inBs_iff.1 hy))
        clear hy
        go_wp2
        go_round
        case rel => exact ⟨k + 1, by omega, by go_num, HV.out⟩
        case measure => simp [RowKit.intOf]; omega
    · obtain rfl : k = ls.length := by omega
      have HV := Lib.hid (lenB_iff.2 (show LenB ls from ⟨by omega, fun j h => HA.out j h h⟩))
      go_wp2
      go_ret
      exact ⟨by rw [HV.out]; rfl, rfl⟩
end Go.Proofs.Ytljakcfdjcjdbaa

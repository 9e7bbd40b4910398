/-
  The contracts of impl.RulesOf for one length, and of impl.RuleOf.
-/
import Derived.Test.YtljakcfdjcjdbaaRi
namespace Go.Proofs.Ytljakcfdjcjdbaa
open Go.RowKit
set_option linter.unusedVariables false

theorem run_makeS (w : World) :
    (Instr.makeSlice 45 (.int .i64 1) (.int .i64 1)).run Try.prog w = .ok (.slice (some ⟨w.heap.size, 0, none⟩) 1 1) (w.alloc (.cells #[.slice none 0 0] 31)) := by
  obtain ⟨i0, hi, hz0, hz1, hz2⟩ := info_parts info_sl
  have h := run_make (P := Try.prog) w 45 31 i0 _ Try.underlying45 hi hz0 .i64 .i64 1 1 (by omega) (Int.le_refl _) (by rw [hz2]; omega) (by omega)
  rw [hz1] at h
  have e : madeCells (Value.slice none 0 0).cells (1 * 1) = #[.slice none 0 0] := by first | kernel_rfl | simp [madeCells, Value.cells] | decide
  rw [show Int.toNat 1 = 1 from rfl, e] at h
  exact h
theorem lenB_one (a : Int) : lenB [a] = inB 1 400 a := by
  cases h : inB 1 400 a
  · refine lenB_no fun hp => ?_
    have this : inB 1 400 a = true := inBs_iff.2 (hp.2 0 (by simp))
    rw [h] at this; cases this
  · refine lenB_iff.2 ⟨by simp, fun j hj => ?_⟩
    obtain rfl : j = 0 := by simpa using hj
    exact inBs_iff.1 h
def R1To (f : List Sl) (a : Int) (w w' : World) (e : Ending) : Prop :=
  (rleB f a = false ∧ e = .returned (.tuple #[.slice none 0 0, .bool false]) ∧ Below w.heap.size w w') ∨
  (rleB f a = true ∧ ∃ g h, e = .returned (.tuple #[.slice (some ⟨g, 0, none⟩) 1 1, .bool true]) ∧ Below w.heap.size w w' ∧ w'.cell? ⟨g, 0, none⟩ = some (.slice (some ⟨h, 0, none⟩) f.length f.length) ∧ w.heap.size ≤ h ∧ Tb w' h 3 f.length (fun j => .int .i64 ((ruL 401 f a.toNat).getD j 0)))
set_option maxRecDepth 100000 in
set_option maxHeartbeats 2000000 in
theorem rulesOf1_any (f : List Sl) (A : Addr) (c : Nat) (a : Int) (B : Addr) (d : Nat) (w : World) (hf : SlsIn w (some A) f) (hn : f.length ≤ 1048576) (hl : IntsIn w (some B) [a]) :
    Calls Try.prog 38 #[.slice (some A) f.length c, .slice (some B) 1 d] w fun e w' => R1To f a w w' e := by
  have HF := Lib.hid hf; have HL := Lib.hid hl; clear hf hl
  go_enter Try.func38, Try.ntmps38
  go_wp2_with fail
  refine (implIsStock_any f _ c _ HF.out hn).mono ?_
  rintro e w1 ⟨rfl, hb1⟩
  have HB1 := Lib.hid hb1; clear hb1
  cases hg : stkB f
  · have HV : Hid (rleB f a = false) := Lib.hid (by unfold rleB; rw [hg]; rfl)
    clear hg
    go_wp2
    go_ret2
    exact .inl ⟨HV.out, rfl, HB1.out⟩
  have HG := Lib.hid (stkB_iff.1 hg)
  have HGB := Lib.hid hg; clear hg
  have hn8 := HG.out.eight
  have HAL := Lib.hid (areRuleLengths_any [a] (some B) d w1 (HL.out.below HB1.out (Nat.le_refl _)) (by simp))
  go_wp2_with fail
  refine HAL.out.mono ?_
  rintro e w' ⟨rfl, rfl⟩
  rw [lenB_one]
  cases hi : inB 1 400 a
  · have HV : Hid (rleB f a = false) := Lib.hid (by unfold rleB; rw [hi]; simp)
    clear hi
    go_wp2
    go_ret2
    exact .inl ⟨HV.out, rfl, HB1.out⟩
  have hi2 := inBs_iff.1 hi
  have HV : Hid (rleB f a = ruB 1048576 f a.toNat) := Lib.hid (by unfold rleB; rw [HGB.out, hi]; simp)
  clear hi
  obtain ⟨n, rfl⟩ : ∃ n : Nat, a = (n : Int) := ⟨a.toNat, by omega⟩
  have hv1 := HV.out
  rw [Int.toNat_natCast] at hv1
  have HV1 := Lib.hid hv1
  clear hv1 HV HAL
  have hb2 : Below w1.heap.size w1 (w1.alloc (.cells #[.slice (some A) f.length c] 25)) := (Below.refl _ _).alloc (Nat.le_refl _) _
  have HB2 := Lib.hid (HB1.out.trans (hb2.mono HB1.out.size))
  have HFL : Hid ([f].flatten = f) := Lib.hid (by simp)
  have HHD : Hid (Hdrs (w1.alloc (.cells #[.slice (some A) f.length c] 25)) w1.heap.size [f]) := Lib.hid ⟨by simp, fun i hi => by
    obtain rfl : i = 0 := by simpa using hi
    exact ⟨A, c, by rw [cell_of_heap (heap_new _ _)]; rfl, HF.out.below HB2.out (Nat.le_refl _)⟩⟩
  have HPC : Hid (Calls Try.prog 66 #[.slice (some ⟨w1.heap.size, 0, none⟩) 1 1] (w1.alloc (.cells #[.slice (some A) f.length c] 25)) fun e w' => ∃ b, e = .returned (.map (some b)) ∧ Below (w1.alloc (.cells #[.slice (some A) f.length c] 25)).heap.size (w1.alloc (.cells #[.slice (some A) f.length c] 25)) w' ∧ (w1.alloc (.cells #[.slice (some A) f.length c] 25)).heap.size ≤ b ∧ IsMp w' b f.length (fun a => asM f a)) := Lib.hid (by
    have h := piecesOfSlips_any [f] w1.heap.size 1 _ HHD.out (by simp) (by rw [HFL.out]; omega) (by rw [HFL.out]; exact HG.out.cnt20) (by rw [HFL.out]; exact HG.out.wf)
    rw [HFL.out, srt_of_rise HG.out.risen] at h
    exact h)
  clear hb2
  go_wp2_with fail
  refine HPC.out.mono ?_
  rintro e w3 ⟨b, rfl, hb3, hbb, hm3⟩
  have HM3 := Lib.hid hm3
  have HB3 := Lib.hid (HB2.out.trans (hb3.mono HB2.out.size))
  have hbw : w.heap.size ≤ b := Nat.le_trans HB2.out.size hbb
  have hb3l := HM3.out.lt
  clear hb3 hm3 hbb HPC HHD
  obtain ⟨w4, hw4⟩ : ∃ x : World, x = w3.alloc (.cells #[.slice none 0 0] 31) := ⟨_, rfl⟩
  have hmk : (Instr.makeSlice 45 (.int .i64 1) (.int .i64 1)).run Try.prog w3 = .ok (.slice (some ⟨w3.heap.size, 0, none⟩) 1 1) w4 := by rw [hw4]; exact run_makeS w3
  have b4 : Below w3.heap.size w3 w4 := by rw [hw4]; exact (Below.refl _ _).alloc (Nat.le_refl _) _
  have HT4 : Hid (Tb w4 w3.heap.size 31 1 (fun _ => .slice none 0 0)) := Lib.hid ⟨#[.slice none 0 0], by rw [hw4]; exact heap_new _ _, rfl, fun j hj => by
    have e : j = 0 := Nat.lt_one_iff.1 hj
    subst e; rfl⟩
  have HM4 := Lib.hid (HM3.out.next b4)
  have HB4 := Lib.hid (HB3.out.trans (b4.mono HB3.out.size))
  have hw3 := HB3.out.size
  clear hw4 b4
  obtain ⟨B', off, hB', hbl, hcl⟩ := HL.out (by simp)
  obtain rfl := Option.some.inj hB'
  have hc0 := hcl 0 (by simp)
  simp only [List.getElem_cons_zero, Nat.add_zero] at hc0
  have HC0 := Lib.hid hc0
  clear hcl hc0 hB'
  go_wp2
  clear hmk
  go_loopw [28] (fun i wr => ∃ (k h : Nat), k ≤ 1 ∧ i = .int .i64 (k : Int) ∧ Below w.heap.size w wr ∧ Tb wr w3.heap.size 31 1 (fun _ => if k = 0 then .slice none 0 0 else .slice (some ⟨h, 0, none⟩) f.length f.length) ∧ (k = 0 → IsMp wr b f.length (fun a => asM f a)) ∧ (k = 1 → FW 401 f n < 401 ∧ w.heap.size ≤ h ∧ Tb wr h 3 f.length (fun j => .int .i64 ((ruL 401 f n).getD j 0)))) (fun i _ => 1 - (RowKit.intOf i).toNat)
  case atStart => exact ⟨0, 0, by omega, rfl, HB4.out, HT4.out, fun _ => HM4.out, fun h => by omega⟩
  case round =>
    obtain ⟨k, h, hk, rfl, hb, ht, h0, h1⟩ := hrel
    rcases (by omega : k = 0 ∨ k = 1) with rfl | rfl
    · have HM := Lib.hid (h0 rfl); have HB := Lib.hid hb; have HT := Lib.hid ht
      have hc0 := (hb.cell (p := ⟨B', off, none⟩) hbl).trans HC0.out
      clear hb ht h0 h1
      go_wp2_with fail
      refine (takeRule_any f b f.length n _ HM.out (by omega) HG.out (by omega) (by omega)).mono ?_
      rintro e w5 hto
      rcases hto with ⟨hfw, r, rfl, hrw, hm5, hr5, hg5⟩ | ⟨hfw, rfl, hb5⟩
      rotate_left
      · have HN : Hid (rleB f (n : Int) = false) := Lib.hid (by rw [HV1.out]; exact (ru_no (fun h => hfw ((ruB_same (Z := 1048576) (by omega) HG.out (by omega)).2 h))).2)
        have HB5 := Lib.hid (HB.out.trans (hb5.mono HB.out.size))
        clear hfw hb5 hc0
        go_wp2
        go_ret2
        exact .inl ⟨HN.out, rfl, HB5.out⟩
      have HFW := Lib.hid hfw
      have HB5 := Lib.hid (HB.out.grown hg5 HB.out.size (fun q e => by have := Option.some.inj e; omega))
      have HT5 := Lib.hid (HT.out.grown hg5 (fun e => by have := Option.some.inj e; omega))
      have HR5 := Lib.hid hr5
      clear hfw hm5 hr5 hg5 hc0
      go_wp2_with fail
      refine (countsFor_any r f.length (rlT f n f.length) f (some A) c _ HR5.out (HF.out.below HB5.out (Nat.le_refl _)) HG.out).mono ?_
      rintro e w6 ⟨rfl, hb6, ht6⟩
      rw [cnt_rule HG.out] at ht6
      have hB6 := HB5.out.trans (hb6.mono HB5.out.size)
      have hT6 := HT5.out.next hb6
      have s1 := hT6.cell (j := 0) (by omega)
      have s2 := hT6.free 0
      have s3 := hT6.lt
      have h5w := HB5.out.size
      have h5l := HT5.out.lt
      have HB7 := Lib.hid (hB6.setCell (p := ⟨w3.heap.size, 0, none⟩) hw3 (.slice (some ⟨w5.heap.size, 0, none⟩) f.length f.length))
      have HT7 := Lib.hid ((hT6.set 0 (.slice (some ⟨w5.heap.size, 0, none⟩) f.length f.length)).cong (g := fun _ => if 1 = 0 then .slice none 0 0 else .slice (some ⟨w5.heap.size, 0, none⟩) f.length f.length) (fun j hj => by
        obtain rfl : j = 0 := by omega
        rfl))
      have HH7 := Lib.hid (ht6.other (c := w3.heap.size) (i := 0) (.slice (some ⟨w5.heap.size, 0, none⟩) f.length f.length) (by omega))
      clear hb6 ht6 hB6 hT6
      go_wp2
      go_roundw
      case rel => exact ⟨1, w5.heap.size, by omega, by go_num, HB7.out, HT7.out, fun h => by omega, fun _ => ⟨HFW.out, h5w, HH7.out⟩⟩
      case measure => simp [RowKit.intOf]
    · obtain ⟨hfw, hhw, hth⟩ := h1 rfl
      have HN : Hid (rleB f (n : Int) = true) := Lib.hid (by rw [HV1.out]; exact (ru_yes ((ruB_same (Z := 1048576) (by omega) HG.out (by omega)).1 hfw)).2)
      have HB := Lib.hid hb; have HT := Lib.hid ht; have HH := Lib.hid hth
      clear hb ht h0 h1 hth hfw
      go_wp2
      go_ret2
      exact .inr ⟨HN.out, w3.heap.size, h, rfl, HB.out, HT.out.cell (j := 0) (by omega), hhw, by rw [Int.toNat_natCast]; exact HH.out⟩
set_option maxRecDepth 100000 in
set_option maxHeartbeats 1000000 in
theorem implRuleOf_any (f : List Sl) (A : Addr) (c : Nat) (a : Int) (w : World) (hf : SlsIn w (some A) f) (hn : f.length ≤ 1048576) :
    Calls Try.prog 22 #[.slice (some A) f.length c, .int .i64 a] w fun e w' => RlTo f a w w' e := by
  obtain ⟨w0, hw0⟩ : ∃ x : World, x = w.alloc (.cells #[.int .i64 a] 3) := ⟨_, rfl⟩
  have b0 : Below w.heap.size w w0 := by rw [hw0]; exact (Below.refl _ _).alloc (Nat.le_refl _) _
  have hl : IntsIn w0 (some ⟨w.heap.size, 0, none⟩) [a] := fun _ => ⟨w.heap.size, 0, rfl, by rw [hw0]; simp, fun k hk => by
    obtain rfl : k = 0 := by simpa using hk
    rw [hw0]; simp⟩
  have HR := Lib.hid (rulesOf1_any f A c a ⟨w.heap.size, 0, none⟩ 1 w0 (hf.below b0 (Nat.le_refl _)) hn hl)
  have HB0 := Lib.hid b0
  have HW0 := Lib.hid hw0
  clear hf hl hw0 b0
  go_enter Try.func22, Try.ntmps22
  go_wp2_with fail
  rw [← HW0.out]
  refine HR.out.mono ?_
  rintro e w1 hto
  rcases hto with ⟨hv, rfl, hb⟩ | ⟨hv, g, h, rfl, hb, hc, hh, ht⟩
  · have HV := Lib.hid hv; have HB := Lib.hid (HB0.out.trans (hb.mono HB0.out.size))
    clear hv hb
    go_wp2
    go_ret2
    exact RlTo.no HV.out HB.out
  · have HB := Lib.hid (HB0.out.trans (hb.mono HB0.out.size))
    have HV := Lib.hid hv
    have hst : stkB f = true := by unfold rleB at hv; rw [Bool.and_eq_true] at hv; exact hv.1
    have hin : inB 1 400 a = true := by unfold rleB at hv; rw [Bool.and_eq_true, Bool.and_eq_true] at hv; exact hv.2.1
    have hru : ruB 1048576 f a.toNat = true := by unfold rleB at hv; rw [Bool.and_eq_true, Bool.and_eq_true] at hv; exact hv.2.2
    have hG := stkB_iff.1 hst
    have hi2 := inBs_iff.1 hin
    have hfw : FW 401 f a.toNat < 401 := (ruB_same (Z := 1048576) (by omega) hG (by omega)).2 (by unfold ruB at hru; simpa using hru)
    have e2 : rleV f a = ruL 401 f a.toNat := by rw [rle_yes hv, ruL_same (Z := 1048576) (by omega) hG hfw]
    have HO : Hid (w1.ownsRow w.heap.size 3 1 (.slice (some ⟨h, 0, none⟩) f.length f.length) (rleV f a).length (intsZ (rleV f a))) := Lib.hid (by
      have hlen : (rleV f a).length = f.length := by rw [e2, ruL_len]
      have hw := HB0.out.size
      have ho := Tb.own (l := rleV f a) (b := h) (base := w.heap.size) (t := 3) (w := w1) (f := fun j => .int .i64 ((ruL 401 f a.toNat).getD j 0)) (by rw [hlen]; exact ht) (by omega) (by have := rleV_short f a; unfold maxLen; omega) (fun j hj => by
        show Value.int .i64 ((ruL 401 f a.toNat).getD j 0) = _
        rw [← e2, getI hj])
      rw [hlen] at ho ⊢; exact ho)
    clear hv hb hh ht hst hin hru hG hi2 hfw e2
    go_wp2
    go_ret2
    exact ⟨_, 3, ret_vb HV.out.symm, HB.out, HO.out⟩
end Go.Proofs.Ytljakcfdjcjdbaa

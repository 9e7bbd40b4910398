/-
  The contract of spec.CutSlip.
-/
import Derived.Test.YtljakcfdjcjdbaaQa
namespace Go.Proofs.Ytljakcfdjcjdbaa
open Go.RowKit
set_option linter.unusedVariables false

/-- The list after a cut: number i has a piece less, and there are a piece of n and one of the rest. -/
def cutK (f : List Sl) (i : Nat) : List Sl := f.set i ⟨(f.getD i ⟨0, 0⟩).len, (f.getD i ⟨0, 0⟩).cnt - 1⟩
def cutL (f : List Sl) (i : Nat) (n m : Int) : List Sl := cutK f i ++ [⟨n, 1⟩] ++ [⟨m, 1⟩]
def CutAsk (f : List Sl) (i n : Int) : Prop := GoodS f ∧ (0 ≤ i ∧ i < (f.length : Int)) ∧ (f.getD i.toNat ⟨0, 0⟩).cnt ≠ 0 ∧ 1 ≤ n ∧ n ≤ (f.getD i.toNat ⟨0, 0⟩).len - 1
open Classical in
noncomputable def cutA (f : List Sl) (i n : Int) : Bool := decide (CutAsk f i n)
theorem cutA_iff {f : List Sl} {i n : Int} : cutA f i n = true ↔ CutAsk f i n := by unfold cutA; exact @decide_eq_true_iff _ (Classical.propDecidable _)
theorem cutA_no {f : List Sl} {i n : Int} (h : ¬ CutAsk f i n) : cutA f i n = false := by cases hb : cutA f i n with | false => rfl | true => exact absurd (cutA_iff.1 hb) h
noncomputable def cutV (f : List Sl) (i n : Int) : List Sl := if cutA f i n then ifV (srt (cutL f i.toNat n ((f.getD i.toNat ⟨0, 0⟩).len - n))) else []
noncomputable def cutB (f : List Sl) (i n : Int) : Bool := cutA f i n && stkB (srt (cutL f i.toNat n ((f.getD i.toNat ⟨0, 0⟩).len - n)))
theorem cut_no {f : List Sl} {i n : Int} (h : cutA f i n = false) : cutV f i n = [] ∧ cutB f i n = false := by unfold cutV cutB; rw [h]; exact ⟨rfl, rfl⟩
theorem cut_yes {f : List Sl} {i : Nat} {n : Int} (h : cutA f (i : Int) n = true) : cutV f (i : Int) n = ifV (srt (cutL f i n ((f.getD i ⟨0, 0⟩).len - n))) ∧ cutB f (i : Int) n = stkB (srt (cutL f i n ((f.getD i ⟨0, 0⟩).len - n))) := by unfold cutV cutB; rw [h]; exact ⟨rfl, rfl⟩
theorem cutV_short (f : List Sl) (i n : Int) : (cutV f i n).length ≤ 1048576 := by
  unfold cutV
  split
  · exact ifV_short _
  · simp
theorem cutK_len (f : List Sl) (i : Nat) : (cutK f i).length = f.length := by simp [cutK]
theorem cutK_rise {f : List Sl} (h : Rise f) (i : Nat) : Rise (cutK f i) := by
  unfold Rise at h ⊢
  rw [List.pairwise_iff_getElem] at h ⊢
  have e : ∀ j (hj : j < f.length), ((cutK f i)[j]'(by rw [cutK_len]; exact hj)).len = f[j].len := fun j hj => by
    simp only [cutK, List.getElem_set]
    split
    · rename_i e; subst e; rw [getS hj]
    · rfl
  intro a b ha hb hab
  rw [cutK_len] at ha hb
  rw [e a ha, e b hb]; exact h a b ha hb hab
theorem cutK_bd {f : List Sl} (h : GoodS f) (i : Nat) : ∀ x ∈ cutK f i, -20 ≤ x.cnt ∧ x.cnt ≤ 20 := fun x hx => by
  obtain ⟨j, hj, rfl⟩ := List.mem_iff_getElem.1 hx
  rw [cutK_len] at hj
  have hb := h.bd hj
  simp only [cutK, List.getElem_set]
  split
  · rename_i e; subst e; rw [getS hj]; show -20 ≤ _ - _ ∧ _ - _ ≤ (20 : Int); omega
  · omega
theorem cutK_flat {f : List Sl} {i : Nat} (h : i < f.length) : flatSl (cutK f i) = (flatSl f).set (i * 2 + 1) (.int .i64 (f[i].cnt - 1)) := by
  unfold cutK; rw [getS h]; exact flatSl_set f i _ h
theorem srt_cut {f : List Sl} (h : Rise f) (i : Nat) (n m : Int) : srt (cutL f i n m) = putS (putS (cutK f i) n 1) m 1 := by
  unfold cutL; rw [srt_snoc, srt_snoc, srt_of_rise (cutK_rise h i)]
set_option maxRecDepth 100000 in
set_option maxHeartbeats 4000000 in
theorem specCutSlip_any (f : List Sl) (A : Addr) (c : Nat) (i n : Int) (w : World) (hf : SlsIn w (some A) f) (hn : f.length ≤ 1048576) :
    Calls Try.prog 44 #[.slice (some A) f.length c, .int .i64 i, .int .i64 n] w fun e w' => ∃ v T, e = .returned (.tuple #[v, .bool (cutB f i n)]) ∧ Below w.heap.size w w' ∧ w'.ownsRow w.heap.size T 2 v (cutV f i n).length (flatSl (cutV f i n)) := by
  have HF := Lib.hid hf; clear hf
  obtain ⟨i0, hi, hz0, hz1, hz2⟩ := info_parts infoSl
  have HI0 := Lib.hid hi; have HZ0 := Lib.hid hz0; have HZ1 := Lib.hid hz1; have HZ2 := Lib.hid hz2
  clear hi hz0 hz1 hz2
  go_enter Try.func44, Try.ntmps44
  go_wp2_with fail
  refine (ruGood_any f _ c _ HF.out hn).mono ?_
  rintro e w1 ⟨rfl, hb1⟩
  have HB0 := Lib.hid hb1
  clear hb1
  cases hg : stkB f
  · skip
    have HV := Lib.hid (cut_no (cutA_no (f := f) (i := i) (n := n) (fun h => by rw [stkB_iff.2 h.1] at hg; cases hg)))
    clear hg
    go_wp2
    go_ret2
    exact ⟨_, 57, ret_vb HV.out.2.symm, HB0.out, by rw [HV.out.1]; exact own_nil _ _ _ _⟩
  have HG := Lib.hid (stkB_iff.1 hg)
  clear hg
  have hn8 := HG.out.eight
  go_wp2_with fail
  refine (l1In_any _ _ _ _).mono ?_
  rintro e w' ⟨rfl, rfl⟩
  cases hi : inB 0 ((f.length : Int) - 1) i
  · skip
    have HV := Lib.hid (cut_no (cutA_no (f := f) (i := i) (n := n) (fun h => by rw [inBs_iff.2 (by have := h.2.1; omega)] at hi; cases hi)))
    clear hi
    go_wp2
    go_ret2
    exact ⟨_, 57, ret_vb HV.out.2.symm, HB0.out, by rw [HV.out.1]; exact own_nil _ _ _ _⟩
  have hi2 := inBs_iff.1 hi
  clear hi
  obtain ⟨k, rfl⟩ : ∃ k : Nat, i = (k : Int) := ⟨i.toNat, by omega⟩
  have hk : k < f.length := by omega
  obtain ⟨b, off, hA, hbl, hcl⟩ := HF.out (by omega)
  obtain rfl := Option.some.inj hA
  obtain ⟨hc0, hc1⟩ := hcl k hk
  clear hcl hA
  have HC0 := Lib.hid hc0; have HC1 := Lib.hid hc1
  rw [← HB0.out.cell (p := ⟨b, off + k * 2, none⟩) hbl] at hc0
  rw [← HB0.out.cell (p := ⟨b, off + k * 2 + 1, none⟩) hbl] at hc1
  have hbd := HG.out.bd hk
  have HGK : Hid (f.getD k ⟨0, 0⟩ = f[k]) := Lib.hid (getS hk)
  have HFK := Lib.hid (cutK_flat hk)
  have HCY : Hid (CutAsk f (k : Int) n ↔ f[k].cnt ≠ 0 ∧ 1 ≤ n ∧ n ≤ f[k].len - 1) := Lib.hid (by
    unfold CutAsk
    rw [Int.toNat_natCast, HGK.out]
    exact ⟨fun h => h.2.2, fun h => ⟨HG.out, by omega, h⟩⟩)
  have HVY : Hid (cutA f (k : Int) n = true → cutV f (k : Int) n = ifV (srt (cutL f k n (f[k].len - n))) ∧ cutB f (k : Int) n = stkB (srt (cutL f k n (f[k].len - n)))) := Lib.hid (fun h => by
    have := cut_yes h
    rwa [HGK.out] at this)
  have HSC : Hid (srt (cutL f k n (f[k].len - n)) = putS (putS (cutK f k) n 1) (f[k].len - n) 1) := Lib.hid (srt_cut HG.out.risen k n _)
  have hkk : (k : Int) < (f.length : Int) := by omega
  have HM1 : Hid (k * 2 + 1 < (flatSl f).length) := Lib.hid (by rw [flatSl_len]; omega)
  have HGV : Hid ((flatSl f)[k * 2 + 1]? = some (.int .i64 f[k].cnt)) := Lib.hid (flatSl_get f k hk).2
  generalize f[k].len = y at *
  generalize f[k].cnt = z at *
  by_cases hz : z = 0
  · have hd : (z == 0) = true := by simp [hz]
    have HV := Lib.hid (cut_no (cutA_no (f := f) (i := (k : Int)) (n := n) (fun h => (HCY.out.1 h).1 hz)))
    subst hz
    go_wp2
    go_ret2
    exact ⟨_, 57, ret_vb HV.out.2.symm, HB0.out, by rw [HV.out.1]; exact own_nil _ _ _ _⟩
  have hd : (z == 0) = false := by simp [hz]
  go_wp2_with fail
  refine (l1In_any _ _ _ _).mono ?_
  rintro e w' ⟨rfl, rfl⟩
  cases hi : inB 1 (y - 1) n
  · skip
    have HV := Lib.hid (cut_no (cutA_no (f := f) (i := (k : Int)) (n := n) (fun h => by rw [inBs_iff.2 (HCY.out.1 h).2] at hi; cases hi)))
    clear hi
    go_wp2
    go_ret2
    exact ⟨_, 57, ret_vb HV.out.2.symm, HB0.out, by rw [HV.out.1]; exact own_nil _ _ _ _⟩
  have hi3 := inBs_iff.1 hi
  clear hi
  have HV := Lib.hid (HVY.out (cutA_iff.2 (HCY.out.2 ⟨hz, hi3⟩)))
  clear hd hz
  have HNW := Lib.hid (newsSl (HF.out.below (HB0.out.alloc HB0.out.size (.cells #[] 57)) (Nat.le_refl _)))
  have HOW := Lib.hid (own_none2 (base := w.heap.size) (w1.alloc (.cells #[] 57)) (heap_new _ _) HB0.out.size)
  have hmx : 0 + f.length ≤ maxLen := by unfold maxLen; omega
  go_wp2_with (at_builtin; refine wpList_append_own _ rfl _ _ 25 rfl w.heap.size 57 i0 (.agg #[.int .i64 0, .int .i64 0]) 2 16 Try.underlying25 HI0.out HZ0.out HZ1.out HZ2.out rfl (by decide) _ _ _ rfl HOW.out (⟨b, off, none⟩ : Addr) f.length c (flatSl f) rfl (by rw [flatSl_len]; omega) HNW.out (flatSl_one f) hmx (by omega) (by have := HB0.out.size; simp; omega) ?_)
  intro v' w4 hown' hgrow hnil
  have HB1 : Hid (Below w.heap.size w w4) := Lib.hid ((HB0.out.alloc HB0.out.size (.cells #[] 57)).grown hgrow (by have := HB0.out.size; simp; omega) (own_lt HOW.out))
  have hv : v' ≠ .slice none 0 0 := hnil
  have HO : Hid (w4.ownsRow w.heap.size 57 2 v' f.length (flatSl f)) := Lib.hid (by simpa [flatSl] using hown')
  obtain ⟨g, cap, rfl, hg, hm, h1, h2⟩ := own_row2 HO.out hv
  have HM := Lib.hid hm
  clear hown' hgrow hnil hm HO hv
  have c1 := (HB1.out.cell (p := ⟨b, off + k * 2, none⟩) hbl).trans HC0.out
  have d1 := HM.out.cellAt HM1.out
  have e1 : (flatSl f)[k * 2 + 1]'HM1.out = .int .i64 z := by have := HGV.out; rw [List.getElem?_eq_getElem HM1.out] at this; exact Option.some.inj this
  rw [e1] at d1
  have f1 := HM.out.freeAt (k * 2 + 1)
  have gl := HM.out.lt
  obtain ⟨wx, hwx⟩ : ∃ x : World, x = w4.setCell ⟨g, k * 2 + 1, none⟩ (.int .i64 (z - 1)) := ⟨_, rfl⟩
  have HMM : Hid (Marked wx g 57 (cap * 2) (flatSl (cutK f k))) := Lib.hid (by rw [hwx, HFK.out]; exact HM.out.put _)
  have HBX : Hid (Below w.heap.size w wx) := Lib.hid (by rw [hwx]; exact HB1.out.setCell (p := ⟨g, k * 2 + 1, none⟩) hg _)
  have hbx : b < wx.heap.size := Nat.lt_of_lt_of_le hbl HBX.out.size
  have HCX : Hid (wx.cell? ⟨b, off + k * 2, none⟩ = some (.int .i64 y)) := Lib.hid ((HBX.out.cell (p := ⟨b, off + k * 2, none⟩) hbl).trans HC0.out)
  have HWX := Lib.hid hwx
  have hcl : (cutK f k).length = f.length := cutK_len f k
  have HBK := Lib.hid (cutK_bd HG.out k)
  clear hwx e1
  go_wp2_with fail
  rw [← HWX.out]
  have c2 := HCX.out
  clear c1 d1 f1 gl
  have hyn : -9223372036854775808 ≤ y - n ∧ y - n ≤ 9223372036854775807 := by omega
  have hwr : IntKind.i64.wrap (y - n) = y - n := by rw [IntKind.wrap_i64]; omega
  have HPB : Hid (∀ j (h : j < (cutK f k).length), -1000 ≤ (cutK f k)[j].cnt ∧ (cutK f k)[j].cnt ≤ 1000) := Lib.hid (fun j h => by have := HBK.out _ (List.getElem_mem h); omega)
  have HPB2 : Hid (∀ j (h : j < (putS (cutK f k) n 1).length), -1000 ≤ (putS (cutK f k) n 1)[j].cnt ∧ (putS (cutK f k) n 1)[j].cnt ≤ 1000) := Lib.hid (fun j h => by
    have := putS_bd (n := n) (c := 1) (C := 1) HBK.out (by omega) (by omega) _ (List.getElem_mem h); omega)
  have hl1 := ruPut_short (cutK f k) n 1
  have hl2 := ruPut_short (putS (cutK f k) n 1) (y - n) 1
  have HMD := Lib.hid (HMM.out.below (Below.refl _ _).drew)
  have HBD := Lib.hid (HBX.out.drew)
  have h1k : (cutK f k).length ≤ cap := by rw [hcl]; exact h1
  have HHV : Hid (cutV f (k : Int) n = ifV (putS (putS (cutK f k) n 1) (y - n) 1) ∧ cutB f (k : Int) n = stkB (putS (putS (cutK f k) n 1) (y - n) 1)) := Lib.hid (by rw [HV.out.1, HV.out.2, HSC.out]; exact ⟨rfl, rfl⟩)
  have HP1 : Hid (∀ W, SlsIn W (some ⟨g, 0, none⟩) (cutK f k) → Calls Try.prog 70 #[.slice (some ⟨g, 0, none⟩) f.length cap, .int .i64 n, .int .i64 1] W fun e w' => SlTo W w' e (putS (cutK f k) n 1)) := Lib.hid (by
    rw [← hcl]
    exact fun W h => ruPut_any (cutK f k) g cap n 1 W h h1k (by omega) HPB.out (by omega))
  have hbx2 : b < wx.drew.heap.size := hbx
  have c3 : wx.drew.cell? ⟨b, off + k * 2, none⟩ = some (.int .i64 y) := c2
  have HC5 : Hid (∀ W, Below wx.heap.size wx W → W.cell? ⟨b, off + k * 2, none⟩ = some (.int .i64 y)) := Lib.hid (fun W hW => (hW.cell (p := ⟨b, off + k * 2, none⟩) hbx).trans c2)
  clear HV HSC HVY HCY HFK HGV HM1 HGK
  go_region_law (first
    | (have hq6 := HM6; clear hq6; go_simp; go_at_call 69; refine (ruIf_any (putS (putS (cutK f k) n 1) (y - n) 1) w.heap.size g6 cap6 w6 HM6.out hg6' HB6.out.size h61 h62 (by omega)).mono ?_; rintro e w7 ⟨v7, rfl, hb7, ho7⟩; have HB7 := Lib.hid (HB6.out.trans (hb7.mono HB6.out.size)); have HO7 := Lib.hid ho7; clear hb7 ho7)
    | (have hq5 := HM5; clear hq5; go_simp; go_at_call 70; refine (ruPut_any (putS (cutK f k) n 1) g5 cap5 (y - n) 1 w5 HM5.out.sls h51 (by omega) HPB2.out (by omega)).mono ?_; rintro e w6 ⟨g6, cap6, rfl, hb6, hg6, hm6, h61, h62⟩; have HB6 := Lib.hid (HB5.out.trans (hb6.mono HB5.out.size)); have HM6 := Lib.hid hm6; have hg6' : w.heap.size ≤ g6 := Nat.le_trans HB5.out.size hg6; clear hb6 hm6 hg6)
    | (go_simp; go_at_call 70; refine (HP1.out wx.drew HMD.out.sls).mono ?_; rintro e w5 ⟨g5, cap5, rfl, hb5, hg5, hm5, h51, h52⟩; have c4 := HC5.out w5 (((Below.refl wx.heap.size wx).drew).trans (hb5.mono (Nat.le_refl _))); have HB5 := Lib.hid (HBD.out.trans (hb5.mono HBD.out.size)); have HM5 := Lib.hid hm5; clear hb5 hm5 hg5))
  all_goals
    go_wp2
    go_ret2
    exact ⟨_, 57, ret_vb HHV.out.2.symm, HB7.out, by rw [HHV.out.1]; exact HO7.out⟩
end Go.Proofs.Ytljakcfdjcjdbaa

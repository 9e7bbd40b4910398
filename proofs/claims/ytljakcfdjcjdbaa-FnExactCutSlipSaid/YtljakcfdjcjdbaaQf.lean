/-
  The contract of impl.CutSlip.
-/
import Derived.Test.YtljakcfdjcjdbaaQe
import Derived.Test.YtljakcfdjcjdbaaQc
namespace Go.Proofs.Ytljakcfdjcjdbaa
open Go.RowKit
set_option linter.unusedVariables false

theorem cutK_wf {f : List Sl} (h : GoodS f) (i : Nat) : ∀ x ∈ cutK f i, WF x.len := fun x hx => by
  obtain ⟨j, hj, rfl⟩ := List.mem_iff_getElem.1 hx
  rw [cutK_len] at hj
  have hb := h.bd hj
  simp only [cutK, List.getElem_set]
  split
  · rename_i e; subst e; rw [getS hj]; exact wf_of (show -9223372036854775808 ≤ _ by show _ ≤ f[i].len; omega) (show _ ≤ 9223372036854775807 by show f[i].len ≤ _; omega)
  · exact wf_of (by omega) (by omega)
/-- A cut that is none makes no stock. -/
theorem cut_bad {f : List Sl} {k : Nat} {n m : Int} (hf : GoodS f) (hk : k < f.length) (hm : 1 ≤ n → n ≤ 200 → m = f[k].len - n) (hc : ¬ CutAsk f (k : Int) n) : stkB (srt (cutL f k n m)) = false := by
  refine stkB_no fun hg => hc ?_
  have hr := cutK_rise hf.risen k
  have hr1 := putS_rise hr n 1
  have hb := hf.bd hk
  rw [srt_cut hf.risen] at hg
  have s1 : ∀ a, asM (putS (putS (cutK f k) n 1) m 1) a = if a = m then some ((asM (putS (cutK f k) n 1) m).getD 0 + 1) else asM (putS (cutK f k) n 1) a := fun a => putS_as hr1 m 1 a
  have s2 : ∀ a, asM (putS (cutK f k) n 1) a = if a = n then some ((asM (cutK f k) n).getD 0 + 1) else asM (cutK f k) a := fun a => putS_as hr n 1 a
  have s3 := s1 m
  rw [if_pos rfl] at s3
  have q3 := hg.says s3
  have q1 : 1 ≤ n ∧ n ≤ 200 := by
    by_cases e : n = m
    · subst e; exact q3.1
    · have s4 := s1 n
      rw [if_neg e, s2, if_pos rfl] at s4
      exact (hg.says s4).1
  have q2 := hm q1.1 q1.2
  have hlt : k < (cutK f k).length := by rw [cutK_len]; exact hk
  have ek : (cutK f k)[k]'hlt = ⟨f[k].len, f[k].cnt - 1⟩ := by simp only [cutK, List.getElem_set_self, getS hk]
  have s5 := asM_mem hr (List.getElem_mem hlt)
  rw [ek] at s5
  have s5' : asM (cutK f k) f[k].len = some (f[k].cnt - 1) := s5
  have s6 := s1 f[k].len
  rw [if_neg (by omega), s2, if_neg (by omega), s5'] at s6
  have q4 := hg.says s6
  refine ⟨hf, ⟨by omega, by omega⟩, ?_, by omega, ?_⟩
  · rw [Int.toNat_natCast, getS hk]; omega
  · rw [Int.toNat_natCast, getS hk]; omega
theorem cut_all {f : List Sl} {k : Nat} {n m : Int} (hf : GoodS f) (hk : k < f.length) (hm : 1 ≤ n → n ≤ 200 → m = f[k].len - n) : cutV f (k : Int) n = ifV (srt (cutL f k n m)) ∧ cutB f (k : Int) n = stkB (srt (cutL f k n m)) := by
  cases ha : cutA f (k : Int) n
  · have hb := cut_bad hf hk hm (fun h => by rw [cutA_iff.2 h] at ha; cases ha)
    rw [hb, ifV_no hb]; exact cut_no ha
  · have hb := (cutA_iff.1 ha).2.2
    rw [Int.toNat_natCast, getS hk] at hb
    have hz := hf.bd hk
    have h2 := cut_yes ha
    rw [getS hk, ← hm (by omega) (by omega)] at h2
    exact h2
set_option maxRecDepth 100000 in
set_option maxHeartbeats 4000000 in
theorem implCutSlip_any (f : List Sl) (A : Addr) (c : Nat) (i n : Int) (w : World) (hf : SlsIn w (some A) f) (hn : f.length ≤ 1048576) (ri : -9223372036854775808 ≤ i ∧ i ≤ 9223372036854775807) (rn : -9223372036854775808 ≤ n ∧ n ≤ 9223372036854775807) :
    Calls Try.prog 45 #[.slice (some A) f.length c, .int .i64 i, .int .i64 n] w fun e w' => ∃ v T, e = .returned (.tuple #[v, .bool (cutB f i n)]) ∧ Below w.heap.size w w' ∧ w'.ownsRow w.heap.size T 2 v (cutV f i n).length (flatSl (cutV f i n)) := by
  have HF := Lib.hid hf; clear hf
  go_enter Try.func45, Try.ntmps45
  go_wp2_with fail
  refine (implIsStock_any f _ c _ HF.out hn).mono ?_
  rintro e w1 ⟨rfl, hb1⟩
  have HB0 := Lib.hid hb1
  clear hb1
  cases hg : stkB f
  · skip
    have HV := Lib.hid (cut_no (cutA_no (f := f) (i := i) (n := n) (fun h => by rw [stkB_iff.2 h.1] at hg; cases hg)))
    clear hg
    go_wp2
    go_ret2
    exact ⟨_, 57, ret_vb HV.out.2.symm, HB0.out, by rw [HV.out.1]; exact own_nil _ _ _ _⟩
  have HG := Lib.hid (stkB_iff.1 hg)
  clear hg
  have hn8 := HG.out.eight
  by_cases hi0 : i < 0
  · skip
    have HV := Lib.hid (cut_no (cutA_no (f := f) (i := i) (n := n) (fun h => by have := h.2.1; omega)))
    have hq : decide (i < 0) = true := by simp [hi0]
    go_wp2
    go_ret2
    exact ⟨_, 57, ret_vb HV.out.2.symm, HB0.out, by rw [HV.out.1]; exact own_nil _ _ _ _⟩
  by_cases hi1 : (f.length : Int) ≤ i
  · skip
    have HV := Lib.hid (cut_no (cutA_no (f := f) (i := i) (n := n) (fun h => by have := h.2.1; omega)))
    have hq : decide (i < 0) = false := by simp [hi0]
    go_wp2
    go_ret2
    exact ⟨_, 57, ret_vb HV.out.2.symm, HB0.out, by rw [HV.out.1]; exact own_nil _ _ _ _⟩
  obtain ⟨k, rfl⟩ : ∃ k : Nat, i = (k : Int) := ⟨i.toNat, by omega⟩
  have hk : k < f.length := by omega
  obtain ⟨b, off, hA, hbl, hcl⟩ := HF.out (by omega)
  obtain rfl := Option.some.inj hA
  obtain ⟨hc0, hc1⟩ := hcl k hk
  clear hcl hA
  have HC0 := Lib.hid hc0
  clear hc0 hc1
  have hbd := HG.out.bd hk
  have HFK := Lib.hid (cutK_flat hk)
  obtain ⟨m, hm⟩ : ∃ m, m = IntKind.i64.wrap (f[k].len - n) := ⟨_, rfl⟩
  have hmr : -9223372036854775808 ≤ m ∧ m ≤ 9223372036854775807 := by rw [hm, IntKind.wrap_i64]; omega
  have HV := Lib.hid (cut_all (n := n) (m := m) HG.out hk (fun h1 h2 => by rw [hm, IntKind.wrap_i64]; omega))
  have hkk : (k : Int) < (f.length : Int) := by omega
  have HM1 : Hid (k * 2 + 1 < (flatSl f).length) := Lib.hid (by rw [flatSl_len]; omega)
  have HGV : Hid ((flatSl f)[k * 2 + 1]? = some (.int .i64 f[k].cnt)) := Lib.hid (flatSl_get f k hk).2
  generalize f[k].len = y at *
  generalize f[k].cnt = z at *
  go_wp2_with fail
  refine (clone_sl f ⟨b, off, none⟩ c w1 (HF.out.below HB0.out (Nat.le_refl _)) hn).mono ?_
  rintro e w2 ⟨g, cap, rfl, hb2, hg0, hm2, h1, h2⟩
  have HB1 := Lib.hid (HB0.out.trans (hb2.mono HB0.out.size))
  have hg : w.heap.size ≤ g := by have := HB0.out.size; omega
  have HM := Lib.hid hm2
  clear hb2 hm2
  have d1 := HM.out.cellAt HM1.out
  have e1 : (flatSl f)[k * 2 + 1]'HM1.out = .int .i64 z := by have := HGV.out; rw [List.getElem?_eq_getElem HM1.out] at this; exact Option.some.inj this
  rw [e1] at d1
  have f1 := HM.out.freeAt (k * 2 + 1)
  have gl := HM.out.lt
  obtain ⟨wx, hwx⟩ : ∃ x : World, x = w2.setCell ⟨g, k * 2 + 1, none⟩ (.int .i64 (z - 1)) := ⟨_, rfl⟩
  have HMM : Hid (Marked wx g 57 (cap * 2) (flatSl (cutK f k))) := Lib.hid (by rw [hwx, HFK.out]; exact HM.out.put _)
  have HBX : Hid (Below w.heap.size w wx) := Lib.hid (by rw [hwx]; exact HB1.out.setCell (p := ⟨g, k * 2 + 1, none⟩) hg _)
  have hbx : b < wx.heap.size := Nat.lt_of_lt_of_le hbl HBX.out.size
  have HCX : Hid (wx.cell? ⟨b, off + k * 2, none⟩ = some (.int .i64 y)) := Lib.hid ((HBX.out.cell (p := ⟨b, off + k * 2, none⟩) hbl).trans HC0.out)
  have HWX := Lib.hid hwx
  have HWM := Lib.hid hm
  have hcl : (cutK f k).length = f.length := cutK_len f k
  clear hwx e1 hm
  -- the two new pieces, and the two lists
  have hsz : wx.heap.size = w2.heap.size := by rw [HWX.out]; simp
  have HBA : Hid (Below w.heap.size w (wx.alloc (.cells #[.int .i64 n, .int .i64 1, .int .i64 m, .int .i64 1] 57))) := Lib.hid (HBX.out.alloc HBX.out.size _)
  have hbw := HBX.out.size
  obtain ⟨wy, hwy⟩ : ∃ x : World, x = (wx.alloc (.cells #[.int .i64 n, .int .i64 1, .int .i64 m, .int .i64 1] 57)).alloc (.cells #[.slice (some ⟨g, 0, none⟩) f.length cap, .slice (some ⟨w2.heap.size, 0, none⟩) 2 2] 25) := ⟨_, rfl⟩
  have HBL : Hid (Below w.heap.size w wy) := Lib.hid (by rw [hwy]; exact HBA.out.alloc (by simp; omega) _)
  have HXY : Hid (Below wx.heap.size wx wy) := Lib.hid (by rw [hwy]; exact ((Below.refl _ _).alloc (Nat.le_refl _) _).alloc (by simp) _)
  have HFL : Hid ([cutK f k, [⟨n, 1⟩, ⟨m, 1⟩]].flatten = cutL f k n m) := Lib.hid (by simp [cutL])
  have HLL : Hid ((cutL f k n m).length = f.length + 2) := Lib.hid (by simp [cutL, hcl])
  have HCN : Hid (∀ x ∈ cutL f k n m, -20 ≤ x.cnt ∧ x.cnt ≤ 20) := Lib.hid (fun x hx => by
    unfold cutL at hx
    rcases List.mem_append.1 hx with h | h
    · rcases List.mem_append.1 h with h | h
      · exact cutK_bd HG.out k x h
      · obtain rfl := List.mem_singleton.1 h; exact ⟨show (-20 : Int) ≤ 1 by decide, show (1 : Int) ≤ 20 by decide⟩
    · obtain rfl := List.mem_singleton.1 h; exact ⟨show (-20 : Int) ≤ 1 by decide, show (1 : Int) ≤ 20 by decide⟩)
  have HWF : Hid (∀ x ∈ cutL f k n m, WF x.len) := Lib.hid (fun x hx => by
    unfold cutL at hx
    rcases List.mem_append.1 hx with h | h
    · rcases List.mem_append.1 h with h | h
      · exact cutK_wf HG.out k x h
      · obtain rfl := List.mem_singleton.1 h; exact wf_of rn.1 rn.2
    · obtain rfl := List.mem_singleton.1 h; exact wf_of hmr.1 hmr.2)
  have HHD : Hid (Hdrs wy (wx.heap.size + 1) [cutK f k, [⟨n, 1⟩, ⟨m, 1⟩]]) := Lib.hid ⟨by rw [hwy]; simp, fun i hi => by
    have h9 : (wx.alloc (.cells #[.int .i64 n, .int .i64 1, .int .i64 m, .int .i64 1] 57)).heap.size = wx.heap.size + 1 := by simp
    rcases (by simp at hi; omega : i = 0 ∨ i = 1) with rfl | rfl
    · refine ⟨⟨g, 0, none⟩, cap, ?_, HMM.out.sls.below HXY.out (Nat.le_refl _)⟩
      rw [hwy, ← h9, cell_of_heap (heap_new _ _)]
      show some (Value.slice (some ⟨g, 0, none⟩) f.length cap) = some (Value.slice (some ⟨g, 0, none⟩) (cutK f k).length cap)
      rw [hcl]
    · refine ⟨⟨wx.heap.size, 0, none⟩, 2, ?_, ?_⟩
      · rw [hwy, ← h9, cell_of_heap (heap_new _ _), hsz]; rfl
      · refine (Marked.sls (n := 4) (e := 57) ⟨#[.int .i64 n, .int .i64 1, .int .i64 m, .int .i64 1], ?_, rfl, rfl⟩)
        rw [hwy]
        exact heap_alloc2_old _ _ _⟩
  have HPC : Hid (Calls Try.prog 66 #[.slice (some ⟨w2.heap.size + 1, 0, none⟩) 2 2] wy fun e w' => ∃ b, e = .returned (.map (some b)) ∧ Below wy.heap.size wy w' ∧ IsMp w' b (cutL f k n m).length (fun a => asM (srt (cutL f k n m)) a)) := Lib.hid (by
    have h := piecesOfSlips_any [cutK f k, [⟨n, 1⟩, ⟨m, 1⟩]] (wx.heap.size + 1) 2 _ HHD.out (by simp) (by rw [HFL.out, HLL.out]; omega) (by rw [HFL.out]; exact HCN.out) (by rw [HFL.out]; exact HWF.out)
    rw [HFL.out, hsz] at h
    exact h.mono fun e w' ⟨b, h1, h2, h3, h4⟩ => ⟨b, h1, h2, h4⟩)
  have HWY := Lib.hid hwy
  clear hwy
  have hwm : wrap64 (y - n) = m := by rw [HWM.out, IntKind.wrap_i64]; unfold wrap64; rfl
  have c1 : w2.cell? ⟨b, off + k * 2, none⟩ = some (.int .i64 y) := (HB1.out.cell (p := ⟨b, off + k * 2, none⟩) hbl).trans HC0.out
  go_wp2_with fail
  rw [hwm, ← HWX.out, ← HWY.out]
  refine HPC.out.mono ?_
  rintro e w3 ⟨b3, rfl, hb3, hm3⟩
  have HM3 := Lib.hid hm3
  have HB3 := Lib.hid (HBL.out.trans (hb3.mono HBL.out.size))
  clear hb3 hm3 c1 d1 f1 gl hwm
  go_wp2_with fail
  refine (pieces_stock (cutL f k n m) b3 w3 HM3.out (by rw [HLL.out]; omega) HCN.out HWF.out).mono ?_
  rintro e w4 ⟨v, rfl, hb4, ho4⟩
  have HB4 := Lib.hid (HB3.out.trans (hb4.mono HB3.out.size))
  have HO4 := Lib.hid ho4
  clear hb4 ho4
  go_wp2
  go_ret2
  exact ⟨_, 57, ret_vb HV.out.2.symm, HB4.out, by rw [HV.out.1]; exact Joins.ownsRow_le HO4.out HB3.out.size⟩
/-- Spec's contract, with the same premises. -/
theorem specCutSlipR_any (f : List Sl) (A : Addr) (c : Nat) (i n : Int) (w : World) (hf : SlsIn w (some A) f) (hn : f.length ≤ 1048576) (ri : -9223372036854775808 ≤ i ∧ i ≤ 9223372036854775807) (rn : -9223372036854775808 ≤ n ∧ n ≤ 9223372036854775807) :
    Calls Try.prog 44 #[.slice (some A) f.length c, .int .i64 i, .int .i64 n] w fun e w' => ∃ v T, e = .returned (.tuple #[v, .bool (cutB f i n)]) ∧ Below w.heap.size w w' ∧ w'.ownsRow w.heap.size T 2 v (cutV f i n).length (flatSl (cutV f i n)) := specCutSlip_any f A c i n w hf hn
end Go.Proofs.Ytljakcfdjcjdbaa

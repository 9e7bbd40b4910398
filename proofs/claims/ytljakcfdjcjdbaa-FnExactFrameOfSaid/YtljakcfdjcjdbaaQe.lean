/-
  The contract of impl.JoinStocks.
-/
import Derived.Test.YtljakcfdjcjdbaaQd
import Derived.Test.YtljakcfdjcjdbaaQa
namespace Go.Proofs.Ytljakcfdjcjdbaa
open Go.RowKit
set_option linter.unusedVariables false

theorem srt_sub {L : List Sl} : ∀ k, k ≤ L.length → ∀ x ∈ srt (L.take k), ∃ y ∈ L, y.len = x.len
  | 0, _, x, hx => by cases hx
  | k + 1, hk, x, hx => by
    rw [List.take_succ_eq_append_getElem (by omega), srt_snoc] at hx
    rcases putS_mem hx with h | h
    · exact ⟨L[k], List.getElem_mem _, h.symm⟩
    · exact srt_sub k (by omega) x h
theorem srt_wf {L : List Sl} (h : ∀ x ∈ L, WF x.len) : ∀ x ∈ srt L, WF x.len := fun x hx => by
  have hx' : x ∈ srt (L.take L.length) := by rw [List.take_length]; exact hx
  obtain ⟨y, hy, e⟩ := srt_sub L.length (Nat.le_refl _) x hx'
  rw [← e]; exact h y hy
theorem GoodS.wf {f : List Sl} (h : GoodS f) : ∀ x ∈ f, WF x.len := fun x hx => by
  obtain ⟨j, hj, rfl⟩ := List.mem_iff_getElem.1 hx
  have := (h.bd hj).1
  exact wf_of (by omega) (by omega)
/-- Pieces put together, then a stock. -/
theorem pieces_stock (L : List Sl) (b : Nat) (w : World) (hm : IsMp w b L.length (fun a => asM (srt L) a)) (hl : L.length ≤ 40) (hc : ∀ x ∈ L, -20 ≤ x.cnt ∧ x.cnt ≤ 20) (hw : ∀ x ∈ L, WF x.len) :
    Calls Try.prog 71 #[.map (some b)] w fun e w' => ∃ v, e = .returned (.tuple #[v, .bool (stkB (srt L))]) ∧ Below w.heap.size w w' ∧ w'.ownsRow w.heap.size 57 2 v (ifV (srt L)).length (flatSl (ifV (srt L))) :=
  stock_any (srt L) b L.length w hm (by omega) (srt_rise L) (by have := (srt_all hc).2; omega) (srt_wf hw)
set_option maxRecDepth 100000 in
set_option maxHeartbeats 2000000 in
theorem implJoinStocks_any (f : List Sl) (A : Addr) (c : Nat) (f' : List Sl) (A' : Addr) (c' : Nat) (w : World) (hf : SlsIn w (some A) f) (hn : f.length ≤ 1048576) (hf' : SlsIn w (some A') f') (hn' : f'.length ≤ 1048576) :
    Calls Try.prog 47 #[.slice (some A) f.length c, .slice (some A') f'.length c'] w fun e w' => ∃ v T, e = .returned (.tuple #[v, .bool (joinB f f')]) ∧ Below w.heap.size w w' ∧ w'.ownsRow w.heap.size T 2 v (joinV f f').length (flatSl (joinV f f')) := by
  have HF := Lib.hid hf; have HF' := Lib.hid hf'; clear hf hf'
  go_enter Try.func47, Try.ntmps47
  go_wp2_with fail
  refine (implIsStock_any f _ c _ HF.out hn).mono ?_
  rintro e w1 ⟨rfl, hb1⟩
  have HB9 := Lib.hid hb1
  clear hb1
  cases hg1 : stkB f
  · have HV := Lib.hid (joinV_no (a := f) (b := f') (by rw [hg1]; rfl))
    clear hg1
    go_wp2
    go_ret2
    exact ⟨_, 57, ret_vb HV.out.2.symm, HB9.out, by rw [HV.out.1]; exact own_nil _ _ _ _⟩
  go_wp2_with fail
  refine (implIsStock_any f' _ c' _ (HF'.out.below HB9.out (Nat.le_refl _)) hn').mono ?_
  rintro e w2 ⟨rfl, hb2⟩
  have HB0 := Lib.hid (HB9.out.trans (hb2.mono HB9.out.size))
  clear hb2
  cases hg2 : stkB f'
  · have HV := Lib.hid (joinV_no (a := f) (b := f') (by rw [hg1, hg2]; rfl))
    clear hg1 hg2
    go_wp2
    go_ret2
    exact ⟨_, 57, ret_vb HV.out.2.symm, HB0.out, by rw [HV.out.1]; exact own_nil _ _ _ _⟩
  have HV := Lib.hid (joinV_yes (a := f) (b := f') (by rw [hg1, hg2]; rfl))
  have HG := Lib.hid (stkB_iff.1 hg1); have HG' := Lib.hid (stkB_iff.1 hg2)
  clear hg1 hg2
  have hn8 := HG.out.eight; have hn8' := HG'.out.eight
  have HFL : Hid ([f, f'].flatten = f ++ f') := Lib.hid (by simp)
  have HCN : Hid (∀ x ∈ f ++ f', -20 ≤ x.cnt ∧ x.cnt ≤ 20) := Lib.hid (fun x hx => by
    rcases List.mem_append.1 hx with h | h
    · exact HG.out.cnt20 x h
    · exact HG'.out.cnt20 x h)
  have HWF : Hid (∀ x ∈ f ++ f', WF x.len) := Lib.hid (fun x hx => by
    rcases List.mem_append.1 hx with h | h
    · exact HG.out.wf x h
    · exact HG'.out.wf x h)
  have hal : Below w2.heap.size w2 (w2.alloc (.cells #[.slice (some A) f.length c, .slice (some A') f'.length c'] 25)) := (Below.refl _ _).alloc (Nat.le_refl _) _
  have HHD : Hid (Hdrs (w2.alloc (.cells #[.slice (some A) f.length c, .slice (some A') f'.length c'] 25)) w2.heap.size [f, f']) := Lib.hid ⟨by simp, fun i hi => by
    have hb9 := HB0.out.trans (hal.mono HB0.out.size)
    rcases (by simp at hi; omega : i = 0 ∨ i = 1) with rfl | rfl
    · exact ⟨A, c, by rw [cell_of_heap (heap_new _ _)]; rfl, HF.out.below hb9 (Nat.le_refl _)⟩
    · exact ⟨A', c', by rw [cell_of_heap (heap_new _ _)]; rfl, HF'.out.below hb9 (Nat.le_refl _)⟩⟩
  have HBA := Lib.hid (HB0.out.trans (hal.mono HB0.out.size))
  have HPC : Hid (Calls Try.prog 66 #[.slice (some ⟨w2.heap.size, 0, none⟩) 2 2] (w2.alloc (.cells #[.slice (some A) f.length c, .slice (some A') f'.length c'] 25)) fun e w' => ∃ b, e = .returned (.map (some b)) ∧ Below (w2.alloc (.cells #[.slice (some A) f.length c, .slice (some A') f'.length c'] 25)).heap.size (w2.alloc (.cells #[.slice (some A) f.length c, .slice (some A') f'.length c'] 25)) w' ∧ IsMp w' b (f ++ f').length (fun a => asM (srt (f ++ f')) a)) := Lib.hid (by
    have h := piecesOfSlips_any [f, f'] w2.heap.size 2 _ HHD.out (by simp) (by rw [HFL.out, List.length_append]; omega) (by rw [HFL.out]; exact HCN.out) (by rw [HFL.out]; exact HWF.out)
    rw [HFL.out] at h
    exact h.mono fun e w' ⟨b, h1, h2, h3, h4⟩ => ⟨b, h1, h2, h4⟩)
  clear hal
  go_wp2_with fail
  refine HPC.out.mono ?_
  rintro e w3 ⟨b, rfl, hb3, hm3⟩
  have HM3 := Lib.hid hm3
  have HB3 := Lib.hid (HBA.out.trans (hb3.mono HBA.out.size))
  clear hb3 hm3
  go_wp2_with fail
  refine (pieces_stock (f ++ f') b w3 HM3.out (by rw [List.length_append]; omega) HCN.out HWF.out).mono ?_
  rintro e w4 ⟨v, rfl, hb4, ho4⟩
  have HB4 := Lib.hid (HB3.out.trans (hb4.mono HB3.out.size))
  have HO4 := Lib.hid ho4
  clear hb4 ho4
  go_wp2
  go_ret2
  exact ⟨_, 57, ret_vb HV.out.2.symm, HB4.out, by rw [HV.out.1]; exact Joins.ownsRow_le HO4.out HB3.out.size⟩
end Go.Proofs.Ytljakcfdjcjdbaa

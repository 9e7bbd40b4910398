/-
  impl.BillText: the rest of its contract: the table's values, joined.
-/
import Derived.Test.YtnbnegkoanidmaaGreatDoorBti
namespace Go.Proofs.YtnbnegkoanidmaaGreatDoor.S1
open Go.RowKit
set_option linter.unusedVariables false

theorem Marked.stepK {w : World} {g cap : Nat} {e : TypeId} {l : List Value} (h : Marked w g e cap l) (j : Nat) (hl : l.length = j) (hj : j < cap) (u : Value) : Marked (w.setCell ⟨g, j, none⟩ u) g e cap (l ++ [u]) := by
  subst hl
  exact h.step hj u
theorem strs_len2 (l : List ByteArray) : (strs l).length = l.length := by simp [strs]
theorem strs_snoc2 (l : List ByteArray) (s : ByteArray) : strs (l ++ [s]) = strs l ++ [.string s] := by simp [strs]
theorem snd_take {L : List (Int × ByteArray)} {k : Nat} (h : k < L.length) : (L.map Prod.snd).take (k + 1) = (L.map Prod.snd).take k ++ [L[k].2] := by
  rw [List.take_succ_eq_append_getElem (by simpa using h)]; simp

set_option maxRecDepth 100000 in
set_option maxHeartbeats 1000000 in
theorem values_any (L : List (Int × ByteArray)) (A : Option Addr) (c : Nat) (w : World) (h : R2In w A L) (hn : L.length ≤ 32) :
    Calls Tryz.prog 41 #[.slice A L.length c] w fun e w' => ∃ g, e = .returned (.slice (some ⟨g, 0, none⟩) L.length L.length) ∧ Below w.heap.size w w' ∧ g < w'.heap.size ∧ StrsIn w' (some ⟨g, 0, none⟩) (L.map Prod.snd) := by
  have HR := Lib.hid h; clear h
  have hmk := run_makeStr L.length (by omega)
  have hst : Marked (w.alloc (.cells (madeCells #[.string .empty] (L.length * 1)) 9)) w.heap.size 9 L.length (strs ((L.map Prod.snd).take 0)) := ⟨_, heap_new _ _, by simp [madeCells], rfl⟩
  have hb0 : Below w.heap.size w (w.alloc (.cells (madeCells #[.string .empty] (L.length * 1)) 9)) := (Below.refl _ _).alloc (Nat.le_refl _) _
  generalize hz : madeCells #[.string .empty] (L.length * 1) = cs0 at *
  go_enter Tryz.func41, Tryz.ntmps41
  have HST := Lib.hid hst; have HB0 := Lib.hid hb0; clear hst hz hb0
  go_wp2
  clear hmk
  obtain ⟨g, hg⟩ : ∃ g, g = w.heap.size := ⟨_, rfl⟩
  rw [← hg] at HST ⊢
  have hgle : w.heap.size ≤ g := by omega
  have HGE := Lib.hid hg; clear hg
  go_loopw [11] (fun i wr => ∃ (k : Nat), k ≤ L.length ∧ i = .int .i64 k ∧ Marked wr g 9 L.length (strs ((L.map Prod.snd).take k)) ∧ Below w.heap.size w wr) (fun i _ => L.length - (intOf i).toNat)
  case atStart => exact ⟨0, Nat.zero_le _, rfl, HST.out, HB0.out⟩
  case round =>
    obtain ⟨k, hk, rfl, hm, hb⟩ := hrel
    clear HST HB0
    have HM := Lib.hid hm; have HB := Lib.hid hb
    clear hm hb
    by_cases hlt : k < L.length
    · obtain ⟨b, off, rfl, hbl, hc⟩ := HR.out (by omega)
      obtain ⟨hc0, hc1⟩ := hc k hlt
      clear hc
      rw [← HB.out.cell (p := ⟨b, off + k * 2, none⟩) hbl] at hc0
      rw [← HB.out.cell (p := ⟨b, off + k * 2 + 1, none⟩) hbl] at hc1
      have HTK := Lib.hid (snd_take hlt)
      generalize L[k].1 = y at *
      generalize L[k].2 = s at *
      have HLN : Hid ((strs ((L.map Prod.snd).take k)).length = k) := Lib.hid (by rw [strs_len2, List.length_take, List.length_map]; omega)
      obtain ⟨⟨u, hu⟩, hfz⟩ := HM.out.at_ hlt
      have hgl : g < wr.heap.size := by
        obtain ⟨cur, h1, _⟩ := HM.out
        exact lt_of_heap h1
      go_wp2
      go_roundw
      case rel =>
        refine ⟨k + 1, by omega, by go_num, ?_, ?_⟩
        · rw [HTK.out, strs_snoc2]
          exact (HM.out.stepK k HLN.out hlt _).below ((Below.refl _ _).alloc (Nat.le_refl _) _)
        · have hb' := HB.out.setCell (p := ⟨g, k, none⟩) hgle (.string s)
          exact hb'.alloc hb'.size _
      case measure => simp [intOf]; omega
    · obtain rfl : k = L.length := by omega
      go_wp2
      go_ret
      have hm := HM.out
      rw [List.take_of_length_le (by simp)] at hm
      refine ⟨g, rfl, HB.out, ?_, strs_of_marked (e := 9) ?_⟩
      · obtain ⟨cur, h1, _⟩ := hm
        exact lt_of_heap h1
      · rw [List.length_map]; exact hm

theorem join_small {f : List (ByteArray × Int)} {st : List Int} (hg : fontB f = true) (hs : stockB f st = true) : (Lib.join ((btP f st st.length).map (·.data.toList)) [32]).length ≤ 140737488355328 := by
  have h32 : f.length ≤ 32 := (fontB_iff.1 hg).2.2
  have hl := (stock_parts hs).1
  by_cases h : btP f st st.length = []
  · rw [h]; simp [Lib.join, List.intercalate]
  · have h1 := all_join _ h
    have h2 := bt_all f st st.length
    have h3 := btT_len hg hs st.length (Nat.le_refl _)
    have h4 : (btT f st st.length).data.toList.length = (btT f st st.length).size := Array.length_toList
    have h5 := congrArg List.length (h2.trans h1)
    rw [h4, List.length_append] at h5
    have h6 : st.length * 100006 ≤ 32 * 100006 := Nat.mul_le_mul_right _ (by omega)
    have h7 : (btT f st st.length).size ≤ 3200192 := Nat.le_trans h3 h6
    clear h3 h6 h1 h2 h4
    generalize (btT f st st.length).size = n at *
    have h8 : [(32 : UInt8)].length = 1 := rfl
    omega

set_option maxRecDepth 100000 in
set_option maxHeartbeats 2000000 in
theorem implBill_any (f : List (ByteArray × Int)) (A : Option Addr) (c : Nat) (st : List Int) (C : Option Addr) (d : Nat) (w : World) (hf : SortsIn w 0 A f) (hn : f.length ≤ 1048576) (ho : CodesOk f) (hi : IntsIn w C st) (hm : st.length ≤ 1048576) (ht : Tab w) :
    Calls Tryz.prog 17 #[.slice A f.length c, .slice C st.length d] w fun e w' => BillTo f st w w' e := by
  obtain ⟨w0, hw0⟩ : ∃ w0 : World, w0 = w.alloc (.cells #[.slice A f.length c] 30) := ⟨_, rfl⟩
  have hb0 : Below w.heap.size w w0 := by rw [hw0]; exact (Below.refl _ _).alloc (Nat.le_refl _) _
  have hx0 : w0.cell? ⟨w.heap.size, 0, none⟩ = some (.slice A f.length c) := by rw [hw0, cell_of_heap (heap_new _ _)]; rfl
  have HF := Lib.hid (hf.below hb0 (Nat.le_refl _)); have HI := Lib.hid (hi.below hb0 (Nat.le_refl _)); have HO := Lib.hid ho; have HT := Lib.hid (ht.below hb0)
  have HB0 := Lib.hid hb0; have HX := Lib.hid hx0
  have hlt0 := World.block_lt_of_cell? _ _ hx0
  clear hf hi ho ht hb0
  have HW := Lib.hid hw0; clear hw0
  go_enter Tryz.func17, Tryz.ntmps17
  go_wp2_with fail
  rw [← HW.out]
  refine (implIsFont_any f A c 0 _ HF.out hn HO.out).mono ?_
  rintro e w1 ⟨rfl, hb1⟩
  have HB1 := Lib.hid (HB0.out.trans (hb1.mono HB0.out.size))
  have HI1 := Lib.hid (HI.out.below hb1 (Nat.le_refl _))
  have HF1 := Lib.hid (HF.out.below hb1 (Nat.le_refl _))
  have HT1 := Lib.hid (HT.out.below hb1)
  have hx1 := (hb1.cell (p := ⟨w.heap.size, 0, none⟩) hlt0).trans HX.out
  have HX1 := Lib.hid hx1
  clear HI HF HT hb1 HB0 HX hx0
  cases hg : fontB f
  · have HE := Lib.hid hg; clear hg
    go_wp2
    go_ret2
    exact BillTo.no (.inl HE.out) HB1.out
  have HG := Lib.hid hg; clear hg
  go_wp2_with fail
  refine (implStock_any f A c st C d _ HI1.out hn hm).mono ?_
  rintro e w' ⟨rfl, rfl⟩
  cases hs : stockB f st
  · have HE := Lib.hid hs; clear hs
    go_wp2
    go_ret2
    exact BillTo.no (.inr HE.out) HB1.out
  have HS := Lib.hid hs; clear hs
  have h32 : f.length ≤ 32 := (fontB_iff.1 HG.out).2.2
  have hst : st.length ≤ 32 := by have := (stock_parts HS.out).1; omega
  go_wp2_with fail
  refine (tabStr_any f st A C d c _ _ HI1.out HX1.out HF1.out HG.out HS.out HT1.out).mono ?_
  rintro e w2 ⟨A2, c2, rfl, hb2, hr2⟩
  have HR := Lib.hid hr2
  have HB2 := Lib.hid (HB1.out.trans (hb2.mono HB1.out.size))
  have hrl := btR_len f st st.length
  have HSN := Lib.hid (btR_snd f st st.length)
  clear hr2 hb2 hx1 HX1
  generalize btR f st st.length = L at *
  go_wp2_with fail
  refine (values_any L A2 c2 _ HR.out (by omega)).mono ?_
  rintro e w3 ⟨g, rfl, hb3, hgl, hs3⟩
  have HB3 := Lib.hid (HB2.out.trans (hb3.mono HB2.out.size))
  rw [HSN.out] at hs3
  have hln : L.length = (btP f st st.length).length := by rw [← HSN.out, List.length_map]
  rw [hln] at hrl ⊢
  have HJS := Lib.hid (join_small HG.out HS.out)
  have HS3 := Lib.hid hs3
  clear hb3 hs3 hln HSN HR HB2
  have HBJ : Hid (joinB (btP f st st.length) = joinB (btP f st st.length)) := Lib.hid rfl
  have HCALL : Hid (Calls Tryz.prog 40 #[.slice (some ⟨g, 0, none⟩) (btP f st st.length).length (btP f st st.length).length, .string ⟨#[32]⟩] w3 fun e w' => e = .returned (.string (joinB (btP f st st.length))) ∧ Below w3.heap.size w3 w') := by
    refine Lib.hid ?_
    refine Tryz.strings_Join g 0 _ (btP f st st.length) ⟨#[32]⟩ w3 (fun j x hx => ?_) hgl (by omega) (Nat.le_refl _) HJS.out
    obtain ⟨hj, rfl⟩ := List.getElem?_eq_some_iff.1 hx
    obtain ⟨b, off, heq, _, hc⟩ := HS3.out (by omega)
    cases heq
    exact hc j hj
  have HY := Lib.hid (fun (w' : World) (hb : Below w.heap.size w w') => BillTo.yes (w' := w') HG.out HS.out rfl hb)
  generalize joinB (btP f st st.length) = t at *
  generalize (btP f st st.length).length = n at *
  go_wp2_with fail
  refine HCALL.out.mono ?_
  rintro e w4 ⟨rfl, hb4⟩
  have HB4 := Lib.hid (HB3.out.trans (hb4.mono HB3.out.size))
  clear hb4
  go_wp2
  go_ret2
  exact HY.out _ HB4.out
end Go.Proofs.YtnbnegkoanidmaaGreatDoor.S1

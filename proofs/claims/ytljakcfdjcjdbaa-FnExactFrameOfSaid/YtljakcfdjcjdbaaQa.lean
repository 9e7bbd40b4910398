/-
  The contracts of spec.JoinStocks and spec.CutSlip.
-/
import Derived.Test.YtljakcfdjcjdbaaPz
namespace Go.Proofs.Ytljakcfdjcjdbaa
open Go.RowKit
set_option linter.unusedVariables false

theorem putS_bd : ∀ {l : List Sl} {n c B C : Int}, (∀ x ∈ l, -B ≤ x.cnt ∧ x.cnt ≤ B) → 0 ≤ B → (-C ≤ c ∧ c ≤ C) → ∀ x ∈ putS l n c, -(B + C) ≤ x.cnt ∧ x.cnt ≤ B + C
  | [], n, c, B, C, _, hB, hc, x, hx => by
    simp [putS] at hx; subst hx
    show -(B + C) ≤ c ∧ c ≤ B + C; omega
  | y :: r, n, c, B, C, h, hB, hc, x, hx => by
    have hy := h y (by simp)
    have hr : ∀ x ∈ r, -B ≤ x.cnt ∧ x.cnt ≤ B := fun x hx => h x (List.mem_cons_of_mem _ hx)
    unfold putS at hx
    split at hx
    · rcases List.mem_cons.1 hx with rfl | hx
      · omega
      · exact putS_bd hr hB hc x hx
    · split at hx
      · rcases List.mem_cons.1 hx with rfl | hx
        · show -(B + C) ≤ y.cnt + c ∧ y.cnt + c ≤ B + C; omega
        · have := hr x hx; omega
      · rcases List.mem_cons.1 hx with rfl | hx
        · show -(B + C) ≤ c ∧ c ≤ B + C; omega
        · have := h x hx; omega
theorem srt_bd {L : List Sl} (h : ∀ x ∈ L, -20 ≤ x.cnt ∧ x.cnt ≤ 20) : ∀ k, k ≤ L.length → (∀ x ∈ srt (L.take k), -(20 * (k : Int)) ≤ x.cnt ∧ x.cnt ≤ 20 * (k : Int)) ∧ (srt (L.take k)).length ≤ k
  | 0, _ => ⟨fun x hx => (by cases hx), Nat.le_refl _⟩
  | k + 1, hk => by
    obtain ⟨h1, h2⟩ := srt_bd h k (by omega)
    rw [List.take_succ_eq_append_getElem (by omega), srt_snoc]
    have h3 := putS_bd (n := L[k].len) (C := 20) h1 (by omega) (h L[k] (List.getElem_mem (by omega)))
    refine ⟨fun x hx => ?_, ?_⟩
    · have := h3 x hx; omega
    · have := ruPut_short (srt (L.take k)) L[k].len L[k].cnt; omega
theorem srt_all {L : List Sl} (h : ∀ x ∈ L, -20 ≤ x.cnt ∧ x.cnt ≤ 20) : (∀ x ∈ srt L, -(20 * (L.length : Int)) ≤ x.cnt ∧ x.cnt ≤ 20 * (L.length : Int)) ∧ (srt L).length ≤ L.length := by
  have := srt_bd h L.length (Nat.le_refl _)
  rwa [List.take_length] at this
theorem srt_join {a : List Sl} (ha : Rise a) (L : List Sl) (x : Sl) : srt (a ++ (L ++ [x])) = putS (srt (a ++ L)) x.len x.cnt := by rw [← List.append_assoc, srt_snoc]
theorem srt_own {a : List Sl} (ha : Rise a) : srt (a ++ []) = a := by rw [List.append_nil, srt_of_rise ha]
theorem GoodS.cnt20 {f : List Sl} (h : GoodS f) : ∀ x ∈ f, -20 ≤ x.cnt ∧ x.cnt ≤ 20 := fun x hx => by
  obtain ⟨j, hj, rfl⟩ := List.mem_iff_getElem.1 hx
  have := (h.bd hj).2; omega
noncomputable def joinB (a b : List Sl) : Bool := stkB a && stkB b && stkB (srt (a ++ b))
noncomputable def joinV (a b : List Sl) : List Sl := if stkB a && stkB b then ifV (srt (a ++ b)) else []
theorem joinV_no {a b : List Sl} (h : (stkB a && stkB b) = false) : joinV a b = [] ∧ joinB a b = false := by unfold joinV joinB; rw [h]; exact ⟨rfl, rfl⟩
theorem joinV_yes {a b : List Sl} (h : (stkB a && stkB b) = true) : joinV a b = ifV (srt (a ++ b)) ∧ joinB a b = stkB (srt (a ++ b)) := by unfold joinV joinB; rw [h]; exact ⟨rfl, rfl⟩
theorem joinV_short (a b : List Sl) : (joinV a b).length ≤ 1048576 := by
  cases h : (stkB a && stkB b)
  · rw [(joinV_no h).1]; simp
  · rw [(joinV_yes h).1]; exact ifV_short _
set_option maxRecDepth 100000 in
set_option maxHeartbeats 4000000 in
theorem specJoinStocks_any (f : List Sl) (A : Addr) (c : Nat) (f' : List Sl) (A' : Addr) (c' : Nat) (w : World) (hf : SlsIn w (some A) f) (hn : f.length ≤ 1048576) (hf' : SlsIn w (some A') f') (hn' : f'.length ≤ 1048576) :
    Calls Try.prog 46 #[.slice (some A) f.length c, .slice (some A') f'.length c'] w fun e w' => ∃ v T, e = .returned (.tuple #[v, .bool (joinB f f')]) ∧ Below w.heap.size w w' ∧ w'.ownsRow w.heap.size T 2 v (joinV f f').length (flatSl (joinV f f')) := by
  have HF := Lib.hid hf; have HF' := Lib.hid hf'; clear hf hf'
  obtain ⟨i0, hi, hz0, hz1, hz2⟩ := info_parts infoSl
  have HI0 := Lib.hid hi; have HZ0 := Lib.hid hz0; have HZ1 := Lib.hid hz1; have HZ2 := Lib.hid hz2
  clear hi hz0 hz1 hz2
  go_enter Try.func46, Try.ntmps46
  go_wp2_with fail
  refine (ruGood_any f _ c _ HF.out hn).mono ?_
  rintro e w1 ⟨rfl, hb1⟩
  have HB9 := Lib.hid hb1
  clear hb1
  cases hg1 : stkB f
  · have HV := Lib.hid (joinV_no (a := f) (b := f') (by rw [hg1]; rfl))
    clear hg1
    go_wp2
    go_ret2
    exact ⟨_, 57, ret_vb HV.out.2.symm, HB9.out, by rw [HV.out.1]; exact own_nil _ _ _ _⟩
  go_wp2_with fail
  refine (ruGood_any f' _ c' _ (HF'.out.below HB9.out (Nat.le_refl _)) hn').mono ?_
  rintro e w2 ⟨rfl, hb2⟩
  have HB0 := Lib.hid (HB9.out.trans (hb2.mono HB9.out.size))
  clear hb2
  cases hg2 : stkB f'
  · have HV := Lib.hid (joinV_no (a := f) (b := f') (by rw [hg1, hg2]; rfl))
    clear hg1 hg2
    go_wp2
    go_ret2
    exact ⟨_, 57, ret_vb HV.out.2.symm, HB0.out, by rw [HV.out.1]; exact own_nil _ _ _ _⟩
  have HV := Lib.hid (joinV_yes (a := f) (b := f') (by rw [hg1, hg2]; rfl))
  have HG := Lib.hid (stkB_iff.1 hg1); have HG' := Lib.hid (stkB_iff.1 hg2)
  clear hg1 hg2
  have hn8 := HG.out.eight; have hn8' := HG'.out.eight
  have HNW := Lib.hid (newsSl (HF.out.below (HB0.out.alloc HB0.out.size (.cells #[] 57)) (Nat.le_refl _)))
  have HOW := Lib.hid (own_none2 (base := w.heap.size) (w2.alloc (.cells #[] 57)) (heap_new _ _) HB0.out.size)
  have hmx : 0 + f.length ≤ maxLen := by unfold maxLen; omega
  go_wp2_with (at_builtin; refine wpList_append_own _ rfl _ _ 25 rfl w.heap.size 57 i0 (.agg #[.int .i64 0, .int .i64 0]) 2 16 Try.underlying25 HI0.out HZ0.out HZ1.out HZ2.out rfl (by decide) _ _ _ rfl HOW.out (A : Addr) f.length c (flatSl f) rfl (by rw [flatSl_len]; omega) HNW.out (flatSl_one f) hmx (by omega) (by have := HB0.out.size; simp; omega) ?_)
  intro v' w4 hown' hgrow hnil
  have HB1 : Hid (Below w.heap.size w w4) := Lib.hid ((HB0.out.alloc HB0.out.size (.cells #[] 57)).grown hgrow (by have := HB0.out.size; simp; omega) (own_lt HOW.out))
  have hv : v' ≠ .slice none 0 0 := hnil
  have HO : Hid (w4.ownsRow w.heap.size 57 2 v' f.length (flatSl f)) := Lib.hid (by simpa [flatSl] using hown')
  obtain ⟨g, cap, rfl, hg, hm, h1, h2⟩ := own_row2 HO.out hv
  have HM := Lib.hid hm
  clear hown' hgrow hnil hm HO hv
  have HS0 : Hid (srt (f ++ f'.take 0) = f) := Lib.hid (by rw [List.take_zero]; exact srt_own HG.out.risen)
  have HBD : Hid (∀ k, k ≤ f'.length → (∀ x ∈ srt (f ++ f'.take k), -400 ≤ x.cnt ∧ x.cnt ≤ 400) ∧ (srt (f ++ f'.take k)).length ≤ 16) := Lib.hid (fun k hk => by
    have hL : (f ++ f'.take k).length = f.length + k := by rw [List.length_append, List.length_take, Nat.min_eq_left hk]
    have h := srt_all (L := f ++ f'.take k) (fun x hx => by
      rcases List.mem_append.1 hx with h | h
      · exact HG.out.cnt20 x h
      · exact HG'.out.cnt20 x (List.mem_of_mem_take h))
    rw [hL] at h
    refine ⟨fun x hx => ?_, by omega⟩
    have := h.1 x hx; omega)
  go_wp2
  go_loopw [6, 22] (fun v i wr => ∃ (k g cap : Nat), k ≤ f'.length ∧ i = .int .i64 (k : Int) ∧ v = .slice (some ⟨g, 0, none⟩) (srt (f ++ f'.take k)).length cap ∧ w.heap.size ≤ g ∧ (srt (f ++ f'.take k)).length ≤ cap ∧ cap ≤ maxLen ∧ Marked wr g 57 (cap * 2) (flatSl (srt (f ++ f'.take k))) ∧ Below w.heap.size w wr) (fun _ i _ => f'.length - (RowKit.intOf i).toNat)
  case atStart => exact ⟨0, g, cap, Nat.zero_le _, rfl, by rw [HS0.out], hg, by rw [HS0.out]; exact h1, h2, by rw [HS0.out]; exact HM.out, HB1.out⟩
  case round =>
    obtain ⟨k, g9, cap9, hk, rfl, rfl, hg9, hc9, hm9, hmk, hb⟩ := hrel
    have HMK := Lib.hid hmk; have HB := Lib.hid hb
    clear hmk hb
    by_cases hlt : k < f'.length
    · obtain ⟨b, off, hA, hbl, hcl⟩ := HF'.out (by omega)
      obtain rfl := Option.some.inj hA
      obtain ⟨hc0, hc1⟩ := hcl k hlt
      clear hcl hA
      rw [← HB.out.cell (p := ⟨b, off + k * 2, none⟩) hbl] at hc0
      rw [← HB.out.cell (p := ⟨b, off + k * 2 + 1, none⟩) hbl] at hc1
      have hbd := HG'.out.bd hlt
      have HST : Hid (srt (f ++ f'.take (k + 1)) = putS (srt (f ++ f'.take k)) f'[k].len f'[k].cnt) := Lib.hid (by
        rw [List.take_succ_eq_append_getElem hlt, srt_join HG.out.risen])
      have HBK := Lib.hid (HBD.out k hk)
      have hal : Below wr.heap.size wr (wr.alloc (.cells #[.int .i64 f'[k].len, .int .i64 f'[k].cnt] 57)) := (Below.refl _ _).alloc (Nat.le_refl _) _
      have HBA := Lib.hid (HB.out.trans (hal.mono HB.out.size))
      have HMA := Lib.hid (HMK.out.below hal)
      clear hal
      generalize srt (f ++ f'.take k) = l at *
      generalize f'[k].len = y at *
      generalize f'[k].cnt = x at *
      go_wp2_with fail
      refine (ruPut_any l g9 cap9 y x _ HMA.out.sls hc9 (by have := HBK.out.2; omega) (fun i hi => by have := HBK.out.1 _ (List.getElem_mem hi); omega) (by omega)).mono ?_
      rintro e w5 ⟨g5, cap5, rfl, hb5, hg5, hm5, h51, h52⟩
      have HB5 := Lib.hid (HBA.out.trans (hb5.mono HBA.out.size))
      have HM5 := Lib.hid hm5
      have hg5' : w.heap.size ≤ g5 := Nat.le_trans HBA.out.size hg5
      clear hb5 hm5 hg5
      go_wp2
      go_roundw
      case rel => exact ⟨k + 1, g5, cap5, by omega, by go_num, by rw [HST.out], hg5', by rw [HST.out]; exact h51, h52, by rw [HST.out]; exact HM5.out, HB5.out⟩
      case measure => simp [RowKit.intOf]; omega
    · obtain rfl : k = f'.length := by omega
      have HBK := Lib.hid (HBD.out f'.length (Nat.le_refl _))
      rw [List.take_length] at HMK hc9 HBK ⊢
      go_wp2_with fail
      refine (ruIf_any (srt (f ++ f')) w.heap.size g9 cap9 wr HMK.out hg9 HB.out.size hc9 hm9 (by have := HBK.out.2; omega)).mono ?_
      rintro e w6 ⟨v, rfl, hb6, ho6⟩
      have HB6 := Lib.hid (HB.out.trans (hb6.mono HB.out.size))
      have HO6 := Lib.hid ho6
      clear hb6 ho6
      go_wp2
      go_ret2
      exact ⟨_, 57, ret_vb HV.out.2.symm, HB6.out, by rw [HV.out.1]; exact HO6.out⟩
end Go.Proofs.Ytljakcfdjcjdbaa

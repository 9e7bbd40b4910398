/-
  The contract of impl.NewException: the walk.
-/
import Derived.Test.YtcbhhbcfnaekpaaDoorHzc
namespace Go.Proofs.YtcbhhbcfnaekpaaDoor
open Go.RowKit Go.Maps Go.WideMaps
set_option linter.unusedVariables false

set_option maxRecDepth 100000 in
set_option maxHeartbeats 4000000 in
theorem implNewException_any (es : List ByteArray) (A : Option Addr) (c : Nat) (e : ByteArray) (w : World) (hf : StrsIn w A es) (ho : StrsLe es) (hn : es.length ≤ 1048576) (hs : e.size ≤ 1048576) (hy : LayB w) :
    Calls Tryd.prog 33 #[.slice A es.length c, .string e] w fun x w' => ∃ v, x = .returned (.tuple #[v, .bool (nxB es e)]) ∧ Below w.heap.size w w' ∧ w'.ownsRow w.heap.size 9 1 v (nxL es e).length (strs (nxL es e)) := by
  have HF := Lib.hid hf; have HO := Lib.hid ho; have HY := Lib.hid hy; clear hf ho hy
  go_enter Tryd.func33, Tryd.ntmps33
  go_wp2_with fail
  refine (tableOf_any es A c _ HF.out HO.out hn HY.out).mono ?_
  rintro x w1 ⟨hb1, ⟨hp, x, rfl⟩ | ⟨hp, b0, hb0, rfl, ht⟩⟩
  · have HV := Lib.hid (nx_bad1 (e := e) hp)
    clear hp
    go_wp2
    go_ret2
    exact ⟨_, ret_vb HV.out.1.symm, hb1, by rw [HV.out.2]; exact own_nil _ _ _ _⟩
  have HP := Lib.hid hp
  have HXA := Lib.hid (exsB_all hp).1
  have HND := Lib.hid (exsA_nodup (exsB_all hp).1)
  have h20 := (exsB_all hp).2
  have HT1 := Lib.hid ht
  have HB1 := Lib.hid hb1
  have HY1 := Lib.hid (HY.out.below hb1)
  clear hp ht hb1
  cases he : exB e
  · have HV := Lib.hid (nx_bad2 (es := es) he)
    have HE := Lib.hid he
    clear he
    go_wp2_with fail
    refine (isException_is e false w1 hs HY1.out HE).mono ?_
    rintro x w2 ⟨rfl, hb2⟩
    have HB2 := Lib.hid (HB1.out.trans (hb2.mono HB1.out.size))
    clear hb2
    go_wp2
    go_ret2
    exact ⟨_, ret_vb HV.out.1.symm, HB2.out, by rw [HV.out.2]; exact own_nil _ _ _ _⟩
  have HE := Lib.hid he
  clear he
  go_wp2_with fail
  refine (isException_is e true w1 hs HY1.out HE).mono ?_
  rintro x w2 ⟨rfl, hb2⟩
  have HB2 := Lib.hid (HB1.out.trans (hb2.mono HB1.out.size))
  have HT2 := Lib.hid (HT1.out.next hb2)
  have HY2 := Lib.hid (HY1.out.below hb2)
  clear hb2 HT1 HY1 HB1
  go_wp2_with fail
  refine (without_is e w2 hs HY2.out HE).mono ?_
  rintro x w3 ⟨rfl, hb3⟩
  have HB3 := Lib.hid (HB2.out.trans (hb3.mono HB2.out.size))
  have HT3 := Lib.hid (HT2.out.next hb3)
  clear hb3 HT2 HY2 HB2
  have hwm : (exW e).size ≤ maxLen := by have := exW_size e; unfold maxLen; omega
  have HKY := Lib.hid (kOfS hwm)
  have hlk0 := HT3.out.look HXA.out hwm
  have HAT := Lib.hid (fun h => nxAt_no (es := es) (wd := exW e) h)
  have HAI := Lib.hid (fun (i : Nat) hi h h2 => nxAt_is (es := es) (wd := exW e) (i := i) hi h h2)
  have HHIT := Lib.hid (fun (i : Nat) hi hl => nx_hit (es := es) (e := e) (i := i) HP.out HE.out hi hl)
  have HROOM := Lib.hid (fun hi hl => nx_room (es := es) (e := e) HP.out HE.out hi hl)
  have HFULL := Lib.hid (fun hi hl => nx_full (es := es) (e := e) hi hl)
  clear hwm
  generalize hwd : exW e = wd at *
  clear hwd
  rcases hlk0 with ⟨h1, hlk⟩ | ⟨i, hi, h1, hlk⟩
  · have HNO := Lib.hid (HAT.out (fun j hj e2 => hasS_no h1 (List.mem_map.2 ⟨es[j], List.getElem_mem hj, e2⟩)))
    obtain ⟨D, hM, hD⟩ := HT3.out
    have HE2 := Lib.hid (hD.cut0 HND.out h1)
    have HSZ := Lib.hid HE2.out.2
    have HM := Lib.hid hM
    clear HT3 hM hD h1
    go_wp2_with (at_delete; refine wpList_delete_own _ rfl _ _ 60 9 rfl 3 kS uMT _ b0 20 D rfl HM.out _ (keyS wd) rfl HKY.out ?_)
    intro w4 hm4 ht4
    have HM4 := Lib.hid hm4
    have HB4 := Lib.hid (HB3.out.grown ht4.grown HB3.out.size (fun q hq => by have := Option.some.inj hq; omega))
    clear hm4 ht4 HM hlk
    by_cases hroom : es.length < 20
    · have hne : ((es.length : Int) == 20) = false := by rw [beq_eq_false_iff_ne]; omega
      have HV := Lib.hid (HROOM.out HNO.out hroom)
      have HMZ := Lib.hid HE2.out.2
      have HTE := Lib.hid HE2.out.1
      clear HE2
      generalize D.del (keyS wd) = D2 at *
      have hlen : ∀ ty, (Builtin.len_ #[60] ty #[.map (some b0)]).run Tryd.prog w4 = .ok (.int .i64 (es.length : Nat)) w4 := fun ty => by
        have h := HM4.out.len uMT ty
        rw [HSZ.out] at h; exact h
      have hmk := run_makeStr1 es.length (by omega) w4
      have HT0 : Hid (TbS (w4.alloc (.cells (madeCells #[.string .empty] ((es.length + 1) * 1)) 9)) w4.heap.size (List.replicate (es.length + 1) .empty)) := Lib.hid (TbS.made w4 (es.length + 1))
      have HMA := Lib.hid (HM4.out.alloc (.cells (madeCells #[.string .empty] ((es.length + 1) * 1)) 9))
      have HBA : Hid (Below w.heap.size w (w4.alloc (.cells (madeCells #[.string .empty] ((es.length + 1) * 1)) 9))) := Lib.hid (HB4.out.alloc HB4.out.size _)
      have HSA : Hid ((w4.alloc (.cells (madeCells #[.string .empty] ((es.length + 1) * 1)) 9)).heap.size = w4.heap.size + 1) := Lib.hid (by simp)
      generalize w4.alloc (.cells (madeCells #[.string .empty] ((es.length + 1) * 1)) 9) = w5 at *
      have hpn : es.length < es.length + 1 := by omega
      have hc5 := HT0.out.cell (j := es.length) (by rw [List.length_replicate]; exact hpn)
      have hf5 := HT0.out.free es.length
      have hne0 : b0 ≠ w4.heap.size := by have := HM4.out.lt; omega
      have HT5 := Lib.hid (HT0.out.set es.length e)
      have HI5 : Hid (NewI es e es.length (es.length + 1) ((List.replicate (es.length + 1) ByteArray.empty).set es.length e) (Maps.has D2)) := Lib.hid ⟨by rw [List.length_set, List.length_replicate], by rw [List.getElem?_set_self (by rw [List.length_replicate]; exact hpn)], fun j hj hji h => by rw [HTE.out.has1 j hj hji] at h; cases h⟩
      have HM5 := Lib.hid (HMA.out.kept (grown_set (World.grownBy.refl _ _) es.length (.string e) : World.grownBy _ (w5.setCell ⟨w4.heap.size, es.length, none⟩ (.string e)) (some w4.heap.size)) (fun h => hne0 (Option.some.inj h)))
      have HB5 : Hid (Below w.heap.size w (w5.setCell ⟨w4.heap.size, es.length, none⟩ (.string e))) := Lib.hid (HBA.out.setCell (p := ⟨w4.heap.size, es.length, none⟩) HB4.out.size _)
      have HS5 : Hid ((w5.setCell ⟨w4.heap.size, es.length, none⟩ (.string e)).heap.size = w4.heap.size + 1) := Lib.hid (by rw [← HSA.out]; simp)
      generalize (List.replicate (es.length + 1) ByteArray.empty).set es.length e = C0 at *
      clear HMA HT0
      go_wp2_with (at_range; refine wpList_range_own _ rfl _ 60 rfl 9 3 kS uMT _ b0 20 D2 rfl HM5.out ?_)
      intro w6 hr6 hg6 hs6
      rw [HSA.out] at hr6 ⊢
      have HR6 := Lib.hid hr6
      have HT6 := Lib.hid (HT5.out.kept hg6 (by simp))
      have HB6 := Lib.hid (HB5.out.grown hg6 HB5.out.size (fun q hq => by cases hq))
      have h46 := HB4.out.size
      clear hr6 hg6 HM5 HT5 hlen hmk hc5 hf5
      go_wp2
      go_loopw [] (fun wr => ∃ (left : Lit → Bool) (cnt : Nat) (C : List ByteArray), Hid (wr.ranges Tryd.prog 9 (plainElem Tryd.prog 3) b0 (w4.heap.size + 1) 20 D2 left cnt) ∧ Hid (TbS wr w4.heap.size C) ∧ Hid (NewI es e es.length (es.length + 1) C left) ∧ Hid (∀ kl, left kl = true → Maps.has D2 kl = true) ∧ Hid (Below w.heap.size w wr)) (fun wr => wr.rangeLeft b0 (w4.heap.size + 1))
      case atStart => exact ⟨_, _, C0, HR6, HT6, HI5, Lib.hid (fun kl h => h), HB6⟩
      case round =>
        clear HR6 HT6 HI5 HB6 HM4 HB5 HS5 HSZ
        obtain ⟨left, cnt, C, HR, HT, HI, HL, HB⟩ := hrel
        go_wp2_with (at_next; refine wpList_next_ranges _ rfl _ rfl 9 kS _ Value.string (Value.int .i64) (fun key kl hk => keyOf_string_inv Tryd.underlying9 hk) (fun v y hv => by obtain ⟨c, hc, _⟩ := plainElem_int_inv Tryd.underlying3 hv; exact ⟨c, hc⟩) b0 (w4.heap.size + 1) 20 D2 left cnt rfl HR.out ?_ ?_)
        · intro hc0 hl0
          have HOF : Hid (wr.ownsRow w.heap.size 9 1 (.slice (some ⟨w4.heap.size, 0, none⟩) (es.length + 1) (es.length + 1)) (nxL es e).length (strs (nxL es e))) := Lib.hid (by
            have hC := HI.out.done_app hl0 rfl
            rw [HV.out.2, ← hC]
            have h := HT.out.own HI.out.len (base := w.heap.size) h46 (by unfold maxLen; omega)
            rw [HI.out.len]; exact h)
          clear hl0 hc0
          go_wp2
          go_ret2
          exact ⟨_, ret_vb HV.out.1.symm, HB.out, HOF.out⟩
        · intro x cI kl y1 y2 w7 cnt1 hkey hlk hv hat hrg1 hlt hg7 hs7 hen
          obtain ⟨j, hj, hjp, rfl⟩ := HTE.out.has2 _ (HL.out _ hlk)
          have hj' : cI = (j : Int) := by
            obtain ⟨c2, ec, ey, _⟩ := plainElem_int_inv Tryd.underlying3 hv
            injection ec with _ ec
            have h1 := hat .nil
            have e1 : y1 = .lit (.int .i64 c2) := congrArg Prod.fst ey
            rw [e1] at h1
            rw [HTE.out.val j hj hjp .nil] at h1
            have h2 := (Lit.int.inj (DataW.lit.inj h1)).2
            omega
          subst hj'
          have hjn : j < es.length + 1 := by omega
          obtain ⟨b9, o9, hA9, hbl9, hc9⟩ := HF.out (by omega)
          subst hA9
          have hB7 : Below w.heap.size w w7 := HB.out.grown hg7 HB.out.size (fun q hq => by have := Option.some.inj hq; omega)
          have hcj := (hB7.cell (p := ⟨b9, o9 + j, none⟩) hbl9).trans (hc9 j hj)
          have hT7 := HT.out.kept hg7 (by simp)
          obtain ⟨u7, hc7⟩ : ∃ u7, w7.cell? ⟨w4.heap.size, j, none⟩ = some u7 := ⟨_, hT7.cell (j := j) (by rw [HI.out.len]; exact hjn)⟩
          have hf7 := hT7.free j
          have HT8 := Lib.hid (hT7.set j es[j])
          have HB8 : Hid (Below w.heap.size w (w7.setCell ⟨w4.heap.size, j, none⟩ (.string es[j]))) := Lib.hid (hB7.setCell (p := ⟨w4.heap.size, j, none⟩) h46 _)
          have HI8 := Lib.hid (HI.out.step HND.out hj hjp hjn)
          have HR8 := Lib.hid (hrg1.kept (grown_set (World.grownBy.refl _ _) j (.string es[j]) : World.grownBy _ (w7.setCell ⟨w4.heap.size, j, none⟩ (.string es[j])) (some w4.heap.size)) (fun h => hne0 (Option.some.inj h)) (fun h => by have := Option.some.inj h; omega))
          have HL8 : Hid (∀ kl, (left kl && !kl.sameKey (keyS (exW es[j]))) = true → Maps.has D2 kl = true) := Lib.hid (fun kl h => by
            rw [Bool.and_eq_true] at h; exact HL.out kl h.1)
          have HLT := Lib.hid hlt
          clear hkey hlk hv hat hrg1 hlt hg7 hs7 hB7 hT7 hc9 HI HT HL
          generalize hsx : es[j] = sx at *
          go_wp2
          go_roundw
          case rel => exact ⟨_, _, _, HR8, HT8, HI8, HL8, HB8⟩
          case measure => rw [HR8.out.left_eq, HR.out.left_eq]; exact HLT.out
    · have hne : ((es.length : Int) == 20) = true := by rw [beq_iff_eq]; omega
      have HV := Lib.hid (HFULL.out HNO.out hroom)
      have hlen : ∀ ty, (Builtin.len_ #[60] ty #[.map (some b0)]).run Tryd.prog w4 = .ok (.int .i64 (es.length : Nat)) w4 := fun ty => by
        have h := HM4.out.len uMT ty
        rw [HSZ.out] at h; exact h
      go_wp2
      go_ret2
      exact ⟨_, ret_vb HV.out.1.symm, HB4.out, by rw [HV.out.2]; exact own_nil _ _ _ _⟩
  · have HNO := Lib.hid (HAI.out i hi h1 (fun j hj e2 => by have := ex_ne HND.out (by omega) hi (e2.trans h1.symm); omega))
    obtain ⟨D, hM, hD⟩ := HT3.out
    have HE2 := Lib.hid (hD.cut HND.out hi h1)
    obtain ⟨m, hm⟩ : ∃ m, es.length = m + 1 := ⟨es.length - 1, by omega⟩
    have HSZ : Hid (Maps.size (D.del (keyS wd)) = m) := Lib.hid (by have := HE2.out.2; omega)
    have HM := Lib.hid hM
    clear HT3 hM hD h1
    go_wp2_with (at_delete; refine wpList_delete_own _ rfl _ _ 60 9 rfl 3 kS uMT _ b0 20 D rfl HM.out _ (keyS wd) rfl HKY.out ?_)
    intro w4 hm4 ht4
    have HM4 := Lib.hid hm4
    have HB4 := Lib.hid (HB3.out.grown ht4.grown HB3.out.size (fun q hq => by have := Option.some.inj hq; omega))
    clear hm4 ht4 HM hlk
    have hne : ((m : Int) == 20) = false := by rw [beq_eq_false_iff_ne]; omega
    have HV := Lib.hid (HHIT.out i HNO.out hi)
    have HMZ := Lib.hid HE2.out.2
    have HTE := Lib.hid HE2.out.1
    clear HE2
    generalize D.del (keyS wd) = D2 at *
    have hlen : ∀ ty, (Builtin.len_ #[60] ty #[.map (some b0)]).run Tryd.prog w4 = .ok (.int .i64 (m : Nat)) w4 := fun ty => by
      have h := HM4.out.len uMT ty
      rw [HSZ.out] at h; exact h
    have hmk := run_makeStr1 m (by omega) w4
    have HT0 : Hid (TbS (w4.alloc (.cells (madeCells #[.string .empty] ((m + 1) * 1)) 9)) w4.heap.size (List.replicate (m + 1) .empty)) := Lib.hid (TbS.made w4 (m + 1))
    have HMA := Lib.hid (HM4.out.alloc (.cells (madeCells #[.string .empty] ((m + 1) * 1)) 9))
    have HBA : Hid (Below w.heap.size w (w4.alloc (.cells (madeCells #[.string .empty] ((m + 1) * 1)) 9))) := Lib.hid (HB4.out.alloc HB4.out.size _)
    have HSA : Hid ((w4.alloc (.cells (madeCells #[.string .empty] ((m + 1) * 1)) 9)).heap.size = w4.heap.size + 1) := Lib.hid (by simp)
    generalize w4.alloc (.cells (madeCells #[.string .empty] ((m + 1) * 1)) 9) = w5 at *
    have hpn : i < m + 1 := by omega
    have hc5 := HT0.out.cell (j := i) (by rw [List.length_replicate]; exact hpn)
    have hf5 := HT0.out.free i
    have hne0 : b0 ≠ w4.heap.size := by have := HM4.out.lt; omega
    have HT5 := Lib.hid (HT0.out.set i e)
    have HI5 : Hid (NewI es e i (m + 1) ((List.replicate (m + 1) ByteArray.empty).set i e) (Maps.has D2)) := Lib.hid ⟨by rw [List.length_set, List.length_replicate], by rw [List.getElem?_set_self (by rw [List.length_replicate]; exact hpn)], fun j hj hji h => by rw [HTE.out.has1 j hj hji] at h; cases h⟩
    have HM5 := Lib.hid (HMA.out.kept (grown_set (World.grownBy.refl _ _) i (.string e) : World.grownBy _ (w5.setCell ⟨w4.heap.size, i, none⟩ (.string e)) (some w4.heap.size)) (fun h => hne0 (Option.some.inj h)))
    have HB5 : Hid (Below w.heap.size w (w5.setCell ⟨w4.heap.size, i, none⟩ (.string e))) := Lib.hid (HBA.out.setCell (p := ⟨w4.heap.size, i, none⟩) HB4.out.size _)
    have HS5 : Hid ((w5.setCell ⟨w4.heap.size, i, none⟩ (.string e)).heap.size = w4.heap.size + 1) := Lib.hid (by rw [← HSA.out]; simp)
    generalize (List.replicate (m + 1) ByteArray.empty).set i e = C0 at *
    clear HMA HT0
    go_wp2_with (at_range; refine wpList_range_own _ rfl _ 60 rfl 9 3 kS uMT _ b0 20 D2 rfl HM5.out ?_)
    intro w6 hr6 hg6 hs6
    rw [HSA.out] at hr6 ⊢
    have HR6 := Lib.hid hr6
    have HT6 := Lib.hid (HT5.out.kept hg6 (by simp))
    have HB6 := Lib.hid (HB5.out.grown hg6 HB5.out.size (fun q hq => by cases hq))
    have h46 := HB4.out.size
    clear hr6 hg6 HM5 HT5 hlen hmk hc5 hf5
    go_wp2
    go_loopw [] (fun wr => ∃ (left : Lit → Bool) (cnt : Nat) (C : List ByteArray), Hid (wr.ranges Tryd.prog 9 (plainElem Tryd.prog 3) b0 (w4.heap.size + 1) 20 D2 left cnt) ∧ Hid (TbS wr w4.heap.size C) ∧ Hid (NewI es e i (m + 1) C left) ∧ Hid (∀ kl, left kl = true → Maps.has D2 kl = true) ∧ Hid (Below w.heap.size w wr)) (fun wr => wr.rangeLeft b0 (w4.heap.size + 1))
    case atStart => exact ⟨_, _, C0, HR6, HT6, HI5, Lib.hid (fun kl h => h), HB6⟩
    case round =>
      clear HR6 HT6 HI5 HB6 HM4 HB5 HS5 HSZ
      obtain ⟨left, cnt, C, HR, HT, HI, HL, HB⟩ := hrel
      go_wp2_with (at_next; refine wpList_next_ranges _ rfl _ rfl 9 kS _ Value.string (Value.int .i64) (fun key kl hk => keyOf_string_inv Tryd.underlying9 hk) (fun v y hv => by obtain ⟨c, hc, _⟩ := plainElem_int_inv Tryd.underlying3 hv; exact ⟨c, hc⟩) b0 (w4.heap.size + 1) 20 D2 left cnt rfl HR.out ?_ ?_)
      · intro hc0 hl0
        have HOF : Hid (wr.ownsRow w.heap.size 9 1 (.slice (some ⟨w4.heap.size, 0, none⟩) (m + 1) (m + 1)) (nxL es e).length (strs (nxL es e))) := Lib.hid (by
          have hC := HI.out.done_set hl0 hm.symm hi
          rw [HV.out.2, ← hC]
          have h := HT.out.own HI.out.len (base := w.heap.size) h46 (by unfold maxLen; omega)
          rw [HI.out.len]; exact h)
        clear hl0 hc0
        go_wp2
        go_ret2
        exact ⟨_, ret_vb HV.out.1.symm, HB.out, HOF.out⟩
      · intro x cI kl y1 y2 w7 cnt1 hkey hlk hv hat hrg1 hlt hg7 hs7 hen
        obtain ⟨j, hj, hjp, rfl⟩ := HTE.out.has2 _ (HL.out _ hlk)
        have hj' : cI = (j : Int) := by
          obtain ⟨c2, ec, ey, _⟩ := plainElem_int_inv Tryd.underlying3 hv
          injection ec with _ ec
          have h1 := hat .nil
          have e1 : y1 = .lit (.int .i64 c2) := congrArg Prod.fst ey
          rw [e1] at h1
          rw [HTE.out.val j hj hjp .nil] at h1
          have h2 := (Lit.int.inj (DataW.lit.inj h1)).2
          omega
        subst hj'
        have hjn : j < m + 1 := by omega
        obtain ⟨b9, o9, hA9, hbl9, hc9⟩ := HF.out (by omega)
        subst hA9
        have hB7 : Below w.heap.size w w7 := HB.out.grown hg7 HB.out.size (fun q hq => by have := Option.some.inj hq; omega)
        have hcj := (hB7.cell (p := ⟨b9, o9 + j, none⟩) hbl9).trans (hc9 j hj)
        have hT7 := HT.out.kept hg7 (by simp)
        obtain ⟨u7, hc7⟩ : ∃ u7, w7.cell? ⟨w4.heap.size, j, none⟩ = some u7 := ⟨_, hT7.cell (j := j) (by rw [HI.out.len]; exact hjn)⟩
        have hf7 := hT7.free j
        have HT8 := Lib.hid (hT7.set j es[j])
        have HB8 : Hid (Below w.heap.size w (w7.setCell ⟨w4.heap.size, j, none⟩ (.string es[j]))) := Lib.hid (hB7.setCell (p := ⟨w4.heap.size, j, none⟩) h46 _)
        have HI8 := Lib.hid (HI.out.step HND.out hj hjp hjn)
        have HR8 := Lib.hid (hrg1.kept (grown_set (World.grownBy.refl _ _) j (.string es[j]) : World.grownBy _ (w7.setCell ⟨w4.heap.size, j, none⟩ (.string es[j])) (some w4.heap.size)) (fun h => hne0 (Option.some.inj h)) (fun h => by have := Option.some.inj h; omega))
        have HL8 : Hid (∀ kl, (left kl && !kl.sameKey (keyS (exW es[j]))) = true → Maps.has D2 kl = true) := Lib.hid (fun kl h => by
          rw [Bool.and_eq_true] at h; exact HL.out kl h.1)
        have HLT := Lib.hid hlt
        clear hkey hlk hv hat hrg1 hlt hg7 hs7 hB7 hT7 hc9 HI HT HL
        generalize hsx : es[j] = sx at *
        go_wp2
        go_roundw
        case rel => exact ⟨_, _, _, HR8, HT8, HI8, HL8, HB8⟩
        case measure => rw [HR8.out.left_eq, HR.out.left_eq]; exact HLT.out
end Go.Proofs.YtcbhhbcfnaekpaaDoor

/-
  The contracts of spec.hyValues and spec.ValuesOf.
-/
import Derived.Test.YtcbhhbcfnaekpaaDoorHyf
namespace Go.Proofs.YtcbhhbcfnaekpaaDoor
open Go.RowKit
set_option linter.unusedVariables false

theorem hyPattern_row (s : ByteArray) (w : World) (hs : s.size ≤ 1048576) :
    Calls Tryd.prog 80 #[.string s] w fun e w' => ∃ A c, e = .returned (.tuple #[.string (ptT s), .slice A (ptVs s).length c, .bool (ptB s)]) ∧ Below w.heap.size w w' ∧ w'.ownsRow w.heap.size 3 1 (.slice A (ptVs s).length c) (ptVs s).length (intsZ (ptVs s)) := by
  refine (hyPattern_any s w hs).mono ?_
  rintro e w' ⟨v, rfl, hb, ho⟩
  obtain ⟨A, c, rfl⟩ := own_form ho
  exact ⟨A, c, rfl, hb, ho⟩
theorem max_if (a b : Int) : (if b < a then a else b) = max a b := by split <;> omega
set_option maxRecDepth 100000 in
set_option maxHeartbeats 4000000 in
theorem hyValues_any (ps : List ByteArray) (A : Option Addr) (c : Nat) (wd : ByteArray) (w : World) (hf : StrsIn w A ps) (ho : StrsLe ps) (hn : ps.length ≤ 1048576) (hp : patsA ps = true) (h1 : 1 ≤ wd.size) (h16 : wd.size ≤ 16) :
    Calls Tryd.prog 70 #[.slice A ps.length c, .string wd] w fun e w' => ∃ v, e = .returned v ∧ Below w.heap.size w w' ∧ w'.ownsRow w.heap.size 3 1 v (valL ps wd).length (intsZ (valL ps wd)) := by
  have HF := Lib.hid hf; have HO := Lib.hid ho; have HP := Lib.hid hp; clear hf ho hp
  obtain ⟨m, hm⟩ : ∃ m, wd.size = m + 1 := ⟨wd.size - 1, by omega⟩
  have hmk := run_makeInt m (by omega)
  have hwm : (wd.size : Int) - 1 = (m : Int) := by omega
  have HST : Hid (TbI (w.alloc (.cells (madeCells #[.int .i64 0] (m * 1)) 3)) w.heap.size m (fun j => valsG wd (ps.take 0) (j + 1))) := Lib.hid (TbI.made w m)
  have HMM := Lib.hid hm
  have hm16 : m ≤ 15 := by omega
  have hms : m < wd.size := by omega
  clear hm
  generalize hz : madeCells #[.int .i64 0] (m * 1) = cs0 at *
  go_enter Tryd.func70, Tryd.ntmps70
  clear hz
  go_wp2
  go_loopw [21] (fun i wr => ∃ (k : Nat), k ≤ ps.length ∧ i = .int .i64 k ∧ Hid (TbI wr w.heap.size m (fun j => valsG wd (ps.take k) (j + 1))) ∧ Hid (Below w.heap.size w wr)) (fun i _ => ps.length - (intOf i).toNat)
  case atStart => exact ⟨0, Nat.zero_le _, rfl, HST, Lib.hid ((Below.refl _ _).alloc (Nat.le_refl _) _)⟩
  case round =>
    clear HST hmk
    obtain ⟨k, hk, rfl, HT, HB⟩ := hrel
    by_cases hlt : k < ps.length
    · obtain ⟨b, off, hA, hbl, hc⟩ := HF.out (by omega)
      subst hA
      have hc0 := (HB.out.cell (p := ⟨b, off + k, none⟩) hbl).trans (hc k hlt)
      clear hc
      have hok := HO.out k hlt
      have HGD := Lib.hid (pt_good (patsA_mem HP.out hlt))
      have HLT : Hid ((ptT ps[k]).size = (ptLs ps[k]).length) := Lib.hid (ptT_size _)
      have HSTP := Lib.hid (valsG_step wd hlt)
      have hls : 1 ≤ (ptT ps[k]).size ∧ (ptT ps[k]).size ≤ 6 ∧ (ptVs ps[k]).length = (ptT ps[k]).size + 1 := by rw [HLT.out]; exact ⟨HGD.out.1, HGD.out.2.1, HGD.out.2.2.1⟩
      have HBD := Lib.hid HGD.out.2.2.2
      have HGB := Lib.hid (valsG_bd wd HP.out k hk)
      clear HLT HGD
      go_wp2_with fail
      refine (hyPattern_row _ _ hok).mono ?_
      rintro e w1 ⟨A9, c9, rfl, hb1, ho1⟩
      have HT1 := Lib.hid (HT.out.next hb1)
      have HB1 := Lib.hid (HB.out.trans (hb1.mono HB.out.size))
      have HV1 := Lib.hid ho1
      have hbw : w.heap.size < wr.heap.size := HT.out.lt
      obtain ⟨B1, hB1⟩ : ∃ x, x = wr.heap.size := ⟨_, rfl⟩
      rw [← hB1] at HV1 hbw
      clear hB1
      clear hb1 ho1 hc0 hok
      generalize ptT ps[k] = lt at *
      generalize ptVs ps[k] = vs at *
      generalize ptB ps[k] = pb at *
      generalize valsG wd (ps.take k) = G at *
      obtain ⟨hl1, hl6, hvl⟩ := hls
      generalize hvn : vs.length = vn at *
      have HVN := Lib.hid hvn; clear hvn HT HB
      go_wp2
      go_loopw [11] (fun i wx => ∃ (a : Nat), a ≤ wd.size + 1 ∧ i = .int .i64 a ∧ Hid (TbI wx w.heap.size m (fun j => patW wd (lt, vs) G a (j + 1))) ∧ Hid (wx.ownsRow B1 3 1 (.slice A9 vn c9) vn (intsZ vs)) ∧ Hid (Below w.heap.size w wx)) (fun i _ => wd.size + 1 - (intOf i).toNat)
      case atStart => exact ⟨0, Nat.zero_le _, rfl, HT1, HV1, HB1⟩
      case round =>
        clear HT1 HV1 HB1
        obtain ⟨a, ha, rfl, HT, HV, HB⟩ := hrel
        have hge : w.heap.size ≤ wr.heap.size := HB.out.size
        by_cases hfit : (a : Int) + (lt.size : Int) ≤ (wd.size : Int)
        · have hn1 : a + lt.size ≤ wd.size := by omega
          by_cases hoc : wd.extract a (a + lt.size) = lt
          · have HOC : Hid (occB wd lt a = true) := Lib.hid (decide_eq_true hoc)
            have ht : (!(wd.extract a (a + lt.size)).toList == lt.toList) = false := by rw [str_eq hoc]; rfl
            clear hoc
            go_wp2
            go_loopw [51] (fun i wy => ∃ (q : Nat), q ≤ vn ∧ i = .int .i64 q ∧ Hid (TbI wy w.heap.size m (fun j => raiseV (patW wd (lt, vs) G a) a (vs.take q) (j + 1))) ∧ Hid (wy.ownsRow B1 3 1 (.slice A9 vn c9) vn (intsZ vs)) ∧ Hid (Below w.heap.size w wy)) (fun i _ => vn - (intOf i).toNat)
            case atStart => exact ⟨0, Nat.zero_le _, rfl, Lib.hid (by rw [List.take_zero, raise_nil]; exact HT.out), HV, HB⟩
            case round =>
              clear HT HV HB
              obtain ⟨q, hq, rfl, HT, HV, HB⟩ := hrel
              by_cases hqv : q < vn
              · have hqv' : q < vs.length := by rw [HVN.out]; exact hqv
                obtain ⟨b9, o9, hA9, hbl9, hc9⟩ := (own_in (l := vs) (m := vn) (n := vn) HV.out) (by omega)
                subst hA9
                have hcq := hc9 q hqv'
                clear hc9
                have HRS : Hid (raiseV (patW wd (lt, vs) G a) a (vs.take (q + 1)) = setF1 (raiseV (patW wd (lt, vs) G a) a (vs.take q)) (a + q) (max (raiseV (patW wd (lt, vs) G a) a (vs.take q) (a + q)) vs[q])) := Lib.hid (by
                  rw [List.take_succ_eq_append_getElem hqv', raise_snoc, show (vs.take q).length = q from by rw [List.length_take]; omega])
                rcases (by omega : a + q = 0 ∨ (1 ≤ a + q ∧ a + q ≤ m) ∨ m < a + q) with hz | ⟨hz1, hz2⟩ | hz
                · have HT2 : Hid (TbI wr w.heap.size m (fun j => raiseV (patW wd (lt, vs) G a) a (vs.take (q + 1)) (j + 1))) := Lib.hid (HT.out.cong fun j hj => by rw [HRS.out, setF1_other (by omega)])
                  have hd : (decide ((0 : Int) ≤ (a : Int) + (q : Int) - 1) && decide ((a : Int) + (q : Int) - 1 ≤ (m : Int) - 1)) = false := by rw [decide_eq_false (by omega)]; rfl
                  go_wp2_with (go_at_call 61; refine (in_any _ _ _ _).mono ?_; rintro e w' ⟨rfl, rfl⟩)
                  go_roundw
                  case rel => exact ⟨q + 1, by omega, by go_num, HT2, HV, HB⟩
                  case measure => simp [intOf]; omega
                · obtain ⟨p, hp⟩ : ∃ p, a + q = p + 1 := ⟨a + q - 1, by omega⟩
                  have hpm : p < m := by omega
                  have hip : (a : Int) + (q : Int) - 1 = (p : Int) := by omega
                  have hd : (decide ((0 : Int) ≤ (p : Int)) && decide ((p : Int) ≤ (m : Int) - 1)) = true := by rw [decide_eq_true (by omega), decide_eq_true (by omega)]; rfl
                  have hcp := HT.out.cell hpm
                  have hfp := HT.out.free p
                  have hbl := HT.out.lt
                  have HT2 : Hid (TbI (wr.setCell ⟨w.heap.size, p, none⟩ (.int .i64 (max (raiseV (patW wd (lt, vs) G a) a (vs.take q) (p + 1)) vs[q]))) w.heap.size m (fun j => raiseV (patW wd (lt, vs) G a) a (vs.take (q + 1)) (j + 1))) := Lib.hid ((HT.out.set p _).cong fun j hj => by
                    rw [HRS.out, hp]
                    by_cases e : j = p
                    · subst e; rw [setF1_same, setF1_same]
                    · rw [setF1_other e, setF1_other (by omega)])
                  have HV2 : Hid ((wr.setCell ⟨w.heap.size, p, none⟩ (.int .i64 (max (raiseV (patW wd (lt, vs) G a) a (vs.take q) (p + 1)) vs[q]))).ownsRow B1 3 1 (.slice (some ⟨b9, o9, none⟩) vn c9) vn (intsZ vs)) := Lib.hid (own_grown HV.out (grown_set (World.grownBy.refl _ _) p _) (fun z h1 h2 => by
                    have h3 := own_lt HV.out z h1
                    have h4 := Option.some.inj h2
                    omega))
                  have HB2 : Hid (Below w.heap.size w (wr.setCell ⟨w.heap.size, p, none⟩ (.int .i64 (max (raiseV (patW wd (lt, vs) G a) a (vs.take q) (p + 1)) vs[q])))) := Lib.hid (HB.out.setCell (p := ⟨w.heap.size, p, none⟩) (Nat.le_refl _) _)
                  have HMX := Lib.hid (max_if (raiseV (patW wd (lt, vs) G a) a (vs.take q) (p + 1)) vs[q])
                  clear hp
                  generalize raiseV (patW wd (lt, vs) G a) a (vs.take q) (p + 1) = x at *
                  generalize vs[q] = y at *
                  go_wp2_with (first | (go_at_call 61; refine (in_any _ _ _ _).mono ?_; rintro e w' ⟨rfl, rfl⟩) | (go_at_call 95; refine (l1Most_any _ _ _).mono ?_; rintro e w' ⟨rfl, rfl⟩; rw [HMX.out]))
                  go_roundw
                  case rel => exact ⟨q + 1, by omega, by go_num, HT2, HV2, HB2⟩
                  case measure => simp [intOf]; omega
                · have HT2 : Hid (TbI wr w.heap.size m (fun j => raiseV (patW wd (lt, vs) G a) a (vs.take (q + 1)) (j + 1))) := Lib.hid (HT.out.cong fun j hj => by rw [HRS.out, setF1_other (by omega)])
                  have hd : (decide ((0 : Int) ≤ (a : Int) + (q : Int) - 1) && decide ((a : Int) + (q : Int) - 1 ≤ (m : Int) - 1)) = false := by rw [decide_eq_false (by omega : ¬ (a : Int) + (q : Int) - 1 ≤ (m : Int) - 1)]; simp
                  go_wp2_with (go_at_call 61; refine (in_any _ _ _ _).mono ?_; rintro e w' ⟨rfl, rfl⟩)
                  go_roundw
                  case rel => exact ⟨q + 1, by omega, by go_num, HT2, HV, HB⟩
                  case measure => simp [intOf]; omega
              · obtain rfl : q = vn := by omega
                have HT2 : Hid (TbI wr w.heap.size m (fun j => patW wd (lt, vs) G (a + 1) (j + 1))) := Lib.hid (HT.out.cong fun j hj => by
                  show _ = atW wd (lt, vs) (patW wd (lt, vs) G a) a (j + 1)
                  unfold atW
                  rw [HOC.out, if_pos rfl, ← HVN.out, List.take_length])
                go_wp2
                go_roundw
                case rel => exact ⟨a + 1, by omega, by go_num, HT2, HV, HB⟩
                case measure => simp [intOf]; omega
          · have ht : (!(wd.extract a (a + lt.size)).toList == lt.toList) = true := str_ne hoc
            have HT2 : Hid (TbI wr w.heap.size m (fun j => patW wd (lt, vs) G (a + 1) (j + 1))) := Lib.hid (HT.out.cong fun j hj => by
              show _ = atW wd (lt, vs) (patW wd (lt, vs) G a) a (j + 1)
              unfold atW occB
              rw [decide_eq_false hoc]; rfl)
            clear hoc
            go_wp2
            go_roundw
            case rel => exact ⟨a + 1, by omega, by go_num, HT2, HV, HB⟩
            case measure => simp [intOf]; omega
        · have HT2 : Hid (TbI wr w.heap.size m (fun j => valsG wd (ps.take (k + 1)) (j + 1))) := Lib.hid (HT.out.cong fun j hj => by
            rw [HSTP.out]
            by_cases e : a ≤ wd.size
            · rw [patW_more (m := a) (fun a' h => occB_long (by show wd.size < a' + lt.size; omega) (by show 0 < lt.size; omega)) wd.size e]
            · obtain rfl : a = wd.size + 1 := by omega
              show atW wd (lt, vs) (patW wd (lt, vs) G wd.size) wd.size (j + 1) = _
              unfold atW
              rw [occB_long (by show wd.size < wd.size + lt.size; omega) (by show 0 < lt.size; omega)]
              rfl)
          go_wp2
          go_roundw
          case rel => exact ⟨k + 1, by omega, by go_num, HT2, HB⟩
          case measure => simp [intOf]; omega
    · obtain rfl : k = ps.length := by omega
      have HOW : Hid (wr.ownsRow w.heap.size 3 1 (.slice (some ⟨w.heap.size, 0, none⟩) m m) (valL ps wd).length (intsZ (valL ps wd))) := Lib.hid (by
        have h := HT.out.own (Nat.le_refl _) (by unfold maxLen; omega)
        rw [List.take_length] at h
        rw [valL_len]
        unfold valL
        rw [show wd.size - 1 = m from by have := HMM.out; omega]
        exact h)
      go_wp2
      go_ret
      exact ⟨_, rfl, HB.out, HOW.out⟩
end Go.Proofs.YtcbhhbcfnaekpaaDoor

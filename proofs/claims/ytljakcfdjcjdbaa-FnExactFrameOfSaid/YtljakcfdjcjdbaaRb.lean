/-
  The contracts of spec.ruRule and RuleOf.
-/
import Derived.Test.YtljakcfdjcjdbaaRa
namespace Go.Proofs.Ytljakcfdjcjdbaa
open Go.RowKit
set_option linter.unusedVariables false

theorem least_min (a b : Nat) (w : World) : Calls Try.prog 73 #[.int .i64 (a : Int), .int .i64 (b : Int)] w fun e w' => e = .returned (.int .i64 ((min a b : Nat) : Int)) ∧ w = w' :=
  (l1Least_any (a : Int) (b : Int) w).mono fun e w' ⟨h1, h2⟩ => ⟨by rw [h1]; congr 2; split <;> omega, h2⟩
def RuTo (w w' : World) (e : Ending) (l : List Int) (b : Bool) : Prop := ∃ v, e = .returned (.tuple #[v, .bool b]) ∧ Below w.heap.size w w' ∧ w'.ownsRow w.heap.size 3 1 v l.length (intsZ l)
theorem RuTo.no {w w' : World} {l : List Int} {b : Bool} (h : l = [] ∧ b = false) (hb : Below w.heap.size w w') : RuTo w w' (.returned (.tuple #[.slice none 0 0, .bool false])) l b := by
  obtain ⟨rfl, rfl⟩ := h; exact ⟨_, rfl, hb, own_nil _ _ _ _⟩
set_option maxRecDepth 100000 in
set_option maxHeartbeats 2000000 in
theorem ruRule_any (f : List Sl) (A : Option Addr) (cq n : Nat) (w : World) (hf : SlsIn w A f) (hgs : GoodS f) (h1 : 1 ≤ n) (hN : n ≤ 400) :
    Calls Try.prog 53 #[.slice A f.length cq, .int .i64 (n : Int)] w fun e w' => RuTo w w' e (ruV 1048576 f n) (ruB 1048576 f n) := by
  have HF := Lib.hid hf; have HG := Lib.hid hgs; clear hf hgs
  have hn8 := HG.out.eight
  have HTB := Lib.hid (ruTables_any f A cq n w HF.out HG.out hN)
  obtain ⟨Z, hZ⟩ : ∃ Z : Nat, Z = 1048576 := ⟨_, rfl⟩
  have hZi : (Z : Int) = 1048576 := by omega
  rw [← hZ] at HTB ⊢
  have HZ := Lib.hid hZ; clear hZ
  go_enter Try.func53, Try.ntmps53
  go_wp2_with fail
  refine HTB.out.mono ?_
  rintro e w1 ⟨G, cap, rfl, hcap, hb1, ho1⟩
  have HB1 := Lib.hid hb1; have HO1 := Lib.hid ho1
  clear hb1 ho1 HTB
  obtain ⟨g, c, k1, k2, k3, k4⟩ := HO1.out.2.2 f.length (by omega)
  have k5 := k4.cell (j := n) (by omega)
  have hx1 : (f.length : Int) < ((f.length + 1 : Nat) : Int) := by omega
  have hx2 : (n : Int) < ((n + 1 : Nat) : Int) := by omega
  have hx3 : (0 : Int) ≤ (f.length : Int) := by omega
  have hx4 : (0 : Int) ≤ (n : Int) := by omega
  obtain ⟨z, hz⟩ : ∃ z, z = fwI Z f f.length n := ⟨_, rfl⟩
  rw [← hz] at k5
  have HFZ : Hid (z = (FW Z f n : Int)) := Lib.hid (by rw [hz]; unfold fwI; rw [List.take_length])
  clear k4 hz
  by_cases hge : (1048576 : Int) ≤ z
  · have HN := Lib.hid (ru_no (Z := Z) (f := f) (n := n) (by have := HFZ.out; have := HZ.out; omega))
    clear HFZ
    go_wp2
    go_ret2
    exact RuTo.no HN.out HB1.out
  have HY := Lib.hid (ru_yes (Z := Z) (f := f) (n := n) (by have := HFZ.out; have := HZ.out; omega))
  have HT0 : Hid (tblD Z f 0 n < Z) := Lib.hid (by unfold tblD; rw [Nat.sub_zero, List.take_length]; have := HFZ.out; have := HZ.out; omega)
  clear HFZ
  obtain ⟨w2, hw2⟩ : ∃ x : World, x = w1.alloc (.cells (madeCells #[.int .i64 0] (f.length * 1)) 3) := ⟨_, rfl⟩
  have hmk : (Instr.makeSlice 31 (.int .i64 (f.length : Int)) (.int .i64 (f.length : Int))).run Try.prog w1 = .ok (.slice (some ⟨w1.heap.size, 0, none⟩) f.length f.length) w2 := by rw [hw2]; exact run_makeI f.length (by omega) w1
  have HT2 : Hid (Tb w2 w1.heap.size 3 f.length (outD Z f n 0)) := Lib.hid (by
    rw [hw2]; exact (made_int _ _ _).cong (fun j hj => by unfold outD; rw [if_neg (by omega)]))
  have HB2 : Hid (Below w1.heap.size w1 w2) := Lib.hid (by rw [hw2]; exact (Below.refl _ _).alloc (Nat.le_refl _) _)
  clear hw2
  have HF1 := Lib.hid (HF.out.below HB1.out (Nat.le_refl _))
  have HI0 : Hid ((f.length : Int) - 1 = (f.length : Int) - 1 - ((0 : Nat) : Int)) := Lib.hid (by omega)
  go_wp2
  clear hmk k1 k5 hx1 hx2 hx3 hx4 k2 k3
  rw [HI0.out]
  go_loopw [1, 8] (fun nv iv wr => ∃ d : Nat, d ≤ f.length ∧ nv = .int .i64 (remD Z f n d : Int) ∧ iv = .int .i64 ((f.length : Int) - 1 - (d : Int)) ∧ Tb wr w1.heap.size 3 f.length (outD Z f n d) ∧ Below w1.heap.size w1 wr) (fun _ iv _ => (intOf iv + 1).toNat)
  case atStart => exact ⟨0, Nat.zero_le _, rfl, rfl, HT2.out, HB2.out⟩
  case round =>
    obtain ⟨d, hd, rfl, rfl, ht, hb⟩ := hrel
    by_cases hlt : d < f.length
    · obtain ⟨j, hj⟩ : ∃ j, j = f.length - 1 - d := ⟨_, rfl⟩
      have hij : (f.length : Int) - 1 - (d : Int) = (j : Int) := by omega
      have hjl : j < f.length := by omega
      have HNXT : Hid ((f.length : Int) - 1 - ((d + 1 : Nat) : Int) = (j : Int) - 1) := Lib.hid (by omega)
      have HRM := Lib.hid (remD_ok HG.out HT0.out d (by omega))
      have HCD := Lib.hid (cD_ok HG.out hlt HRM.out)
      have HTL := Lib.hid (fun c h => top_le (m := remD Z f n d) (c := c) HG.out hlt h)
      have HOS := Lib.hid (outD_succ (Z := Z) (n := n) hlt hj)
      have HSJ := Lib.hid (slipD_at hlt hj)
      have hbd := HG.out.bd hjl
      have HTA := Lib.hid (fun m => tblD_at Z hlt hj m)
      have hR4 := remD_le Z f n d
      have HRS : Hid (remD Z f n (d + 1) = remD Z f n d - cD Z f (remD Z f n d) d * lnN (slipD f d)) := Lib.hid rfl
      obtain ⟨L, hL⟩ : ∃ L : Nat, f[j].len = (L : Int) := ⟨f[j].len.toNat, by omega⟩
      obtain ⟨C, hC⟩ : ∃ C : Nat, f[j].cnt = (C : Int) := ⟨f[j].cnt.toNat, by omega⟩
      have hlS : lnN (slipD f d) = L := by rw [HSJ.out]; unfold lnN; omega
      have hcS : ctN (slipD f d) = C := by rw [HSJ.out]; unfold ctN; omega
      obtain ⟨R, hR⟩ : ∃ R, R = remD Z f n d := ⟨_, rfl⟩
      obtain ⟨K, hK⟩ : ∃ K, K = cD Z f (remD Z f n d) d := ⟨_, rfl⟩
      obtain ⟨Q, hQ⟩ : ∃ Q, Q = R / L := ⟨_, rfl⟩
      have hQd : (R : Int).tdiv (L : Int) = (Q : Int) := by rw [hQ]; exact (Int.ofNat_tdiv R L).symm
      have HTP : Hid (topD f R d = min C Q) := Lib.hid (by unfold topD; rw [hlS, hcS, hQ])
      have HKD : Hid (K = dwn (askD Z f R d) (topD f R d)) := Lib.hid (by rw [hK, hR]; rfl)
      have HKP : Hid (askD Z f R d K = true ∧ K ≤ topD f R d) := Lib.hid (by rw [hK, hR]; exact HCD.out)
      have HAS : Hid (∀ q p, p = q * L → askD Z f R d q = (FW Z (f.take j) (R - p) + q == FW Z (f.take (j + 1)) R)) := Lib.hid (fun q p hp => by
        unfold askD
        rw [hlS, (HTA.out _).2, (HTA.out _).1, hp])
      rw [hlS] at HTL HRS
      rw [hcS] at HTL
      rw [← hR] at HTL HRS HOS
      have hKR : K = cD Z f R d := by rw [hK, hR]
      rw [← hKR] at HRS HOS
      clear hKR
      rw [hij, ← hR]
      rw [← hR] at hR4
      rw [hL, hC] at hbd
      clear hlS hcS hK HCD HRM HSJ HTA hj hij
      obtain ⟨b, off, rfl, hbl, hc⟩ := HF1.out (by omega)
      obtain ⟨hc0, hc1⟩ := hc j hjl
      clear hc
      rw [hL] at hc0; rw [hC] at hc1
      have HC0 := Lib.hid hc0; have HC1 := Lib.hid hc1
      have HHB := Lib.hid hb; have HHT := Lib.hid ht
      have x0 := KeptW.cell ((hb.cell (p := ⟨b, off + j * 2, none⟩) hbl).trans hc0) (show b < wr.heap.size from Nat.lt_of_lt_of_le hbl hb.size)
      have x1 := KeptW.cell ((hb.cell (p := ⟨b, off + j * 2 + 1, none⟩) hbl).trans hc1) (show b < wr.heap.size from Nat.lt_of_lt_of_le hbl hb.size)
      have hjj : (j : Int) < (f.length : Int) := by omega
      have hj0 : (0 : Int) ≤ (j : Int) := by omega
      have hL0 : ¬ (L : Int) = 0 := by omega
      have hQ4 : Q ≤ 400 := by have := Nat.div_le_self R L; omega
      clear hc0 hc1 hL hC hR hQ hb ht
      generalize hwx : wr = wx at *
      clear hwx
      go_wp2_with fail
      refine region_kept wx.heap.size (by kernel_rfl) (by kernel_rfl) ?_
      repeat (go_big_quiet_step (fail))
      go_big_quiet_step ((go_at_call 73; exact kept_same _ (least_min C Q _)))
      repeat (go_big_quiet_step (fail))
      refine wpQuiet_nil ?_
      intro w3 hb3
      have HB3 := Lib.hid (HHB.out.trans (hb3.mono HHB.out.size))
      have HT3 := Lib.hid (HHT.out.next hb3)
      clear hb3 x0 x1
      go_wp2
      go_loopw [9] (fun kv wr => ∃ q : Nat, q ≤ topD f R d ∧ dwn (askD Z f R d) q = K ∧ kv = .int .i64 (q : Int) ∧ Tb wr w1.heap.size 3 f.length (outD Z f n d) ∧ Below w1.heap.size w1 wr) (fun kv _ => (intOf kv).toNat)
      case atStart => exact ⟨min C Q, by rw [HTP.out]; exact Nat.le_refl _, by rw [HKD.out, HTP.out], rfl, HT3.out, HB3.out⟩
      case round =>
        obtain ⟨q, hq, hdw, rfl, ht, hb⟩ := hrel
        obtain ⟨t1, t2⟩ := HTL.out q hq
        obtain ⟨p, hp⟩ : ∃ p, p = q * L := ⟨_, rfl⟩
        have hpp : (q : Int) * (L : Int) = (p : Int) := by rw [hp, Int.natCast_mul]
        rw [← hp] at t2
        have HASK := Lib.hid (HAS.out q p hp)
        have HDW := Lib.hid hdw; have HTT := Lib.hid ht; have HBB := Lib.hid hb
        obtain ⟨m, hm⟩ : ∃ m, m = R - p := ⟨_, rfl⟩
        have hmm : (R : Int) - (p : Int) = (m : Int) := by omega
        have hbw := HB1.out.trans (hb.mono HB1.out.size)
        have hO := HO1.out.next hb
        obtain ⟨g1, c1, a1, a2, a3, a4⟩ := hO.2.2 j (by omega)
        obtain ⟨g2, c2, b1, b2, b3, b4⟩ := hO.2.2 (j + 1) (by omega)
        have a5 := a4.cell (j := m) (by omega)
        have b5 := b4.cell (j := R) (by omega)
        obtain ⟨y1, hy1⟩ : ∃ y : Int, y = fwI Z f j m := ⟨_, rfl⟩
        obtain ⟨y2, hy2⟩ : ∃ y : Int, y = fwI Z f (j + 1) R := ⟨_, rfl⟩
        have hle1 := FW_le Z (f.take j) m
        have hY1 : y1 = (FW Z (f.take j) m : Int) := hy1
        have hY2 : y2 = (FW Z (f.take (j + 1)) R : Int) := hy2
        rw [← hm] at HASK
        have HAK : Hid (askD Z f R d q = (y1 + (q : Int) == y2)) := Lib.hid (by
          rw [HASK.out, hY1, hY2]
          by_cases e : FW Z (f.take j) m + q = FW Z (f.take (j + 1)) R
          · rw [beq_iff_eq.2 e]; symm; rw [beq_iff_eq]; omega
          · rw [beq_eq_false_iff_ne.2 e]; symm; rw [beq_eq_false_iff_ne]; omega)
        have hy1b : 0 ≤ y1 ∧ y1 ≤ 1048576 := by omega
        rw [← hy1] at a5; rw [← hy2] at b5
        clear hy1 hy2 hY1 hY2 hle1 HASK hdw ht
        have hGl := hO.2.1
        have x0 := KeptW.cell a1 hGl
        have x1 := KeptW.cell b1 hGl
        have x2 := KeptW.cell a5 a4.lt
        have x3 := KeptW.cell b5 b4.lt
        have x4 := KeptW.cell ((hb.cell (p := ⟨b, off + j * 2, none⟩) hbl).trans HC0.out) (show b < wr.heap.size from Nat.lt_of_lt_of_le hbl hb.size)
        have i1 : (j : Int) < ((f.length + 1 : Nat) : Int) := by omega
        have i2 : (j : Int) + 1 < ((f.length + 1 : Nat) : Int) := by omega
        have i3 : (m : Int) < ((n + 1 : Nat) : Int) := by omega
        have i4 : (R : Int) < ((n + 1 : Nat) : Int) := by omega
        have i5 : (0 : Int) ≤ (m : Int) := by omega
        have i6 : (0 : Int) ≤ (R : Int) := by omega
        have hcj : ((j + 1 : Nat) : Int) = (j : Int) + 1 := by omega
        have HM := Lib.hid hm; have HP := Lib.hid hp
        have hpb : (p : Int) ≤ 400 := by omega
        have hp0 : (0 : Int) ≤ (p : Int) := by omega
        clear a1 b1 a4 b4 a5 b5 hb hbw hO hm hp a2 a3 b2 b3
        generalize hwy : wr = wy at *
        clear hwy
        cases hask : askD Z f R d q
        · have hne : (y1 + (q : Int) != y2) = true := by have := HAK.out; rw [hask] at this; show (!(y1 + (q : Int) == y2)) = true; rw [← this]; rfl
          have hq1 : 1 ≤ q := by
            rcases Nat.eq_zero_or_pos q with rfl | h
            · have h2 : dwn (askD Z f R d) 0 = K := HDW.out
              have h3 := HKP.out.1
              rw [← h2] at h3
              have h4 : askD Z f R d 0 = true := h3
              rw [hask] at h4; cases h4
            · exact h
          obtain ⟨q', hq'⟩ : ∃ q', q = q' + 1 := ⟨q - 1, by omega⟩
          have HDN : Hid (dwn (askD Z f R d) q' = K) := Lib.hid (by
            have h := HDW.out
            rw [hq'] at h hask
            rw [dwn_miss hask] at h; exact h)
          have hqq : (q : Int) - 1 = (q' : Int) := by omega
          have HQ' := Lib.hid hq'
          clear hask HAK HDW hq' hq1
          go_wp2_with fail
          refine region_kept wy.heap.size (by kernel_rfl) (by kernel_rfl) ?_
          repeat (go_big_quiet_step (fail))
          refine wpQuiet_nil ?_
          intro w5 hb5
          have HB5 := Lib.hid (HBB.out.trans (hb5.mono HBB.out.size))
          have HT5 := Lib.hid (HTT.out.next hb5)
          clear hb5 x0 x1 x2 x3 x4
          go_wp2
          go_roundw
          case rel => exact ⟨q', by have := HQ'.out; omega, HDN.out, by first | rfl | rw [hqq], HT5.out, HB5.out⟩
          case measure => have := HQ'.out; simp [intOf]; omega
        · have hne : (y1 + (q : Int) != y2) = false := by have := HAK.out; rw [hask] at this; show (!(y1 + (q : Int) == y2)) = false; rw [← this]; rfl
          have HKQ : Hid (K = q) := Lib.hid (by have h := HDW.out; rw [dwn_hit hask] at h; exact h.symm)
          clear hask HAK HDW
          have HRQ : Hid (remD Z f n (d + 1) = m) := Lib.hid (by rw [HRS.out, HKQ.out, ← HP.out, HM.out])
          have HOQ := HOS
          rw [HKQ.out] at HOQ
          go_wp2_with fail
          refine region_kept wy.heap.size (by kernel_rfl) (by kernel_rfl) ?_
          repeat (go_big_quiet_step (fail))
          refine wpQuiet_nil ?_
          intro w5 hb5
          have HB5 := Lib.hid (HBB.out.trans (hb5.mono HBB.out.size))
          have ht5 := HTT.out.next hb5
          have HT5 : Hid (Tb (w5.setCell ⟨w1.heap.size, j, none⟩ (.int .i64 (q : Int))) w1.heap.size 3 f.length (outD Z f n (d + 1))) := Lib.hid (by
            have h := ht5.set j (.int .i64 (q : Int))
            rw [HOQ.out] at h; exact h)
          have HB6 := Lib.hid (HB5.out.setCell (p := ⟨w1.heap.size, j, none⟩) (Nat.le_refl _) (.int .i64 (q : Int)))
          have s1 := ht5.cell (j := j) hjl
          have s2 := ht5.free j
          have s3 := ht5.lt
          have s4 := (HB5.out.cell (p := ⟨b, off + j * 2, none⟩) hbl).trans HC0.out
          have s5 : b ≠ w1.heap.size := by omega
          clear hb5 x0 x1 x2 x3 x4 ht5
          go_wp2
          go_roundw
          case rel => exact ⟨d + 1, by omega, by rw [HRQ.out], by rw [HNXT.out], HT5.out, HB6.out⟩
          case measure => simp [intOf] <;> omega
    · obtain rfl : d = f.length := by omega
      have hm1 : (f.length : Int) - 1 - (f.length : Int) = -1 := by omega
      have hL := ruL_len Z f n
      have HO9 : Hid (wr.ownsRow w.heap.size 3 1 (.slice (some ⟨w1.heap.size, 0, none⟩) f.length f.length) (ruL Z f n).length (intsZ (ruL Z f n))) := Lib.hid (by
        have h := Tb.own (l := ruL Z f n) (base := w.heap.size) (b := w1.heap.size) (t := 3) (f := outD Z f n f.length) (w := wr) (by rw [hL]; exact ht) HB1.out.size (by rw [hL]; unfold maxLen; omega) (fun j hj => by
          unfold outD; rw [if_pos (by omega), ruL_get])
        rw [hL] at h ⊢; exact h)
      have HB9 := Lib.hid (HB1.out.trans (hb.mono HB1.out.size))
      clear ht hb
      rw [hm1]
      go_wp2
      go_ret2
      exact ⟨_, ret_vb HY.out.2.symm, HB9.out, by rw [HY.out.1]; exact HO9.out⟩
end Go.Proofs.Ytljakcfdjcjdbaa

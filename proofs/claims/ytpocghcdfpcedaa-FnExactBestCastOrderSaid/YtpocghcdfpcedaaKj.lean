/-
  The contract of impl.ChangesIn: it answers what the plain words here say and changes nothing that was there.
-/
import Derived.Test.YtpocghcdfpcedaaKi
namespace Go.Proofs.Ytpocghcdfpcedaa
open Go.RowKit
set_option linter.unusedVariables false

set_option maxRecDepth 100000 in
set_option maxHeartbeats 4000000 in
theorem implChangesIn_any (m : Mc) (f : List Ca) (A : Option Addr) (c : Nat) (o : List Int) (B : Option Addr) (d : Nat) (w : World) (hf : CasIn w A f) (hn : f.length ≤ 1048576) (hs : IntsIn w B o) (hk : o.length ≤ 1048576) :
    Calls Try.prog 30 #[.agg #[.int .i64 m.bod, .int .i64 m.hou, .int .i64 m.cha], .slice A f.length c, .slice B o.length d] w fun e w' => e = .returned (.tuple #[.int .i64 (chV m f o), .bool (askB m f o)]) ∧ Below w.heap.size w w' := by
  have HF := Lib.hid hf; have HS := Lib.hid hs; clear hf hs
  have HA : Hid (Below w.heap.size w (w.alloc (.cells #[.int .i64 m.bod, .int .i64 m.hou, .int .i64 m.cha] 32))) := Lib.hid ((Below.refl _ _).alloc (Nat.le_refl _) _)
  have HM : Hid (McAt (w.alloc (.cells #[.int .i64 m.bod, .int .i64 m.hou, .int .i64 m.cha] 32)) w.heap.size 32 m) := Lib.hid (McAt.new _ _ _)
  go_enter Try.func30, Try.ntmps30
  go_wp2_with fail
  refine (implIsMachine_any m _).mono ?_
  rintro e w1 ⟨rfl, hb1⟩
  have HB1 := Lib.hid (HA.out.trans (hb1.mono HA.out.size))
  have HM1 := Lib.hid (HM.out.next hb1)
  clear hb1 HA HM
  cases hg : goodMc m
  · have HV : Hid (askB m f o = false) := Lib.hid (by unfold askB; rw [hg]; rfl)
    clear hg
    go_wp2
    refine bodyPost_ret (v := .tuple #[.int .i64 (0), .bool false]) (by simp [results, Try.results30, go_sem]) rfl ?_
    exact ⟨ret_ib (ot_no HV.out).2.symm HV.out.symm, HB1.out⟩
  have HG := Lib.hid hg; clear hg
  go_wp2_with fail
  refine (implAreCastings_any f A c _ (HF.out.below HB1.out (Nat.le_refl _)) hn).mono ?_
  rintro e w2 ⟨rfl, hb2⟩
  have HB2 := Lib.hid (HB1.out.trans (hb2.mono HB1.out.size))
  have HM2 := Lib.hid (HM1.out.next hb2)
  clear hb2 HB1 HM1
  cases hg : goodL f
  · have HV : Hid (askB m f o = false) := Lib.hid (by unfold askB; rw [hg]; simp)
    clear hg
    go_wp2
    refine bodyPost_ret (v := .tuple #[.int .i64 (0), .bool false]) (by simp [results, Try.results30, go_sem]) rfl ?_
    exact ⟨ret_ib (ot_no HV.out).2.symm HV.out.symm, HB2.out⟩
  have h8 := (goodL_all hg).2
  have HL := Lib.hid hg; clear hg
  go_wp2_with fail
  refine (isCastOrder_any f A c o B d _ h8 (HS.out.below HB2.out (Nat.le_refl _)) hk).mono ?_
  rintro e w3 ⟨rfl, hb3⟩
  have HB3 := Lib.hid (HB2.out.trans (hb3.mono HB2.out.size))
  have HM3 := Lib.hid (HM2.out.next hb3)
  clear hb3 HB2 HM2
  cases hg : ordB f o
  · have HV : Hid (askB m f o = false) := Lib.hid (by unfold askB; rw [hg]; simp)
    clear hg
    go_wp2
    refine bodyPost_ret (v := .tuple #[.int .i64 (0), .bool false]) (by simp [results, Try.results30, go_sem]) rfl ?_
    exact ⟨ret_ib (ot_no HV.out).2.symm HV.out.symm, HB3.out⟩
  have HAS : Hid (askB m f o = true) := Lib.hid (by unfold askB; rw [HG.out, HL.out, hg]; rfl)
  have HO := Lib.hid (askB_all HAS.out).2.2
  have HRK := Lib.hid (run_ok HG.out HL.out HO.out)
  clear hg
  go_wp2
  go_loopw [8, 27] (fun n i wr => ∃ k : Nat, k ≤ o.length ∧ i = .int .i64 k ∧ n = .int .i64 (run m f (o.take k)).n ∧ McAt wr w.heap.size 32 (run m f (o.take k)).mc ∧ Below w.heap.size w wr) (fun _ i _ => o.length - (intOf i).toNat)
  case atStart => exact ⟨0, Nat.zero_le _, rfl, rfl, HM3.out, HB3.out⟩
  case round =>
    obtain ⟨k, hkk, rfl, rfl, hmc, hb⟩ := hrel
    have HM := Lib.hid hmc; have HB := Lib.hid hb
    clear hmc hb
    by_cases hlt : k < o.length
    · obtain ⟨j, hj, hjl⟩ := HO.out k hlt
      obtain ⟨b, off, rfl, hbl, hc⟩ := HF.out (by omega)
      have HCJ := Lib.hid (cas_at hbl (hc j hjl))
      obtain ⟨b', off', rfl, hbl', hc'⟩ := HS.out (by omega)
      have hco := hc' k hlt
      rw [← HB.out.cell (p := ⟨b', off' + k, none⟩) hbl', hj] at hco
      clear hc hc'
      have HRS := Lib.hid (run_succ m f hlt)
      have HAX := Lib.hid (atC_at hjl)
      have HGX := Lib.hid (goodL_at HL.out hjl)
      obtain ⟨hgs, hts, hns⟩ := HRK.out k hkk
      have HGS := Lib.hid hgs
      clear hgs
      have HJ := Lib.hid hj; clear hj
      generalize f[j] = x at *
      generalize run m f (o.take k) = S at *
      have hjl1 : (j : Int) < (f.length : Int) := by omega
      have hjl0 : (0 : Int) ≤ (j : Int) := by omega
      obtain ⟨hx0, hx1⟩ := HCJ.out wr HB.out
      have hbw : b < wr.heap.size := Nat.lt_of_lt_of_le hbl HB.out.size
      have kx0 := KeptW.cell hx0 hbw; have kx1 := KeptW.cell hx1 hbw
      obtain ⟨m0, m1, m2⟩ := HM.out.kept (B := wr.heap.size) HM.out.lt
      clear hx0 hx1
      go_wp2_with fail
      refine region_kept wr.heap.size (by kernel_rfl) (by kernel_rfl) ?_
      repeat (go_big_quiet_step (fail))
      refine wpQuiet_nil ?_
      intro w4 hb1
      have HB1 := Lib.hid (HB.out.trans (hb1.mono HB.out.size))
      have HM1 := Lib.hid (HM.out.next hb1)
      clear kx0 kx1 m0 m1 m2 hb1 HM HB hco
      by_cases hbod : x.bod = S.mc.bod
      · have hn1 : (x.bod != S.mc.bod) = false := by simp [hbod]
        have HMC : Hid (S.mc = (run m f (o.take (k + 1))).mc) := Lib.hid (by rw [HRS.out, HJ.out]; unfold stp; rw [HAX.out]; show _ = nextM S.mc x; unfold nextM; rw [hbod])
        have HN1 : Hid (Value.int .i64 S.n = .int .i64 (run m f (o.take (k + 1))).n) := Lib.hid (by rw [HRS.out, HJ.out]; unfold stp; rw [HAX.out]; show _ = Value.int .i64 (S.n + if x.bod = S.mc.bod then 0 else 1); rw [if_pos hbod, Int.add_zero])
        clear hbod
        go_wp2
        go_roundw
        case rel => exact ⟨k + 1, by omega, by go_num, HN1.out, by rw [← HMC.out]; exact HM1.out, HB1.out⟩
        case measure => simp [intOf]; omega
      · have hn1 : (x.bod != S.mc.bod) = true := by simp [hbod]
        have HMC : Hid ((⟨x.bod, S.mc.hou, S.mc.cha⟩ : Mc) = (run m f (o.take (k + 1))).mc) := Lib.hid (by rw [HRS.out, HJ.out]; unfold stp; rw [HAX.out]; rfl)
        have HN1 : Hid (Value.int .i64 (S.n + 1) = .int .i64 (run m f (o.take (k + 1))).n) := Lib.hid (by rw [HRS.out, HJ.out]; unfold stp; rw [HAX.out]; show _ = Value.int .i64 (S.n + if x.bod = S.mc.bod then 0 else 1); rw [if_neg hbod])
        have HM2 := Lib.hid (HM1.out.put0 x.bod)
        have HB2 := Lib.hid (HB1.out.setCell (p := ⟨w.heap.size, 0, none⟩) (Nat.le_refl _) (.int .i64 x.bod))
        obtain ⟨hx0, hx1⟩ := HCJ.out w4 HB1.out
        obtain ⟨m0, m1, m2⟩ := HM1.out.cells
        have mf0 := HM1.out.free 0
        clear hbod
        go_wp2
        go_roundw
        case rel => exact ⟨k + 1, by omega, by go_num, HN1.out, by rw [← HMC.out]; exact HM2.out, HB2.out⟩
        case measure => simp [intOf]; omega
    · obtain rfl : k = o.length := by omega
      have HV := Lib.hid (ot_yes HAS.out)
      rw [List.take_length]
      generalize (run m f o).n = T at *
      go_wp2
      refine bodyPost_ret (v := .tuple #[.int .i64 (T), .bool true]) (by simp [results, Try.results30, go_sem]) rfl ?_
      exact ⟨ret_ib HV.out.2.symm HAS.out.symm, HB.out⟩
end Go.Proofs.Ytpocghcdfpcedaa

/-
  The contract of impl.narrowestSteps: it answers a new row with the step of each place, and changes nothing that was there.
-/
import Derived.Test.YtacphcpjppkniaaNar
namespace Go.Proofs.Ytacphcpjppkniaa
open Go.RowKit
set_option linter.unusedVariables false

theorem info75 : (Try.prog.info? 75).map (fun i => (i.zero, i.size, i.bytes)) = some (some (.agg #[.bool false, .int .i64 0, .int .i64 0]), 3, 24) := by kernel_rfl
theorem run_make75 (n : Nat) (hn : n ≤ 16) (w : World) :
    (Instr.makeSlice 72 (.int .i64 ((n : Int) + 1)) (.int .i64 ((n : Int) + 1))).run Try.prog w = .ok (.slice (some ⟨w.heap.size, 0, none⟩) (n + 1) (n + 1)) (w.alloc (.cells (madeCells #[.bool false, .int .i64 0, .int .i64 0] ((n + 1) * 3)) 75)) := by
  obtain ⟨i0, hi, hz0, hz1, hz2⟩ := info_parts info75
  have h := run_make (P := Try.prog) w 72 75 i0 _ Try.underlying72 hi hz0 .i64 .i64 ((n : Int) + 1) ((n : Int) + 1) (by omega) (Int.le_refl _) (by rw [hz2]; omega) (by omega)
  rw [hz1, show ((n : Int) + 1).toNat = n + 1 from by omega] at h
  exact h
theorem hasPrefix_is (t c : ByteArray) (b : Bool) (w : World) (ht : t.size ≤ maxLen) (hc : c.size ≤ maxLen) (h : Hid (preB t c = b)) :
    Calls Try.prog 78 #[.string t, .string c] w fun e w' => e = .returned (.bool b) ∧ w = w' := by
  have := hasPrefix_any t c w ht hc; rw [h.out] at this; exact this
theorem updW_self (T : Nat → Option (List Nat)) (p : Nat) (o : Option (List Nat)) : updW T p o p = o := by simp [updW]
theorem updW_other {T : Nat → Option (List Nat)} {p q : Nat} (o : Option (List Nat)) (h : q ≠ p) : updW T p o q = T q := by simp [updW, h]
theorem updW_twice (T : Nat → Option (List Nat)) (p : Nat) (o o' : Option (List Nat)) : updW (updW T p o) p o' = updW T p o' := by funext q; unfold updW; split <;> rfl
theorem updW_none {T : Nat → Option (List Nat)} {p : Nat} (h : T p = none) : updW T p none = T := by funext q; unfold updW; split <;> simp_all

set_option maxRecDepth 100000 in
set_option maxHeartbeats 1000000 in
theorem steps_any (f : List (ByteArray × Int)) (A : Option Addr) (cap : Nat) (s : ByteArray) (w : World) (hf : SortsIn w 0 A f) (hF : Font f) (hs : s.size ≤ 16) :
    Calls Try.prog 59 #[.slice A f.length cap, .string s] w fun e w' =>
      e = .returned (.slice (some ⟨w.heap.size, 0, none⟩) (s.size + 1) (s.size + 1)) ∧ Below w.heap.size w w' ∧ StepTab f w' w.heap.size (s.size + 1) (tabW f s s.size) := by
  have HS := Lib.hid hf; clear hf
  have hl32 : f.length ≤ 32 := hF.2.2
  have HF := Lib.hid hF; clear hF
  have hmk := run_make75 s.size hs w
  have hst := StepTab.start f w (s.size + 1)
  have hb0 := (Below.refl w.heap.size w).alloc (Nat.le_refl _) (.cells (madeCells #[.bool false, .int .i64 0, .int .i64 0] ((s.size + 1) * 3)) 75)
  generalize w.alloc (.cells (madeCells #[.bool false, .int .i64 0, .int .i64 0] ((s.size + 1) * 3)) 75) = W1 at *
  obtain ⟨g, hg⟩ : ∃ g, g = w.heap.size := ⟨_, rfl⟩
  rw [← hg] at hmk hst
  rw [← hg]
  have hgw : w.heap.size ≤ g := by omega
  have HGW := Lib.hid hg; clear hg
  have hc0 := (hst.at_ (p := s.size) (by omega)).1
  have hfz := hst.free (i := s.size * 3)
  have HT := Lib.hid hst.end_
  have HB := Lib.hid (hb0.setCell (p := ⟨g, s.size * 3, none⟩) (by show _ ≤ g; omega) (.bool true))
  clear hst hb0
  go_enter Try.func59, Try.ntmps59
  go_wp2
  go_loopw [6] (fun a wr => ∃ (k : Nat), k ≤ s.size ∧ a = .int .i64 ((s.size : Int) - 1 - (k : Int)) ∧ StepTab f wr g (s.size + 1) (tabW f s k) ∧ Below w.heap.size w wr) (fun a _ => (intOf a + 1).toNat)
  case atStart => exact ⟨0, Nat.zero_le _, by simp, HT.out, HB.out⟩
  case round =>
    clear HT HB hc0 hfz hmk
    obtain ⟨k, hk, rfl, ht, hb⟩ := hrel
    by_cases hks : k < s.size
    · obtain ⟨p, hp⟩ : ∃ p, s.size = p + (k + 1) := ⟨s.size - (k + 1), by omega⟩
      have hpi : (s.size : Int) - 1 - (k : Int) = (p : Int) := by omega
      rw [hpi]
      have HN : Hid (tabW f s k p = none) := tabW_none (f := f) (s := s) (p := p) (by omega) (by omega)
      have HSU := Lib.hid (tabW_succ f s k p (by omega))
      have HT : Hid (StepTab f wr g (s.size + 1) (updW (tabW f s k) p (stepW f s p (tabW f s k) 0))) := by
        show StepTab _ _ _ _ _
        rw [show stepW f s p (tabW f s k) 0 = none from rfl, updW_none HN.out]; exact ht
      clear ht
      have HCH := Lib.hid (tabW_chain (s := s) HF.out k (by omega))
      generalize tabW f s k = T at *
      have hpl : p < s.size := by omega
      have HPS := Lib.hid hp
      clear hp hpi
      go_wp2
      go_loopw [29] (fun i wr => ∃ (j : Nat), j ≤ f.length ∧ i = .int .i64 j ∧ StepTab f wr g (s.size + 1) (updW T p (stepW f s p T j)) ∧ Below w.heap.size w wr) (fun i _ => f.length - (intOf i).toNat)
      case atStart => exact ⟨0, Nat.zero_le _, rfl, HT.out, hb⟩
      case round =>
        clear HT hb
        obtain ⟨j, hj, rfl, ht, hb⟩ := hrel
        by_cases hlt : j < f.length
        · obtain ⟨b, off, rfl, _, hbl, hc⟩ := HS.out (by omega)
          obtain ⟨hc0, hc1⟩ := hc j hlt
          clear hc
          rw [← hb.cell (p := ⟨b, off + j * 2, none⟩) hbl] at hc0
          rw [← hb.cell (p := ⟨b, off + j * 2 + 1, none⟩) hbl] at hc1
          have hw54 := HF.out.width hlt
          have hlc := lenC_pos HF.out hlt
          have HST : Hid (stepW f s p T (j + 1) = candW f s p j (T (p + lenC f j)) (stepW f s p T j)) := rfl
          have hcb : codeB0 f j = f[j].1 := codeB0_of hlt
          have hlen : lenC f j = f[j].1.size := by unfold lenC; rw [hcb]
          rw [hlen] at hlc
          have hmx : f[j].1.size ≤ maxLen := by unfold maxLen; omega
          have hmr : (s.extract p s.size).size ≤ maxLen := by rw [ByteArray.size_extract]; unfold maxLen; omega
          go_wp2_with fail
          obtain ⟨W0, hW0⟩ : ∃ W0 : World, W0 = wr.alloc (.cells #[.string f[j].1, .int .i64 f[j].2] 39) := ⟨_, rfl⟩
          rw [← hW0]
          have hs0 : W0.cell? ⟨wr.heap.size, 0, none⟩ = some (.string f[j].1) := by rw [hW0]; simp
          have hs1 : W0.cell? ⟨wr.heap.size, 1, none⟩ = some (.int .i64 f[j].2) := by rw [hW0]; simp
          have hb0 : Below w.heap.size w W0 := by rw [hW0]; exact hb.alloc hb.size _
          have ht0 : StepTab f W0 g (s.size + 1) (updW T p (stepW f s p T j)) := by rw [hW0]; exact ht.below ((Below.refl _ _).alloc (Nat.le_refl _) _)
          have hz0 : wr.heap.size < W0.heap.size := by rw [hW0]; simp
          clear hc0 hc1 hW0 ht hb
          have hx0 := KeptW.cell hs0 hz0
          generalize wr.heap.size = X at *
          cases hv : stands f s p j
          · have HV : Hid (preB (s.extract p s.size) f[j].1 = false) := by
              show _ = _
              rw [← hcb]; exact hv
            have HC : Hid (stepW f s p T (j + 1) = stepW f s p T j) := by
              show _ = _
              rw [HST.out]; unfold candW; rw [hv]; rfl
            clear hv
            refine region_kept W0.heap.size (by kernel_rfl) (by kernel_rfl) ?_
            repeat (go_big_quiet_step ((go_at_call 78; exact kept_same _ (hasPrefix_is _ _ _ _ hmr hmx HV))))
            refine wpQuiet_nil ?_
            intro w1 hb1
            have hb' : Below w.heap.size w w1 := hb0.trans (hb1.mono hb0.size)
            have HP : Hid (StepTab f w1 g (s.size + 1) (updW T p (stepW f s p T (j + 1)))) := by
              show StepTab _ _ _ _ _
              rw [HC.out]; exact ht0.below hb1
            clear hb0 hb1 hx0 hs0 hs1 hz0 ht0
            go_wp2
            go_roundw
            case rel => exact ⟨j + 1, by omega, by go_num, HP.out, hb'⟩
            case measure => simp [intOf]; omega
          · have HV : Hid (preB (s.extract p s.size) f[j].1 = true) := by
              show _ = _
              rw [← hcb]; exact hv
            have hle := stands_le (by omega) hv
            rw [hlen] at hle
            have HSV := Lib.hid hv; clear hv
            refine region_kept W0.heap.size (by kernel_rfl) (by kernel_rfl) ?_
            repeat (go_big_quiet_step ((go_at_call 78; exact kept_same _ (hasPrefix_is _ _ _ _ hmr hmx HV))))
            refine wpQuiet_nil ?_
            intro w1 hb1
            have hb' : Below w.heap.size w w1 := hb0.trans (hb1.mono hb0.size)
            have hs0' : w1.cell? ⟨X, 0, none⟩ = some (.string f[j].1) := (hb1.cell hz0).trans hs0
            have hs1' : w1.cell? ⟨X, 1, none⟩ = some (.int .i64 f[j].2) := (hb1.cell hz0).trans hs1
            have hz1 : X < w1.heap.size := Nat.lt_of_lt_of_le hz0 hb1.size
            have ht1 := ht0.below hb1
            clear hb0 hb1 hx0 hs0 hs1 hz0 ht0
            have hgl := ht1.lt
            obtain ⟨he0, he1, he2⟩ := ht1.at_ (p := p + f[j].1.size) (by omega)
            obtain ⟨hp0, hp1, hp2⟩ := ht1.at_ (p := p) (by omega)
            rw [updW_other _ (by omega)] at he0 he1 he2
            rw [updW_self] at hp0 hp1 hp2
            rw [hlen] at HST
            have hch := HCH.out (p + f[j].1.size)
            have HCM : Hid (∀ l, T (p + f[j].1.size) = some l → (∀ i ∈ l, i < f.length) ∧ p + f[j].1.size + l.length ≤ s.size) := by
              show ∀ _, _
              exact fun l hT => HCH.out.mem HF.out l _ hT
            have HCU : Hid (∀ c, stepW f s p T j = some c → 0 ≤ wideF f c ∧ wideF f c ≤ 864) := by
              show ∀ _, _
              intro c hc
              obtain ⟨i', r', e1, e2, e3, e4⟩ := stepW_some hc
              have hm := HCH.out.mem HF.out r' _ e4
              have hi' : i' < f.length := by omega
              subst e1
              have := wideF_bound HF.out (i' :: r') (fun x hx => by
                rcases List.mem_cons.1 hx with rfl | hx
                · exact hi'
                · exact hm.1 x hx)
              have hlc' := lenC_pos HF.out hi'
              simp only [List.length_cons] at this
              have := hm.2
              omega
            clear hch
            have HSET : Hid (∀ r, StepTab f (((w1.setCell ⟨g, p * 3, none⟩ (.bool true)).setCell ⟨g, p * 3 + 1, none⟩ (.int .i64 (j : Int))).setCell ⟨g, p * 3 + 2, none⟩ (.int .i64 (wideF f (j :: r)))) g (s.size + 1) (updW T p (some (j :: r)))) := by
              show ∀ _, _
              intro r
              have := ht1.set (i := j) (r := r) (p := p) (by omega)
              rw [updW_twice] at this
              exact this
            have HWJ : Hid (∀ r, wideF f (j :: r) = f[j].2 + wideF f r) := by
              show ∀ _, _
              intro r
              show widthAt f j + _ = _
              rw [widthAt_of hlt]
            have hf0 := ht1.free (i := p * 3)
            have hf1 := ht1.free (i := p * 3 + 1)
            have hf2 := ht1.free (i := p * 3 + 2)
            cases ho : T (p + f[j].1.size) with
            | none =>
              rw [ho] at he0 he1 he2 HST
              simp only [Option.isSome, headW, widthW] at he0 he1 he2
              have HC : Hid (stepW f s p T (j + 1) = stepW f s p T j) := by
                show _ = _
                rw [HST.out]; unfold candW; rw [HSV.out]; rfl
              have HP := Lib.hid (show StepTab f (w1.alloc (.cells #[.bool false, .int .i64 0, .int .i64 0] 75)) g (s.size + 1) (updW T p (stepW f s p T (j + 1))) from by
                rw [HC.out]; exact ht1.below ((Below.refl _ _).alloc (Nat.le_refl _) _))
              have HB := Lib.hid (hb'.alloc hb'.size (.cells #[.bool false, .int .i64 0, .int .i64 0] 75))
              have HO := Lib.hid ho
              clear ho ht1 hb' hp0 hp1 hp2
              go_wp2
              go_roundw
              case rel => exact ⟨j + 1, by omega, by go_num, HP.out, HB.out⟩
              case measure => simp [intOf]; omega
            | some r =>
              have hrm := HCM.out r ho
              have hwr := wideF_bound HF.out r hrm.1
              have hrl := hrm.2
              rw [ho] at he0 he1 he2 HST
              simp only [Option.isSome, widthW] at he0 he1 he2
              generalize headW (some r) = hd at *
              have HO := Lib.hid ho
              clear ho HCM hrm
              have hw0 := hwr.1
              have hw1 : wideF f r ≤ 864 := by have := hwr.2; omega
              have HWR := Lib.hid (HWJ.out r)
              clear hwr
              generalize hwv : wideF f r = wv at *
              have HWV := Lib.hid hwv; clear hwv
              cases hcu : stepW f s p T j with
              | none =>
                rw [hcu] at hp0 hp1 hp2 HST
                simp only [Option.isSome, headW, widthW] at hp0 hp1 hp2
                have HC : Hid (stepW f s p T (j + 1) = some (j :: r)) := by
                  show _ = _
                  rw [HST.out]; unfold candW; rw [HSV.out]; rfl
                have hset := HSET.out r
                rw [HWR.out] at hset
                have HP := Lib.hid (show StepTab f ((((w1.setCell ⟨g, p * 3, none⟩ (.bool true)).setCell ⟨g, p * 3 + 1, none⟩ (.int .i64 (j : Int))).setCell ⟨g, p * 3 + 2, none⟩ (.int .i64 (f[j].2 + wv))).alloc (.cells #[.bool true, .int .i64 hd, .int .i64 wv] 75)) g (s.size + 1) (updW T p (stepW f s p T (j + 1))) from by
                  rw [HC.out]; exact hset.below ((Below.refl _ _).alloc (Nat.le_refl _) _))
                have hbs := ((hb'.setCell (p := ⟨g, p * 3, none⟩) (by show _ ≤ g; omega) (.bool true)).setCell (p := ⟨g, p * 3 + 1, none⟩) (by show _ ≤ g; omega) (.int .i64 (j : Int))).setCell (p := ⟨g, p * 3 + 2, none⟩) (by show _ ≤ g; omega) (.int .i64 (f[j].2 + wv))
                have HB := Lib.hid (hbs.alloc hbs.size (.cells #[.bool true, .int .i64 hd, .int .i64 wv] 75))
                have HU := Lib.hid hcu
                clear hcu ht1 hb' hset hbs
                go_wp2
                go_roundw
                case rel => exact ⟨j + 1, by omega, by go_num, HP.out, HB.out⟩
                case measure => simp [intOf]; omega
              | some c =>
                have hcb0 := HCU.out c hcu
                rw [hcu] at hp0 hp1 hp2 HST
                simp only [Option.isSome, widthW] at hp0 hp1 hp2
                generalize headW (some c) = hd' at *
                have hc0' := hcb0.1
                have hc1' := hcb0.2
                clear hcb0 HCU
                have HU := Lib.hid hcu
                clear hcu
                generalize hcv : wideF f c = cv at *
                have HCV := Lib.hid hcv; clear hcv
                by_cases hless : f[j].2 + wv < cv
                · have HC : Hid (stepW f s p T (j + 1) = some (j :: r)) := by
                    show _ = _
                    rw [HST.out]; unfold candW; rw [HSV.out, if_pos rfl]
                    show (if wideF f (j :: r) < wideF f c then _ else _) = _
                    rw [if_pos (by rw [HWR.out, HCV.out]; exact hless)]
                  have hset := HSET.out r
                  rw [HWR.out] at hset
                  have HP := Lib.hid (show StepTab f ((((w1.setCell ⟨g, p * 3, none⟩ (.bool true)).setCell ⟨g, p * 3 + 1, none⟩ (.int .i64 (j : Int))).setCell ⟨g, p * 3 + 2, none⟩ (.int .i64 (f[j].2 + wv))).alloc (.cells #[.bool true, .int .i64 hd, .int .i64 wv] 75)) g (s.size + 1) (updW T p (stepW f s p T (j + 1))) from by
                    rw [HC.out]; exact hset.below ((Below.refl _ _).alloc (Nat.le_refl _) _))
                  have hbs := ((hb'.setCell (p := ⟨g, p * 3, none⟩) (by show _ ≤ g; omega) (.bool true)).setCell (p := ⟨g, p * 3 + 1, none⟩) (by show _ ≤ g; omega) (.int .i64 (j : Int))).setCell (p := ⟨g, p * 3 + 2, none⟩) (by show _ ≤ g; omega) (.int .i64 (f[j].2 + wv))
                  have HB := Lib.hid (hbs.alloc hbs.size (.cells #[.bool true, .int .i64 hd, .int .i64 wv] 75))
                  clear ht1 hb' hset hbs
                  go_wp2
                  go_roundw
                  case rel => exact ⟨j + 1, by omega, by go_num, HP.out, HB.out⟩
                  case measure => simp [intOf]; omega
                · have HC : Hid (stepW f s p T (j + 1) = stepW f s p T j) := by
                    show _ = _
                    rw [HST.out]; unfold candW; rw [HSV.out, if_pos rfl, HU.out]
                    show (if wideF f (j :: r) < wideF f c then _ else _) = _
                    rw [if_neg (by rw [HWR.out, HCV.out]; exact hless)]
                  have HP := Lib.hid (show StepTab f (w1.alloc (.cells #[.bool true, .int .i64 hd, .int .i64 wv] 75)) g (s.size + 1) (updW T p (stepW f s p T (j + 1))) from by
                    rw [HC.out]; exact ht1.below ((Below.refl _ _).alloc (Nat.le_refl _) _))
                  have HB := Lib.hid (hb'.alloc hb'.size (.cells #[.bool true, .int .i64 hd, .int .i64 wv] 75))
                  clear ht1 hb'
                  go_wp2
                  go_roundw
                  case rel => exact ⟨j + 1, by omega, by go_num, HP.out, HB.out⟩
                  case measure => simp [intOf]; omega
        · obtain rfl : j = f.length := by omega
          have HR : Hid (StepTab f wr g (s.size + 1) (tabW f s (k + 1))) := by
            show StepTab _ _ _ _ _
            rw [HSU.out]; exact ht
          clear ht
          go_wp2
          go_roundw
          case rel => exact ⟨k + 1, by omega, congrArg (Value.int .i64) (by have := HPS.out; omega), HR.out, hb⟩
          case measure => simp [intOf]
    · obtain rfl : k = s.size := by omega
      have hneg : ¬ (0 : Int) ≤ (s.size : Int) - 1 - (s.size : Int) := by omega
      go_wp2
      go_ret
      exact ⟨rfl, by rw [HGW.out]; exact hb, ht⟩
end Go.Proofs.Ytacphcpjppkniaa

/-
  The walk of FnMeasures: its first two parts.
-/
import Derived.Test.YtpbkeagpipipmaaUv
import Derived.Test.YtpbkeagpipipmaaUj
import Derived.Test.YtpbkeagpipipmaaUg
import Derived.Test.YtpbkeagpipipmaaUn
import Derived.Test.YtpbkeagpipipmaaUx
import Derived.Test.YtpbkeagpipipmaaUt
import Derived.Deep.LoopGhost
namespace Go.Proofs.Ytpbkeagpipipmaa
open Go.RowKit
set_option linter.unusedVariables false

theorem BytesIn.under {w w' : World} {A : Option Addr} {l : List UInt8} {B : Nat} (h : BytesIn w A l) (hb : Below B w w') (hB : w.heap.size ≤ B) : BytesIn w' A l := fun hn => by
  obtain ⟨b, off, rfl, h2, h3⟩ := h hn
  exact ⟨b, off, rfl, Nat.lt_of_lt_of_le h2 hb.size, fun k hk => (hb.cell (by show b < B; omega)).trans (h3 k hk)⟩
/-- As many words as are told have room, one more has none. -/
theorem fitF_spec (l : List Int) (r : Ru) (m : Int) : ∀ f k, k ≤ fitF l r m f k ∧ fitF l r m f k ≤ k + f ∧ (k < fitF l r m f k → fitB l r m (fitF l r m f k) = true) ∧ (fitF l r m f k < k + f → fitB l r m (fitF l r m f k + 1) = false)
  | 0, k => ⟨Nat.le_refl _, Nat.le_refl _, fun h => absurd h (Nat.lt_irrefl _), fun h => absurd h (Nat.lt_irrefl _)⟩
  | f + 1, k => by
    unfold fitF
    cases hb : fitB l r m (k + 1)
    · rw [if_neg (by decide)]
      exact ⟨Nat.le_refl _, by omega, fun h => absurd h (Nat.lt_irrefl _), fun _ => hb⟩
    · rw [if_pos rfl]
      obtain ⟨h1, h2, h3, h4⟩ := fitF_spec l r m f (k + 1)
      refine ⟨by omega, by omega, fun _ => ?_, fun h => h4 (by omega)⟩
      rcases Nat.eq_or_lt_of_le h1 with h | h
      · rw [← h]; exact hb
      · exact h3 h
theorem fitN_spec (l : List Int) (r : Ru) (m : Int) : fitN l r m ≤ l.length ∧ (0 < fitN l r m → widV (l.take (fitN l r m)) r.lst ≤ m) ∧ (fitN l r m < l.length → ¬ widV (l.take (fitN l r m + 1)) r.lst ≤ m) := by
  obtain ⟨h1, h2, h3, h4⟩ := fitF_spec l r m l.length 0
  refine ⟨by unfold fitN; omega, fun h => fitB_yes.1 (h3 h), fun h => fitB_no.1 (h4 (by unfold fitN at h; omega))⟩
set_option maxRecDepth 100000 in
set_option maxHeartbeats 8000000 in
theorem measWalk (A : Option Addr) (xs : List UInt8) (c : Nat) (Ay : Option Addr) (ys : List UInt8) (cy : Nat) (w : World) (hx : BytesIn w A xs) (hxs : xs.length ≤ maxLen) (hy : BytesIn w Ay ys) (hys : ys.length ≤ maxLen) :
    Calls Try.prog 4 #[.slice A xs.length c, .slice Ay ys.length cy] w fun e w' => e = .returned (.bool true) ∧ Below w.heap.size w w' := by
  have HX := Lib.hid hx; have HY := Lib.hid hy; clear hx hy
  have hlongs : (1048576 : Int) < wrap64 ((xs.length : Int) + (ys.length : Int)) ∨ ¬ (1048576 : Int) < wrap64 ((xs.length : Int) + (ys.length : Int)) := by omega
  go_enter Try.func4, Try.ntmps4
  by_cases hlong : (1048576 : Int) < wrap64 ((xs.length : Int) + (ys.length : Int))
  · go_wp2
    go_ret
    exact ⟨rfl, Below.refl _ _⟩
  clear hlongs
  go_wp2_with fail
  refine (drawWordsThatFit_any A c xs w HX.out hxs).mono ?_
  rintro e w1 ⟨l, B, d, r, m, rfl, hl, hcap, hmr, hin, hb⟩
  obtain ⟨w2, hbx⟩ : ∃ u : World, u = w1.alloc (.cells #[.int .i64 r.lst, .int .i64 r.nrm, .int .i64 r.mst] 25) := ⟨_, rfl⟩
  have hb2 : Below w1.heap.size w1 w2 := by rw [hbx]; exact (Below.refl _ _).alloc (Nat.le_refl _) _
  have HR : Hid (RuAt w2 w1.heap.size 25 r) := Lib.hid (by rw [hbx]; exact heap_new _ _)
  have HBX := Lib.hid hbx
  clear hbx
  have HA : Hid (Below w.heap.size w w2) := Lib.hid (hb.trans (hb2.mono hb.size))
  have HL : Hid (IntsIn w2 B l) := Lib.hid (hin.below hb2 (Nat.le_refl _))
  have hn : l.length ≤ 1048576 := by omega
  clear HX hlong hxs hb hb2 hin
  obtain ⟨wf, hwf⟩ : ∃ F, F = wfV l r m := ⟨_, rfl⟩
  obtain ⟨ak, hak⟩ : ∃ F, F = askB l r m := ⟨_, rfl⟩
  have KWi := Lib.hid (fun (W : World) (h : IntsIn W B l) => (by have h2 := implWordsThatFit_any l B d r m W h hn hcap; rw [← hwf, ← hak] at h2; exact h2 : Calls Try.prog 31 #[.slice B l.length d, .agg #[.int .i64 r.lst, .int .i64 r.nrm, .int .i64 r.mst], .int .i64 m] W fun e W' => e = .returned (.tuple #[.int .i64 wf, .bool ak]) ∧ Below W.heap.size W W'))
  have KWs := Lib.hid (fun (W : World) (h : IntsIn W B l) => (by have h2 := specWordsThatFit_any l B d r m W h hn hcap; rw [← hwf, ← hak] at h2; exact h2 : Calls Try.prog 32 #[.slice B l.length d, .agg #[.int .i64 r.lst, .int .i64 r.nrm, .int .i64 r.mst], .int .i64 m] W fun e W' => e = .returned (.tuple #[.int .i64 wf, .bool ak]) ∧ Below W.heap.size W W'))
  have EW := Lib.hid hwf; have EK := Lib.hid hak
  clear hwf hak
  obtain ⟨m0, m1, m2⟩ := HR.out.cells
  have ml := HR.out.lt
  go_wp2_with fail
  rw [← HBX.out]
  refine (KWi.out _ HL.out).mono ?_
  rintro e w3 ⟨rfl, hb⟩
  clear m0 m1 m2 ml
  replace HA := Lib.hid (HA.out.trans (hb.mono HA.out.size))
  replace HL := Lib.hid (HL.out.below hb (Nat.le_refl _)); replace HR := Lib.hid (HR.out.next hb)
  clear hb
  obtain ⟨m0, m1, m2⟩ := HR.out.cells
  have ml := HR.out.lt
  go_wp2_with fail
  refine (KWs.out _ HL.out).mono ?_
  rintro e w4 ⟨rfl, hb⟩
  clear m0 m1 m2 ml
  replace HA := Lib.hid (HA.out.trans (hb.mono HA.out.size))
  replace HL := Lib.hid (HL.out.below hb (Nat.le_refl _)); replace HR := Lib.hid (HR.out.next hb)
  clear hb KWi KWs
  have e1 : (wf != wf) = false := by simp
  go_upto_if 80 with fail
  go_cut [] (fun wx => Below w4.heap.size w4 wx)
  case first =>
    skip
    as_aux_lemma =>
      cases ak with
      | false =>
        go_wp2_with fail
        go_meet
        exact Below.refl _ _
      | true =>
        obtain ⟨gl, gr, hm1, hm2⟩ := askB_iff.1 EK.out.symm
        have hwf : wf = (fitN l r m : Int) := by rw [EW.out, wf_yes EK.out.symm]
        obtain ⟨s1, s2, s3⟩ := fitN_spec l r m
        generalize fitN l r m = N at *
        subst hwf
        have HGL := Lib.hid gl; have HGR := Lib.hid gr
        have h01 := gl.one; have h20 := gl.most
        clear gl gr
        obtain ⟨b, off, rfl, -, -⟩ := HL.out (by omega)
        have HK : Hid (Below w4.heap.size w4 w4) := Lib.hid (Below.refl _ _)
        have HRK := HR
        have HS2 := Lib.hid s2; have HS3 := Lib.hid s3
        clear s2 s3 e1
        rcases (by omega : (0 < N ∧ N < l.length) ∨ (0 < N ∧ N = l.length) ∨ (N = 0 ∧ 0 < l.length)) with ⟨hN, hM⟩ | ⟨hN, hM⟩ | ⟨hN, hM⟩
        · have hN1 : (0 : Int) < (N : Int) := by omega
          have hN0 : (0 : Int) ≤ (N : Int) := by omega
          have hM1 : (N : Int) < (l.length : Int) := by omega
          have hs1 : ∀ W, (Instr.slice 23 (.slice (some ⟨b, off, none⟩) l.length d) none (some (.int .i64 ((N : Int)))) none).run Try.prog W = .ok (.slice (some ⟨b, off, none⟩) (N) d) W := fun W => slice_headI b off l.length d (N) (by omega) hcap W
          have KB1 : Hid (∀ W, IntsIn W (some ⟨b, off, none⟩) l → Calls Try.prog 21 #[.slice (some ⟨b, off, none⟩) (N) d, .agg #[.int .i64 r.lst, .int .i64 r.nrm, .int .i64 r.mst]] W fun e W' => e = .returned (.tuple #[.int .i64 (widV (l.take (N)) r.lst), .int .i64 (widV (l.take (N)) r.mst), .bool true]) ∧ Below W.heap.size W W') := Lib.hid (fun W h => by
            have hlen : (l.take (N)).length = N := by rw [List.length_take]; omega
            have hlr : lrB (l.take (N)) r = true := lrB_iff.2 ⟨HGL.out.take (by omega) (by omega), HGR.out⟩
            have h2 := implWidthBounds_any (l.take (N)) (some ⟨b, off, none⟩) d r W (h.take (N)) (by rw [hlen]; omega)
            rw [(lr_yes hlr).2.1, (lr_yes hlr).2.2, hlr, hlen] at h2
            exact h2)
          have HV1 := Lib.hid (show ¬ m < widV (l.take N) r.lst from by have := HS2.out hN; omega)
          generalize widV (l.take (N)) r.lst = V1 at *
          generalize widV (l.take (N)) r.mst = V'1 at *
          have hj : ∀ x : KeptW w4.heap.size w4, Calls Try.prog 21 #[.slice (some ⟨b, off, none⟩) (N) d, .agg #[.int .i64 r.lst, .int .i64 r.nrm, .int .i64 r.mst]] x.at_ fun e w' => e = .returned (.tuple #[.int .i64 V1, .int .i64 V'1, .bool true]) ∧ Below x.at_.heap.size x.at_ w' := fun x => KB1.out x.at_ (HL.out.below (HK.out.trans (x.below.mono HK.out.size)) (Nat.le_refl _))
          obtain ⟨k0, k1, k2⟩ := HRK.out.kept HRK.out.lt
          go_wp2_with fail
          refine region_kept w4.heap.size (by kernel_rfl) (by kernel_rfl) ?_
          repeat (go_big_quiet_step (fail))
          go_big_quiet_step ((go_at_call 21; exact kept_call _ (Nat.le_refl _) (hj _)))
          repeat (go_big_quiet_step (fail))
          refine wpQuiet_nil ?_
          intro w5 hb
          replace HK := Lib.hid (HK.out.trans (hb.mono HK.out.size))
          replace HRK := Lib.hid (HRK.out.next hb)
          clear hb hj k0 k1 k2 hs1 KB1
          have hv1 := HV1.out
          go_wp2_with fail
          have hs2 : ∀ W, (Instr.slice 23 (.slice (some ⟨b, off, none⟩) l.length d) none (some (.int .i64 ((N : Int) + 1))) none).run Try.prog W = .ok (.slice (some ⟨b, off, none⟩) (N + 1) d) W := fun W => slice_headI b off l.length d (N + 1) (by omega) hcap W
          have KB2 : Hid (∀ W, IntsIn W (some ⟨b, off, none⟩) l → Calls Try.prog 21 #[.slice (some ⟨b, off, none⟩) (N + 1) d, .agg #[.int .i64 r.lst, .int .i64 r.nrm, .int .i64 r.mst]] W fun e W' => e = .returned (.tuple #[.int .i64 (widV (l.take (N + 1)) r.lst), .int .i64 (widV (l.take (N + 1)) r.mst), .bool true]) ∧ Below W.heap.size W W') := Lib.hid (fun W h => by
            have hlen : (l.take (N + 1)).length = N + 1 := by rw [List.length_take]; omega
            have hlr : lrB (l.take (N + 1)) r = true := lrB_iff.2 ⟨HGL.out.take (by omega) (by omega), HGR.out⟩
            have h2 := implWidthBounds_any (l.take (N + 1)) (some ⟨b, off, none⟩) d r W (h.take (N + 1)) (by rw [hlen]; omega)
            rw [(lr_yes hlr).2.1, (lr_yes hlr).2.2, hlr, hlen] at h2
            exact h2)
          have HV2 := Lib.hid (show ¬ widV (l.take (N + 1)) r.lst ≤ m from by have := HS3.out hM; omega)
          generalize widV (l.take (N + 1)) r.lst = V2 at *
          generalize widV (l.take (N + 1)) r.mst = V'2 at *
          have hj : ∀ x : KeptW w5.heap.size w5, Calls Try.prog 21 #[.slice (some ⟨b, off, none⟩) (N + 1) d, .agg #[.int .i64 r.lst, .int .i64 r.nrm, .int .i64 r.mst]] x.at_ fun e w' => e = .returned (.tuple #[.int .i64 V2, .int .i64 V'2, .bool true]) ∧ Below x.at_.heap.size x.at_ w' := fun x => KB2.out x.at_ (HL.out.below (HK.out.trans (x.below.mono HK.out.size)) (Nat.le_refl _))
          obtain ⟨k0, k1, k2⟩ := HRK.out.kept HRK.out.lt
          go_wp2_with fail
          refine region_kept w5.heap.size (by kernel_rfl) (by kernel_rfl) ?_
          repeat (go_big_quiet_step (fail))
          go_big_quiet_step ((go_at_call 21; exact kept_call _ (Nat.le_refl _) (hj _)))
          repeat (go_big_quiet_step (fail))
          refine wpQuiet_nil ?_
          intro w6 hb
          replace HK := Lib.hid (HK.out.trans (hb.mono HK.out.size))
          replace HRK := Lib.hid (HRK.out.next hb)
          clear hb hj k0 k1 k2 hs2 KB2
          have hv2 := HV2.out
          go_wp2_with fail
          go_meet
          exact HK.out
        · have hN1 : (0 : Int) < (N : Int) := by omega
          have hN0 : (0 : Int) ≤ (N : Int) := by omega
          have hM1 : ¬ (N : Int) < (l.length : Int) := by omega
          clear hM
          have hs1 : ∀ W, (Instr.slice 23 (.slice (some ⟨b, off, none⟩) l.length d) none (some (.int .i64 ((N : Int)))) none).run Try.prog W = .ok (.slice (some ⟨b, off, none⟩) (N) d) W := fun W => slice_headI b off l.length d (N) (by omega) hcap W
          have KB1 : Hid (∀ W, IntsIn W (some ⟨b, off, none⟩) l → Calls Try.prog 21 #[.slice (some ⟨b, off, none⟩) (N) d, .agg #[.int .i64 r.lst, .int .i64 r.nrm, .int .i64 r.mst]] W fun e W' => e = .returned (.tuple #[.int .i64 (widV (l.take (N)) r.lst), .int .i64 (widV (l.take (N)) r.mst), .bool true]) ∧ Below W.heap.size W W') := Lib.hid (fun W h => by
            have hlen : (l.take (N)).length = N := by rw [List.length_take]; omega
            have hlr : lrB (l.take (N)) r = true := lrB_iff.2 ⟨HGL.out.take (by omega) (by omega), HGR.out⟩
            have h2 := implWidthBounds_any (l.take (N)) (some ⟨b, off, none⟩) d r W (h.take (N)) (by rw [hlen]; omega)
            rw [(lr_yes hlr).2.1, (lr_yes hlr).2.2, hlr, hlen] at h2
            exact h2)
          have HV1 := Lib.hid (show ¬ m < widV (l.take N) r.lst from by have := HS2.out hN; omega)
          generalize widV (l.take (N)) r.lst = V1 at *
          generalize widV (l.take (N)) r.mst = V'1 at *
          have hj : ∀ x : KeptW w4.heap.size w4, Calls Try.prog 21 #[.slice (some ⟨b, off, none⟩) (N) d, .agg #[.int .i64 r.lst, .int .i64 r.nrm, .int .i64 r.mst]] x.at_ fun e w' => e = .returned (.tuple #[.int .i64 V1, .int .i64 V'1, .bool true]) ∧ Below x.at_.heap.size x.at_ w' := fun x => KB1.out x.at_ (HL.out.below (HK.out.trans (x.below.mono HK.out.size)) (Nat.le_refl _))
          obtain ⟨k0, k1, k2⟩ := HRK.out.kept HRK.out.lt
          go_wp2_with fail
          refine region_kept w4.heap.size (by kernel_rfl) (by kernel_rfl) ?_
          repeat (go_big_quiet_step (fail))
          go_big_quiet_step ((go_at_call 21; exact kept_call _ (Nat.le_refl _) (hj _)))
          repeat (go_big_quiet_step (fail))
          refine wpQuiet_nil ?_
          intro w5 hb
          replace HK := Lib.hid (HK.out.trans (hb.mono HK.out.size))
          replace HRK := Lib.hid (HRK.out.next hb)
          clear hb hj k0 k1 k2 hs1 KB1
          have hv1 := HV1.out
          go_wp2_with fail
          go_meet
          exact HK.out
        · have hN1 : ¬ (0 : Int) < (N : Int) := by omega
          have hN0 : (0 : Int) ≤ (N : Int) := by omega
          have hM1 : (N : Int) < (l.length : Int) := by omega
          have hM2 : N < l.length := by omega
          clear hN
          have hs2 : ∀ W, (Instr.slice 23 (.slice (some ⟨b, off, none⟩) l.length d) none (some (.int .i64 ((N : Int) + 1))) none).run Try.prog W = .ok (.slice (some ⟨b, off, none⟩) (N + 1) d) W := fun W => slice_headI b off l.length d (N + 1) (by omega) hcap W
          have KB2 : Hid (∀ W, IntsIn W (some ⟨b, off, none⟩) l → Calls Try.prog 21 #[.slice (some ⟨b, off, none⟩) (N + 1) d, .agg #[.int .i64 r.lst, .int .i64 r.nrm, .int .i64 r.mst]] W fun e W' => e = .returned (.tuple #[.int .i64 (widV (l.take (N + 1)) r.lst), .int .i64 (widV (l.take (N + 1)) r.mst), .bool true]) ∧ Below W.heap.size W W') := Lib.hid (fun W h => by
            have hlen : (l.take (N + 1)).length = N + 1 := by rw [List.length_take]; omega
            have hlr : lrB (l.take (N + 1)) r = true := lrB_iff.2 ⟨HGL.out.take (by omega) (by omega), HGR.out⟩
            have h2 := implWidthBounds_any (l.take (N + 1)) (some ⟨b, off, none⟩) d r W (h.take (N + 1)) (by rw [hlen]; omega)
            rw [(lr_yes hlr).2.1, (lr_yes hlr).2.2, hlr, hlen] at h2
            exact h2)
          have HV2 := Lib.hid (show ¬ widV (l.take (N + 1)) r.lst ≤ m from by have := HS3.out hM2; omega)
          generalize widV (l.take (N + 1)) r.lst = V2 at *
          generalize widV (l.take (N + 1)) r.mst = V'2 at *
          have hj : ∀ x : KeptW w4.heap.size w4, Calls Try.prog 21 #[.slice (some ⟨b, off, none⟩) (N + 1) d, .agg #[.int .i64 r.lst, .int .i64 r.nrm, .int .i64 r.mst]] x.at_ fun e w' => e = .returned (.tuple #[.int .i64 V2, .int .i64 V'2, .bool true]) ∧ Below x.at_.heap.size x.at_ w' := fun x => KB2.out x.at_ (HL.out.below (HK.out.trans (x.below.mono HK.out.size)) (Nat.le_refl _))
          obtain ⟨k0, k1, k2⟩ := HRK.out.kept HRK.out.lt
          go_wp2_with fail
          refine region_kept w4.heap.size (by kernel_rfl) (by kernel_rfl) ?_
          repeat (go_big_quiet_step (fail))
          go_big_quiet_step ((go_at_call 21; exact kept_call _ (Nat.le_refl _) (hj _)))
          repeat (go_big_quiet_step (fail))
          refine wpQuiet_nil ?_
          intro w6 hb
          replace HK := Lib.hid (HK.out.trans (hb.mono HK.out.size))
          replace HRK := Lib.hid (HRK.out.next hb)
          clear hb hj k0 k1 k2 hs2 KB2
          have hv2 := HV2.out
          go_wp2_with fail
          go_meet
          exact HK.out
  case rest =>
    have hb := hcut
    clear hcut HL HR HBX EW EK e1 hn hcap hmr hl
    replace HA := Lib.hid (HA.out.trans (hb.mono HA.out.size))
    clear hb
    generalize wc = w7 at *
    clear wc
    go_wp2_with fail
    refine (drawBestMeasure_any Ay cy ys _ (HY.out.under HA.out (Nat.le_refl _)) hys).mono ?_
    rintro e w8 ⟨l, B, d, r, y, z, rfl, hl, hcap, hyr, hzr, hin, hb⟩
    obtain ⟨w9, hbx⟩ : ∃ u : World, u = w8.alloc (.cells #[.int .i64 r.lst, .int .i64 r.nrm, .int .i64 r.mst] 25) := ⟨_, rfl⟩
    have hb2 : Below w8.heap.size w8 w9 := by rw [hbx]; exact (Below.refl _ _).alloc (Nat.le_refl _) _
    have HR : Hid (RuAt w9 w8.heap.size 25 r) := Lib.hid (by rw [hbx]; exact heap_new _ _)
    have HBX := Lib.hid hbx
    clear hbx
    replace HA : Hid (Below w.heap.size w w9) := Lib.hid (HA.out.trans ((hb.trans (hb2.mono hb.size)).mono HA.out.size))
    have HL : Hid (IntsIn w9 B l) := Lib.hid (hin.below hb2 (Nat.le_refl _))
    have hn : l.length ≤ 1048576 := by omega
    clear hb hb2 hin
    obtain ⟨bv, hbv⟩ : ∃ F, F = bmV l r y z := ⟨_, rfl⟩
    obtain ⟨one, hone⟩ : ∃ F, F = bmB l r y z := ⟨_, rfl⟩
    have KBi := Lib.hid (fun (W : World) (h : IntsIn W B l) => (by have h2 := implBestMeasure_any l B d r y z W h hn; rw [← hbv, ← hone] at h2; exact h2 : Calls Try.prog 34 #[.slice B l.length d, .agg #[.int .i64 r.lst, .int .i64 r.nrm, .int .i64 r.mst], .int .i64 y, .int .i64 z] W fun e W' => e = .returned (.tuple #[.int .i64 bv, .bool one]) ∧ Below W.heap.size W W'))
    have KBs := Lib.hid (fun (W : World) (h : IntsIn W B l) => (by have h2 := specBestMeasure_any l B d r y z W h hn; rw [← hbv, ← hone] at h2; exact h2 : Calls Try.prog 35 #[.slice B l.length d, .agg #[.int .i64 r.lst, .int .i64 r.nrm, .int .i64 r.mst], .int .i64 y, .int .i64 z] W fun e W' => e = .returned (.tuple #[.int .i64 bv, .bool one]) ∧ Below W.heap.size W W'))
    have EV := Lib.hid hbv; have EO := Lib.hid hone
    clear hbv hone
    obtain ⟨m0, m1, m2⟩ := HR.out.cells
    have ml := HR.out.lt
    go_wp2_with fail
    rw [← HBX.out]
    refine (KBi.out _ HL.out).mono ?_
    rintro e w10 ⟨rfl, hb⟩
    clear m0 m1 m2 ml
    replace HA := Lib.hid (HA.out.trans (hb.mono HA.out.size))
    replace HL := Lib.hid (HL.out.below hb (Nat.le_refl _)); replace HR := Lib.hid (HR.out.next hb)
    clear hb
    obtain ⟨m0, m1, m2⟩ := HR.out.cells
    have ml := HR.out.lt
    go_wp2_with fail
    refine (KBs.out _ HL.out).mono ?_
    rintro e w11 ⟨rfl, hb⟩
    clear m0 m1 m2 ml
    replace HA := Lib.hid (HA.out.trans (hb.mono HA.out.size))
    replace HL := Lib.hid (HL.out.below hb (Nat.le_refl _)); replace HR := Lib.hid (HR.out.next hb)
    clear hb KBi KBs
    have e1 : (bv != bv) = false := by simp
    go_upto_if 151 with fail
    go_cut [] (fun wx => Below w11.heap.size w11 wx)
    case first =>
      skip
      as_aux_lemma =>
        cases one with
        | false =>
          go_wp2_with fail
          go_meet
          exact Below.refl _ _
        | true =>
          have hab : abB y z = true := by
            have h := EO.out
            unfold bmB at h
            exact (Bool.and_eq_true_iff.1 h.symm).1
          obtain ⟨h1, h2⟩ := bm_in (l := l) (r := r) hab
          have hfd : fdV l r y (bmN y z) = true := by rw [← h2]; exact EO.out.symm
          have hbv : bv = bsV l r y (bmN y z) := by rw [EV.out]; exact h1
          obtain ⟨i1, i2, i3, i4, i5⟩ := bm_inv l r y (bmN y z) hfd
          rw [← hbv] at i1 i2 i3 i4 i5
          obtain ⟨N, hN⟩ : ∃ N, N = bmN y z := ⟨_, rfl⟩
          have hNv : N = (z + 1 - y).toNat := hN
          rw [← hN] at i4 i5
          have hzy : (N : Int) = z + 1 - y := by omega
          have HI5 := Lib.hid i5
          have hbz : ¬ z < bv := by omega
          have hby : ¬ bv < y := by omega
          have KC : Hid (∀ (W : World) (q : Int), IntsIn W B l → Calls Try.prog 19 #[.slice B l.length d, .agg #[.int .i64 r.lst, .int .i64 r.nrm, .int .i64 r.mst], .int .i64 q] W fun e W' => e = .returned (.tuple #[.int .i64 (coV l r q), .bool (jsB l r q)]) ∧ Below W.heap.size W W') := Lib.hid (fun W q h => implCostOfLine_any l B d r q W h hn)
          have KB := Lib.hid (KC.out · bv)
          have hk := fun W h => KC.out W bv h
          rw [i1] at hk
          obtain ⟨cb, hcb⟩ : ∃ q, q = coV l r bv := ⟨_, rfl⟩
          rw [← hcb] at hk i5
          have HK1 := Lib.hid hk
          have HCB := Lib.hid hcb
          clear hk hcb i1 i2 i5 h1 h2 hfd hbv hN hNv hab KB e1
          have HK : Hid (Below w11.heap.size w11 w11) := Lib.hid (Below.refl _ _)
          obtain ⟨m0, m1, m2⟩ := HR.out.cells
          have ml := HR.out.lt
          go_wp2_with fail
          refine (HK1.out _ HL.out).mono ?_
          rintro e w13 ⟨rfl, hb⟩
          clear m0 m1 m2 ml
          replace HK := Lib.hid (HK.out.trans (hb.mono HK.out.size))
          have HL2 := Lib.hid (HL.out.below hb (Nat.le_refl _)); have HR2 := Lib.hid (HR.out.next hb)
          clear hb
          go_wp2
          go_loopw [28] (fun i wr => ∃ k : Nat, k ≤ N ∧ k ≤ 40 ∧ i = .int .i64 (y + (k : Int)) ∧ RuAt wr w8.heap.size 25 r ∧ Below w13.heap.size w13 wr) (fun i _ => ((z + 1) - intOf i).toNat)
          case atStart => exact ⟨0, Nat.zero_le _, Nat.zero_le _, by rw [show y + ((0 : Nat) : Int) = y from by omega], HR2.out, Below.refl _ _⟩
          case round =>
            obtain ⟨k, hk, hk4, rfl, hr, hb⟩ := hrel
            have HRR := Lib.hid hr; have HBB := Lib.hid hb
            clear hr hb
            by_cases hlt : k < N
            · have hle : y + (k : Int) ≤ z := by omega
              by_cases h40 : k < 40
              · have h40' : y + (k : Int) < y + 40 := by omega
                obtain ⟨m0, m1, m2⟩ := HRR.out.cells
                have ml := HRR.out.lt
                go_wp2_with fail
                refine (KC.out _ (y + (k : Int)) (HL2.out.below HBB.out (Nat.le_refl _))).mono ?_
                rintro e w14 ⟨rfl, hb⟩
                clear m0 m1 m2 ml
                have HB2 := Lib.hid (HBB.out.trans (hb.mono HBB.out.size))
                have HR3 := Lib.hid (HRR.out.next hb)
                have HJ5 := Lib.hid (HI5.out k hlt)
                clear hb HRR HBB
                cases hjs : jsB l r (y + (k : Int)) with
                | false =>
                  generalize coV l r (y + (k : Int)) = q at *
                  go_wp2
                  go_roundw
                  case rel => exact ⟨k + 1, by omega, by omega, by go_num, HR3.out, HB2.out⟩
                  case measure => simp [intOf]; omega
                | true =>
                  have h5 := HJ5.out hjs
                  rw [← HCB.out] at h5
                  clear HJ5 hjs
                  generalize coV l r (y + (k : Int)) = q at *
                  rcases h5 with h5 | ⟨h5, h6⟩
                  · have n1 : ¬ q < cb := by omega
                    have n2 : (q == cb) = false := by simp; omega
                    go_wp2
                    go_roundw
                    case rel => exact ⟨k + 1, by omega, by omega, by go_num, HR3.out, HB2.out⟩
                    case measure => simp [intOf]; omega
                  · have n1 : ¬ q < cb := by omega
                    have n2 : (q == cb) = true := by simp; omega
                    have n3 : ¬ y + (k : Int) < bv := by omega
                    clear h5 h6
                    go_wp2
                    go_roundw
                    case rel => exact ⟨k + 1, by omega, by omega, by go_num, HR3.out, HB2.out⟩
                    case measure => simp [intOf]; omega
              · have h40' : ¬ y + (k : Int) < y + 40 := by omega
                go_wp2
                go_meet
                exact HK.out.trans (HBB.out.mono HK.out.size)
            · have hle : ¬ y + (k : Int) ≤ z := by omega
              go_wp2
              go_meet
              exact HK.out.trans (HBB.out.mono HK.out.size)
    case rest =>
      have hb := hcut
      clear hcut HL HR HBX EV EO e1 hn hcap hyr hzr hl
      replace HA := Lib.hid (HA.out.trans (hb.mono HA.out.size))
      clear hb
      generalize wc = w12 at *
      clear wc
      go_wp2_with fail
      refine (drawSpacesFor_any Ay cy ys _ (HY.out.under HA.out (Nat.le_refl _)) hys).mono ?_
      rintro e w15 ⟨f, B, d, l, D, k, r, m, rfl, hfl, hco, hll, hso, hif, hil, hb⟩
      obtain ⟨w16, hbx⟩ : ∃ u : World, u = w15.alloc (.cells #[.int .i64 r.lst, .int .i64 r.nrm, .int .i64 r.mst] 25) := ⟨_, rfl⟩
      have hb2 : Below w15.heap.size w15 w16 := by rw [hbx]; exact (Below.refl _ _).alloc (Nat.le_refl _) _
      have HR : Hid (RuAt w16 w15.heap.size 25 r) := Lib.hid (by rw [hbx]; exact heap_new _ _)
      have HBX := Lib.hid hbx
      clear hbx
      replace HA : Hid (Below w.heap.size w w16) := Lib.hid (HA.out.trans ((hb.trans (hb2.mono hb.size)).mono HA.out.size))
      have HF : Hid (S1.SortsIn w16 0 B f) := Lib.hid (hif.below hb2 (Nat.le_refl _))
      have HD : Hid (S1.StrsIn w16 D l) := Lib.hid (hil.below hb2 (Nat.le_refl _))
      have HCO := Lib.hid hco; have HSO := Lib.hid hso
      have hnf : f.length ≤ 1048576 := by omega
      have hnl : l.length ≤ 1048576 := by omega
      clear hb hb2 hif hil hco hso
      obtain ⟨L, hL⟩ : ∃ F, F = sfL f l r m := ⟨_, rfl⟩
      obtain ⟨J, hJ⟩ : ∃ F, F = sfB f l r m := ⟨_, rfl⟩
      have hLl : L.length ≤ 1048576 := by rw [hL]; exact sfL_len f l r m
      have KSi := Lib.hid (fun (W : World) (h : S1.SortsIn W 0 B f) (h' : S1.StrsIn W D l) => (by have h2 := implSpacesFor_any f B d l D k r m W h hnf HCO.out h' HSO.out hnl; rw [← hL, ← hJ] at h2; exact h2 : Calls Try.prog 37 #[.slice B f.length d, .slice D l.length k, .agg #[.int .i64 r.lst, .int .i64 r.nrm, .int .i64 r.mst], .int .i64 m] W fun e W' => EnTo W W' e L J))
      have KSs := Lib.hid (fun (W : World) (h : S1.SortsIn W 0 B f) (h' : S1.StrsIn W D l) => (by have h2 := specSpacesFor_any f B d l D k r m W h hnf HCO.out h' HSO.out hnl; rw [← hL, ← hJ] at h2; exact h2 : Calls Try.prog 38 #[.slice B f.length d, .slice D l.length k, .agg #[.int .i64 r.lst, .int .i64 r.nrm, .int .i64 r.mst], .int .i64 m] W fun e W' => EnTo W W' e L J))
      have EL := Lib.hid hL; have EJ := Lib.hid hJ
      clear hL hJ
      obtain ⟨m0, m1, m2⟩ := HR.out.cells
      have ml := HR.out.lt
      go_wp2_with fail
      rw [← HBX.out]
      refine (KSi.out _ HF.out HD.out).mono ?_
      rintro e w17 ⟨v, T, rfl, hb, ho⟩
      obtain ⟨BPi, dPi, rfl⟩ := own_formI ho
      have HPi := Lib.hid (own_in ho)
      clear ho m0 m1 m2 ml
      replace HA := Lib.hid (HA.out.trans (hb.mono HA.out.size))
      replace HF := Lib.hid (HF.out.below hb (Nat.le_refl _)); replace HD := Lib.hid (HD.out.below hb (Nat.le_refl _)); replace HR := Lib.hid (HR.out.next hb)
      clear hb
      obtain ⟨m0, m1, m2⟩ := HR.out.cells
      have ml := HR.out.lt
      go_wp2_with fail
      refine (KSs.out _ HF.out HD.out).mono ?_
      rintro e w18 ⟨v, T, rfl, hb, ho⟩
      obtain ⟨BPs, dPs, rfl⟩ := own_formI ho
      have HPs := Lib.hid (own_in ho)
      clear ho m0 m1 m2 ml
      replace HA := Lib.hid (HA.out.trans (hb.mono HA.out.size))
      replace HF := Lib.hid (HF.out.below hb (Nat.le_refl _)); replace HD := Lib.hid (HD.out.below hb (Nat.le_refl _)); replace HR := Lib.hid (HR.out.next hb)
      replace HPi := Lib.hid (HPi.out.below hb (Nat.le_refl _))
      clear hb KSi KSs
      go_wp2_with fail
      refine (qInts_any L BPi BPs dPi dPs _ HPi.out HPs.out hLl).mono ?_
      rintro e w19 ⟨rfl, hb⟩
      replace HA := Lib.hid (HA.out.trans (hb.mono HA.out.size))
      replace HF := Lib.hid (HF.out.below hb (Nat.le_refl _)); replace HD := Lib.hid (HD.out.below hb (Nat.le_refl _)); replace HR := Lib.hid (HR.out.next hb)
      replace HPs := Lib.hid (HPs.out.below hb (Nat.le_refl _))
      clear hb HPi
      cases J with
      | false =>
        go_wp2
        go_ret
        exact ⟨rfl, HA.out⟩
      | true =>
        have hsf := EJ.out.symm
        have hal : l.length ≤ 20 ∧ allS f l = true ∧ jsB (wdL f l) r m = true := by
          unfold sfB at hsf
          have h1 := Bool.and_eq_true_iff.1 hsf
          have h2 := Bool.and_eq_true_iff.1 h1.1
          exact ⟨of_decide_eq_true h2.1, h2.2, h1.2⟩
        have HLW : Hid (L = jsL (wdL f l) r m) := Lib.hid (by rw [EL.out]; exact (sf_in r m hal.1 hal.2.1).2)
        have HJW := Lib.hid hal.2.2
        have HAL := Lib.hid hal.2.1
        have h20 := hal.1
        clear hsf hal
        obtain ⟨i0, hi, hz0, hz1, hz2⟩ := info_parts info3
        have HI := Lib.hid hi; have HZ0 := Lib.hid hz0; have HZ1 := Lib.hid hz1; have HZ2 := Lib.hid hz2
        clear hi hz0 hz1 hz2
        go_wp2
        go_loopw [39, 241] (fun v i wr => ∃ q : Nat, q ≤ l.length ∧ i = .int .i64 (q : Int) ∧ wr.ownsRow w19.heap.size 3 1 v q (intsZ ((wdL f l).take q)) ∧ Below w19.heap.size w19 wr) (fun _ i _ => l.length - (intOf i).toNat)
        case atStart => exact ⟨0, Nat.zero_le _, rfl, own_nil _ _ _ _, Below.refl _ _⟩
        case round =>
          obtain ⟨q, hq, rfl, hv, hb⟩ := hrel
          have HV := Lib.hid hv; have HB := Lib.hid hb
          clear hv hb
          by_cases hlt : q < l.length
          · obtain ⟨b0, off, rfl, hbl, hc⟩ := HD.out (by omega)
            have hc0 := hc q hlt
            rw [← HB.out.cell (p := ⟨b0, off + q, none⟩) hbl] at hc0
            clear hc
            have hoks : okS f l[q] = true := by
              have := HAL.out
              unfold allS at this
              exact List.all_eq_true.1 this _ (List.getElem_mem hlt)
            have KC : Hid (∀ W, S1.SortsIn W 0 B f → Calls Try.prog 39 #[.slice B f.length d, .string l[q]] W fun e w' => e = .returned (.tuple #[.int .i64 (wdF f l[q]), .bool true]) ∧ Below W.heap.size W w') := Lib.hid (fun W h => by
              have h2 := S1.implWidth_any f B d l[q] 0 W h hnf HCO.out (HSO.out q hlt)
              have h3 : (S1.sowF f l[q]).isSome = true := hoks
              rw [h3] at h2
              exact h2)
            have HTK := Lib.hid (wdL_take f l hlt)
            have hkl1 : (q : Int) < (l.length : Int) := by omega
            have hkl0 : (0 : Int) ≤ (q : Int) := by omega
            have hmx : q + 1 ≤ maxLen := by unfold maxLen; omega
            clear hoks
            generalize l[q]'hlt = x at *
            go_wp2_with fail
            refine (KC.out _ (HF.out.below HB.out (Nat.le_refl _))).mono ?_
            rintro e w20 ⟨rfl, hb1⟩
            have HB1 := Lib.hid (HB.out.trans (hb1.mono HB.out.size))
            have HV1 := Lib.hid (own_below HV.out hb1)
            clear hb1 hc0 HB HV KC
            generalize wdF f x = p at *
            have hwz := HB1.out.size
            go_wp2_with (at_builtin; refine wpList_append_own_at _ rfl _ _ 23 rfl w19.heap.size 3 i0 (.int .i64 0) 1 8 Try.underlying23 HI.out HZ0.out HZ1.out HZ2.out rfl (by decide) _ _ _ rfl (HV1.out.alloc _) ⟨w20.heap.size, 0, none⟩ 1 1 [.int .i64 p] rfl rfl (cell_one_new _ _ _) (by simp [Value.oneCell']) hmx (by omega) (by first | (simp; done) | (simp; omega) | omega) ?_)
            intro v' w21 hown' hgrow _ hat
            have HB5 := Lib.hid ((HB1.out.alloc HB1.out.size (.cells #[.int .i64 p] 3)).grown hgrow (by simp; omega) (fun p hp => by have := own_lt HV1.out p hp; omega))
            have HO5 : Hid (w21.ownsRow w19.heap.size 3 1 v' (q + 1) (intsZ ((wdL f l).take (q + 1)))) := by
              show World.ownsRow _ _ _ _ _ _ _
              rw [HTK.out, intsZ_snoc]; exact hown'
            clear hown' hgrow hat
            go_wp2
            go_roundw
            case rel => exact ⟨q + 1, by omega, by go_num, HO5.out, HB5.out⟩
            case measure => simp [intOf]; omega
          · obtain rfl : q = l.length := by omega
            have ho := HV.out
            rw [show (wdL f l).take l.length = wdL f l from List.take_of_length_le (by rw [wdL_len]; exact Nat.le_refl _)] at ho
            obtain ⟨V, cV, rfl, hin⟩ := own_len ho
            have HIN := Lib.hid hin
            have KJ : Hid (∀ W, IntsIn W V (wdL f l) → Calls Try.prog 15 #[.slice V l.length cV, .agg #[.int .i64 r.lst, .int .i64 r.nrm, .int .i64 r.mst], .int .i64 m] W fun e w' => EnTo W w' e L true) := Lib.hid (fun W h => by
              have h2 := implJustifyLine_any (wdL f l) V cV r m W h (by rw [wdL_len]; omega)
              rw [wdL_len] at h2
              rw [HLW.out, ← HJW.out]
              exact h2)
            have hb := HB.out
            replace HA := Lib.hid (HA.out.trans (hb.mono HA.out.size))
            replace HPs := Lib.hid (HPs.out.below hb (Nat.le_refl _)); replace HR := Lib.hid (HR.out.next hb)
            clear hb ho hin HV HB
            obtain ⟨m0, m1, m2⟩ := HR.out.cells
            have ml := HR.out.lt
            go_wp2_with fail
            refine (KJ.out _ HIN.out).mono ?_
            rintro e w22 ⟨v7, T7, rfl, hb, ho7⟩
            obtain ⟨B7, d7, rfl⟩ := own_formI ho7
            have HP7 := Lib.hid (own_in ho7)
            clear ho7 m0 m1 m2 ml
            replace HA := Lib.hid (HA.out.trans (hb.mono HA.out.size))
            replace HPs := Lib.hid (HPs.out.below hb (Nat.le_refl _))
            clear hb
            go_wp2_with fail
            refine (qInts_any L B7 BPs d7 dPs _ HP7.out HPs.out hLl).mono ?_
            rintro e w23 ⟨rfl, hb⟩
            replace HA := Lib.hid (HA.out.trans (hb.mono HA.out.size))
            clear hb
            go_wp2
            go_ret
            exact ⟨rfl, HA.out⟩
end Go.Proofs.Ytpbkeagpipipmaa

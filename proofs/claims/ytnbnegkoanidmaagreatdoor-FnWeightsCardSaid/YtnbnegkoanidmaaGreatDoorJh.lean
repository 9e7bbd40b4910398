/-
  The contract of slices.symMergeCmpFunc: the third way, and all.
-/
import Derived.Test.YtnbnegkoanidmaaGreatDoorMwc
namespace Go.Proofs.YtnbnegkoanidmaaGreatDoor
open Go.RowKit
set_option linter.unusedVariables false

theorem bool_no {t : Bool} (h : ¬ t = true) : t = false := by cases t <;> simp_all
set_option maxRecDepth 100000 in
set_option maxHeartbeats 8000000 in
theorem symMerge_main (b N c : Nat) (a m hi : Nat) (f : Nat → Rq) (w : World) (hr : RowsF w b N f) (hN : N ≤ 1000) (hhi : hi ≤ N) (hmg : Mg a m hi f) (hone : ¬ m = a + 1) (hlast : ¬ hi = m + 1) (fuel : Nat) (hfu : hi - a ≤ fuel + 1) (ih : ∀ (b N c : Nat) (a m hi : Nat) (f : Nat → Rq) (w : World), hi - a ≤ fuel → RowsF w b N f → N ≤ 1000 → hi ≤ N → Mg a m hi f → Calls Tryz.prog 81 #[.slice (some ⟨b, 0, none⟩) N c, .int .i64 (a : Int), .int .i64 (m : Int), .int .i64 (hi : Int), .func (.func 47) #[] #[]] w fun e w' => ∃ f', SortTo w w' b N f' e ∧ Same a hi f f' ∧ Srt a hi f') :
    Calls Tryz.prog 81 #[.slice (some ⟨b, 0, none⟩) N c, .int .i64 (a : Int), .int .i64 (m : Int), .int .i64 (hi : Int), .func (.func 47) #[] #[]] w fun e w' => ∃ f', SortTo w w' b N f' e ∧ Same a hi f f' ∧ Srt a hi f' := by
  have ham := hmg.am; have hmb := hmg.mb
  have HR := Lib.hid hr; have HM := Lib.hid hmg
  clear hr hmg
  have IH := Lib.hid ih; clear ih
  have hne1 : ((m : Int) - (a : Int) == 1) = false := by simp; omega
  have hne2 : ((hi : Int) - (m : Int) == 1) = false := by simp; omega
  obtain ⟨sm, hsm⟩ : ∃ s, s = a + hi := ⟨_, rfl⟩
  obtain ⟨mid, hmide⟩ : ∃ h, h = sm / 2 := ⟨_, rfl⟩
  have t1 : (a : Int) + (hi : Int) = (sm : Int) := by omega
  have t2 : (sm : Int) / 2 = (mid : Int) := by omega
  have hmid : a + hi - 1 ≤ 2 * mid ∧ 2 * mid ≤ a + hi := by omega
  have hmid1 : a < mid := by omega
  have hmid2 : mid < hi := by omega
  clear hsm hmide
  obtain ⟨n0, hn0⟩ : ∃ n, n = mid + m := ⟨_, rfl⟩
  have t3 : (mid : Int) + (m : Int) = (n0 : Int) := by omega
  obtain ⟨p, hp⟩ : ∃ p, p = n0 - 1 := ⟨_, rfl⟩
  have t4 : (n0 : Int) - 1 = (p : Int) := by omega
  have hn1 : n0 ≤ 2000 := by omega
  have hsm1 : sm ≤ 2000 := by omega
  have HP : Hid (p = mid + m - 1) := Lib.hid (by omega)
  have HN0 := Lib.hid hn0
  clear hn0 hp hone hlast
  by_cases hgt : mid < m
  · have hgti : (mid : Int) < (m : Int) := by omega
    obtain ⟨lo, hlo⟩ : ∃ l, l = n0 - hi := ⟨_, rfl⟩
    have t7 : (n0 : Int) - (hi : Int) = (lo : Int) := by have := HN0.out; omega
    have SD : Hid (Sides a m hi lo mid mid) := Lib.hid ⟨ham, hmb, hmid, .inl ⟨hgt, by have := HN0.out; omega, rfl⟩⟩
    clear hlo
    go_enter Tryz.func81, Tryz.ntmps81
    go_wp2
    go_loopw [20, 21] (fun vi vj wr => ∃ (i j : Nat), vi = .int .i64 (i : Int) ∧ vj = .int .i64 (j : Int) ∧ Bs lo mid (PM p f) i j ∧ RowsF wr b N f ∧ w.grownBy wr (some b)) (fun vi vj _ => (intOf vj - intOf vi).toNat)
    case atStart => exact ⟨lo, mid, rfl, rfl, Bs.start SD.out.le.2.1, HR.out, World.grownBy.refl _ _⟩
    case round =>
      obtain ⟨i, j, rfl, rfl, hbs, hr, hg⟩ := hrel
      have b1 := hbs.h1; have b2 := hbs.h2; have b3 := hbs.h3
      have HB := Lib.hid hbs; have HR2 := Lib.hid hr; have HG := Lib.hid hg
      have hle := SD.out.le
      clear hbs hg
      by_cases hij : i < j
      · have hiji : (i : Int) < (j : Int) := by omega
        obtain ⟨s, hs⟩ : ∃ s, s = i + j := ⟨_, rfl⟩
        obtain ⟨h, hh⟩ : ∃ h, h = s / 2 := ⟨_, rfl⟩
        have s1 : (i : Int) + (j : Int) = (s : Int) := by omega
        have s4 : (s : Int) / 2 = (h : Int) := by omega
        have hb1 : (0 : Int) ≤ (s : Int) ∧ (s : Int) < 1000000 := by omega
        have hb2 : (0 : Int) ≤ (h : Int) ∧ (h : Int) < 1000000 := by omega
        have hi1 : i ≤ h := by omega
        have hi2 : h < j := by omega
        have hhN : (h : Int) < (N : Int) := by omega
        have hhn : h < N := by omega
        have hh0 : (0 : Int) ≤ (h : Int) := by omega
        clear hs hh
        obtain ⟨y, hy⟩ : ∃ y, y = p - h := ⟨_, rfl⟩
        have hin := SD.out.in_ (c := h) (by omega) (by omega)
        have t5 : (p : Int) - (h : Int) = (y : Int) := by have := HP.out; omega
        have HY := Lib.hid hy
        have yN : y < N := by have := HP.out; omega
        have hyN : (y : Int) < (N : Int) := by omega
        have hy0 : (0 : Int) ≤ (y : Int) := by omega
        have hyw : IntKind.i64.wrap (y : Int) = (y : Int) := i64_id _ ⟨hy0, by omega⟩
        have MONO : Hid (MonoP lo mid (PM p f)) := Lib.hid (by rw [HP.out]; exact pm_mono HM.out SD.out)
        clear hy hin hle
        obtain ⟨x0, x1⟩ := HR2.out.at_ yN
        obtain ⟨y0, y1⟩ := HR2.out.at_ hhn
        have hbl := HR2.out.lt
        have k0 := KeptW.cell x0 hbl; have k1 := KeptW.cell x1 hbl; have k2 := KeptW.cell y0 hbl; have k3 := KeptW.cell y1 hbl
        clear x0 x1 y0 y1
        obtain ⟨q, hq⟩ : ∃ q, cmpI (f h).v (f y).v = q := ⟨_, rfl⟩
        have HQ := Lib.hid hq
        by_cases hls : (f h).v < (f y).v
        · have hqn : q < 0 := (by rw [← hq]; exact cmp_neg.2 hls); have hqd : decide (q < 0) = true := decide_eq_true hqn
          have HB2 : Hid (Bs lo mid (PM p f) i h) := Lib.hid (HB.out.left MONO.out hi1 hi2 (by unfold PM; rw [← HY.out]; exact hls))
          clear hq hls
          go_wp2_with fail
          refine region_kept wr.heap.size (by kernel_rfl) (by kernel_rfl) ?_
          repeat (go_big_quiet_step (fail))
          go_big_quiet_step ((go_at_call 47; exact kept_call _ (Nat.le_refl _) (rowCmp_is (f y) (f h) q _ HQ)))
          repeat (go_big_quiet_step (fail))
          refine wpQuiet_nil ?_
          intro w3 hb3
          have HR3 := Lib.hid (HR2.out.below hb3)
          have HG3 := Lib.hid (grown_below HG.out hb3)
          clear k0 k1 k2 k3 hb3
          go_wp2
          go_roundw
          case rel => exact ⟨i, h, rfl, rfl, HB2.out, HR3.out, HG3.out⟩
          case measure => simp [intOf]; omega
        · have hqn : ¬ q < 0 := (by rw [← hq]; exact fun h => hls (cmp_neg.1 h)); have hqd : decide (q < 0) = false := decide_eq_false hqn
          have HB2 : Hid (Bs lo mid (PM p f) (h + 1) j) := Lib.hid (HB.out.right MONO.out hi1 hi2 (by unfold PM; rw [← HY.out]; exact hls))
          clear hq hls
          go_wp2_with fail
          refine region_kept wr.heap.size (by kernel_rfl) (by kernel_rfl) ?_
          repeat (go_big_quiet_step (fail))
          go_big_quiet_step ((go_at_call 47; exact kept_call _ (Nat.le_refl _) (rowCmp_is (f y) (f h) q _ HQ)))
          repeat (go_big_quiet_step (fail))
          refine wpQuiet_nil ?_
          intro w3 hb3
          have HR3 := Lib.hid (HR2.out.below hb3)
          have HG3 := Lib.hid (grown_below HG.out hb3)
          clear k0 k1 k2 k3 hb3
          go_wp2
          go_roundw
          case rel => exact ⟨h + 1, j, by go_num, rfl, HB2.out, HR3.out, HG3.out⟩
          case measure => simp [intOf]; omega
      · obtain rfl : i = j := by omega
        have hiji : ¬ (i : Int) < (i : Int) := by omega
        obtain ⟨hbd, hhv⟩ := mg_main HM.out SD.out (by have h := HB.out; rw [HP.out] at h; exact h)
        obtain ⟨e, he⟩ : ∃ e, e = mid + m - i := ⟨_, rfl⟩
        rw [← he] at hbd hhv
        obtain ⟨q1, q2, q3, q4, q5⟩ := hbd
        have t6 : (n0 : Int) - (i : Int) = (e : Int) := by have := HN0.out; omega
        have HHV := Lib.hid hhv
        have HSA : Hid (Same a hi f (roF i m e f)) := Lib.hid ((ro_same f q1 q2).wide (by omega) q5)
        have HID : Hid (¬ (i < m ∧ m < e) → roF i m e f = f) := Lib.hid (fun h => ro_id (by omega) q1 q2 f)
        have hai : a ≤ i := by omega
        clear hhv he hle hij hr HB
        obtain ⟨t1, ht1⟩ : ∃ t : Bool, t = true ↔ (i < m ∧ m < e) := ⟨decide (i < m ∧ m < e), decide_eq_true_iff⟩
        have HT := Lib.hid ht1
        clear ht1
        go_upto_region 39 with fail
        go_cut [185] (fun sv wx => sv = .bool t1 ∧ RowsF wx b N f ∧ w.grownBy wx (some b))
        case first =>
          as_aux_lemma =>
            by_cases c1 : i < m
            · have c1i : (i : Int) < (m : Int) := by omega
              by_cases c2 : m < e
              · have c2i : (m : Int) < (e : Int) := by omega
                go_wp2_with fail
                go_meet
                exact ⟨congrArg Value.bool (HT.out.2 ⟨c1, c2⟩).symm, HR2.out, HG.out⟩
              · have c2i : ¬ (m : Int) < (e : Int) := by omega
                go_wp2_with fail
                go_meet
                exact ⟨congrArg Value.bool (bool_no (fun h => c2 (HT.out.1 h).2)).symm, HR2.out, HG.out⟩
            · have c1i : ¬ (i : Int) < (m : Int) := by omega
              go_wp2_with fail
              go_meet
              exact ⟨congrArg Value.bool (bool_no (fun h => c1 (HT.out.1 h).1)).symm, HR2.out, HG.out⟩
        case rest =>
          obtain ⟨rfl, hr9, hg9⟩ := hcut
          clear HR2 HG
          have HR2 := Lib.hid hr9; have HG := Lib.hid hg9
          clear hr9 hg9
          generalize wc = W7 at *
          clear wc
          go_upto_if 185 with fail
          go_cut [] (fun wx => RowsF wx b N (roF i m e f) ∧ w.grownBy wx (some b))
          case first =>
            as_aux_lemma =>
              cases t1 with
              | true =>
                obtain ⟨c1, c2⟩ := HT.out.1 rfl
                go_wp2_with fail
                refine (rotate_any b N c i m e f _ _ HR2.out hN c1 c2 (by omega)).mono ?_
                rintro e9 w3 ⟨rfl, hr3, hg3⟩
                have HR3 := Lib.hid hr3; have HG3 := Lib.hid (gr_trans HG.out hg3)
                clear hr3 hg3
                go_wp2_with fail
                go_meet
                exact ⟨HR3.out, HG3.out⟩
              | false =>
                have hno : ¬ (i < m ∧ m < e) := fun h => Bool.noConfusion (HT.out.2 h)
                have HNO := Lib.hid hno
                clear hno
                go_wp2_with fail
                go_meet
                exact ⟨by rw [HID.out HNO.out]; exact HR2.out, HG.out⟩
          case rest =>
            obtain ⟨hr4, hg4⟩ := hcut
            have HR4 := Lib.hid hr4; have HG4 := Lib.hid hg4
            clear hr4 hg4 HR2 HG HID HT
            clear t1
            generalize roF i m e f = G at *
            generalize wc = W8 at *
            clear wc
            obtain ⟨t1, ht1⟩ : ∃ t : Bool, t = true ↔ (a < i ∧ i < mid) := ⟨decide (a < i ∧ i < mid), decide_eq_true_iff⟩
            have HT := Lib.hid ht1
            clear ht1
            go_upto_region 41 with fail
            go_cut [199] (fun sv wx => sv = .bool t1 ∧ RowsF wx b N G ∧ w.grownBy wx (some b))
            case first =>
              as_aux_lemma =>
                by_cases c1 : a < i
                · have c1i : (a : Int) < (i : Int) := by omega
                  by_cases c2 : i < mid
                  · have c2i : (i : Int) < (mid : Int) := by omega
                    go_wp2_with fail
                    go_meet
                    exact ⟨congrArg Value.bool (HT.out.2 ⟨c1, c2⟩).symm, HR4.out, HG4.out⟩
                  · have c2i : ¬ (i : Int) < (mid : Int) := by omega
                    go_wp2_with fail
                    go_meet
                    exact ⟨congrArg Value.bool (bool_no (fun h => c2 (HT.out.1 h).2)).symm, HR4.out, HG4.out⟩
                · have c1i : ¬ (a : Int) < (i : Int) := by omega
                  go_wp2_with fail
                  go_meet
                  exact ⟨congrArg Value.bool (bool_no (fun h => c1 (HT.out.1 h).1)).symm, HR4.out, HG4.out⟩
            case rest =>
              obtain ⟨rfl, hr9, hg9⟩ := hcut
              clear HR4 HG4
              have HR4 := Lib.hid hr9; have HG4 := Lib.hid hg9
              clear hr9 hg9
              generalize wc = W9 at *
              clear wc
              go_upto_if 199 with fail
              go_cut [] (fun wx => ∃ G1, RowsF wx b N G1 ∧ Same a mid G G1 ∧ Srt a mid G1 ∧ w.grownBy wx (some b))
              case first =>
                as_aux_lemma =>
                  cases t1 with
                  | true =>
                    obtain ⟨c1, c2⟩ := HT.out.1 rfl
                    have hmg : Mg a i mid G := by
                      rcases HHV.out.left with h | h
                      · exact h.2.2
                      · exact absurd ⟨c1, c2⟩ h.1
                    have HMG := Lib.hid hmg
                    clear hmg
                    go_wp2_with fail
                    refine (IH.out b N c a i mid G _ (by omega) HR4.out hN (by omega) HMG.out).mono ?_
                    rintro e9 w3 ⟨G1, ⟨rfl, hr3, hg3⟩, hs3, ht3⟩
                    have HR3 := Lib.hid hr3; have HG3 := Lib.hid (gr_trans HG4.out hg3); have HS3 := Lib.hid hs3; have HT3 := Lib.hid ht3
                    clear hr3 hg3 hs3 ht3
                    go_wp2_with fail
                    go_meet
                    exact ⟨G1, HR3.out, HS3.out, HT3.out, HG3.out⟩
                  | false =>
                    have hno : Srt a mid G := by
                      rcases HHV.out.left with h | h
                      · exact Bool.noConfusion (HT.out.2 ⟨h.1, h.2.1⟩)
                      · exact h.2
                    have HNO := Lib.hid hno
                    clear hno
                    go_wp2_with fail
                    go_meet
                    exact ⟨G, HR4.out, Same.refl _ _ _, HNO.out, HG4.out⟩
              case rest =>
                obtain ⟨G1, hr5, hs5, ht5, hg5⟩ := hcut
                have HR5 := Lib.hid hr5; have HG5 := Lib.hid hg5; have HS5 := Lib.hid hs5; have HT5 := Lib.hid ht5
                clear hr5 hg5 hs5 ht5 HR4 HG4 HT
                clear t1
                generalize wc = W10 at *
                clear wc
                have HRT : Hid ((mid < e ∧ e < hi ∧ Mg mid e hi G1) ∨ (¬ (mid < e ∧ e < hi) ∧ Srt mid hi G1)) := Lib.hid (by
                  have eq : ∀ k, mid ≤ k → G1 k = G k := fun k hk => HS5.out.1 k (by omega)
                  rcases HHV.out.right with ⟨h1, h2, h3⟩ | ⟨h1, h2⟩
                  · refine .inl ⟨h1, h2, h3.am, h3.mb, fun k l a1 a2 a3 => ?_, fun k l a1 a2 a3 => ?_, fun k l a1 a2 a3 a4 => ?_⟩
                    · rw [eq k a1, eq l (by omega)]; exact h3.sl k l a1 a2 a3
                    · rw [eq k (by omega), eq l (by omega)]; exact h3.sr k l a1 a2 a3
                    · rw [eq k a1, eq l (by omega)]; exact h3.ord k l a1 a2 a3 a4
                  · exact .inr ⟨h1, fun k l a1 a2 a3 => by rw [eq k a1, eq l (by omega)]; exact h2 k l a1 a2 a3⟩)
                have FIN : Hid (∀ G2, Same mid hi G1 G2 → Srt mid hi G2 → Same a hi f G2 ∧ Srt a hi G2) := Lib.hid (fun G2 s2 t2 => by
                  obtain ⟨x1, x2⟩ := halves_done (by omega) (by omega) HS5.out HT5.out s2 t2 HHV.out.cross
                  exact ⟨HSA.out.trans x1, x2⟩)
                clear HHV HS5 HT5 HSA
                obtain ⟨t1, ht1⟩ : ∃ t : Bool, t = true ↔ (mid < e ∧ e < hi) := ⟨decide (mid < e ∧ e < hi), decide_eq_true_iff⟩
                have HT := Lib.hid ht1
                clear ht1
                go_upto_region 43 with fail
                go_cut [213] (fun sv wx => sv = .bool t1 ∧ RowsF wx b N G1 ∧ w.grownBy wx (some b))
                case first =>
                  as_aux_lemma =>
                    by_cases c1 : mid < e
                    · have c1i : (mid : Int) < (e : Int) := by omega
                      by_cases c2 : e < hi
                      · have c2i : (e : Int) < (hi : Int) := by omega
                        go_wp2_with fail
                        go_meet
                        exact ⟨congrArg Value.bool (HT.out.2 ⟨c1, c2⟩).symm, HR5.out, HG5.out⟩
                      · have c2i : ¬ (e : Int) < (hi : Int) := by omega
                        go_wp2_with fail
                        go_meet
                        exact ⟨congrArg Value.bool (bool_no (fun h => c2 (HT.out.1 h).2)).symm, HR5.out, HG5.out⟩
                    · have c1i : ¬ (mid : Int) < (e : Int) := by omega
                      go_wp2_with fail
                      go_meet
                      exact ⟨congrArg Value.bool (bool_no (fun h => c1 (HT.out.1 h).1)).symm, HR5.out, HG5.out⟩
                case rest =>
                  obtain ⟨rfl, hr9, hg9⟩ := hcut
                  clear HR5 HG5
                  have HR5 := Lib.hid hr9; have HG5 := Lib.hid hg9
                  clear hr9 hg9
                  generalize wc = W11 at *
                  clear wc
                  cases t1 with
                  | true =>
                    as_aux_lemma =>
                      obtain ⟨c1, c2⟩ := HT.out.1 rfl
                      have hmg : Mg mid e hi G1 := by
                        rcases HRT.out with h | h
                        · exact h.2.2
                        · exact absurd ⟨c1, c2⟩ h.1
                      have HMG := Lib.hid hmg
                      clear hmg HRT
                      go_wp2_with fail
                      refine (IH.out b N c mid e hi G1 _ (by omega) HR5.out hN (by omega) HMG.out).mono ?_
                      rintro e9 w3 ⟨G2, ⟨rfl, hr3, hg3⟩, hs3, ht3⟩
                      have HR3 := Lib.hid hr3; have HG3 := Lib.hid (gr_trans HG5.out hg3)
                      obtain ⟨x1, x2⟩ := FIN.out G2 hs3 ht3
                      have X1 := Lib.hid x1; have X2 := Lib.hid x2
                      clear hr3 hg3 hs3 ht3 x1 x2
                      go_wp2
                      go_end0
                      exact ⟨G2, ⟨rfl, HR3.out, HG3.out⟩, X1.out, X2.out⟩
                  | false =>
                    as_aux_lemma =>
                      obtain ⟨x1, x2⟩ := FIN.out G1 (Same.refl _ _ _) (by
                        rcases HRT.out with h | h
                        · exact Bool.noConfusion (HT.out.2 ⟨h.1, h.2.1⟩)
                        · exact h.2)
                      have X1 := Lib.hid x1; have X2 := Lib.hid x2
                      clear x1 x2 HRT
                      go_wp2
                      go_end0
                      exact ⟨G1, ⟨rfl, HR5.out, HG5.out⟩, X1.out, X2.out⟩
  · have hgti : ¬ (mid : Int) < (m : Int) := by omega
    have SD : Hid (Sides a m hi a m mid) := Lib.hid ⟨ham, hmb, hmid, .inr ⟨by omega, rfl, rfl⟩⟩
    go_enter Tryz.func81, Tryz.ntmps81
    go_wp2
    go_loopw [20, 21] (fun vi vj wr => ∃ (i j : Nat), vi = .int .i64 (i : Int) ∧ vj = .int .i64 (j : Int) ∧ Bs a m (PM p f) i j ∧ RowsF wr b N f ∧ w.grownBy wr (some b)) (fun vi vj _ => (intOf vj - intOf vi).toNat)
    case atStart => exact ⟨a, m, rfl, rfl, Bs.start SD.out.le.2.1, HR.out, World.grownBy.refl _ _⟩
    case round =>
      obtain ⟨i, j, rfl, rfl, hbs, hr, hg⟩ := hrel
      have b1 := hbs.h1; have b2 := hbs.h2; have b3 := hbs.h3
      have HB := Lib.hid hbs; have HR2 := Lib.hid hr; have HG := Lib.hid hg
      have hle := SD.out.le
      clear hbs hg
      by_cases hij : i < j
      · have hiji : (i : Int) < (j : Int) := by omega
        obtain ⟨s, hs⟩ : ∃ s, s = i + j := ⟨_, rfl⟩
        obtain ⟨h, hh⟩ : ∃ h, h = s / 2 := ⟨_, rfl⟩
        have s1 : (i : Int) + (j : Int) = (s : Int) := by omega
        have s4 : (s : Int) / 2 = (h : Int) := by omega
        have hb1 : (0 : Int) ≤ (s : Int) ∧ (s : Int) < 1000000 := by omega
        have hb2 : (0 : Int) ≤ (h : Int) ∧ (h : Int) < 1000000 := by omega
        have hi1 : i ≤ h := by omega
        have hi2 : h < j := by omega
        have hhN : (h : Int) < (N : Int) := by omega
        have hhn : h < N := by omega
        have hh0 : (0 : Int) ≤ (h : Int) := by omega
        clear hs hh
        obtain ⟨y, hy⟩ : ∃ y, y = p - h := ⟨_, rfl⟩
        have hin := SD.out.in_ (c := h) (by omega) (by omega)
        have t5 : (p : Int) - (h : Int) = (y : Int) := by have := HP.out; omega
        have HY := Lib.hid hy
        have yN : y < N := by have := HP.out; omega
        have hyN : (y : Int) < (N : Int) := by omega
        have hy0 : (0 : Int) ≤ (y : Int) := by omega
        have hyw : IntKind.i64.wrap (y : Int) = (y : Int) := i64_id _ ⟨hy0, by omega⟩
        have MONO : Hid (MonoP a m (PM p f)) := Lib.hid (by rw [HP.out]; exact pm_mono HM.out SD.out)
        clear hy hin hle
        obtain ⟨x0, x1⟩ := HR2.out.at_ yN
        obtain ⟨y0, y1⟩ := HR2.out.at_ hhn
        have hbl := HR2.out.lt
        have k0 := KeptW.cell x0 hbl; have k1 := KeptW.cell x1 hbl; have k2 := KeptW.cell y0 hbl; have k3 := KeptW.cell y1 hbl
        clear x0 x1 y0 y1
        obtain ⟨q, hq⟩ : ∃ q, cmpI (f h).v (f y).v = q := ⟨_, rfl⟩
        have HQ := Lib.hid hq
        by_cases hls : (f h).v < (f y).v
        · have hqn : q < 0 := (by rw [← hq]; exact cmp_neg.2 hls); have hqd : decide (q < 0) = true := decide_eq_true hqn
          have HB2 : Hid (Bs a m (PM p f) i h) := Lib.hid (HB.out.left MONO.out hi1 hi2 (by unfold PM; rw [← HY.out]; exact hls))
          clear hq hls
          go_wp2_with fail
          refine region_kept wr.heap.size (by kernel_rfl) (by kernel_rfl) ?_
          repeat (go_big_quiet_step (fail))
          go_big_quiet_step ((go_at_call 47; exact kept_call _ (Nat.le_refl _) (rowCmp_is (f y) (f h) q _ HQ)))
          repeat (go_big_quiet_step (fail))
          refine wpQuiet_nil ?_
          intro w3 hb3
          have HR3 := Lib.hid (HR2.out.below hb3)
          have HG3 := Lib.hid (grown_below HG.out hb3)
          clear k0 k1 k2 k3 hb3
          go_wp2
          go_roundw
          case rel => exact ⟨i, h, rfl, rfl, HB2.out, HR3.out, HG3.out⟩
          case measure => simp [intOf]; omega
        · have hqn : ¬ q < 0 := (by rw [← hq]; exact fun h => hls (cmp_neg.1 h)); have hqd : decide (q < 0) = false := decide_eq_false hqn
          have HB2 : Hid (Bs a m (PM p f) (h + 1) j) := Lib.hid (HB.out.right MONO.out hi1 hi2 (by unfold PM; rw [← HY.out]; exact hls))
          clear hq hls
          go_wp2_with fail
          refine region_kept wr.heap.size (by kernel_rfl) (by kernel_rfl) ?_
          repeat (go_big_quiet_step (fail))
          go_big_quiet_step ((go_at_call 47; exact kept_call _ (Nat.le_refl _) (rowCmp_is (f y) (f h) q _ HQ)))
          repeat (go_big_quiet_step (fail))
          refine wpQuiet_nil ?_
          intro w3 hb3
          have HR3 := Lib.hid (HR2.out.below hb3)
          have HG3 := Lib.hid (grown_below HG.out hb3)
          clear k0 k1 k2 k3 hb3
          go_wp2
          go_roundw
          case rel => exact ⟨h + 1, j, by go_num, rfl, HB2.out, HR3.out, HG3.out⟩
          case measure => simp [intOf]; omega
      · obtain rfl : i = j := by omega
        have hiji : ¬ (i : Int) < (i : Int) := by omega
        obtain ⟨hbd, hhv⟩ := mg_main HM.out SD.out (by have h := HB.out; rw [HP.out] at h; exact h)
        obtain ⟨e, he⟩ : ∃ e, e = mid + m - i := ⟨_, rfl⟩
        rw [← he] at hbd hhv
        obtain ⟨q1, q2, q3, q4, q5⟩ := hbd
        have t6 : (n0 : Int) - (i : Int) = (e : Int) := by have := HN0.out; omega
        have HHV := Lib.hid hhv
        have HSA : Hid (Same a hi f (roF i m e f)) := Lib.hid ((ro_same f q1 q2).wide (by omega) q5)
        have HID : Hid (¬ (i < m ∧ m < e) → roF i m e f = f) := Lib.hid (fun h => ro_id (by omega) q1 q2 f)
        have hai : a ≤ i := by omega
        clear hhv he hle hij hr HB
        obtain ⟨t1, ht1⟩ : ∃ t : Bool, t = true ↔ (i < m ∧ m < e) := ⟨decide (i < m ∧ m < e), decide_eq_true_iff⟩
        have HT := Lib.hid ht1
        clear ht1
        go_upto_region 39 with fail
        go_cut [185] (fun sv wx => sv = .bool t1 ∧ RowsF wx b N f ∧ w.grownBy wx (some b))
        case first =>
          as_aux_lemma =>
            by_cases c1 : i < m
            · have c1i : (i : Int) < (m : Int) := by omega
              by_cases c2 : m < e
              · have c2i : (m : Int) < (e : Int) := by omega
                go_wp2_with fail
                go_meet
                exact ⟨congrArg Value.bool (HT.out.2 ⟨c1, c2⟩).symm, HR2.out, HG.out⟩
              · have c2i : ¬ (m : Int) < (e : Int) := by omega
                go_wp2_with fail
                go_meet
                exact ⟨congrArg Value.bool (bool_no (fun h => c2 (HT.out.1 h).2)).symm, HR2.out, HG.out⟩
            · have c1i : ¬ (i : Int) < (m : Int) := by omega
              go_wp2_with fail
              go_meet
              exact ⟨congrArg Value.bool (bool_no (fun h => c1 (HT.out.1 h).1)).symm, HR2.out, HG.out⟩
        case rest =>
          obtain ⟨rfl, hr9, hg9⟩ := hcut
          clear HR2 HG
          have HR2 := Lib.hid hr9; have HG := Lib.hid hg9
          clear hr9 hg9
          generalize wc = W7 at *
          clear wc
          go_upto_if 185 with fail
          go_cut [] (fun wx => RowsF wx b N (roF i m e f) ∧ w.grownBy wx (some b))
          case first =>
            as_aux_lemma =>
              cases t1 with
              | true =>
                obtain ⟨c1, c2⟩ := HT.out.1 rfl
                go_wp2_with fail
                refine (rotate_any b N c i m e f _ _ HR2.out hN c1 c2 (by omega)).mono ?_
                rintro e9 w3 ⟨rfl, hr3, hg3⟩
                have HR3 := Lib.hid hr3; have HG3 := Lib.hid (gr_trans HG.out hg3)
                clear hr3 hg3
                go_wp2_with fail
                go_meet
                exact ⟨HR3.out, HG3.out⟩
              | false =>
                have hno : ¬ (i < m ∧ m < e) := fun h => Bool.noConfusion (HT.out.2 h)
                have HNO := Lib.hid hno
                clear hno
                go_wp2_with fail
                go_meet
                exact ⟨by rw [HID.out HNO.out]; exact HR2.out, HG.out⟩
          case rest =>
            obtain ⟨hr4, hg4⟩ := hcut
            have HR4 := Lib.hid hr4; have HG4 := Lib.hid hg4
            clear hr4 hg4 HR2 HG HID HT
            clear t1
            generalize roF i m e f = G at *
            generalize wc = W8 at *
            clear wc
            obtain ⟨t1, ht1⟩ : ∃ t : Bool, t = true ↔ (a < i ∧ i < mid) := ⟨decide (a < i ∧ i < mid), decide_eq_true_iff⟩
            have HT := Lib.hid ht1
            clear ht1
            go_upto_region 41 with fail
            go_cut [199] (fun sv wx => sv = .bool t1 ∧ RowsF wx b N G ∧ w.grownBy wx (some b))
            case first =>
              as_aux_lemma =>
                by_cases c1 : a < i
                · have c1i : (a : Int) < (i : Int) := by omega
                  by_cases c2 : i < mid
                  · have c2i : (i : Int) < (mid : Int) := by omega
                    go_wp2_with fail
                    go_meet
                    exact ⟨congrArg Value.bool (HT.out.2 ⟨c1, c2⟩).symm, HR4.out, HG4.out⟩
                  · have c2i : ¬ (i : Int) < (mid : Int) := by omega
                    go_wp2_with fail
                    go_meet
                    exact ⟨congrArg Value.bool (bool_no (fun h => c2 (HT.out.1 h).2)).symm, HR4.out, HG4.out⟩
                · have c1i : ¬ (a : Int) < (i : Int) := by omega
                  go_wp2_with fail
                  go_meet
                  exact ⟨congrArg Value.bool (bool_no (fun h => c1 (HT.out.1 h).1)).symm, HR4.out, HG4.out⟩
            case rest =>
              obtain ⟨rfl, hr9, hg9⟩ := hcut
              clear HR4 HG4
              have HR4 := Lib.hid hr9; have HG4 := Lib.hid hg9
              clear hr9 hg9
              generalize wc = W9 at *
              clear wc
              go_upto_if 199 with fail
              go_cut [] (fun wx => ∃ G1, RowsF wx b N G1 ∧ Same a mid G G1 ∧ Srt a mid G1 ∧ w.grownBy wx (some b))
              case first =>
                as_aux_lemma =>
                  cases t1 with
                  | true =>
                    obtain ⟨c1, c2⟩ := HT.out.1 rfl
                    have hmg : Mg a i mid G := by
                      rcases HHV.out.left with h | h
                      · exact h.2.2
                      · exact absurd ⟨c1, c2⟩ h.1
                    have HMG := Lib.hid hmg
                    clear hmg
                    go_wp2_with fail
                    refine (IH.out b N c a i mid G _ (by omega) HR4.out hN (by omega) HMG.out).mono ?_
                    rintro e9 w3 ⟨G1, ⟨rfl, hr3, hg3⟩, hs3, ht3⟩
                    have HR3 := Lib.hid hr3; have HG3 := Lib.hid (gr_trans HG4.out hg3); have HS3 := Lib.hid hs3; have HT3 := Lib.hid ht3
                    clear hr3 hg3 hs3 ht3
                    go_wp2_with fail
                    go_meet
                    exact ⟨G1, HR3.out, HS3.out, HT3.out, HG3.out⟩
                  | false =>
                    have hno : Srt a mid G := by
                      rcases HHV.out.left with h | h
                      · exact Bool.noConfusion (HT.out.2 ⟨h.1, h.2.1⟩)
                      · exact h.2
                    have HNO := Lib.hid hno
                    clear hno
                    go_wp2_with fail
                    go_meet
                    exact ⟨G, HR4.out, Same.refl _ _ _, HNO.out, HG4.out⟩
              case rest =>
                obtain ⟨G1, hr5, hs5, ht5, hg5⟩ := hcut
                have HR5 := Lib.hid hr5; have HG5 := Lib.hid hg5; have HS5 := Lib.hid hs5; have HT5 := Lib.hid ht5
                clear hr5 hg5 hs5 ht5 HR4 HG4 HT
                clear t1
                generalize wc = W10 at *
                clear wc
                have HRT : Hid ((mid < e ∧ e < hi ∧ Mg mid e hi G1) ∨ (¬ (mid < e ∧ e < hi) ∧ Srt mid hi G1)) := Lib.hid (by
                  have eq : ∀ k, mid ≤ k → G1 k = G k := fun k hk => HS5.out.1 k (by omega)
                  rcases HHV.out.right with ⟨h1, h2, h3⟩ | ⟨h1, h2⟩
                  · refine .inl ⟨h1, h2, h3.am, h3.mb, fun k l a1 a2 a3 => ?_, fun k l a1 a2 a3 => ?_, fun k l a1 a2 a3 a4 => ?_⟩
                    · rw [eq k a1, eq l (by omega)]; exact h3.sl k l a1 a2 a3
                    · rw [eq k (by omega), eq l (by omega)]; exact h3.sr k l a1 a2 a3
                    · rw [eq k a1, eq l (by omega)]; exact h3.ord k l a1 a2 a3 a4
                  · exact .inr ⟨h1, fun k l a1 a2 a3 => by rw [eq k a1, eq l (by omega)]; exact h2 k l a1 a2 a3⟩)
                have FIN : Hid (∀ G2, Same mid hi G1 G2 → Srt mid hi G2 → Same a hi f G2 ∧ Srt a hi G2) := Lib.hid (fun G2 s2 t2 => by
                  obtain ⟨x1, x2⟩ := halves_done (by omega) (by omega) HS5.out HT5.out s2 t2 HHV.out.cross
                  exact ⟨HSA.out.trans x1, x2⟩)
                clear HHV HS5 HT5 HSA
                obtain ⟨t1, ht1⟩ : ∃ t : Bool, t = true ↔ (mid < e ∧ e < hi) := ⟨decide (mid < e ∧ e < hi), decide_eq_true_iff⟩
                have HT := Lib.hid ht1
                clear ht1
                go_upto_region 43 with fail
                go_cut [213] (fun sv wx => sv = .bool t1 ∧ RowsF wx b N G1 ∧ w.grownBy wx (some b))
                case first =>
                  as_aux_lemma =>
                    by_cases c1 : mid < e
                    · have c1i : (mid : Int) < (e : Int) := by omega
                      by_cases c2 : e < hi
                      · have c2i : (e : Int) < (hi : Int) := by omega
                        go_wp2_with fail
                        go_meet
                        exact ⟨congrArg Value.bool (HT.out.2 ⟨c1, c2⟩).symm, HR5.out, HG5.out⟩
                      · have c2i : ¬ (e : Int) < (hi : Int) := by omega
                        go_wp2_with fail
                        go_meet
                        exact ⟨congrArg Value.bool (bool_no (fun h => c2 (HT.out.1 h).2)).symm, HR5.out, HG5.out⟩
                    · have c1i : ¬ (mid : Int) < (e : Int) := by omega
                      go_wp2_with fail
                      go_meet
                      exact ⟨congrArg Value.bool (bool_no (fun h => c1 (HT.out.1 h).1)).symm, HR5.out, HG5.out⟩
                case rest =>
                  obtain ⟨rfl, hr9, hg9⟩ := hcut
                  clear HR5 HG5
                  have HR5 := Lib.hid hr9; have HG5 := Lib.hid hg9
                  clear hr9 hg9
                  generalize wc = W11 at *
                  clear wc
                  cases t1 with
                  | true =>
                    as_aux_lemma =>
                      obtain ⟨c1, c2⟩ := HT.out.1 rfl
                      have hmg : Mg mid e hi G1 := by
                        rcases HRT.out with h | h
                        · exact h.2.2
                        · exact absurd ⟨c1, c2⟩ h.1
                      have HMG := Lib.hid hmg
                      clear hmg HRT
                      go_wp2_with fail
                      refine (IH.out b N c mid e hi G1 _ (by omega) HR5.out hN (by omega) HMG.out).mono ?_
                      rintro e9 w3 ⟨G2, ⟨rfl, hr3, hg3⟩, hs3, ht3⟩
                      have HR3 := Lib.hid hr3; have HG3 := Lib.hid (gr_trans HG5.out hg3)
                      obtain ⟨x1, x2⟩ := FIN.out G2 hs3 ht3
                      have X1 := Lib.hid x1; have X2 := Lib.hid x2
                      clear hr3 hg3 hs3 ht3 x1 x2
                      go_wp2
                      go_end0
                      exact ⟨G2, ⟨rfl, HR3.out, HG3.out⟩, X1.out, X2.out⟩
                  | false =>
                    as_aux_lemma =>
                      obtain ⟨x1, x2⟩ := FIN.out G1 (Same.refl _ _ _) (by
                        rcases HRT.out with h | h
                        · exact Bool.noConfusion (HT.out.2 ⟨h.1, h.2.1⟩)
                        · exact h.2)
                      have X1 := Lib.hid x1; have X2 := Lib.hid x2
                      clear x1 x2 HRT
                      go_wp2
                      go_end0
                      exact ⟨G1, ⟨rfl, HR5.out, HG5.out⟩, X1.out, X2.out⟩
end Go.Proofs.YtnbnegkoanidmaaGreatDoor

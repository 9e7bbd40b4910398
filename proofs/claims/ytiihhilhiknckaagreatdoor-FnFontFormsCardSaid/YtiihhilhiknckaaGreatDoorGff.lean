/-
  FnFontForms: for every input (two slices of bytes) the law returns true, and what it was given reads as before, where the library's tables start as the program's text lays them. UNDER WAY.
-/
import Derived.Test.YtiihhilhiknckaaGreatDoorRows
import Derived.Test.YtiihhilhiknckaaGreatDoorCards
import Derived.Test.YtiihhilhiknckaaGreatDoorTie
import Derived.Test.YtiihhilhiknckaaGreatDoorGsp
import Derived.Test.YtiihhilhiknckaaGreatDoorGpu
import Derived.Test.YtiihhilhiknckaaGreatDoorGqs
import Derived.Test.YtiihhilhiknckaaGreatDoorMil
import Derived.Test.YtiihhilhiknckaaGreatDoorOpenB
import Derived.Deep.DeepCutAuto
namespace Go.Proofs.YtiihhilhiknckaaGreatDoor.fnFontForms
open Go.ChangeShapes Go.WideShapes Go.ChangeAt Go.RowKit Go.Joins
set_option linter.unusedVariables false

theorem specR_len {s : ByteArray} : ((P.specP s).getD []).length ≤ 32 := by
  unfold P.specP
  split
  · rename_i h
    simp only [Option.getD_some]
    unfold P.specR
    have h1 := h.1
    simp only [List.length_map, List.length_dropLast]
    omega
  · simp
theorem miss_facts0 (g : List (ByteArray × Int)) (ws : List ByteArray) (M : ByteArray) (hM : (missV g ws).1 = M) : ∀ i (h : i < M.size), wordsB ws = true ∧ ∃ k, k < 26 ∧ M[i] = letB k ∧ metIn ws (letB k) = true ∧ findI g (oneB k) 0 < 0 := by
  intro i h
  cases h1 : fontB g
  · rw [missV_no (.inl h1)] at hM
    subst hM
    exact absurd h (by simp)
  · cases h2 : wordsB ws
    · rw [missV_no (.inr h2)] at hM
      subst hM
      exact absurd h (by simp)
    · rw [missV_yes h1 h2] at hM
      subst hM
      have hm : (⟨(missL g ws 26).toArray⟩ : ByteArray)[i] ∈ missL g ws 26 := by
        show (missL g ws 26).toArray[i] ∈ _
        rw [List.getElem_toArray]
        exact List.getElem_mem _
      obtain ⟨k, hk, hx, hmet, hf⟩ := miss_at hm
      exact ⟨rfl, k, hk, hx, by rw [← hx]; exact hmet, hf⟩
theorem miss_facts (g : List (ByteArray × Int)) (ws : List ByteArray) : ∀ i (h : i < (missV g ws).1.size), wordsB ws = true ∧ ∃ k, k < 26 ∧ (missV g ws).1[i] = letB k ∧ metIn ws (letB k) = true ∧ findI g (oneB k) 0 < 0 := miss_facts0 g ws _ rfl
theorem miss_size (g : List (ByteArray × Int)) (ws : List ByteArray) : (missV g ws).1.size ≤ 26 := by
  cases h1 : fontB g
  · rw [missV_no (.inl h1)]; simp
  · cases h2 : wordsB ws
    · rw [missV_no (.inr h2)]; simp
    · rw [missV_yes h1 h2]
      have := missL_len g ws 26
      exact this
theorem run_index_let {s : ByteArray} {n k : Nat} (h : n < s.size) (hs : s[n] = letB k) (hk : k < 26) (W : World) : (Instr.index 9 (.string s) (.int .i64 (n : Int))).run Tryz.prog W = .ok (.int .u8 (97 + (k : Int))) W := by
  rw [run_index_string W 9 s .i64 n Tryz.underlying9, dif_pos ⟨by omega, by omega⟩, ← letB_int hk, ← hs]
  rfl
set_option maxRecDepth 100000 in
set_option maxHeartbeats 12000000 in
theorem walk (A : Option Addr) (xs : List UInt8) (c : Nat) (B : Option Addr) (ys : List UInt8) (c' : Nat) (w : World) (hx : BytesIn w A xs) (hxs : xs.length ≤ maxLen) (hy : BytesIn w B ys) (hys : ys.length ≤ maxLen) (hlay : P.LayP w) :
    Calls Tryz.prog 3 #[.slice A xs.length c, .slice B ys.length c'] w fun e w' => e = .returned (.bool true) ∧ Below w.heap.size w w' := by
  have HX := Lib.hid hx; have HY := Lib.hid hy; have HL := Lib.hid hlay; clear hx hy hlay
  go_enter Tryz.func3, Tryz.ntmps3
  by_cases hlong : (1048576 : Int) < wrap64 ((xs.length : Int) + (ys.length : Int))
  · go_wp2
    go_ret
    exact ⟨rfl, Below.refl _ _⟩
  go_wp2_with fail
  refine (drawWs_any A c xs w HX.out hxs).mono ?_
  rintro e w1 ⟨f, F, d, s, z, rfl, hfl, hfd, hco, hs, hsf, hb1⟩
  obtain ⟨w2, hw2⟩ : ∃ x : World, x = w1.alloc (.cells #[.string s, .int .i64 z] 25) := ⟨_, rfl⟩
  have hA2 : Below w1.heap.size w1 w2 := by rw [hw2]; exact (Below.refl _ _).alloc (Nat.le_refl _) _
  have hbx : w1.heap.size < w2.heap.size := by rw [hw2]; simp
  have hq0 : w2.cell? ⟨w1.heap.size, 0, none⟩ = some (.string s) := by rw [hw2]; simp
  have hq1 : w2.cell? ⟨w1.heap.size, 1, none⟩ = some (.int .i64 z) := by rw [hw2]; simp
  have HQ0 := Lib.hid hq0; have HQ1 := Lib.hid hq1
  have HBOX : Hid (∀ W : World, Below w2.heap.size w2 W → W.cell? ⟨w1.heap.size, 0, none⟩ = some (.string s) ∧ W.cell? ⟨w1.heap.size, 1, none⟩ = some (.int .i64 z) ∧ w1.heap.size < W.heap.size) := by
    show ∀ W, _
    intro W h
    exact ⟨(h.cell (p := ⟨w1.heap.size, 0, none⟩) hbx).trans HQ0.out, (h.cell (p := ⟨w1.heap.size, 1, none⟩) hbx).trans HQ1.out, Nat.lt_of_lt_of_le hbx h.size⟩
  have HCO := Lib.hid hco
  have HB2 := Lib.hid (hb1.trans (hA2.mono hb1.size))
  have HF2 := Lib.hid (hsf.below hA2 (Nat.le_refl _))
  have HW2 := Lib.hid hw2
  have hn : f.length ≤ 1048576 := by omega
  have hsz : s.size ≤ maxLen := by unfold maxLen; omega
  clear hco hsf HX hlong hb1 hA2 hw2 hs
  go_wp2_with fail
  rw [← HW2.out]
  clear HW2 hbx
  have tok : Below w2.heap.size w2 w2 := Below.refl _ _
  refine (implWs_any f F d s z 0 _ HF2.out hn HCO.out hfd hsz).mono ?_
  intro e w3 hto
  obtain ⟨v3, rfl, hb3, ho3⟩ := hto
  obtain ⟨A3, c3, rfl⟩ := own_form_f ho3
  have HT3 := Lib.hid hb3
  have HR3 := Lib.hid (own_in_f ho3)
  have HC3 := Lib.hid (own_cap ho3)
  have HF3 := Lib.hid (HF2.out.below hb3 (Nat.le_refl _))
  obtain ⟨hq0, hq1, hbx⟩ := HBOX.out _ hb3
  clear hb3 ho3 tok
  go_wp2_with fail
  refine (specWs_any f F d s z 0 _ HF3.out hn HCO.out hfd hsz).mono ?_
  intro e w4 hto
  obtain ⟨v4, rfl, hb4, ho4⟩ := hto
  obtain ⟨A4, c4, rfl⟩ := own_form_f ho4
  have HT4 := Lib.hid (HT3.out.trans (hb4.mono HT3.out.size))
  have HR34 := Lib.hid (HR3.out.below hb4 (Nat.le_refl _))
  have HR4 := Lib.hid (own_in_f ho4)
  have HF4 := Lib.hid (HF3.out.below hb4 (Nat.le_refl _))
  have HL4 := Lib.hid (HL.out.below (HB2.out.trans (HT4.out.mono HB2.out.size)))
  clear hb4 ho4 hq0 hq1 hbx HR3 HF3 HT3
  go_wp2_with fail
  refine (P.implFText_any f F d 0 _ HF4.out hn HCO.out HL4.out.1).mono ?_
  rintro e w5 ⟨rfl, hb5⟩
  have HT5 := Lib.hid (HT4.out.trans (hb5.mono HT4.out.size))
  have HR35 := Lib.hid (HR34.out.below hb5 (Nat.le_refl _))
  have HR45 := Lib.hid (HR4.out.below hb5 (Nat.le_refl _))
  have HF5 := Lib.hid (HF4.out.below hb5 (Nat.le_refl _))
  clear hb5 HR34 HR4 HF4 HL4 HT4
  go_wp2_with fail
  refine (P.specFText_any f F d 0 _ HF5.out hn HCO.out).mono ?_
  rintro e w6 ⟨rfl, hb6⟩
  have HT6 := Lib.hid (HT5.out.trans (hb6.mono HT5.out.size))
  have HR36 := Lib.hid (HR35.out.below hb6 (Nat.le_refl _))
  have HR46 := Lib.hid (HR45.out.below hb6 (Nat.le_refl _))
  have HF6 := Lib.hid (HF5.out.below hb6 (Nat.le_refl _))
  clear hb6 HR35 HR45 HF5 HT5
  have HT := Lib.hid (HB2.out.trans (HT6.out.mono HB2.out.size))
  have HT2 := HT6
  have HF := HF6
  have HR := HR36
  have HQ := HR46
  clear HF6 HR36 HR46 HT6 HB2 HF2
  have hwl : ((wsF f s z).getD []).length ≤ 64 := ws_len f s z
  have hwl' : ((wsF f s z).getD []).length ≤ maxLen := by unfold maxLen; omega
  have hfx : f.length ≤ maxLen := by unfold maxLen; omega
  have HOK : Hid ((wsF f s z).isSome = true → fontB f = true ∧ tySortF s z = true ∧ woF ((wsF f s z).getD []) s = some f ∧ CodesOk ((wsF f s z).getD [])) := Lib.hid fun h => by
    obtain ⟨L, hL⟩ := Option.isSome_iff_exists.1 h
    obtain ⟨h1, h2, _, _, h5⟩ := ws_parts hL
    rw [hL]
    refine ⟨h1, h2, ws_wo hL, ?_⟩
    show CodesOk L
    rw [h5]
    exact putIn_codes (fontB_iff.1 h1) h2
  generalize (wsF f s z).isSome = b at *
  generalize (wsF f s z).getD [] = L at *
  obtain ⟨o, hfo⟩ : ∃ o, fontB f = o := ⟨_, rfl⟩
  have HFO := Lib.hid hfo
  rw [hfo]
  obtain ⟨T, hT⟩ : ∃ T, P.ftextB f = T := ⟨_, rfl⟩
  have HTX : Hid (o = true → T.size ≤ 1048576 ∧ P.specP T = some f) := Lib.hid fun h => by
    have h1 : fontB f = true := hfo.trans h
    have h2 : T = P.baOf (P.ftK f f.length) := hT.symm.trans (P.ft_yes h1)
    rw [h2]
    refine ⟨?_, parse_text h1⟩
    have := P.ftK_lo (f := f) (fun k hk => P.font_at h1 hk) f.length (Nat.le_refl _)
    rw [P.baOf_size]; omega
  rw [hT]
  clear hT hfo
  have htt : (!(T.toList == T.toList)) = false := by simp
  go_upto_region 8 with fail
  go_cut [117] (fun s117 wx => s117 = .bool false ∧ Below w6.heap.size w6 wx)
  case first =>
    as_aux_lemma =>
      have HK : Hid (Below w6.heap.size w6 w6) := Lib.hid (Below.refl _ _)
      cases b
      · cases o
        · go_wp2_with fail
          refine (P.qSorts_any L L _ _ _ _ 0 0 _ HR.out HQ.out hwl' hwl').mono ?_
          rintro e w7 ⟨rfl, hb⟩
          rw [show decide (L = L) = true from decide_eq_true rfl]
          replace HK := Lib.hid (HK.out.trans (hb.mono HK.out.size))
          replace HF := Lib.hid (HF.out.below hb (Nat.le_refl _))
          replace HR := Lib.hid (HR.out.below hb (Nat.le_refl _))
          replace HQ := Lib.hid (HQ.out.below hb (Nat.le_refl _))
          clear hb
          go_wp2_with fail
          refine (implIsFont_is f F d 0 _ false HF.out hn HCO.out HFO).mono ?_
          rintro e w8 ⟨rfl, hb⟩
          replace HK := Lib.hid (HK.out.trans (hb.mono HK.out.size))
          replace HF := Lib.hid (HF.out.below hb (Nat.le_refl _))
          replace HR := Lib.hid (HR.out.below hb (Nat.le_refl _))
          replace HQ := Lib.hid (HQ.out.below hb (Nat.le_refl _))
          clear hb
          go_wp2_with fail
          go_meet
          exact ⟨rfl, HK.out⟩
        · go_wp2_with fail
          refine (P.qSorts_any L L _ _ _ _ 0 0 _ HR.out HQ.out hwl' hwl').mono ?_
          rintro e w7 ⟨rfl, hb⟩
          rw [show decide (L = L) = true from decide_eq_true rfl]
          replace HK := Lib.hid (HK.out.trans (hb.mono HK.out.size))
          replace HF := Lib.hid (HF.out.below hb (Nat.le_refl _))
          replace HR := Lib.hid (HR.out.below hb (Nat.le_refl _))
          replace HQ := Lib.hid (HQ.out.below hb (Nat.le_refl _))
          clear hb
          go_wp2_with fail
          refine (implIsFont_is f F d 0 _ true HF.out hn HCO.out HFO).mono ?_
          rintro e w8 ⟨rfl, hb⟩
          replace HK := Lib.hid (HK.out.trans (hb.mono HK.out.size))
          replace HF := Lib.hid (HF.out.below hb (Nat.le_refl _))
          replace HR := Lib.hid (HR.out.below hb (Nat.le_refl _))
          replace HQ := Lib.hid (HQ.out.below hb (Nat.le_refl _))
          clear hb
          go_wp2_with fail
          go_meet
          exact ⟨rfl, HK.out⟩
      · obtain ⟨h1, h2, h3, h4⟩ := HOK.out rfl
        obtain rfl : o = true := HFO.out.symm.trans h1
        have HSO := Lib.hid h2
        clear h1 h2 h3 h4
        go_wp2_with fail
        refine (P.qSorts_any L L _ _ _ _ 0 0 _ HR.out HQ.out hwl' hwl').mono ?_
        rintro e w7 ⟨rfl, hb⟩
        rw [show decide (L = L) = true from decide_eq_true rfl]
        replace HK := Lib.hid (HK.out.trans (hb.mono HK.out.size))
        replace HF := Lib.hid (HF.out.below hb (Nat.le_refl _))
        replace HR := Lib.hid (HR.out.below hb (Nat.le_refl _))
        replace HQ := Lib.hid (HQ.out.below hb (Nat.le_refl _))
        clear hb
        go_wp2_with fail
        refine (implIsFont_is f F d 0 _ true HF.out hn HCO.out HFO).mono ?_
        rintro e w8 ⟨rfl, hb⟩
        replace HK := Lib.hid (HK.out.trans (hb.mono HK.out.size))
        replace HF := Lib.hid (HF.out.below hb (Nat.le_refl _))
        replace HR := Lib.hid (HR.out.below hb (Nat.le_refl _))
        replace HQ := Lib.hid (HQ.out.below hb (Nat.le_refl _))
        clear hb
        obtain ⟨hq0, hq1, hbx⟩ := HBOX.out _ (HT2.out.trans (HK.out.mono HT2.out.size))
        go_wp2_with fail
        refine (implIsSort_is s z true _ hsz HSO).mono ?_
        rintro e w9 ⟨rfl, hb⟩
        replace HK := Lib.hid (HK.out.trans (hb.mono HK.out.size))
        clear hb
        go_wp2_with fail
        go_meet
        exact ⟨rfl, HK.out⟩
  case rest =>
    obtain ⟨rfl, hb⟩ := hcut
    replace HT2 := Lib.hid (HT2.out.trans (hb.mono HT2.out.size))
    replace HT := Lib.hid (HT.out.trans (hb.mono HT.out.size))
    replace HF := Lib.hid (HF.out.below hb (Nat.le_refl _))
    replace HR := Lib.hid (HR.out.below hb (Nat.le_refl _))
    replace HQ := Lib.hid (HQ.out.below hb (Nat.le_refl _))
    clear hb
    generalize wc = W8 at *
    clear wc
    clear htt
    go_upto_if 118 with fail
    go_cut [] (fun wx => Below W8.heap.size W8 wx)
    case first =>
      as_aux_lemma =>
        have HK : Hid (Below W8.heap.size W8 W8) := Lib.hid (Below.refl _ _)
        cases b
        · go_wp2_with fail
          go_meet
          exact HK.out
        · obtain ⟨h1, h2, h3, h4⟩ := HOK.out rfl
          obtain rfl : o = true := HFO.out.symm.trans h1
          have HWO := Lib.hid h3
          have HCL := Lib.hid h4
          clear h1 h2 h3 h4
          obtain ⟨hq0, hq1, hbx⟩ := HBOX.out _ HT2.out
          go_wp2_with fail
          refine (implWo_any L A3 c3 s 0 _ HR.out (by omega) HCL.out HC3.out).mono ?_
          intro e w10 hto
          rw [HWO.out] at hto
          obtain ⟨v10, rfl, hb, ho10⟩ := hto
          obtain ⟨A10, c10, rfl⟩ := own_form_f ho10
          have HB10 := Lib.hid (own_in_f ho10)
          replace HK := Lib.hid (HK.out.trans (hb.mono HK.out.size))
          replace HF := Lib.hid (HF.out.below hb (Nat.le_refl _))
          replace HR := Lib.hid (HR.out.below hb (Nat.le_refl _))
          replace HQ := Lib.hid (HQ.out.below hb (Nat.le_refl _))
          clear hb
          clear ho10 hq0 hq1 hbx
          go_wp2_with fail
          refine (P.qSorts_any f f _ _ _ _ 0 0 _ HB10.out HF.out hfx hfx).mono ?_
          rintro e w11 ⟨rfl, hb⟩
          rw [show decide (f = f) = true from decide_eq_true rfl]
          replace HK := Lib.hid (HK.out.trans (hb.mono HK.out.size))
          clear hb
          go_wp2_with fail
          go_meet
          exact HK.out
    case rest =>
      have hb := hcut
      clear hcut HT2 HBOX HOK HC3
      replace HT := Lib.hid (HT.out.trans (hb.mono HT.out.size))
      replace HF := Lib.hid (HF.out.below hb (Nat.le_refl _))
      replace HR := Lib.hid (HR.out.below hb (Nat.le_refl _))
      replace HQ := Lib.hid (HQ.out.below hb (Nat.le_refl _))
      clear hb
      generalize wc = W9 at *
      clear wc
      clear HR HQ
      go_upto_if 134 with fail
      go_cut [] (fun wx => Below W9.heap.size W9 wx)
      case first =>
        as_aux_lemma =>
          have HK : Hid (Below W9.heap.size W9 W9) := Lib.hid (Below.refl _ _)
          cases o
          · go_wp2_with fail
            go_meet
            exact HK.out
          · obtain ⟨hsT, hpT⟩ := HTX.out (by trivial)
            have HLX := Lib.hid (HL.out.below HT.out)
            go_wp2_with fail
            refine (P.implParse_any T _ hsT HLX.out).mono ?_
            intro e w12 hto
            rw [P.parse_same, hpT] at hto
            obtain ⟨v12, rfl, hb, ho12⟩ := hto
            obtain ⟨A12, c12, rfl⟩ := own_form_f ho12
            have HB12 := Lib.hid (own_in_f ho12)
            replace HK := Lib.hid (HK.out.trans (hb.mono HK.out.size))
            replace HF := Lib.hid (HF.out.below hb (Nat.le_refl _))
            clear hb
            clear HLX ho12
            go_wp2_with fail
            refine (P.qSorts_any f f _ _ _ _ 0 0 _ HB12.out HF.out hfx hfx).mono ?_
            rintro e w13 ⟨rfl, hb⟩
            rw [show decide (f = f) = true from decide_eq_true rfl]
            replace HK := Lib.hid (HK.out.trans (hb.mono HK.out.size))
            clear hb
            go_wp2_with fail
            go_meet
            exact HK.out
      case rest =>
        have hb := hcut
        clear hcut HTX HFO
        replace HT := Lib.hid (HT.out.trans (hb.mono HT.out.size))
        clear hb
        generalize wc = W10 at *
        clear wc
        clear HF HCO HQ0 HQ1
        as_aux_lemma =>
          go_wp2_with fail
          have HYX := Lib.hid (HY.out.below HT.out (Nat.le_refl _))
          refine (drawMis_any B c' ys _ HYX.out hys).mono ?_
          rintro e y1 ⟨g, G, d1, ws, D, k1, rfl, hgl, hgo, hwl1, hsh, hgs, hds, hb⟩
          replace HT := Lib.hid (HT.out.trans (hb.mono HT.out.size))
          have HGO := Lib.hid hgo; have HG := Lib.hid hgs; have HD := Lib.hid hds; have HSH := Lib.hid hsh.ok
          clear hb HYX hgo hgs hds hsh
          have hgn : g.length ≤ 1048576 := by omega
          have hwn : ws.length ≤ 1048576 := by omega
          go_wp2_with fail
          refine (implMiss_any g G d1 ws D k1 _ HG.out hgn HGO.out HD.out HSH.out hwn).mono ?_
          rintro e y2 ⟨rfl, hb⟩
          replace HT := Lib.hid (HT.out.trans (hb.mono HT.out.size))
          replace HG := Lib.hid (HG.out.below hb (Nat.le_refl _))
          replace HD := Lib.hid (HD.out.below hb (Nat.le_refl _))
          clear hb
          go_wp2_with fail
          refine (specMiss_any g G d1 ws D k1 _ HG.out hgn HGO.out HD.out HSH.out hwn).mono ?_
          rintro e y3 ⟨rfl, hb⟩
          replace HT := Lib.hid (HT.out.trans (hb.mono HT.out.size))
          replace HG := Lib.hid (HG.out.below hb (Nat.le_refl _))
          replace HD := Lib.hid (HD.out.below hb (Nat.le_refl _))
          clear hb
          have HMI : Hid (∀ i (h : i < (missV g ws).1.size), wordsB ws = true ∧ ∃ k, k < 26 ∧ (missV g ws).1[i] = letB k ∧ metIn ws (letB k) = true ∧ findI g (oneB k) 0 < 0) := Lib.hid (miss_facts g ws)
          have hMs := miss_size g ws
          generalize (missV g ws).1 = M at *
          generalize (missV g ws).2 = mb at *
          have HYX := Lib.hid (HY.out.below HT.out (Nat.le_refl _))
          go_wp2_with fail
          refine (drawWo_any B c' ys _ HYX.out hys).mono ?_
          rintro e y4 ⟨h, H, d2, cd, rfl, hhl, hhd, hho, hcs, hhs, hb⟩
          replace HT := Lib.hid (HT.out.trans (hb.mono HT.out.size))
          replace HG := Lib.hid (HG.out.below hb (Nat.le_refl _))
          replace HD := Lib.hid (HD.out.below hb (Nat.le_refl _))
          clear hb
          have HH := Lib.hid hhs; have HHO := Lib.hid hho
          clear hhs hho HYX
          have hhn : h.length ≤ 1048576 := by omega
          go_wp2_with fail
          refine (implWo_any h H d2 cd 0 _ HH.out hhn HHO.out hhd).mono ?_
          intro e y5 hto
          obtain ⟨v5, rfl, hb, ho5⟩ := hto
          obtain ⟨A5, c5, rfl⟩ := own_form_f ho5
          have HX5 := Lib.hid (own_in_f ho5)
          replace HT := Lib.hid (HT.out.trans (hb.mono HT.out.size))
          replace HG := Lib.hid (HG.out.below hb (Nat.le_refl _))
          replace HD := Lib.hid (HD.out.below hb (Nat.le_refl _))
          replace HH := Lib.hid (HH.out.below hb (Nat.le_refl _))
          clear hb
          clear ho5
          go_wp2_with fail
          refine (specWo_any h H d2 cd 0 _ HH.out hhn HHO.out hhd).mono ?_
          intro e y6 hto
          obtain ⟨v6, rfl, hb, ho6⟩ := hto
          obtain ⟨A6, c6, rfl⟩ := own_form_f ho6
          have HX6 := Lib.hid (own_in_f ho6)
          replace HT := Lib.hid (HT.out.trans (hb.mono HT.out.size))
          replace HG := Lib.hid (HG.out.below hb (Nat.le_refl _))
          replace HD := Lib.hid (HD.out.below hb (Nat.le_refl _))
          replace HH := Lib.hid (HH.out.below hb (Nat.le_refl _))
          replace HX5 := Lib.hid (HX5.out.below hb (Nat.le_refl _))
          clear hb
          clear ho6
          have hwo : ((woF h cd).getD []).length ≤ maxLen := by have := wo_len h cd; unfold maxLen; omega
          have hsoc : (woF h cd).isSome = true → (socF h cd).isSome = true := wo_soc
          generalize (woF h cd).isSome = b5 at *
          generalize (woF h cd).getD [] = X at *
          go_wp2_with fail
          refine (implSoc_any h H d2 cd 0 _ HH.out hhn HHO.out).mono ?_
          rintro e y7 ⟨rfl, hb⟩
          replace HT := Lib.hid (HT.out.trans (hb.mono HT.out.size))
          replace HG := Lib.hid (HG.out.below hb (Nat.le_refl _))
          replace HD := Lib.hid (HD.out.below hb (Nat.le_refl _))
          replace HH := Lib.hid (HH.out.below hb (Nat.le_refl _))
          replace HX5 := Lib.hid (HX5.out.below hb (Nat.le_refl _))
          replace HX6 := Lib.hid (HX6.out.below hb (Nat.le_refl _))
          clear hb
          go_wp2_with fail
          refine (specSoc_any h H d2 cd 0 _ HH.out hhn HHO.out).mono ?_
          rintro e y8 ⟨rfl, hb⟩
          replace HT := Lib.hid (HT.out.trans (hb.mono HT.out.size))
          replace HG := Lib.hid (HG.out.below hb (Nat.le_refl _))
          replace HD := Lib.hid (HD.out.below hb (Nat.le_refl _))
          replace HX5 := Lib.hid (HX5.out.below hb (Nat.le_refl _))
          replace HX6 := Lib.hid (HX6.out.below hb (Nat.le_refl _))
          clear hb
          generalize (socF h cd).isSome = b7 at *
          generalize socW h (socF h cd) = kz at *
          clear HH HHO hhn
          have HYX := Lib.hid (HY.out.below HT.out (Nat.le_refl _))
          go_wp2_with fail
          refine (P.drawPf_any B c' ys _ HYX.out hys).mono ?_
          rintro e y9 ⟨u, rfl, hu, hb⟩
          replace HT := Lib.hid (HT.out.trans (hb.mono HT.out.size))
          replace HG := Lib.hid (HG.out.below hb (Nat.le_refl _))
          replace HD := Lib.hid (HD.out.below hb (Nat.le_refl _))
          replace HX5 := Lib.hid (HX5.out.below hb (Nat.le_refl _))
          replace HX6 := Lib.hid (HX6.out.below hb (Nat.le_refl _))
          clear hb
          clear HYX
          have hu2 : u.size ≤ 1048576 := by omega
          have HLX := Lib.hid (HL.out.below HT.out)
          go_wp2_with fail
          refine (P.implParse_any u _ hu2 HLX.out).mono ?_
          intro e y10 hto
          rw [P.parse_same] at hto
          obtain ⟨v10, rfl, hb, ho10⟩ := hto
          obtain ⟨A10, c10, rfl⟩ := own_form_f ho10
          have HP5 := Lib.hid (own_in_f ho10)
          replace HT := Lib.hid (HT.out.trans (hb.mono HT.out.size))
          replace HG := Lib.hid (HG.out.below hb (Nat.le_refl _))
          replace HD := Lib.hid (HD.out.below hb (Nat.le_refl _))
          replace HX5 := Lib.hid (HX5.out.below hb (Nat.le_refl _))
          replace HX6 := Lib.hid (HX6.out.below hb (Nat.le_refl _))
          clear hb
          clear ho10 HLX
          go_wp2_with fail
          refine (P.specParse_any u _ hu2).mono ?_
          intro e y11 hto
          obtain ⟨v11, rfl, hb, ho11⟩ := hto
          obtain ⟨A11, c11, rfl⟩ := own_form_f ho11
          have HP6 := Lib.hid (own_in_f ho11)
          replace HT := Lib.hid (HT.out.trans (hb.mono HT.out.size))
          replace HG := Lib.hid (HG.out.below hb (Nat.le_refl _))
          replace HD := Lib.hid (HD.out.below hb (Nat.le_refl _))
          replace HX5 := Lib.hid (HX5.out.below hb (Nat.le_refl _))
          replace HX6 := Lib.hid (HX6.out.below hb (Nat.le_refl _))
          replace HP5 := Lib.hid (HP5.out.below hb (Nat.le_refl _))
          clear hb
          clear ho11
          have hpl : ((P.specP u).getD []).length ≤ maxLen := by have := specR_len (s := u); unfold maxLen; omega
          generalize (P.specP u).isSome = b9 at *
          generalize (P.specP u).getD [] = Y at *
          have HYX := Lib.hid (HY.out.below HT.out (Nat.le_refl _))
          go_wp2_with fail
          refine (drawIs_any B c' ys _ HYX.out hys).mono ?_
          rintro e y12 ⟨yc, yz, rfl, hyc, hb⟩
          replace HT := Lib.hid (HT.out.trans (hb.mono HT.out.size))
          replace HG := Lib.hid (HG.out.below hb (Nat.le_refl _))
          replace HD := Lib.hid (HD.out.below hb (Nat.le_refl _))
          replace HX5 := Lib.hid (HX5.out.below hb (Nat.le_refl _))
          replace HX6 := Lib.hid (HX6.out.below hb (Nat.le_refl _))
          replace HP5 := Lib.hid (HP5.out.below hb (Nat.le_refl _))
          replace HP6 := Lib.hid (HP6.out.below hb (Nat.le_refl _))
          clear hb
          clear HYX
          have HYC := Lib.hid hyc; clear hyc
          obtain ⟨w13, hw13⟩ : ∃ x : World, x = y12.alloc (.cells #[.string yc, .int .i64 yz] 25) := ⟨_, rfl⟩
          have hb : Below y12.heap.size y12 w13 := by rw [hw13]; exact (Below.refl _ _).alloc (Nat.le_refl _) _
          have hbx : y12.heap.size < w13.heap.size := by rw [hw13]; simp
          have hq0 : w13.cell? ⟨y12.heap.size, 0, none⟩ = some (.string yc) := by rw [hw13]; simp
          have hq1 : w13.cell? ⟨y12.heap.size, 1, none⟩ = some (.int .i64 yz) := by rw [hw13]; simp
          replace HT := Lib.hid (HT.out.trans (hb.mono HT.out.size))
          replace HG := Lib.hid (HG.out.below hb (Nat.le_refl _))
          replace HD := Lib.hid (HD.out.below hb (Nat.le_refl _))
          replace HX5 := Lib.hid (HX5.out.below hb (Nat.le_refl _))
          replace HX6 := Lib.hid (HX6.out.below hb (Nat.le_refl _))
          replace HP5 := Lib.hid (HP5.out.below hb (Nat.le_refl _))
          replace HP6 := Lib.hid (HP6.out.below hb (Nat.le_refl _))
          have HW13 := Lib.hid hw13
          clear hb hw13
          have hx0 := KeptW.cell hq0 hbx
          have hx1 := KeptW.cell hq1 hbx
          clear hq0 hq1
          have HK1 : Hid (∀ x : KeptW w13.heap.size w13, Calls Tryz.prog 9 #[.slice A5 X.length c5, .slice A6 X.length c6] x.at_ fun e w' => e = .returned (.bool true) ∧ Below x.at_.heap.size x.at_ w') := by
            show ∀ _, _
            intro x
            refine (P.qSorts_any X X A5 A6 c5 c6 0 0 _ (HX5.out.below x.below (Nat.le_refl _)) (HX6.out.below x.below (Nat.le_refl _)) hwo hwo).mono ?_
            rintro e w' ⟨rfl, hb⟩
            exact ⟨by rw [decide_eq_true rfl], hb⟩
          have HK2 : Hid (∀ x : KeptW w13.heap.size w13, Calls Tryz.prog 9 #[.slice A10 Y.length c10, .slice A11 Y.length c11] x.at_ fun e w' => e = .returned (.bool true) ∧ Below x.at_.heap.size x.at_ w') := by
            show ∀ _, _
            intro x
            refine (P.qSorts_any Y Y A10 A11 c10 c11 0 0 _ (HP5.out.below x.below (Nat.le_refl _)) (HP6.out.below x.below (Nat.le_refl _)) hpl hpl).mono ?_
            rintro e w' ⟨rfl, hb⟩
            exact ⟨by rw [decide_eq_true rfl], hb⟩
          obtain ⟨yb, hyb⟩ : ∃ yb, tySortF yc yz = yb := ⟨_, rfl⟩
          have HYB := Lib.hid hyb
          have HSP : Hid (∀ W : World, Calls Tryz.prog 24 #[.agg #[.string yc, .int .i64 yz]] W fun e w' => e = .returned (.bool yb) ∧ Below W.heap.size W w') := by
            show ∀ _, _
            intro W
            have := specIsSort_any yc yz W HYC.out
            rw [hyb] at this
            exact this
          clear hyb
          have hMM : (!(M.toList == M.toList)) = false := by simp
          go_upto_region 30 with fail
          rw [← HW13.out]
          go_cut [261] (fun s261 wx => s261 = .bool false ∧ Below w13.heap.size w13 wx)
          case first =>
            as_aux_lemma =>
              cases b5
              · go_wp2_with fail
                refine region_kept w13.heap.size (by kernel_rfl) (by kernel_rfl) ?_
                repeat (go_big_quiet_step ((first | (go_at_call 9; first | with_reducible exact kept_call _ (Nat.le_refl _) (HK1.out _) | with_reducible exact kept_call _ (Nat.le_refl _) (HK2.out _)) | (go_at_call 11; with_reducible exact kept_call _ (Nat.le_refl _) (implIsSort_is _ _ _ _ HYC.out HYB)) | (go_at_call 24; with_reducible exact kept_call _ (Nat.le_refl _) (HSP.out _)))))
                refine wpQuiet_nil ?_
                intro w14 hb
                go_wp2_with fail
                go_meet
                exact ⟨rfl, hb⟩
              · obtain rfl : b7 = true := hsoc rfl
                go_wp2_with fail
                refine region_kept w13.heap.size (by kernel_rfl) (by kernel_rfl) ?_
                repeat (go_big_quiet_step ((first | (go_at_call 9; first | with_reducible exact kept_call _ (Nat.le_refl _) (HK1.out _) | with_reducible exact kept_call _ (Nat.le_refl _) (HK2.out _)) | (go_at_call 11; with_reducible exact kept_call _ (Nat.le_refl _) (implIsSort_is _ _ _ _ HYC.out HYB)) | (go_at_call 24; with_reducible exact kept_call _ (Nat.le_refl _) (HSP.out _)))))
                refine wpQuiet_nil ?_
                intro w14 hb
                go_wp2_with fail
                go_meet
                exact ⟨rfl, hb⟩
          case rest =>
            obtain ⟨rfl, hb⟩ := hcut
            replace HT := Lib.hid (HT.out.trans (hb.mono HT.out.size))
            replace HG := Lib.hid (HG.out.below hb (Nat.le_refl _))
            replace HD := Lib.hid (HD.out.below hb (Nat.le_refl _))
            clear hb HK1 HK2 HSP HYB hx0 hx1 HX5 HX6 HP5 HP6 HYC HW13 hbx hMM
            generalize wc = w14 at *
            clear wc
            as_aux_lemma =>
              have HI : Hid ((w14.iter M 0).heap[w14.heap.size]? = some (.stringIter M 0) ∧ Below w14.heap.size w14 (w14.iter M 0)) := by
                show _ ∧ _
                exact ⟨World.iter_heap _ _ _, (Below.refl _ _).alloc (Nat.le_refl _) _⟩
              go_wp2
              generalize hK : w14.heap.size = K at *
              go_loopw [41] (fun _ wi => ∃ pos, pos ≤ M.size ∧ wi.heap[K]? = some (.stringIter M pos) ∧ Below K w14 wi) (fun _ wi => M.size - wi.iterPos K)
              case atStart => exact ⟨0, Nat.zero_le _, HI.out⟩
              case round =>
                clear HI
                obtain ⟨pos, hpos, hit, hbi⟩ := hrel
                by_cases hlp : pos < M.size
                · obtain ⟨hww, k, hk, hMk, hmet, hfi⟩ := HMI.out pos hlp
                  have hnx : ∀ ty, (Instr.next (.pointer (some ⟨K, 0, none⟩)) true ty).run Tryz.prog wr = .ok (.tuple #[.bool true, .int .i64 pos, .int .i32 (97 + (k : Int))]) (wr.iterAt K M (pos + 1)) := fun ty => by
                    rw [Lib.run_next_ascii_at wr K M pos ty hit hlp (by rw [hMk, letB_nat hk]; omega), hMk, letB_int hk]
                  have hit1 := Lib.iterAt_heap wr K M pos (pos + 1) hit
                  have hb1 := Lib.below_iterAt hbi (k := K) (by omega) M (pos + 1)
                  have HPM : Hid (wr.iterPos K = pos) := iterPos_of hit
                  have HIX2 : Hid (∀ W : World, (Instr.index 9 (.string M) (.int .i64 (pos : Int))).run Tryz.prog W = .ok (.int .u8 (97 + (k : Int))) W) := Lib.hid (fun W => run_index_let hlp hMk hk W)
                  have HEX : Hid (M.extract pos (pos + 1) = oneB k) := Lib.hid (oneB_of (by rw [ByteArray.size_extract]; omega) (by rw [ByteArray.getElem_extract]; exact hMk))
                  have HMET := Lib.hid hmet; have HFI := Lib.hid hfi; have HMK := Lib.hid hMk
                  clear hmet hfi hMk
                  generalize wr.iterAt K M (pos + 1) = W1 at *
                  clear hit hbi
                  have hK1 : K < W1.heap.size := lt_of_heap hit1
                  go_wp2
                  go_loopw [42, 269] (fun mv iv wj => ∃ (j : Nat), j ≤ ws.length ∧ iv = .int .i64 (j : Int) ∧ mv = .bool (metIn (ws.take j) (letB k)) ∧ wj.heap[K]? = some (.stringIter M (pos + 1)) ∧ Below K w14 wj) (fun _ iv _ => ws.length - (intOf iv).toNat)
                  case atStart => exact ⟨0, Nat.zero_le _, rfl, rfl, hit1, hb1⟩
                  case round =>
                    clear hit1 hb1 hK1
                    obtain ⟨j, hj, rfl, rfl, hit1, hb1⟩ := hrel
                    by_cases hlj : j < ws.length
                    · obtain ⟨b, off, rfl, hbl, hc⟩ := HD.out (by omega)
                      have hc0 := hc j hlj
                      clear hc
                      rw [← hb1.cell (p := ⟨b, off + j, none⟩) (by show b < K; rw [← hK]; exact hbl)] at hc0
                      have hji : (j : Int) < (ws.length : Int) := by omega
                      have HMS := Lib.hid (metIn_snoc hlj (letB k))
                      have HLT := Lib.hid (lets_word (words_at hww hlj))
                      generalize metIn (ws.take j) (letB k) = m0 at *
                      generalize ws[j] = t at *
                      have hK1 := lt_of_heap hit1
                      have HI2 : Hid ((wr.iter t 0).heap[wr.heap.size]? = some (.stringIter t 0) ∧ (wr.iter t 0).heap[K]? = some (.stringIter M (pos + 1)) ∧ Below K w14 (wr.iter t 0)) := by
                        show _ ∧ _
                        have hn : Below wr.heap.size wr (wr.iter t 0) := (Below.refl _ _).alloc (Nat.le_refl _) _
                        exact ⟨World.iter_heap _ _ _, (hn.block K hK1).trans hit1, hb1.alloc (Nat.le_of_lt hK1) _⟩
                      clear hit1 hb1
                      generalize hwv : wr = wv at *
                      clear hwv
                      go_wp2
                      generalize hK2 : wv.heap.size = K2 at *
                      go_loopw [42] (fun mv wi => ∃ q, q ≤ t.size ∧ mv = .bool (m0 || (t.data.toList.take q).any (· == letB k)) ∧ wi.heap[K2]? = some (.stringIter t q) ∧ wi.heap[K]? = some (.stringIter M (pos + 1)) ∧ Below K w14 wi) (fun _ wi => t.size - wi.iterPos K2)
                      case atStart => exact ⟨0, Nat.zero_le _, by simp, HI2.out⟩
                      case round =>
                        clear HI2
                        obtain ⟨q, hq, rfl, hit2, hitM, hbi⟩ := hrel
                        by_cases hlq : q < t.size
                        · obtain ⟨i, hi, hti⟩ := lets_at HLT.out hlq
                          have hnx : ∀ ty, (Instr.next (.pointer (some ⟨K2, 0, none⟩)) true ty).run Tryz.prog wr = .ok (.tuple #[.bool true, .int .i64 q, .int .i32 (97 + (i : Int))]) (wr.iterAt K2 t (q + 1)) := fun ty => by
                            rw [Lib.run_next_ascii_at wr K2 t q ty hit2 hlq (by rw [hti, letB_nat hi]; omega), hti, letB_int hi]
                          have hit3 := Lib.iterAt_heap wr K2 t q (q + 1) hit2
                          have hb3 := Lib.below_iterAt hbi (k := K2) (by omega) t (q + 1)
                          have hitM3 := (Lib.iterAt_other wr K2 K t (q + 1) (by omega)).trans hitM
                          have HPM2 : Hid (wr.iterPos K2 = q) := iterPos_of hit2
                          have HSN := Lib.hid (any_snoc hlq (letB k))
                          have HIX1 : Hid (∀ W : World, (Instr.index 9 (.string t) (.int .i64 (q : Int))).run Tryz.prog W = .ok (.int .u8 (97 + (i : Int))) W) := Lib.hid (fun W => run_index_let hlq hti hi W)
                          have HEQ : Hid ((t[q] == letB k) = decide (k = i)) := Lib.hid (by rw [hti, letB_inj hk hi])
                          generalize wr.iterAt K2 t (q + 1) = W2 at *
                          clear hit2 hitM hbi hti
                          generalize (t.data.toList.take q).any (· == letB k) = a0 at *
                          have HIT3 := Lib.hid hit3; have HITM3 := Lib.hid hitM3; have HB3 := Lib.hid hb3
                          clear hit3 hitM3 hb3
                          obtain ⟨m1, hm1⟩ : ∃ m1, m1 = (m0 || a0) := ⟨_, rfl⟩
                          rw [← hm1]
                          have HM1 := Lib.hid hm1; clear hm1
                          cases m1
                          · go_upto_region 42 with fail
                            have hix1 := HIX1.out
                            have hix2 := HIX2.out
                            refine region_kept W2.heap.size (by kernel_rfl) (by kernel_rfl) ?_
                            repeat (go_big_quiet_step (fail))
                            refine wpQuiet_nil ?_
                            intro w16 HD2
                            clear hix1 hix2
                            have h2 := (HD2.block K2 (lt_of_heap HIT3.out)).trans HIT3.out
                            have hM := (HD2.block K (lt_of_heap HITM3.out)).trans HITM3.out
                            have hB := HB3.out.trans (HD2.mono (Nat.le_of_lt (lt_of_heap HITM3.out)))
                            have H2 := Lib.hid h2; have HM := Lib.hid hM; have HB := Lib.hid hB
                            clear HD2 h2 hM hB HIT3 HITM3 HB3
                            go_wp2
                            go_roundw
                            case rel => exact ⟨q + 1, by omega, by rw [HSN.out, ← Bool.or_assoc, ← HM1.out, HEQ.out]; by_cases hki : k = i <;> first | (subst hki; simp) | (simp [hki]; omega), H2.out, HM.out, HB.out⟩
                            case measure => rw [iterPos_of H2.out, HPM2.out]; omega
                          · go_upto_region 42 with fail
                            refine region_kept W2.heap.size (by kernel_rfl) (by kernel_rfl) ?_
                            repeat (go_big_quiet_step (fail))
                            refine wpQuiet_nil ?_
                            intro w16 HD2
                            have h2 := (HD2.block K2 (lt_of_heap HIT3.out)).trans HIT3.out
                            have hM := (HD2.block K (lt_of_heap HITM3.out)).trans HITM3.out
                            have hB := HB3.out.trans (HD2.mono (Nat.le_of_lt (lt_of_heap HITM3.out)))
                            have H2 := Lib.hid h2; have HM := Lib.hid hM; have HB := Lib.hid hB
                            clear HD2 h2 hM hB HIT3 HITM3 HB3
                            go_wp2
                            go_roundw
                            case rel => exact ⟨q + 1, by omega, by rw [HSN.out, ← Bool.or_assoc, ← HM1.out]; simp, H2.out, HM.out, HB.out⟩
                            case measure => rw [iterPos_of H2.out, HPM2.out]; omega
                        · have hnx : ∀ ty, (Instr.next (.pointer (some ⟨K2, 0, none⟩)) true ty).run Tryz.prog wr = _ := fun ty => Lib.run_next_end_at wr K2 t q ty hit2 hlq
                          obtain rfl : q = t.size := by omega
                          have HE : Hid ((m0 || (t.data.toList.take t.size).any (· == letB k)) = metIn (ws.take (j + 1)) (letB k)) := Lib.hid (by rw [HMS.out, List.take_of_length_le (by simp)]; rfl)
                          rw [HE.out]
                          have HITM := Lib.hid hitM; have HBI := Lib.hid hbi
                          clear hitM hbi HE
                          go_wp2
                          go_roundw
                          case rel => exact ⟨j + 1, by omega, by go_num, rfl, HITM.out, HBI.out⟩
                          case measure => simp [intOf]; omega
                    · obtain rfl : j = ws.length := by omega
                      rw [List.take_length, HMET.out]
                      have HG1 := Lib.hid (HG.out.below hb1 (Nat.le_of_eq hK))
                      have HIT := Lib.hid hit1; have HB1 := Lib.hid hb1
                      clear hit1 hb1
                      have hp0 : (pos : Int) ≤ (M.size : Int) := by omega
                      have hp1 : (pos : Int) + 1 ≤ (M.size : Int) := by omega
                      go_wp2_with fail
                      rw [HEX.out]
                      refine (implSoc_any g G d1 (oneB k) 0 _ HG1.out hgn HGO.out).mono ?_
                      rintro e w15 ⟨rfl, hb⟩
                      rw [soc_no (.inr HFI.out)]
                      have HI5 := Lib.hid ((hb.block K (lt_of_heap HIT.out)).trans HIT.out)
                      have HB5 := Lib.hid (HB1.out.trans (hb.mono (Nat.le_of_lt (lt_of_heap HIT.out))))
                      clear hb HIT HB1 HG1
                      have hno : (none : Option Nat).isSome = false := rfl
                      rw [hno]
                      go_wp2
                      go_roundw
                      case rel => exact ⟨pos + 1, by omega, HI5.out, HB5.out⟩
                      case measure => rw [iterPos_of HI5.out, HPM.out]; omega
                · have hnx : ∀ ty, (Instr.next (.pointer (some ⟨K, 0, none⟩)) true ty).run Tryz.prog wr = _ := fun ty => Lib.run_next_end_at wr K M pos ty hit hlp
                  have HE : Hid (Below w.heap.size w wr) := Lib.hid (HT.out.trans (hbi.mono (by rw [← hK]; exact HT.out.size)))
                  go_wp2
                  go_ret
                  exact ⟨rfl, HE.out⟩
end Go.Proofs.YtiihhilhiknckaaGreatDoor.fnFontForms

/-
  FnFonts: for every input (a slice of bytes and a slice of bytes) the law returns true, and what it was given reads as before. Conditions: none beyond the given statement's own.
-/
import Derived.Test.YtacphcpjppkniaaRows
import Derived.Test.YtacphcpjppkniaaAdr
import Derived.Test.YtacphcpjppkniaaQ
import Derived.Test.YtacphcpjppkniaaOpt
import Derived.Test.YtacphcpjppkniaaNsp
import Derived.Test.YtacphcpjppkniaaSoc
import Derived.Test.YtacphcpjppkniaaOpenB
import Derived.ProofKit
import Derived.OpenShut
import Derived.ShutString
import Derived.ChangeOld
import Derived.Lib.SmallJoins
namespace Go.Proofs.Ytacphcpjppkniaa.fnFonts
open Go.ChangeShapes Go.WideShapes Go.ChangeAt Go.RowKit Go.Joins
open Go.ChangeMaps (open_string shut_string)
set_option linter.unusedVariables false

theorem own : ownKnob Try.prog.godebug = none := by kernel_rfl
theorem laidOut : laidOutB Try.prog = true := by kernel_rfl

theorem sow_facts {f : List (ByteArray × Int)} {s : ByteArray} {l : List Nat} (h : sowF f s = some l) :
    Font f ∧ (∃ c, narW f s = some c ∧ wideF f c ≤ wideF f l) ∧ l.flatMap (codeAt f) = s.data.toList ∧ (∀ i ∈ l, i < f.length) ∧ l.length ≤ 16 := by
  cases hv : (fontB f && isWordF s)
  · rw [sow_of_no hv] at h; cases h
  · have h' := h
    rw [sow_of_font hv] at h
    have hv' := hv
    simp at hv'
    have hF := fontB_iff.1 hv'.1
    have hw := word_size hv'.2
    have hway := setF_way (s := s) hF (Nat.zero_le _) h
    obtain ⟨c, hc, hle⟩ := tabW_best hF l 0 (Nat.zero_le _) hway
    refine ⟨hF, ⟨c, by rw [narW_yes hv'.1 hv'.2]; exact hc, hle⟩, by simpa using WayAt.spell l 0 (Nat.zero_le _) hway, setF_mem h, ?_⟩
    have := setF_len h
    omega
theorem nar_facts {f : List (ByteArray × Int)} {s : ByteArray} {c : List Nat} (h : narW f s = some c) :
    Font f ∧ c.flatMap (codeAt f) = s.data.toList ∧ (∀ i ∈ c, i < f.length) ∧ c.length ≤ 16 := by
  cases hv : (fontB f && isWordF s)
  · unfold narW at h; rw [hv] at h; cases h
  · have hv' := hv
    simp at hv'
    have hF := fontB_iff.1 hv'.1
    have hw := word_size hv'.2
    rw [narW_yes hv'.1 hv'.2] at h
    have hch := tabW_chain (s := s) hF s.size (Nat.le_refl _)
    have hm := hch.mem hF c 0 h
    exact ⟨hF, by simpa using WayAt.spell c 0 (Nat.zero_le _) (hch.way c 0 h), hm.1, by have := hm.2; omega⟩

theorem cat_code (f : List (ByteArray × Int)) (l : List Nat) (k : Nat) (h : k < l.length) (hi : l[k] < f.length) : (⟨((l.take k).flatMap (codeAt f)).toArray⟩ : ByteArray) ++ f[l[k]].1 = ⟨((l.take (k + 1)).flatMap (codeAt f)).toArray⟩ := by
  apply ByteArray.ext
  apply Array.ext'
  rw [List.take_succ_eq_append_getElem h, List.flatMap_append]
  simp [codeAt_of hi]
theorem take_flat_le (f : List (ByteArray × Int)) (l : List Nat) (k : Nat) : ((l.take k).flatMap (codeAt f)).length ≤ (l.flatMap (codeAt f)).length := by
  have e : l.flatMap (codeAt f) = (l.take k).flatMap (codeAt f) ++ (l.drop k).flatMap (codeAt f) := by rw [← List.flatMap_append, List.take_append_drop]
  rw [e, List.length_append]; omega
theorem soc_self {f : List (ByteArray × Int)} (hF : Font f) {i : Nat} (hi : i < f.length) : socF f f[i].1 = some i := by
  rcases findI_cases f f[i].1 with ⟨_, h⟩ | ⟨j, hj, he, hf⟩
  · exact absurd (codeAt_of hi) (h i hi)
  · have : j = i := hF.inj hj hi (he.trans (codeAt_of hi).symm)
    subst this
    exact soc_yes (fontB_iff.2 hF) hf
theorem nar_len' (f : List (ByteArray × Int)) (s : ByteArray) : (intL ((narW f s).getD [])).length ≤ 16 := by
  rw [intL_len]
  cases h : narW f s with
  | none => simp
  | some c => exact (nar_facts h).2.2.2
theorem lig_len' (f : List (ByteArray × Int)) (s : ByteArray) : ((ligW f s).getD []).length ≤ 16 := by
  unfold ligW
  cases h : sowF f s with
  | none => simp
  | some l =>
    have h1 := (sow_facts h).2.2.2.2
    have h2 := ligF_len f l
    simp; omega
set_option maxRecDepth 100000 in
set_option maxHeartbeats 4000000 in
theorem walk (A : Option Addr) (xs : List UInt8) (c : Nat) (B : Option Addr) (ys : List UInt8) (c' : Nat) (w : World) (hx : BytesIn w A xs) (hxs : xs.length ≤ maxLen) (hy : BytesIn w B ys) (hys : ys.length ≤ maxLen) :
    Calls Try.prog 3 #[.slice A xs.length c, .slice B ys.length c'] w fun e w' => e = .returned (.bool true) ∧ Below w.heap.size w w' := by
  have HX := Lib.hid hx; clear hx hy
  go_enter Try.func3, Try.ntmps3
  by_cases hlong : (1048576 : Int) < wrap64 ((xs.length : Int) + (ys.length : Int))
  · go_wp2
    go_ret
    exact ⟨rfl, Below.refl _ _⟩
  go_wp2_with fail
  refine (drawSow_any A c xs w HX.out hxs).mono ?_
  rintro e w1 ⟨f, F, d, s, rfl, hfl, hco, hs, hsf, hb1⟩
  have HCO := Lib.hid hco
  have HF1 := Lib.hid hsf
  have hn : f.length ≤ 1048576 := by omega
  have hsz : s.size ≤ maxLen := by unfold maxLen; omega
  clear hco hsf HX hlong hxs hys
  go_wp2_with fail
  refine (implSow_any f F d s 0 _ HF1.out hn HCO.out hsz).mono ?_
  intro e w2 hto
  obtain ⟨v2, rfl, hb2, ho2⟩ := hto.get
  obtain ⟨A2, c2, rfl⟩ := own_form ho2
  have hb2' := hb1.trans (hb2.mono hb1.size)
  have HF2 := Lib.hid (HF1.out.below hb2 (Nat.le_refl _))
  have HI2 := Lib.hid (own_in ho2)
  clear hto hb1 hb2 ho2 HF1
  go_wp2_with fail
  refine (specSow_any f F d s 0 _ HF2.out hn HCO.out hsz).mono ?_
  intro e w3 hto
  obtain ⟨v3, rfl, hb3, ho3⟩ := hto.get
  obtain ⟨A3, c3, rfl⟩ := own_form ho3
  have hb3' := hb2'.trans (hb3.mono hb2'.size)
  have HF3 := Lib.hid (HF2.out.below hb3 (Nat.le_refl _))
  have HI23 := Lib.hid (HI2.out.below hb3 (Nat.le_refl _))
  have HI3 := Lib.hid (own_in ho3)
  clear hto hb2' hb3 ho3 HF2 HI2
  go_wp2_with fail
  refine (implWidth_any f F d s 0 _ HF3.out hn HCO.out hsz).mono ?_
  rintro e w4 ⟨rfl, hb4⟩
  have hb4' := hb3'.trans (hb4.mono hb3'.size)
  have HF4 := Lib.hid (HF3.out.below hb4 (Nat.le_refl _))
  have HI24 := Lib.hid (HI23.out.below hb4 (Nat.le_refl _))
  have HI34 := Lib.hid (HI3.out.below hb4 (Nat.le_refl _))
  clear hb3' hb4 HF3 HI23 HI3
  go_wp2_with fail
  refine (specWidth_any f F d s 0 _ HF4.out hn HCO.out hsz).mono ?_
  rintro e w5 ⟨rfl, hb5⟩
  have hb5' := hb4'.trans (hb5.mono hb4'.size)
  have HF5 := Lib.hid (HF4.out.below hb5 (Nat.le_refl _))
  have HI25 := Lib.hid (HI24.out.below hb5 (Nat.le_refl _))
  have HI35 := Lib.hid (HI34.out.below hb5 (Nat.le_refl _))
  clear hb4' hb5 HF4 HI24 HI34
  go_wp2_with fail
  refine (implLig_any f F d s 0 _ HF5.out hn HCO.out hsz).mono ?_
  rintro e w6 ⟨v6, rfl, hb6, ho6⟩
  obtain ⟨A6, c6, rfl⟩ := own_form_s ho6
  have hb6' := hb5'.trans (hb6.mono hb5'.size)
  have HF6 := Lib.hid (HF5.out.below hb6 (Nat.le_refl _))
  have HI26 := Lib.hid (HI25.out.below hb6 (Nat.le_refl _))
  have HI36 := Lib.hid (HI35.out.below hb6 (Nat.le_refl _))
  have HL6 := Lib.hid (own_in_s ho6)
  clear hb5' hb6 ho6 HF5 HI25 HI35
  go_wp2_with fail
  refine (specLig_any f F d s 0 _ HF6.out hn HCO.out hsz).mono ?_
  rintro e w7 ⟨v7, rfl, hb7, ho7⟩
  obtain ⟨A7, c7, rfl⟩ := own_form_s ho7
  have hb7' := hb6'.trans (hb7.mono hb6'.size)
  have HF7 := Lib.hid (HF6.out.below hb7 (Nat.le_refl _))
  have HI27 := Lib.hid (HI26.out.below hb7 (Nat.le_refl _))
  have HI37 := Lib.hid (HI36.out.below hb7 (Nat.le_refl _))
  have HL67 := Lib.hid (HL6.out.below hb7 (Nat.le_refl _))
  have HL7 := Lib.hid (own_in_s ho7)
  clear hb6' hb7 ho7 HF6 HI26 HI36 HL6
  go_wp2_with fail
  refine (implNar_any f F d s _ HF7.out hn HCO.out hsz).mono ?_
  rintro e w8 ⟨v8, rfl, hb8, ho8⟩
  obtain ⟨A8, c8, rfl⟩ := own_form ho8
  have hb8' := hb7'.trans (hb8.mono hb7'.size)
  have HF8 := Lib.hid (HF7.out.below hb8 (Nat.le_refl _))
  have HI28 := Lib.hid (HI27.out.below hb8 (Nat.le_refl _))
  have HI38 := Lib.hid (HI37.out.below hb8 (Nat.le_refl _))
  have HL68 := Lib.hid (HL67.out.below hb8 (Nat.le_refl _))
  have HL78 := Lib.hid (HL7.out.below hb8 (Nat.le_refl _))
  have HN8 := Lib.hid (own_in ho8)
  clear hb7' hb8 ho8 HF7 HI27 HI37 HL67 HL7
  go_wp2_with fail
  refine (specNar_any f F d s _ HF8.out hn HCO.out hsz).mono ?_
  rintro e w9 ⟨A9, c9, rfl, hb9, ho9⟩
  have hb9' := hb8'.trans (hb9.mono hb8'.size)
  have HF9 := Lib.hid (HF8.out.below hb9 (Nat.le_refl _))
  have HI29 := Lib.hid (HI28.out.below hb9 (Nat.le_refl _))
  have HI39 := Lib.hid (HI38.out.below hb9 (Nat.le_refl _))
  have HL69 := Lib.hid (HL68.out.below hb9 (Nat.le_refl _))
  have HL79 := Lib.hid (HL78.out.below hb9 (Nat.le_refl _))
  have HN89 := Lib.hid (HN8.out.below hb9 (Nat.le_refl _))
  have HN9 := Lib.hid ho9.ints
  clear hb8' hb9 ho9 HF8 HI28 HI38 HL68 HL78 HN8
  have hLm : (intL ((sowF f s).getD [])).length ≤ maxLen := by have := sow_len f s; unfold maxLen; omega
  have hNm : (intL ((narW f s).getD [])).length ≤ maxLen := by have := nar_len' f s; unfold maxLen; omega
  have hSm : ((ligW f s).getD []).length ≤ maxLen := by have := lig_len' f s; unfold maxLen; omega
  have hol : (ligW f s).isSome = (sowF f s).isSome := by unfold ligW; simp
  have hoff : (sowF f s).isSome = true → (narW f s).isSome = true := fun h => by
    obtain ⟨l, hl⟩ := Option.isSome_iff_exists.1 h
    obtain ⟨_, ⟨c, hc, _⟩, _⟩ := sow_facts hl
    rw [hc]; rfl
  rw [hol]
  generalize hL : intL ((sowF f s).getD []) = L at *
  generalize ho : (sowF f s).isSome = o at *
  generalize hW : wideF f ((sowF f s).getD []) = W at *
  generalize hS : (ligW f s).getD [] = S at *
  generalize hN : intL ((narW f s).getD []) = N at *
  generalize hV : widthW f (narW f s) = V at *
  generalize hon : (narW f s).isSome = on at *
  have HL := Lib.hid hL; have HO := Lib.hid ho; have HW := Lib.hid hW; have HS := Lib.hid hS; have HN := Lib.hid hN; have HV := Lib.hid hV; have HON := Lib.hid hon
  have HOF := Lib.hid hoff
  clear hL ho hW hS hN hV hon hol hoff
  have hoo : (o != o) = false := by simp
  have hnn : (on != on) = false := by simp
  have hww : (W != W) = false := by simp
  have hvv : (V != V) = false := by simp
  cases o
  · cases on
    · go_wp2_with fail
      refine (qInts_any L L _ _ _ _ _ HI29.out HI39.out hLm hLm).mono ?_
      rintro e w10 ⟨rfl, hb10⟩
      rw [show decide (L = L) = true from decide_eq_true rfl]
      have hb10' := hb9'.trans (hb10.mono hb9'.size)
      have HF10 := Lib.hid (HF9.out.below hb10 (Nat.le_refl _))
      have HI310 := Lib.hid (HI39.out.below hb10 (Nat.le_refl _))
      have HL610 := Lib.hid (HL69.out.below hb10 (Nat.le_refl _))
      have HL710 := Lib.hid (HL79.out.below hb10 (Nat.le_refl _))
      have HN810 := Lib.hid (HN89.out.below hb10 (Nat.le_refl _))
      have HN910 := Lib.hid (HN9.out.below hb10 (Nat.le_refl _))
      clear hb9' hb10 HF9 HI29 HI39 HL69 HL79 HN89 HN9
      go_wp2_with fail
      refine (qTexts_any S S _ _ _ _ _ HL610.out HL710.out hSm hSm).mono ?_
      rintro e w11 ⟨rfl, hb11⟩
      rw [show decide (S = S) = true from decide_eq_true rfl]
      have hb11' := hb10'.trans (hb11.mono hb10'.size)
      have HF11 := Lib.hid (HF10.out.below hb11 (Nat.le_refl _))
      have HI311 := Lib.hid (HI310.out.below hb11 (Nat.le_refl _))
      have HN811 := Lib.hid (HN810.out.below hb11 (Nat.le_refl _))
      have HN911 := Lib.hid (HN910.out.below hb11 (Nat.le_refl _))
      clear hb10' hb11 HF10 HI310 HL610 HL710 HN810 HN910
      go_wp2_with fail
      refine (qInts_any N N _ _ _ _ _ HN811.out HN911.out hNm hNm).mono ?_
      rintro e w12 ⟨rfl, hb12⟩
      rw [show decide (N = N) = true from decide_eq_true rfl]
      have hb12' := hb11'.trans (hb12.mono hb11'.size)
      have HF12 := Lib.hid (HF11.out.below hb12 (Nat.le_refl _))
      have HI312 := Lib.hid (HI311.out.below hb12 (Nat.le_refl _))
      have HN912 := Lib.hid (HN911.out.below hb12 (Nat.le_refl _))
      clear hb11' hb12 HF11 HI311 HN811 HN911
      go_wp2
      go_ret
      exact ⟨rfl, hb12'⟩
    · go_wp2_with fail
      refine (qInts_any L L _ _ _ _ _ HI29.out HI39.out hLm hLm).mono ?_
      rintro e w10 ⟨rfl, hb10⟩
      rw [show decide (L = L) = true from decide_eq_true rfl]
      have hb10' := hb9'.trans (hb10.mono hb9'.size)
      have HF10 := Lib.hid (HF9.out.below hb10 (Nat.le_refl _))
      have HI310 := Lib.hid (HI39.out.below hb10 (Nat.le_refl _))
      have HL610 := Lib.hid (HL69.out.below hb10 (Nat.le_refl _))
      have HL710 := Lib.hid (HL79.out.below hb10 (Nat.le_refl _))
      have HN810 := Lib.hid (HN89.out.below hb10 (Nat.le_refl _))
      have HN910 := Lib.hid (HN9.out.below hb10 (Nat.le_refl _))
      clear hb9' hb10 HF9 HI29 HI39 HL69 HL79 HN89 HN9
      go_wp2_with fail
      refine (qTexts_any S S _ _ _ _ _ HL610.out HL710.out hSm hSm).mono ?_
      rintro e w11 ⟨rfl, hb11⟩
      rw [show decide (S = S) = true from decide_eq_true rfl]
      have hb11' := hb10'.trans (hb11.mono hb10'.size)
      have HF11 := Lib.hid (HF10.out.below hb11 (Nat.le_refl _))
      have HI311 := Lib.hid (HI310.out.below hb11 (Nat.le_refl _))
      have HN811 := Lib.hid (HN810.out.below hb11 (Nat.le_refl _))
      have HN911 := Lib.hid (HN910.out.below hb11 (Nat.le_refl _))
      clear hb10' hb11 HF10 HI310 HL610 HL710 HN810 HN910
      go_wp2_with fail
      refine (qInts_any N N _ _ _ _ _ HN811.out HN911.out hNm hNm).mono ?_
      rintro e w12 ⟨rfl, hb12⟩
      rw [show decide (N = N) = true from decide_eq_true rfl]
      have hb12' := hb11'.trans (hb12.mono hb11'.size)
      have HF12 := Lib.hid (HF11.out.below hb12 (Nat.le_refl _))
      have HI312 := Lib.hid (HI311.out.below hb12 (Nat.le_refl _))
      have HN912 := Lib.hid (HN911.out.below hb12 (Nat.le_refl _))
      clear hb11' hb12 HF11 HI311 HN811 HN911
      obtain ⟨cc, hcc⟩ := Option.isSome_iff_exists.1 HON.out
      obtain ⟨hF, hsp, hmem, hlen⟩ := nar_facts hcc
      have hNe : N = intL cc := by rw [← HN.out, hcc]; rfl
      subst hNe
      have HFF := Lib.hid hF; have HSP := Lib.hid hsp; have HMEM := Lib.hid hmem
      have HNL := Lib.hid (intL_len cc)
      have hcl : (intL cc).length = cc.length := intL_len cc
      clear hF hsp hmem hNm HN hcc
      rw [hcl]
      clear hcl
      go_wp2
      go_loop [32, 220] (fun t i => ∃ (k : Nat), k ≤ cc.length ∧ i = .int .i64 (k : Int) ∧ t = .string ⟨((cc.take k).flatMap (codeAt f)).toArray⟩) (fun _ i => cc.length - (intOf i).toNat)
      case atStart => exact ⟨0, Nat.zero_le _, rfl, rfl⟩
      case round =>
        obtain ⟨k, hk, rfl, rfl⟩ := hrel
        by_cases hlt : k < cc.length
        · obtain ⟨b2, off2, rfl, hbl2, hd⟩ := HN912.out (by rw [intL_len]; omega)
          have hd0 := hd k (by rw [intL_len]; exact hlt)
          rw [intL_get] at hd0
          clear hd
          have hix : cc[k] < f.length := HMEM.out _ (List.getElem_mem hlt)
          obtain ⟨b1, off1, rfl, _, hbl1, hc⟩ := HF12.out (by omega)
          have hc0 := (hc cc[k] hix).1
          clear hc
          have hcat := cat_code f cc k hlt hix
          have htl := take_flat_le f cc k
          have hsz3 := (HFF.out.size hix).2.1
          rw [codeAt_of hix, len_list] at hsz3
          rw [HSP.out, len_list] at htl
          have HCAT := Lib.hid hcat
          clear hcat
          generalize hgi : cc[k] = i at *
          have HGI := Lib.hid hgi; clear hgi
          generalize hta : (cc.take k).flatMap (codeAt f) = ta at *
          have HTA := Lib.hid hta; clear hta
          have hlen2 : ¬ (9223372036854775807 : Nat) < ta.length + f[i].1.size := by omega
          go_wp2
          go_round
          case rel => exact ⟨k + 1, by omega, by go_num, congrArg Value.string HCAT.out⟩
          case measure => simp [intOf]; omega
        · obtain rfl : k = cc.length := by omega
          have hfin : (⟨((cc.take cc.length).flatMap (codeAt f)).toArray⟩ : ByteArray) = s := by
            rw [List.take_length, HSP.out]
          rw [hfin]
          go_wp2
          go_ret
          exact ⟨ret_bool (by simp), hb12'⟩
  · obtain rfl : on = true := HOF.out rfl
    go_wp2_with fail
    refine (qInts_any L L _ _ _ _ _ HI29.out HI39.out hLm hLm).mono ?_
    rintro e w10 ⟨rfl, hb10⟩
    rw [show decide (L = L) = true from decide_eq_true rfl]
    have hb10' := hb9'.trans (hb10.mono hb9'.size)
    have HF10 := Lib.hid (HF9.out.below hb10 (Nat.le_refl _))
    have HI310 := Lib.hid (HI39.out.below hb10 (Nat.le_refl _))
    have HL610 := Lib.hid (HL69.out.below hb10 (Nat.le_refl _))
    have HL710 := Lib.hid (HL79.out.below hb10 (Nat.le_refl _))
    have HN810 := Lib.hid (HN89.out.below hb10 (Nat.le_refl _))
    have HN910 := Lib.hid (HN9.out.below hb10 (Nat.le_refl _))
    clear hb9' hb10 HF9 HI29 HI39 HL69 HL79 HN89 HN9
    go_wp2_with fail
    refine (qTexts_any S S _ _ _ _ _ HL610.out HL710.out hSm hSm).mono ?_
    rintro e w11 ⟨rfl, hb11⟩
    rw [show decide (S = S) = true from decide_eq_true rfl]
    have hb11' := hb10'.trans (hb11.mono hb10'.size)
    have HF11 := Lib.hid (HF10.out.below hb11 (Nat.le_refl _))
    have HI311 := Lib.hid (HI310.out.below hb11 (Nat.le_refl _))
    have HN811 := Lib.hid (HN810.out.below hb11 (Nat.le_refl _))
    have HN911 := Lib.hid (HN910.out.below hb11 (Nat.le_refl _))
    clear hb10' hb11 HF10 HI310 HL610 HL710 HN810 HN910
    go_wp2_with fail
    refine (qInts_any N N _ _ _ _ _ HN811.out HN911.out hNm hNm).mono ?_
    rintro e w12 ⟨rfl, hb12⟩
    rw [show decide (N = N) = true from decide_eq_true rfl]
    have hb12' := hb11'.trans (hb12.mono hb11'.size)
    have HF12 := Lib.hid (HF11.out.below hb12 (Nat.le_refl _))
    have HI312 := Lib.hid (HI311.out.below hb12 (Nat.le_refl _))
    have HN912 := Lib.hid (HN911.out.below hb12 (Nat.le_refl _))
    clear hb11' hb12 HF11 HI311 HN811 HN911
    obtain ⟨l, hl⟩ := Option.isSome_iff_exists.1 HO.out
    obtain ⟨hF, ⟨cw, hcw, hle⟩, hsp, hmem, hlen⟩ := sow_facts hl
    have hLe : L = intL l := by rw [← HL.out, hl]; rfl
    have hWe : W = wideF f l := by rw [← HW.out, hl]; rfl
    have hSe : S.length = (ligF f l).length := by rw [← HS.out]; unfold ligW; rw [hl]; rfl
    have hVe : V ≤ W := by rw [← HV.out, hcw, hWe]; exact hle
    subst hLe
    have HFF1 := Lib.hid hF; have HSP1 := Lib.hid hsp; have HMEM1 := Lib.hid hmem
    have HWE := Lib.hid hWe
    have HSE := Lib.hid hSe
    have hcl : (intL l).length = l.length := intL_len l
    have hlb := ligF_len f l
    clear hF hsp hmem hLm HL hl hcw hle hWe hSe HW HS
    rw [hcl]
    clear hcl
    go_wp2
    go_loopw [25, 26, 27, 162] (fun t q n i wr => ∃ (k : Nat) (S1 N1 : Int), k ≤ l.length ∧ i = .int .i64 (k : Int) ∧ t = .string ⟨((l.take k).flatMap (codeAt f)).toArray⟩ ∧ q = .int .i64 S1 ∧ n = .int .i64 N1 ∧ S1 = wideF f (l.take k) ∧ N1 = ((ligF f (l.take k)).length : Int) ∧ 0 ≤ S1 ∧ S1 ≤ 54 * (k : Int) ∧ 0 ≤ N1 ∧ N1 ≤ (k : Int) ∧ Below w12.heap.size w12 wr) (fun _ _ _ i _ => l.length - (intOf i).toNat)
    case atStart => exact ⟨0, 0, 0, Nat.zero_le _, rfl, rfl, rfl, rfl, rfl, rfl, by omega, by omega, by omega, by omega, Below.refl _ _⟩
    case round =>
      obtain ⟨k, S1, N1, hk, rfl, rfl, rfl, rfl, hS1, hN1, hs0, hs1, hn0, hn1, hbr⟩ := hrel
      have HS1 := Lib.hid hS1; have HN1 := Lib.hid hN1
      clear hS1 hN1
      have HFr := Lib.hid (HF12.out.below hbr (Nat.le_refl _))
      by_cases hlt : k < l.length
      · obtain ⟨b2, off2, rfl, hbl2, hd⟩ := HI312.out (by rw [intL_len]; omega)
        have hd0 := hd k (by rw [intL_len]; exact hlt)
        rw [intL_get] at hd0
        clear hd
        have hd0 := (hbr.cell (p := ⟨b2, off2 + k, none⟩) hbl2).trans hd0
        have hix : l[k] < f.length := HMEM1.out _ (List.getElem_mem hlt)
        obtain ⟨b1, off1, rfl, _, hbl1, hc⟩ := HFr.out (by omega)
        have hc0 := (hc l[k] hix).1
        clear hc
        have hcat := cat_code f l k hlt hix
        have htl := take_flat_le f l k
        have hsz3 := (HFF1.out.size hix).2.1
        rw [codeAt_of hix, len_list] at hsz3
        rw [HSP1.out, len_list] at htl
        have hw := HFF1.out.width hix
        have HST := Lib.hid (wideF_snoc f l k hlt)
        have HLG := Lib.hid (ligF_snoc f l k hlt)
        have HCB := Lib.hid (codeB_of hix)
        have HWA := Lib.hid (widthAt_of hix)
        have HSOC := Lib.hid (soc_self HFF1.out hix)
        have HCAT := Lib.hid hcat
        clear hcat
        generalize hgi : l[k] = i at *
        have HGI := Lib.hid hgi; clear hgi
        generalize hta : (l.take k).flatMap (codeAt f) = ta at *
        have HTA := Lib.hid hta; clear hta
        have hlen2 : ¬ (9223372036854775807 : Nat) < ta.length + f[i].1.size := by omega
        go_wp2_with fail
        refine (implSoc_any f _ _ f[i].1 0 _ HFr.out hn HCO.out).mono ?_
        rintro e w13 ⟨rfl, hb13⟩
        rw [HSOC.out]
        have hc0 := (hb13.cell (p := ⟨b1, off1 + i * 2, none⟩) hbl1).trans hc0
        have hbl1' : b1 < w13.heap.size := Nat.lt_of_lt_of_le hbl1 hb13.size
        have hbr' := hbr.trans (hb13.mono hbr.size)
        have hwv : socW f (some i) = f[i].2 := HWA.out
        rw [hwv]
        clear hbr hb13 hd0 hwv HFr
        by_cases hbig : (1 : Int) < (f[i].1.size : Int)
        · have hbig' : 1 < f[i].1.size := by omega
          go_wp2
          go_roundw
          case rel => exact ⟨k + 1, _, _, by omega, by go_num, congrArg Value.string HCAT.out, rfl, rfl, by rw [HST.out, HWA.out, HS1.out], by rw [HLG.out, HCB.out, if_pos hbig', HN1.out]; simp, by omega, by omega, by omega, by omega, hbr'⟩
          case measure => simp [intOf]; omega
        · have hbig' : ¬ 1 < f[i].1.size := by omega
          go_wp2
          go_roundw
          case rel => exact ⟨k + 1, _, _, by omega, by go_num, congrArg Value.string HCAT.out, rfl, rfl, by rw [HST.out, HWA.out, HS1.out], by rw [HLG.out, HCB.out, if_neg hbig', HN1.out]; simp, by omega, by omega, by omega, by omega, hbr'⟩
          case measure => simp [intOf]; omega
      · obtain rfl : k = l.length := by omega
        have hfin1 : (⟨((l.take l.length).flatMap (codeAt f)).toArray⟩ : ByteArray) = s := by
          rw [List.take_length, HSP1.out]
        rw [hfin1]
        clear hfin1
        have hq1 : (S1 != W) = false := by have := HS1.out; rw [List.take_length] at this; rw [this, HWE.out]; simp
        have hq2 : (N1 != (S.length : Int)) = false := by have := HN1.out; rw [List.take_length] at this; rw [this, HSE.out]; simp
        have hq3 : ¬ W < V := by omega
        have hbF := hb12'.trans (hbr.mono hb12'.size)
        have HNr := Lib.hid (HN912.out.below hbr (Nat.le_refl _))
        clear hbr hb12' HF12 HN912 HI312 HS1 HN1
        obtain ⟨cc, hcc⟩ := Option.isSome_iff_exists.1 HON.out
        obtain ⟨hF, hsp, hmem, hlen⟩ := nar_facts hcc
        have hNe : N = intL cc := by rw [← HN.out, hcc]; rfl
        subst hNe
        have HFF := Lib.hid hF; have HSP := Lib.hid hsp; have HMEM := Lib.hid hmem
        have HNL := Lib.hid (intL_len cc)
        have hcl : (intL cc).length = cc.length := intL_len cc
        clear hF hsp hmem hNm HN hcc
        rw [hcl]
        clear hcl
        go_wp2
        go_loop [32, 220] (fun t i => ∃ (k : Nat), k ≤ cc.length ∧ i = .int .i64 (k : Int) ∧ t = .string ⟨((cc.take k).flatMap (codeAt f)).toArray⟩) (fun _ i => cc.length - (intOf i).toNat)
        case atStart => exact ⟨0, Nat.zero_le _, rfl, rfl⟩
        case round =>
          obtain ⟨k, hk, rfl, rfl⟩ := hrel
          by_cases hlt : k < cc.length
          · obtain ⟨b2, off2, rfl, hbl2, hd⟩ := HNr.out (by rw [intL_len]; omega)
            have hd0 := hd k (by rw [intL_len]; exact hlt)
            rw [intL_get] at hd0
            clear hd
            have hix : cc[k] < f.length := HMEM.out _ (List.getElem_mem hlt)
            obtain ⟨b1, off1, rfl, _, hbl1, hc⟩ := HFr.out (by omega)
            have hc0 := (hc cc[k] hix).1
            clear hc
            have hcat := cat_code f cc k hlt hix
            have htl := take_flat_le f cc k
            have hsz3 := (HFF.out.size hix).2.1
            rw [codeAt_of hix, len_list] at hsz3
            rw [HSP.out, len_list] at htl
            have HCAT := Lib.hid hcat
            clear hcat
            generalize hgi : cc[k] = i at *
            have HGI := Lib.hid hgi; clear hgi
            generalize hta : (cc.take k).flatMap (codeAt f) = ta at *
            have HTA := Lib.hid hta; clear hta
            have hlen2 : ¬ (9223372036854775807 : Nat) < ta.length + f[i].1.size := by omega
            go_wp2
            go_round
            case rel => exact ⟨k + 1, by omega, by go_num, congrArg Value.string HCAT.out⟩
            case measure => simp [intOf]; omega
          · obtain rfl : k = cc.length := by omega
            have hfin : (⟨((cc.take cc.length).flatMap (codeAt f)).toArray⟩ : ByteArray) = s := by
              rw [List.take_length, HSP.out]
            rw [hfin]
            go_wp2
            go_ret
            exact ⟨ret_bool (by simp), hbF⟩

set_option maxRecDepth 100000 in
theorem lifted (os : Os) (started : os.Started) (H : Type) (enc : TypeId × Value → H) :
    ReturnsInHanded {} Try.checked os 3 .any (Rows.fnFontsSpec.pre6 enc Try.prog Try.f3 Rows.fnFontsRow.domain false) (Rows.fnFontsSpec.post enc Try.prog Try.f3 false true false false) := by
  refine returnsInHanded_of_change (C := Try.checked) own started (by kernel_rfl) Try.func3
    (ChangeSpec.witness6 (enc := enc) (C := Try.checked) false ⟨#[], #[.slice none 0 0, .slice none 0 0], []⟩ 8 (by kernel_rfl) (by kernel_rfl) (by kernel_rfl) (by kernel_rfl)) ?_
  intro W base args ds gs before hval0 hW hcnd _
  have hval : ∀ (j : Nat) t v, Try.f3.params[j]? = some t → args[j]? = some v → Value.okWide Try.prog W .any base t v := hval0
  have hW' := hW
  obtain ⟨p, q, hA0, hV, rfl, hfz, hnd⟩ := hW
  have hA : DataW.TrodAll enc Try.prog W 0 (fun _ => true) true Try.f3.params.toList args.toList ds p := hA0
  rw [Try.params3] at hA hval
  obtain ⟨v0, vs0, d0, ds0, p0, q0, hargs, rfl, rfl, h0, r0⟩ := trodAll_cons hA
  obtain ⟨v1, vs1, d1, ds1, p1, q1, rfl, rfl, rfl, h1, r1⟩ := trodAll_cons r0
  obtain ⟨rfl, rfl, rfl⟩ := trodAll_nil r1
  obtain rfl : args = #[v0, v1] := by cases args; simp_all
  obtain ⟨rfl, rfl⟩ := trodVars_none hV
  have k0 := h0
  have lt0 : ∀ x ∈ p0, x.block < W.heap.size := by obtain ⟨m, hm⟩ := k0; exact DataW.trod_lt m _ _ _ hm
  have k1 := h1
  have lt1 : ∀ x ∈ p1, x.block < W.heap.size := by obtain ⟨m, hm⟩ := k1; exact DataW.trod_lt m _ _ _ hm
  obtain ⟨A0, f0, cap0, rfl, hs0, hl0⟩ := open_bytes (hval 0 22 v0 rfl rfl) h0
  obtain ⟨A1, f1, cap1, rfl, hs1, hl1⟩ := open_bytes (hval 1 22 v1 rfl rfl) h1
  clear hA0 hval0
  refine (walk A0 f0 cap0 A1 f1 cap1 W hs0 hl0 hs1 hl1).mono fun e W' ⟨he, bel⟩ => ?_
  subst he
  exact ⟨_, rfl, _, _, _, [], _, [], hW', trodAll_mk1 (shut_bool Try.underlying4 _), (trodAll_cons_mk (Below.trod laidOut (by kernel_rfl) (of_decide_eq_true (by kernel_rfl)) k0 bel lt0) (trodAll_cons_mk (Below.trod laidOut (by kernel_rfl) (of_decide_eq_true (by kernel_rfl)) k1 bel lt1) trodAll_mk0)), rfl, bel.frame _, fun h => by cases h⟩

theorem over : Rows.fnFontsRow.holds Try.pinned (OpenSpec.ofChange Rows.fnFontsSpec) :=
  OpenClaim.holds_of_wide 3 Try.f3 rfl rfl rfl rfl rfl rfl rfl ⟨rfl, rfl, rfl, rfl, rfl⟩ rfl rfl rfl rfl rfl (by kernel_rfl) Try.func3 (by kernel_rfl)
    (of_decide_eq_true (by kernel_rfl)) (by unfold Func.isWrapper; first | (rw [if_pos (by decide +kernel)]; kernel_rfl) | (rw [if_neg (by decide +kernel)]; exact ⟨rfl, rfl⟩))
    (fun os started H enc _ => lifted os started H enc)

theorem proved : Rows.FnFontsSaid := over
end Go.Proofs.Ytacphcpjppkniaa.fnFonts

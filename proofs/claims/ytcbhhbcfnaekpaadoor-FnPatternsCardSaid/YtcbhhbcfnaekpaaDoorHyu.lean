/-
  The contracts of spec.hyAsked, spec.HyphenPlaces and impl.HyphenPlaces.
-/
import Derived.Test.YtcbhhbcfnaekpaaDoorHyt
import Derived.Test.YtcbhhbcfnaekpaaDoorHyo
import Derived.Test.YtcbhhbcfnaekpaaDoorHyp
namespace Go.Proofs.YtcbhhbcfnaekpaaDoor
open Go.RowKit
set_option linter.unusedVariables false

def askB (ps es : List ByteArray) (wd : ByteArray) : Bool := hyB ps es && isWordF wd
theorem ask_all {ps es : List ByteArray} {wd : ByteArray} (h : askB ps es wd = true) : patsB ps = true ∧ exsB es = true ∧ isWordF wd = true := by
  unfold askB hyB at h
  simp only [Bool.and_eq_true] at h
  exact ⟨h.1.1, h.1.2, h.2⟩
set_option maxRecDepth 100000 in
theorem hyAsked_any (ps : List ByteArray) (A : Option Addr) (c : Nat) (es : List ByteArray) (B : Option Addr) (d : Nat) (wd : ByteArray) (w : World) (hf : StrsIn w A ps) (ho : StrsLe ps) (hn : ps.length ≤ 1048576) (hf' : StrsIn w B es) (ho' : StrsLe es) (hn' : es.length ≤ 1048576) (hw : wd.size ≤ 1048576) :
    Calls Tryd.prog 49 #[.slice A ps.length c, .slice B es.length d, .string wd] w fun e w' => e = .returned (.bool (askB ps es wd)) ∧ Below w.heap.size w w' := by
  have hwm : wd.size ≤ maxLen := by unfold maxLen; omega
  cases hg : hyB ps es
  · have HG := Lib.hid (hyGood_is ps A c es B d false w hf ho hn hf' ho' hn' (Lib.hid hg))
    have HA : Hid (askB ps es wd = false) := Lib.hid (by unfold askB; rw [hg]; rfl)
    clear hf ho hf' ho' hg
    go_enter Tryd.func49, Tryd.ntmps49
    go_wp2_with fail
    refine HG.out.mono ?_
    rintro e w1 ⟨rfl, hb1⟩
    go_wp2
    go_ret
    exact ⟨ret_bool HA.out.symm, hb1⟩
  · have HG := Lib.hid (hyGood_is ps A c es B d true w hf ho hn hf' ho' hn' (Lib.hid hg))
    have HA : Hid (isWordF wd = askB ps es wd) := Lib.hid (by unfold askB; rw [hg]; rfl)
    clear hf ho hf' ho' hg
    go_enter Tryd.func49, Tryd.ntmps49
    go_wp2_with fail
    refine HG.out.mono ?_
    rintro e w1 ⟨rfl, hb1⟩
    go_wp2_with fail
    refine (tyWord_is _ _ _ hwm HA).mono ?_
    rintro e w2 ⟨rfl, rfl⟩
    go_wp2
    go_ret
    exact ⟨rfl, hb1⟩
theorem hyAsked_is (ps : List ByteArray) (A : Option Addr) (c : Nat) (es : List ByteArray) (B : Option Addr) (d : Nat) (wd : ByteArray) (b : Bool) (w : World) (hf : StrsIn w A ps) (ho : StrsLe ps) (hn : ps.length ≤ 1048576) (hf' : StrsIn w B es) (ho' : StrsLe es) (hn' : es.length ≤ 1048576) (hw : wd.size ≤ 1048576) (h : Hid (askB ps es wd = b)) :
    Calls Tryd.prog 49 #[.slice A ps.length c, .slice B es.length d, .string wd] w fun e w' => e = .returned (.bool b) ∧ Below w.heap.size w w' := by
  have := hyAsked_any ps A c es B d wd w hf ho hn hf' ho' hn' hw; rw [h.out] at this; exact this
def hpL (ps es : List ByteArray) (wd : ByteArray) : List Int := if askB ps es wd then hyPl ps es wd else []
theorem hp_no {ps es : List ByteArray} {wd : ByteArray} (h : askB ps es wd = false) : hpL ps es wd = [] := by unfold hpL; rw [h]; rfl
theorem hp_yes {ps es : List ByteArray} {wd : ByteArray} (h : askB ps es wd = true) : hpL ps es wd = hyPl ps es wd := by unfold hpL; rw [h]; rfl
theorem hyRaw_len {ps es : List ByteArray} {wd : ByteArray} (he : StrsLe es) : (hyRaw ps es wd).length ≤ 1048576 + wd.size := by
  unfold hyRaw
  split
  · rename_i e h
    have : ∀ (es : List ByteArray), (∀ x ∈ es, x.size ≤ 1048576) → exFind es wd = some e → e.size ≤ 1048576 := by
      intro es
      induction es with
      | nil => intro _ h; cases h
      | cons x r ih =>
        intro h1 h2
        unfold exFind at h2
        split at h2
        · obtain rfl := Option.some.inj h2; exact h1 _ (by simp)
        · exact ih (fun y hy => h1 y (by simp [hy])) h2
    have h2 := this es (fun x hx => by obtain ⟨k, hk, rfl⟩ := List.mem_iff_getElem.1 hx; exact he k hk) h
    have h3 := exP_len e
    omega
  · have h1 := oddG_len (valL ps wd) 1
    rw [valL_len] at h1
    unfold oddL; omega
theorem placeL_ge (l : List UInt8) : ∀ x ∈ placeL l, 0 ≤ x := fun x hx => (plG_ge l 0).1 x hx
theorem plG_le : ∀ (l : List UInt8) (n : Nat), ∀ x ∈ plG n l, x ≤ n + l.length
  | [], n => by simp [plG]
  | c :: r, n => by
    intro x hx
    unfold plG at hx
    simp only [List.length_cons]
    split at hx
    · rcases List.mem_cons.1 hx with rfl | hx
      · omega
      · have := plG_le r n x hx; omega
    · have := plG_le r (n + 1) x hx; omega
theorem exP_bd (s : ByteArray) : ∀ x ∈ exP s, 0 ≤ x ∧ x ≤ s.size := by
  intro x hx
  unfold exP at hx
  split at hx
  · have h1 := placeL_ge _ x hx
    have h2 := plG_le _ 0 x hx
    rw [len_list] at h2
    omega
  · simp at hx
theorem gd_short : ∀ (l : List UInt8) (n : Nat) (b : Bool), gdB b l = true → (plG n l).length + (if b then 1 else 0) ≤ (bareL l).length
  | [], n, b, h => by cases b <;> simp [gdB, plG] at h ⊢
  | c :: r, n, b, h => by
    have e : bareL (c :: r) = if c = 45 then bareL r else c :: bareL r := by unfold bareL; by_cases h : c = 45 <;> simp [h]
    unfold gdB at h
    rw [e]
    unfold plG
    by_cases hc : c = 45
    · rw [if_pos hc] at h ⊢
      rw [if_pos hc]
      rw [Bool.and_eq_true] at h
      have h1 : b = false := by simpa using h.1
      subst h1
      have := gd_short r n true h.2
      simp at this ⊢; omega
    · rw [if_neg hc] at h ⊢
      rw [if_neg hc]
      have := gd_short r (n + 1) false h
      simp at this ⊢
      split <;> omega
theorem exP_short {s : ByteArray} (h : exB s = true) : (exP s).length ≤ 16 := by
  obtain ⟨h1, h2, h3, h4, h5⟩ := ex_word h
  have hne : s.data.toList ≠ [] := fun e => by
    have h8 : (bareB s).size ≤ s.size := bareB_size s
    have h9 : s.size = 0 := by rw [← len_list s, e]; rfl
    omega
  have hg : gdB true s.data.toList = true := by rw [gd_hy hne]; exact decide_eq_true h1
  have h6 := gd_short _ 0 _ hg
  have h7 := isWord_len h2
  have h8 : (bareB s).size = (bareL s.data.toList).length := by show (bareL s.data.toList).toArray.size = _; simp
  rw [h5]
  unfold placeL
  simp at h6; omega
theorem exFind_mem : ∀ {es : List ByteArray} {wd e : ByteArray}, exFind es wd = some e → e ∈ es ∧ exW e = wd
  | [], _, _, h => by cases h
  | x :: r, wd, e, h => by
    unfold exFind at h
    split at h
    · rename_i hx
      obtain rfl := Option.some.inj h; exact ⟨by simp, hx⟩
    · have := exFind_mem h; exact ⟨by simp [this.1], this.2⟩
theorem hp_short (ps es : List ByteArray) (wd : ByteArray) : (hpL ps es wd).length ≤ 16 := by
  cases ha : askB ps es wd
  · rw [hp_no ha]; simp
  · rw [hp_yes ha]
    obtain ⟨h1, h2, h3⟩ := ask_all ha
    have hw := isWord_len h3
    refine Nat.le_trans (List.length_filter_le _ _) ?_
    unfold hyRaw
    split
    · rename_i e he
      have hm := (exFind_mem he).1
      have hx := (exsB_all h2).1
      unfold exsA at hx
      rw [Bool.and_eq_true, List.all_eq_true] at hx
      exact exP_short (hx.1 e hm)
    · have h4 := oddG_len (valL ps wd) 1
      rw [valL_len] at h4
      unfold oddL; omega
set_option maxRecDepth 100000 in
set_option maxHeartbeats 1000000 in
theorem specHyphenPlaces_any (ps : List ByteArray) (A : Option Addr) (c : Nat) (es : List ByteArray) (B : Option Addr) (d : Nat) (wd : ByteArray) (w : World) (hf : StrsIn w A ps) (ho : StrsLe ps) (hn : ps.length ≤ 1048576) (hf' : StrsIn w B es) (ho' : StrsLe es) (hn' : es.length ≤ 1048576) (hw : wd.size ≤ 1048576) :
    Calls Tryd.prog 16 #[.slice A ps.length c, .slice B es.length d, .string wd] w fun e w' => ∃ v, e = .returned (.tuple #[v, .bool (askB ps es wd)]) ∧ Below w.heap.size w w' ∧ AtRow w' w.heap.size v (hpL ps es wd) := by
  have HF := Lib.hid hf; have HF' := Lib.hid hf'; have HO := Lib.hid ho; have HO' := Lib.hid ho'
  clear hf hf' ho ho'
  cases ha : askB ps es wd
  · have HA := Lib.hid (hyAsked_is ps A c es B d wd false w HF.out HO.out hn HF'.out HO'.out hn' hw (Lib.hid ha))
    have HV := Lib.hid (hp_no ha)
    clear ha
    go_enter Tryd.func16, Tryd.ntmps16
    go_wp2_with fail
    refine HA.out.mono ?_
    rintro e w1 ⟨rfl, hb1⟩
    go_wp2
    go_ret2
    exact ⟨_, rfl, hb1, by rw [HV.out]; exact AtRow.of_own (own_nil _ _ _ 3)⟩
  · have HA := Lib.hid (hyAsked_is ps A c es B d wd true w HF.out HO.out hn HF'.out HO'.out hn' hw (Lib.hid ha))
    have HV := Lib.hid (hp_yes ha)
    have HP := Lib.hid (patsB_all (ask_all ha).1).1
    obtain ⟨h1, h16⟩ := isWord_len (ask_all ha).2.2
    clear ha
    go_enter Tryd.func16, Tryd.ntmps16
    go_wp2_with fail
    refine HA.out.mono ?_
    rintro e w1 ⟨rfl, hb1⟩
    have HB1 := Lib.hid hb1
    clear hb1
    go_wp2_with fail
    refine (hyPlaces_any ps A c es B d wd _ (HF.out.below HB1.out (Nat.le_refl _)) HO.out hn (HF'.out.below HB1.out (Nat.le_refl _)) HO'.out hn' HP.out h1 h16).mono ?_
    rintro e w2 ⟨v, rfl, hb2, ho2⟩
    have HB2 := Lib.hid (HB1.out.trans (hb2.mono HB1.out.size))
    have HO2 := Lib.hid (Joins.ownsRow_le ho2 HB1.out.size)
    clear hb2 ho2
    go_wp2
    go_ret2
    exact ⟨_, rfl, HB2.out, by rw [HV.out]; exact AtRow.of_own HO2.out⟩
/-- What the table says of a word. -/
theorem IsTab.look {w : World} {b : Nat} {es : List ByteArray} (h : IsTab w b es) (hx : exsA es = true) {wd : ByteArray} (hw : wd.size ≤ maxLen) :
    (hasS (es.map exW) wd = false ∧ (Instr.lookup 60 (.map (some b)) (.string wd) true).run Tryd.prog w = .ok (.tuple #[.int .i64 0, .bool false]) w) ∨
    ∃ i, ∃ hi : i < es.length, exW es[i] = wd ∧ (Instr.lookup 60 (.map (some b)) (.string wd) true).run Tryd.prog w = .ok (.tuple #[.int .i64 (i : Int), .bool true]) w := by
  obtain ⟨D, h1, h2⟩ := h
  have hz : plainElem (H := Unit) Tryd.prog 3 (.int .i64 0) = some (.lit (.int .i64 0), []) := pET (wf_nat (k := 0) (by omega))
  obtain ⟨v, ps, hr, hv⟩ := h1.look_ok kS uMT (zIT w) hz (kOfS hw)
  have hnd := exsA_nodup hx
  have hin := h2.hasIn (Nat.le_refl _) wd
  rw [List.take_length] at hin
  obtain ⟨cc, rfl, hc, _⟩ := plainElem_int_inv Tryd.underlying3 hv
  have hce := congrArg Prod.fst hc
  simp only at hce
  cases hh : hasS (es.map exW) wd
  · refine .inl ⟨rfl, ?_⟩
    rw [hh] at hin
    have h5 : Maps.has D (keyS wd) = false := hin
    have e0 := Maps.atKey_of_not_has h5 (.lit (.int .i64 0))
    have h6 : D.atKey (Lit.string wd.data.toList) (.lit (.int .i64 0)) = .lit (.int .i64 0) := e0
    rw [h6] at hce
    have h7 := (Lit.int.inj (DataW.lit.inj hce)).2
    rw [hr, show Maps.has D (Lit.string wd.data.toList) = false from h5, h7]
  · refine .inr ?_
    rw [hh] at hin
    obtain ⟨i, hi, _, e2⟩ := h2.has2 _ hin
    have e3 := keyS_inj e2
    have h6 := h2.val (by rw [List.take_length]; exact hnd) i hi hi (.lit (.int .i64 0))
    rw [← e3] at h6
    have h8 : D.atKey (Lit.string wd.data.toList) (.lit (.int .i64 0)) = .lit (.int .i64 (i : Int)) := h6
    rw [h8] at hce
    have h7 := (Lit.int.inj (DataW.lit.inj hce)).2
    refine ⟨i, hi, e3.symm, ?_⟩
    rw [hr, show Maps.has D (Lit.string wd.data.toList) = true from hin, h7]
theorem IsTab.next {w w' : World} {b : Nat} {es : List ByteArray} (h : IsTab w b es) (hb : Below w.heap.size w w') : IsTab w' b es := by
  obtain ⟨D, h1, h2⟩ := h; exact ⟨D, own_mapB (B := 0) h1 hb, h2⟩
set_option maxRecDepth 100000 in
set_option maxHeartbeats 4000000 in
theorem implHyphenPlaces_own (ps : List ByteArray) (A : Option Addr) (c : Nat) (es : List ByteArray) (B : Option Addr) (d : Nat) (wd : ByteArray) (w : World) (hf : StrsIn w A ps) (ho : StrsLe ps) (hn : ps.length ≤ 1048576) (hf' : StrsIn w B es) (ho' : StrsLe es) (hn' : es.length ≤ 1048576) (hw : wd.size ≤ 1048576) (hy : LayB w) :
    Calls Tryd.prog 15 #[.slice A ps.length c, .slice B es.length d, .string wd] w fun e w' => ∃ v, e = .returned (.tuple #[v, .bool (askB ps es wd)]) ∧ Below w.heap.size w w' ∧ w'.ownsRow w.heap.size 3 1 v (hpL ps es wd).length (intsZ (hpL ps es wd)) := by
  have HF := Lib.hid hf; have HF' := Lib.hid hf'; have HO := Lib.hid ho; have HO' := Lib.hid ho'; have HY := Lib.hid hy
  clear hf hf' ho ho' hy
  have hwm : wd.size ≤ maxLen := by unfold maxLen; omega
  obtain ⟨w0, hw0⟩ : ∃ x : World, x = w.alloc (.cells #[.string wd] 9) := ⟨_, rfl⟩
  have HB0 : Hid (Below w.heap.size w w0) := Lib.hid (by rw [hw0]; exact (Below.refl _ _).alloc (Nat.le_refl _) _)
  have HC0 : Hid (w0.cell? ⟨w.heap.size, 0, none⟩ = some (.string wd)) := Lib.hid (by rw [hw0, cell_of_heap (heap_new _ _)]; rfl)
  have HL0 : Hid (w0.heap.size = w.heap.size + 1) := Lib.hid (by rw [hw0]; simp)
  have HW0 := Lib.hid hw0
  clear hw0
  have hc0 := HC0.out
  go_enter Tryd.func15, Tryd.ntmps15
  go_wp2_with fail
  rw [← HW0.out]
  refine (implValuesOf_any ps A c wd w0 (HF.out.below HB0.out (Nat.le_refl _)) HO.out hn hw).mono ?_
  rintro e w1 ⟨v1, rfl, hb1, hr1⟩
  obtain ⟨A1, c1, rfl⟩ := hr1.form
  have HB1 := Lib.hid (HB0.out.trans (hb1.mono HB0.out.size))
  have HX1 : Hid (Below w0.heap.size w0 w1) := Lib.hid hb1
  have HI1 := Lib.hid hr1.ints
  clear hb1 hr1 hc0
  go_wp2_with fail
  refine (tableOf_any es B d w1 (HF'.out.below HB1.out (Nat.le_refl _)) HO'.out hn' (HY.out.below HB1.out)).mono ?_
  rintro e w2 ⟨hb2, ⟨hp, x, rfl⟩ | ⟨hp, b0, hb0, rfl, ht⟩⟩
  · have HA : Hid (askB ps es wd = false) := Lib.hid (by unfold askB hyB; rw [hp]; simp)
    have HB2 := Lib.hid (HB1.out.trans (hb2.mono HB1.out.size))
    have HV := Lib.hid (hp_no HA.out)
    clear hp hb2
    generalize vlL ps wd = V at *
    cases hv : vlB ps wd
    · go_wp2
      go_ret2
      exact ⟨_, ret_vb HA.out.symm, HB2.out, by rw [HV.out]; exact own_nil _ _ _ _⟩
    · go_wp2
      go_ret2
      exact ⟨_, ret_vb HA.out.symm, HB2.out, by rw [HV.out]; exact own_nil _ _ _ _⟩
  have HB2 := Lib.hid (HB1.out.trans (hb2.mono HB1.out.size))
  have HX2 := Lib.hid (HX1.out.trans (hb2.mono HX1.out.size))
  have HI2 := Lib.hid (HI1.out.below hb2 (Nat.le_refl _))
  have HT2 := Lib.hid ht
  have HEX := Lib.hid hp
  have HXA := Lib.hid (exsB_all hp).1
  clear hb2 ht HI1 HX1
  cases hv : vlB ps wd
  · have HA : Hid (askB ps es wd = false) := Lib.hid (by
      unfold askB hyB
      unfold vlB at hv
      rw [hp, Bool.and_true]; exact hv)
    have HV := Lib.hid (hp_no HA.out)
    clear hv hp
    generalize vlL ps wd = V at *
    go_wp2
    go_ret2
    exact ⟨_, ret_vb HA.out.symm, HB2.out, by rw [HV.out]; exact own_nil _ _ _ _⟩
  have HA : Hid (askB ps es wd = true) := Lib.hid (by
    unfold askB hyB
    unfold vlB at hv
    rw [hp, Bool.and_true]; exact hv)
  have HV := Lib.hid (hp_yes HA.out)
  have HVL := Lib.hid (vl_yes hv)
  have HPA := Lib.hid (patsB_all (ask_all HA.out).1).1
  have hwl := isWord_len (ask_all HA.out).2.2
  have HBD : Hid (∀ x ∈ vlL ps wd, 0 ≤ x ∧ x ≤ 9) := Lib.hid (by rw [HVL.out]; exact valL_bd HPA.out)
  have HRN : Hid (hyRaw ps es wd = hyRaw ps es wd) := Lib.hid rfl
  have HOD : Hid (exFind es wd = none → hyRaw ps es wd = oddL (vlL ps wd)) := Lib.hid (fun h => by rw [HVL.out]; exact hyRaw_none h)
  have hvl : (vlL ps wd).length ≤ 1048576 := by have := vl_short ps wd; omega
  have HODB : Hid (∀ x ∈ oddL (vlL ps wd), 0 ≤ x ∧ x ≤ 2000000) := Lib.hid (fun x hx => by
    have := oddG_mem (vlL ps wd) 1 x hx
    have := vl_short ps wd
    omega)
  have HODL : Hid ((oddL (vlL ps wd)).length ≤ 2000000) := Lib.hid (by have := oddG_len (vlL ps wd) 1; unfold oddL; omega)
  clear hv hp HVL HRN
  generalize vlL ps wd = V at *
  go_wp2_with fail
  refine (oddPlaces_any V A1 c1 w2 HI2.out HBD.out hvl).mono ?_
  rintro e w3 ⟨v3, rfl, hb3, ho3⟩
  obtain ⟨A3, c3, rfl⟩ := own_form ho3
  have HB3 := Lib.hid (HB2.out.trans (hb3.mono HB2.out.size))
  have HX3 := Lib.hid (HX2.out.trans (hb3.mono HX2.out.size))
  have HO3 := Lib.hid ho3
  have HT3 := Lib.hid (HT2.out.next hb3)
  have HC3 : Hid (w3.cell? ⟨w.heap.size, 0, none⟩ = some (.string wd)) := Lib.hid ((HX3.out.cell (p := ⟨w.heap.size, 0, none⟩) (by show w.heap.size < _; rw [HL0.out]; omega)).trans HC0.out)
  have hw23 : w.heap.size < w2.heap.size := by have := HX2.out.size; have := HL0.out; omega
  clear hb3 ho3 HT2 HI2 HX2
  have hc3 := HC3.out
  rcases HT3.out.look HXA.out hwm with ⟨h1, hlk⟩ | ⟨i, hi, h1, hlk⟩
  · have HRW := Lib.hid (HOD.out (exFind_none h1))
    clear h1
    go_wp2_with fail
    refine (deleteFunc_any (oddL V) _ w2.heap.size w.heap.size wd _ HO3.out HC3.out hw23 HODB.out HODL.out hw).mono ?_
    rintro e w4 ⟨v4, rfl, ho4, hg4⟩
    have HB4 := Lib.hid (HB3.out.grown hg4 HB3.out.size (fun q hq => by have := own_lt HO3.out q hq; omega))
    have HO4 : Hid (w4.ownsRow w.heap.size 3 1 v4 (hpL ps es wd).length (intsZ (hpL ps es wd))) := Lib.hid (by
      rw [HV.out]; unfold hyPl; rw [HRW.out]; exact Joins.ownsRow_le ho4 (by omega))
    clear ho4 hg4 hc3 hlk
    go_wp2
    go_ret2
    exact ⟨_, ret_vb HA.out.symm, HB4.out, HO4.out⟩
  · have HRW : Hid (hyRaw ps es wd = exP es[i]) := Lib.hid (hyRaw_some (exFind_at hi (exsA_nodup HXA.out) h1))
    have HPX : Hid (placeL es[i].data.toList = exP es[i]) := Lib.hid (ex_word (exsA_mem HXA.out hi)).2.2.2.2.symm
    obtain ⟨b9, o9, hB9, hbl9, hc9⟩ := HF'.out (by omega)
    subst hB9
    have hci := (HB3.out.cell (p := ⟨b9, o9 + i, none⟩) hbl9).trans (hc9 i hi)
    clear hc9 h1
    have hok := HO'.out i hi
    have HBX : Hid (∀ x ∈ exP es[i], 0 ≤ x ∧ x ≤ 2000000) := Lib.hid (fun x hx => by have := exP_bd es[i] x hx; omega)
    have HLX : Hid ((exP es[i]).length ≤ 2000000) := Lib.hid (by have := exP_len es[i]; omega)
    go_wp2_with fail
    refine (placesOf_any _ _ hok).mono ?_
    rintro e w4 ⟨v4, rfl, hb4, ho4⟩
    rw [HPX.out] at ho4
    have HB4 := Lib.hid (HB3.out.trans (hb4.mono HB3.out.size))
    have HC4 : Hid (w4.cell? ⟨w.heap.size, 0, none⟩ = some (.string wd)) := Lib.hid ((hb4.cell (p := ⟨w.heap.size, 0, none⟩) (World.block_lt_of_cell? _ _ HC3.out)).trans HC3.out)
    have hw34 : w.heap.size < w3.heap.size := World.block_lt_of_cell? _ _ HC3.out
    have HO4 := Lib.hid ho4
    clear hb4 ho4 hc3 hlk hci
    have hc4 := HC4.out
    generalize exP es[i] = P at *
    go_wp2_with fail
    refine (deleteFunc_any P _ w3.heap.size w.heap.size wd _ HO4.out HC4.out hw34 HBX.out HLX.out hw).mono ?_
    rintro e w5 ⟨v5, rfl, ho5, hg5⟩
    have HB5 := Lib.hid (HB4.out.grown hg5 HB4.out.size (fun q hq => by have := own_lt HO4.out q hq; omega))
    have HO5 : Hid (w5.ownsRow w.heap.size 3 1 v5 (hpL ps es wd).length (intsZ (hpL ps es wd))) := Lib.hid (by
      rw [HV.out]; unfold hyPl; rw [HRW.out]; exact Joins.ownsRow_le ho5 (by omega))
    clear ho5 hg5 hc4
    go_wp2
    go_ret2
    exact ⟨_, ret_vb HA.out.symm, HB5.out, HO5.out⟩
theorem implHyphenPlaces_any (ps : List ByteArray) (A : Option Addr) (c : Nat) (es : List ByteArray) (B : Option Addr) (d : Nat) (wd : ByteArray) (w : World) (hf : StrsIn w A ps) (ho : StrsLe ps) (hn : ps.length ≤ 1048576) (hf' : StrsIn w B es) (ho' : StrsLe es) (hn' : es.length ≤ 1048576) (hw : wd.size ≤ 1048576) (hy : LayB w) :
    Calls Tryd.prog 15 #[.slice A ps.length c, .slice B es.length d, .string wd] w fun e w' => ∃ v, e = .returned (.tuple #[v, .bool (askB ps es wd)]) ∧ Below w.heap.size w w' ∧ AtRow w' w.heap.size v (hpL ps es wd) := by
  refine (implHyphenPlaces_own ps A c es B d wd w hf ho hn hf' ho' hn' hw hy).mono ?_
  rintro e w' ⟨v, rfl, hb, ho⟩
  exact ⟨v, rfl, hb, AtRow.of_own ho⟩
end Go.Proofs.YtcbhhbcfnaekpaaDoor

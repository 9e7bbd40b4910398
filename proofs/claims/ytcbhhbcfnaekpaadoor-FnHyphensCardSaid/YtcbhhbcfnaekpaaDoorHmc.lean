import Derived.Test.YtcbhhbcfnaekpaaDoorHma
import Derived.Test.YtcbhhbcfnaekpaaDoorHyw
import Derived.Test.YtcbhhbcfnaekpaaDoorHmb
import Derived.Test.YtcbhhbcfnaekpaaDoorQ
/-
  What FnHyphens asks, in plain words: parts join to the word, a place within is a place; the contracts of laws.qHas, qJoin, qTexts, qInts where both are the same.
-/
namespace Go.Proofs.YtcbhhbcfnaekpaaDoor
open Go.RowKit
set_option linter.unusedVariables false

theorem BytesIn.below {w w' : World} {B : Nat} {A : Option Addr} {l : List UInt8} (h : BytesIn w A l) (hb : Below B w w') (hB : w.heap.size ≤ B) : BytesIn w' A l := fun hn => by
  obtain ⟨b, off, e, hl, hc⟩ := h hn
  exact ⟨b, off, e, by have := hb.size; omega, fun k hk => (hb.cell (by show b < B; omega)).trans (hc k hk)⟩
theorem Le40.le {l : List ByteArray} (h : Le40 l) : StrsLe l := fun k hk => by have := h _ (List.getElem_mem hk); omega
theorem OwnS.strs {w : World} {base d : Nat} {B : Option Addr} {l : List ByteArray} (h : OwnS w base B d l) : StrsIn w B l := own_in_s h
theorem lpL_mem : ∀ (P : List Int) (n : Int), lpL P n = 0 ∨ (lpL P n ∈ P ∧ lpL P n ≤ n) := by
  have : ∀ (l : List Int) (n b : Int) (Q : List Int), (b = 0 ∨ (b ∈ Q ∧ b ≤ n)) → (∀ x ∈ l, x ∈ Q) → (l.foldl (lpF n) b = 0 ∨ (l.foldl (lpF n) b ∈ Q ∧ l.foldl (lpF n) b ≤ n)) := by
    intro l n
    induction l with
    | nil => intro b Q hb _; exact hb
    | cons x r ih =>
      intro b Q hb hq
      rw [List.foldl_cons]
      refine ih _ Q ?_ (fun y hy => hq y (by simp [hy]))
      unfold lpF
      split
      · exact .inr ⟨hq x (by simp), by assumption⟩
      · exact hb
  exact fun P n => this P n 0 P (.inl rfl) (fun x hx => hx)
/-- A last place is a place, and within. -/
theorem lw_told {ps es : List ByteArray} {wd : ByteArray} {n : Int} (h : lwB ps es wd n = true) : askB ps es wd = true ∧ mbB ps es wd (lwV ps es wd n) = true ∧ lwV ps es wd n ≤ n := by
  have h0 : 0 < lwV ps es wd n := of_decide_eq_true h
  have ha : askB ps es wd = true := by
    cases ha : askB ps es wd with
    | true => rfl
    | false => rw [lw_noask ha] at h0; omega
  have hl : ltB n = true := by
    cases hl : ltB n with
    | true => rfl
    | false => rw [lw_out hl] at h0; omega
  rw [lw_in hl] at h0 ⊢
  rcases lpL_mem (hpL ps es wd) n with h1 | ⟨h1, h2⟩
  · omega
  · exact ⟨ha, hasI_mem.2 h1, h2⟩
theorem may_in {ps es : List ByteArray} {wd : ByteArray} {x : Int} (h : mbB ps es wd x = true) (ha : askB ps es wd = true) : 2 ≤ x ∧ x ≤ (wd.size : Int) - 2 := by
  have h1 := hasI_mem.1 h
  rw [hp_yes ha] at h1
  exact hyPl_in x h1
theorem cut_listJ (wd : ByteArray) (i j : Nat) : (wd.extract i j).data.toList = (wd.data.toList.drop i).take (j - i) := by
  rw [ByteArray.data_extract, Array.toList_extract]
theorem cut_join (wd : ByteArray) : ∀ (l : List Int) (f : Nat), (∀ x ∈ l, (f : Int) ≤ x) → l.Pairwise (· ≤ ·) → (∀ x ∈ l, x ≤ (wd.size : Int)) → f ≤ wd.size → ((cutF wd f l).map (·.data.toList)).flatten ++ (wd.extract (lastF f l) wd.size).data.toList = (wd.extract f wd.size).data.toList
  | [], f, _, _, _, _ => by simp [cutF, lastF]
  | x :: r, f, h1, h2, h3, h4 => by
    have hx := h1 x (by simp)
    have hxs := h3 x (by simp)
    have ih := cut_join wd r x.toNat (fun y hy => by have := List.rel_of_pairwise_cons h2 hy; omega) (List.Pairwise.of_cons h2) (fun y hy => h3 y (by simp [hy])) (by omega)
    simp only [cutF, lastF, List.map_cons, List.flatten_cons, List.append_assoc]
    rw [ih, cut_listJ, cut_listJ, cut_listJ]
    have e : wd.data.toList.drop x.toNat = (wd.data.toList.drop f).drop (x.toNat - f) := by rw [List.drop_drop]; congr 1; omega
    rw [e]
    have e2 : wd.size - f = (x.toNat - f) + (wd.size - x.toNat) := by omega
    rw [e2, List.take_add]
theorem join_nothing (l : List (List UInt8)) : Lib.join l [] = l.flatten := by
  cases l with
  | nil => rfl
  | cons x r =>
    rw [Lib.join_cons]
    simp [Lib.joinTail]
/-- Texts with a text between them. -/
def jnT (xs : List ByteArray) (sep : List UInt8) : List UInt8 := Lib.join (xs.map (·.data.toList)) sep
/-- The parts of a word, one after the other, are the word. -/
theorem pt_join (ps es : List ByteArray) (wd : ByteArray) : (⟨(jnT (ptL ps es wd) []).toArray⟩ : ByteArray) = wd := by
  have h := cut_join wd (hyPl ps es wd) 0 (fun x hx => by have := hyPl_in x hx; omega) (hyPl_up ps es wd) (fun x hx => by have := hyPl_in x hx; omega) (Nat.zero_le _)
  have e : jnT (ptL ps es wd) [] = (wd.extract 0 wd.size).data.toList := by
    unfold jnT
    rw [join_nothing, ← h]
    unfold ptL
    simp
  rw [e]
  apply ByteArray.ext
  apply Array.ext'
  simp [cut_listJ]
theorem jnT_zero {xs : List ByteArray} {sep : List UInt8} (h : 0 < xs.length) : jnT (xs.take 1) sep = xs[0].data.toList := by
  cases xs with
  | nil => simp at h
  | cons y r => simp [jnT, Lib.join_one]
theorem jnT_next {xs : List ByteArray} {sep : List UInt8} {k : Nat} (h : k < xs.length) (h0 : 0 < k) : jnT (xs.take (k + 1)) sep = jnT (xs.take k) sep ++ (sep ++ xs[k].data.toList) := by
  cases xs with
  | nil => simp at h
  | cons y r =>
    obtain ⟨m, rfl⟩ : ∃ m, k = m + 1 := ⟨k - 1, by omega⟩
    have hm : m < r.length := by simpa using h
    unfold jnT
    simp only [List.take_succ_cons, List.map_cons, Lib.join_cons, List.getElem_cons_succ]
    rw [List.take_succ_eq_append_getElem hm, List.map_append, List.map_cons, List.map_nil, tail_snoc, List.append_assoc]
theorem jnT_size {xs : List ByteArray} {sep : List UInt8} (hs : sep.length ≤ 1) (h : ∀ k (h : k < xs.length), xs[k].size ≤ 16) : ∀ k, k ≤ xs.length → (jnT (xs.take k) sep).length ≤ 17 * k
  | 0, _ => by simp [jnT, Lib.join_nil]
  | k + 1, hk => by
    have h1 := jnT_size hs h k (by omega)
    have h2 : xs[k].data.toList.length ≤ 16 := by have := h k (by omega); rw [len_list]; exact this
    rcases Nat.eq_zero_or_pos k with rfl | h0
    · rw [jnT_zero (by omega)]; omega
    · rw [jnT_next (by omega) h0]
      simp only [List.length_append]
      omega
set_option maxRecDepth 100000 in
set_option maxHeartbeats 1000000 in
theorem qJoin_any (P : List ByteArray) (A2 : Option Addr) (c2 : Nat) (sp : ByteArray) (w2 : World) (hf : StrsIn w2 A2 P) (hsh : P.length ≤ 17) (hs : sp.size ≤ 1) (hz : ∀ k (h : k < P.length), P[k].size ≤ 16) :
    Calls Tryd.prog 21 #[.slice A2 P.length c2, .string sp] w2 fun e w' => e = .returned (.string ⟨(jnT P sp.data.toList).toArray⟩) ∧ w' = w2 := by
  have HI2 := Lib.hid hf; have HSZ := Lib.hid hz
  have HSP : Hid (sp.data.toList.length ≤ 1) := Lib.hid (by rw [len_list]; exact hs)
  clear hf hz
  go_enter Tryd.func21, Tryd.ntmps21
  go_wp2
  go_loop [5, 10] (fun v i => ∃ (k : Nat) (t : ByteArray), k ≤ P.length ∧ i = .int .i64 k ∧ v = .string t ∧ Hid (t = ⟨(jnT (P.take k) sp.data.toList).toArray⟩) ∧ t.size ≤ 17 * k) (fun _ i => P.length - (intOf i).toNat)
  case atStart => exact ⟨0, ⟨#[]⟩, Nat.zero_le _, rfl, rfl, Lib.hid rfl, by decide⟩
  case round =>
    obtain ⟨k, t, hk, rfl, rfl, HT0, ht⟩ := hrel
    by_cases hlt : k < P.length
    · obtain ⟨b9, o9, rfl, hbl9, hc9⟩ := HI2.out (by omega)
      have hck := hc9 k hlt
      clear hc9
      have hs16 := HSZ.out k hlt
      have hL : Hid ((⟨(jnT (P.take (k + 1)) sp.data.toList).toArray⟩ : ByteArray).size ≤ 17 * (k + 1)) := Lib.hid (by
        have := jnT_size HSP.out HSZ.out (k + 1) hlt
        simpa [ByteArray.size] using this)
      rcases Nat.eq_zero_or_pos k with rfl | h0
      · have HN : Hid ((⟨(jnT (P.take (0 + 1)) sp.data.toList).toArray⟩ : ByteArray) = t ++ P[0]) := Lib.hid (by
          rw [HT0.out, bytes_app, jnT_zero hlt]; rfl)
        rw [Nat.add_zero] at hck
        generalize P[0] = p at *
        go_wp2
        go_round
        case rel => exact ⟨0 + 1, _, by omega, by go_num, rfl, Lib.hid HN.out.symm, by rw [← HN.out]; exact hL.out⟩
        case measure => simp [intOf]; omega
      · have HN : Hid ((⟨(jnT (P.take (k + 1)) sp.data.toList).toArray⟩ : ByteArray) = (t ++ sp) ++ P[k]) := Lib.hid (by
          rw [HT0.out, bytes_app, bytes_app, jnT_next hlt h0, List.append_assoc])
        have hs1 : (t ++ sp).size = t.size + sp.size := ByteArray.size_append
        have hla : ¬ (9223372036854775807 : Nat) < t.size + sp.size := by omega
        generalize P[k] = p at *
        have hlb : ¬ (9223372036854775807 : Nat) < t.size + sp.size + p.size := by omega
        go_wp2
        go_round
        case rel => exact ⟨k + 1, _, by omega, by go_num, rfl, Lib.hid HN.out.symm, by rw [← HN.out]; exact hL.out⟩
        case measure => simp [intOf]; omega
    · obtain rfl : k = P.length := by omega
      have HV : Hid (t = ⟨(jnT P sp.data.toList).toArray⟩) := Lib.hid (by rw [HT0.out, List.take_length])
      go_wp2
      go_ret
      exact ⟨ret_str HV.out, rfl⟩
set_option maxRecDepth 100000 in
theorem qHas_any (l : List Int) (A : Option Addr) (c : Nat) (x : Int) (w : World) (hf : IntsIn w A l) (hn : l.length ≤ 1048576) :
    Calls Tryd.prog 23 #[.slice A l.length c, .int .i64 x] w fun e w' => e = .returned (.bool (hasI l x)) ∧ w' = w := by
  have HF := Lib.hid hf; clear hf
  go_enter Tryd.func23, Tryd.ntmps23
  go_wp2
  go_loop [9] (fun i => ∃ k : Nat, k ≤ l.length ∧ i = .int .i64 k ∧ hasI (l.take k) x = false) (fun i => l.length - (intOf i).toNat)
  case atStart => exact ⟨0, Nat.zero_le _, rfl, rfl⟩
  case round =>
    obtain ⟨k, hk, rfl, hs⟩ := hrel
    have HS := Lib.hid hs; clear hs
    by_cases hlt : k < l.length
    · obtain ⟨b, off, rfl, hbl, hc⟩ := HF.out (by omega)
      have hc0 := hc k hlt
      clear hc
      have HST := Lib.hid (hasI_step (x := x) hlt)
      by_cases he : l[k] = x
      · have ht : (l[k] == x) = true := by simp [he]
        have HE := Lib.hid (hasI_found hlt he)
        clear he
        generalize l[k] = y at *
        go_wp2
        go_ret
        exact ⟨ret_bool HE.out.symm, rfl⟩
      · have ht : (l[k] == x) = false := by simp [he]
        have HE := Lib.hid he; clear he
        generalize l[k] = y at *
        go_wp2
        go_round
        case rel => exact ⟨k + 1, by omega, by go_num, by rw [HST.out, HS.out, decide_eq_false HE.out]; rfl⟩
        case measure => simp [intOf]; omega
    · obtain rfl : k = l.length := by omega
      have HE : Hid (hasI l x = false) := Lib.hid (by have := HS.out; rw [List.take_length] at this; exact this)
      go_wp2
      go_ret
      exact ⟨ret_bool HE.out.symm, rfl⟩
theorem qTexts_same (l : List ByteArray) (A B : Option Addr) (c d : Nat) (w : World) (hf : StrsIn w A l) (hg : StrsIn w B l) (hn : l.length ≤ 1048576) :
    Calls Tryd.prog 19 #[.slice A l.length c, .slice B l.length d] w fun e w' => e = .returned (.bool true) ∧ Below w.heap.size w w' := by
  have h := qTexts_any l l A B c d w hf hg (by unfold maxLen; omega) (by unfold maxLen; omega)
  rw [decide_eq_true rfl] at h; exact h
theorem qInts_same (l : List Int) (A B : Option Addr) (c d : Nat) (w : World) (hf : IntsIn w A l) (hg : IntsIn w B l) (hn : l.length ≤ 1048576) :
    Calls Tryd.prog 20 #[.slice A l.length c, .slice B l.length d] w fun e w' => e = .returned (.bool true) ∧ Below w.heap.size w w' := by
  have h := qInts_any l l A B c d w hf hg (by unfold maxLen; omega) (by unfold maxLen; omega)
  rw [decide_eq_true rfl] at h; exact h
end Go.Proofs.YtcbhhbcfnaekpaaDoor

/-
  FnHyphens: the walk of the law.
-/
namespace Go.Proofs.YtcbhhbcfnaekpaaDoor
open Go.RowKit
set_option linter.unusedVariables false

set_option maxRecDepth 100000 in
set_option maxHeartbeats 8000000 in
theorem fnHyphens_walk (A : Option Addr) (xs : List UInt8) (c : Nat) (Ay : Option Addr) (ys : List UInt8) (cy : Nat) (w : World) (hx : BytesIn w A xs) (hxs : xs.length ≤ maxLen) (hy : BytesIn w Ay ys) (hys : ys.length ≤ maxLen) (hl : LayB w) :
    Calls Tryd.prog 3 #[.slice A xs.length c, .slice Ay ys.length cy] w fun e w' => e = .returned (.bool true) ∧ Below w.heap.size w w' := by
  have HX := Lib.hid hx; have HY := Lib.hid hy; have HL := Lib.hid hl; clear hx hy hl
  have hlongs : (1048576 : Int) < wrap64 ((xs.length : Int) + (ys.length : Int)) ∨ ¬ (1048576 : Int) < wrap64 ((xs.length : Int) + (ys.length : Int)) := by omega
  go_enter Tryd.func3, Tryd.ntmps3
  by_cases hlong : (1048576 : Int) < wrap64 ((xs.length : Int) + (ys.length : Int))
  · go_wp2
    go_ret
    exact ⟨rfl, Below.refl _ _⟩
  clear hlongs
  go_wp2_with fail
  refine (drawPw_any A c xs w HX.out hxs).mono ?_
  rintro e w1 ⟨ps, B, d, es, B2, d2, wd, rfl, h⟩
  have HB1 := Lib.hid h.bel
  have HP1 := Lib.hid h.po.strs; have HE1 := Lib.hid h.eo.strs
  have hpl := h.pl; have hel := h.el; have h20 := h.w20
  have HPL := Lib.hid h.p40.le; have HEL := Lib.hid h.e40.le
  clear h hlong
  have hps := pw_short ps es wd
  have hhs := hp_short ps es wd
  go_wp2_with fail
  refine (implPartsOfWord_any ps B d es B2 d2 wd w1 HP1.out HPL.out (by omega) HE1.out HEL.out (by omega) (by omega) (HL.out.below HB1.out)).mono ?_
  rintro e w2 ⟨v, rfl, hb, ho⟩
  obtain ⟨L1, c1, rfl⟩ := own_shape ho
  have HB2 := Lib.hid (HB1.out.trans (hb.mono HB1.out.size))
  have HP2 := Lib.hid (HP1.out.below hb (Nat.le_refl _)); have HE2 := Lib.hid (HE1.out.below hb (Nat.le_refl _))
  have HR2 := Lib.hid (own_in_s ho)
  clear hb ho HB1 HP1 HE1
  go_wp2_with fail
  refine (specPartsOfWord_any ps B d es B2 d2 wd w2 HP2.out HPL.out (by omega) HE2.out HEL.out (by omega) (by omega)).mono ?_
  rintro e w3 ⟨v, rfl, hb, ho⟩
  obtain ⟨L2, c2, rfl⟩ := own_shape ho
  have HB3 := Lib.hid (HB2.out.trans (hb.mono HB2.out.size))
  have HP3 := Lib.hid (HP2.out.below hb (Nat.le_refl _)); have HE3 := Lib.hid (HE2.out.below hb (Nat.le_refl _))
  have HR3 := Lib.hid (HR2.out.below hb (Nat.le_refl _)); have HS3 := Lib.hid (own_in_s ho)
  clear hb ho HB2 HP2 HE2 HR2
  go_wp2_with fail
  refine (implHyphenPlaces_any ps B d es B2 d2 wd w3 HP3.out HPL.out (by omega) HE3.out HEL.out (by omega) (by omega) (HL.out.below HB3.out)).mono ?_
  rintro e w4 ⟨v, rfl, hb, ho⟩
  obtain ⟨I1, i1, rfl⟩ := ho.form
  have HB4 := Lib.hid (HB3.out.trans (hb.mono HB3.out.size))
  have HP4 := Lib.hid (HP3.out.below hb (Nat.le_refl _)); have HE4 := Lib.hid (HE3.out.below hb (Nat.le_refl _))
  have HR4 := Lib.hid (HR3.out.below hb (Nat.le_refl _)); have HS4 := Lib.hid (HS3.out.below hb (Nat.le_refl _))
  have HI4 := Lib.hid ho.ints
  clear hb ho HB3 HP3 HE3 HR3 HS3
  go_wp2_with fail
  refine (specHyphenPlaces_any ps B d es B2 d2 wd w4 HP4.out HPL.out (by omega) HE4.out HEL.out (by omega) (by omega)).mono ?_
  rintro e w5 ⟨v, rfl, hb, ho⟩
  obtain ⟨I2, i2, rfl⟩ := ho.form
  have HB5 := Lib.hid (HB4.out.trans (hb.mono HB4.out.size))
  have HP5 := Lib.hid (HP4.out.below hb (Nat.le_refl _)); have HE5 := Lib.hid (HE4.out.below hb (Nat.le_refl _))
  have HR5 := Lib.hid (HR4.out.below hb (Nat.le_refl _)); have HS5 := Lib.hid (HS4.out.below hb (Nat.le_refl _))
  have HI5 := Lib.hid (HI4.out.below hb (Nat.le_refl _)); have HJ5 := Lib.hid ho.ints
  clear hb ho HB4 HP4 HE4 HR4 HS4 HI4
  go_wp2_with fail
  refine (implHyphenText_any ps B d es B2 d2 wd w5 HP5.out HPL.out (by omega) HE5.out HEL.out (by omega) (by omega) (HL.out.below HB5.out)).mono ?_
  rintro e w6 ⟨rfl, hb⟩
  have HB6 := Lib.hid (HB5.out.trans (hb.mono HB5.out.size))
  have HP6 := Lib.hid (HP5.out.below hb (Nat.le_refl _)); have HE6 := Lib.hid (HE5.out.below hb (Nat.le_refl _))
  have HR6 := Lib.hid (HR5.out.below hb (Nat.le_refl _)); have HS6 := Lib.hid (HS5.out.below hb (Nat.le_refl _))
  have HI6 := Lib.hid (HI5.out.below hb (Nat.le_refl _)); have HJ6 := Lib.hid (HJ5.out.below hb (Nat.le_refl _))
  clear hb HB5 HP5 HE5 HR5 HS5 HI5 HJ5
  go_wp2_with fail
  refine (specHyphenText_any ps B d es B2 d2 wd w6 HP6.out HPL.out (by omega) HE6.out HEL.out (by omega) (by omega)).mono ?_
  rintro e w7 ⟨rfl, hb⟩
  have HB7 := Lib.hid (HB6.out.trans (hb.mono HB6.out.size))
  have HP7 := Lib.hid (HP6.out.below hb (Nat.le_refl _)); have HE7 := Lib.hid (HE6.out.below hb (Nat.le_refl _))
  have HR7 := Lib.hid (HR6.out.below hb (Nat.le_refl _)); have HS7 := Lib.hid (HS6.out.below hb (Nat.le_refl _))
  have HI7 := Lib.hid (HI6.out.below hb (Nat.le_refl _)); have HJ7 := Lib.hid (HJ6.out.below hb (Nat.le_refl _))
  clear hb HB6 HP6 HE6 HR6 HS6 HI6 HJ6
  have HMB : Hid (∀ x : Int, mbB ps es wd x = hasI (hpL ps es wd) x) := Lib.hid (fun _ => rfl)
  have HIN := Lib.hid (fun (x : Int) h => may_in (ps := ps) (es := es) (wd := wd) (x := x) h)
  have HCM := Lib.hid (fun (x : Int) (W : World) h1 h2 h3 => implMayBreakAt_any ps B d es B2 d2 wd x W h1 HPL.out (by omega) h2 HEL.out (by omega) (by omega) h3)
  have HJE := Lib.hid (fun (ha : askB ps es wd = true) => (by rw [pw_yes ha]; exact pt_join ps es wd : (⟨(jnT (pwL ps es wd) []).toArray⟩ : ByteArray) = wd))
  have HJD : Hid ((⟨(jnT (pwL ps es wd) [45]).toArray⟩ : ByteArray) = hyT ps es wd) := Lib.hid rfl
  have HPN := Lib.hid (fun (ha : askB ps es wd = true) => (by rw [pw_yes ha, hp_yes ha]; exact ptL_len ps es wd : (pwL ps es wd).length = (hpL ps es wd).length + 1))
  have HSZ := Lib.hid (fun (ha : askB ps es wd = true) => (fun k h => by
    have h16 := (isWord_len (ask_all ha).2.2).2
    have e := pw_yes ha
    have := ptL_size ps es wd k (by rw [← e]; exact h)
    simp only [e]; omega : ∀ k (h : k < (pwL ps es wd).length), (pwL ps es wd)[k].size ≤ 16))
  have hwl := Lib.hid (fun (ha : askB ps es wd = true) => (isWord_len (ask_all ha).2.2))
  have HQT := Lib.hid (fun W h1 h2 => qTexts_same (pwL ps es wd) L1 L2 c1 c2 W h1 h2 (by omega))
  have HQI := Lib.hid (fun W h1 h2 => qInts_same (hpL ps es wd) I1 I2 i1 i2 W h1 h2 (by omega))
  cases ha : askB ps es wd
  · rw [ha] at HIN HJE HPN HSZ hwl
    clear ha HIN HJE HPN HSZ hwl HCM HMB HJD
    generalize hyT ps es wd = T at *
    generalize pwL ps es wd = P at *
    generalize hpL ps es wd = Q at *
    go_wp2_with fail
    refine (HQT.out w7 HR7.out HS7.out).mono ?_
    rintro e w8 ⟨rfl, hb⟩
    have HB8 := Lib.hid (HB7.out.trans (hb.mono HB7.out.size))
    have HI8 := Lib.hid (HI7.out.below hb (Nat.le_refl _)); have HJ8 := Lib.hid (HJ7.out.below hb (Nat.le_refl _))
    clear hb
    go_wp2_with fail
    refine (HQI.out w8 HI8.out HJ8.out).mono ?_
    rintro e w9 ⟨rfl, hb⟩
    have HB9 := Lib.hid (HB8.out.trans (hb.mono HB8.out.size))
    clear hb HB7 HP7 HE7 HR7 HS7 HI7 HJ7 HB8 HI8 HJ8 HQT HQI HX HPL HEL
    go_wp2_with fail
    refine (drawLp_any Ay cy ys w9 (HY.out.below HB9.out (Nat.le_refl _)) hys).mono ?_
    rintro e x1 ⟨qs, C, f, fs, C2, f2, wu, n, rfl, hq⟩
    have HX1 := Lib.hid (HB9.out.trans (hq.bel.mono HB9.out.size))
    have HQ1 := Lib.hid hq.po.strs; have HF1 := Lib.hid hq.eo.strs
    have hql := hq.pl; have hfl := hq.el; have hw20 := hq.w20
    have HQL := Lib.hid hq.p40.le; have HFL := Lib.hid hq.e40.le
    clear hq
    go_wp2_with fail
    refine (implLastPlace_any qs C f fs C2 f2 wu n x1 HQ1.out HQL.out (by omega) HF1.out HFL.out (by omega) (by omega) (HL.out.below HX1.out)).mono ?_
    rintro e x2 ⟨rfl, hb⟩
    have HX2 := Lib.hid (HX1.out.trans (hb.mono HX1.out.size))
    have HQ2 := Lib.hid (HQ1.out.below hb (Nat.le_refl _)); have HF2 := Lib.hid (HF1.out.below hb (Nat.le_refl _))
    clear hb HX1 HQ1 HF1
    go_wp2_with fail
    refine (specLastPlace_any qs C f fs C2 f2 wu n x2 HQ2.out HQL.out (by omega) HF2.out HFL.out (by omega) (by omega)).mono ?_
    rintro e x3 ⟨rfl, hb⟩
    have HX3 := Lib.hid (HX2.out.trans (hb.mono HX2.out.size))
    have HQ3 := Lib.hid (HQ2.out.below hb (Nat.le_refl _)); have HF3 := Lib.hid (HF2.out.below hb (Nat.le_refl _))
    clear hb HX2 HQ2 HF2
    go_wp2_with fail
    refine (drawMb_any Ay cy ys x3 (HY.out.below HX3.out (Nat.le_refl _)) hys).mono ?_
    rintro e x4 ⟨ms, D, g, ns, D2, g2, wv, at_, rfl, hm⟩
    have HX4 := Lib.hid (HX3.out.trans (hm.bel.mono HX3.out.size))
    have HQ4 := Lib.hid (HQ3.out.below hm.bel (Nat.le_refl _)); have HF4 := Lib.hid (HF3.out.below hm.bel (Nat.le_refl _))
    have HM4 := Lib.hid hm.po.strs; have HN4 := Lib.hid hm.eo.strs
    have hml := hm.pl; have hnl := hm.el; have hv20 := hm.w20
    have HML := Lib.hid hm.p40.le; have HNL := Lib.hid hm.e40.le
    clear hm HX3 HQ3 HF3
    go_wp2_with fail
    refine (implMayBreakAt_any ms D g ns D2 g2 wv at_ x4 HM4.out HML.out (by omega) HN4.out HNL.out (by omega) (by omega) (HL.out.below HX4.out)).mono ?_
    rintro e x5 ⟨rfl, hb⟩
    have HX5 := Lib.hid (HX4.out.trans (hb.mono HX4.out.size))
    have HQ5 := Lib.hid (HQ4.out.below hb (Nat.le_refl _)); have HF5 := Lib.hid (HF4.out.below hb (Nat.le_refl _))
    have HM5 := Lib.hid (HM4.out.below hb (Nat.le_refl _)); have HN5 := Lib.hid (HN4.out.below hb (Nat.le_refl _))
    clear hb HX4 HQ4 HF4 HM4 HN4
    go_wp2_with fail
    refine (specMayBreakAt_any ms D g ns D2 g2 wv at_ x5 HM5.out HML.out (by omega) HN5.out HNL.out (by omega) (by omega)).mono ?_
    rintro e x6 ⟨rfl, hb⟩
    have HX6 := Lib.hid (HX5.out.trans (hb.mono HX5.out.size))
    have HQ6 := Lib.hid (HQ5.out.below hb (Nat.le_refl _)); have HF6 := Lib.hid (HF5.out.below hb (Nat.le_refl _))
    clear hb HX5 HQ5 HF5 HM5 HN5
    generalize mbB ms ns wv at_ = m1 at *
    generalize askB ms ns wv = m2 at *
    have HLW := Lib.hid (fun h => lw_told (ps := qs) (es := fs) (wd := wu) (n := n) h)
    have HMB : Hid (∀ x, mbB qs fs wu x = mbB qs fs wu x) := Lib.hid (fun _ => rfl)
    cases hlb : lwB qs fs wu n
    · clear hlb HLW
      generalize lwV qs fs wu n = k1 at *
      go_wp2
      go_ret
      exact ⟨rfl, HX6.out⟩
    · have HT := Lib.hid (HLW.out hlb)
      have HC := Lib.hid (implMayBreakAt_any qs C f fs C2 f2 wu (lwV qs fs wu n) x6 HQ6.out HQL.out (by omega) HF6.out HFL.out (by omega) (by omega) (HL.out.below HX6.out))
      rw [HT.out.1, HT.out.2.1] at HC
      have hle := HT.out.2.2
      clear hlb HLW HT
      generalize lwV qs fs wu n = k1 at *
      have hdl : decide (k1 ≤ n) = true := decide_eq_true hle
      go_wp2_with fail
      refine HC.out.mono ?_
      rintro e x7 ⟨rfl, hb⟩
      have HX7 := Lib.hid (HX6.out.trans (hb.mono HX6.out.size))
      clear hb
      go_wp2
      go_ret
      exact ⟨rfl, HX7.out⟩
  · have HJ0 := Lib.hid (HJE.out ha); have HNL := Lib.hid (HPN.out ha); have HZ := Lib.hid (HSZ.out ha)
    have hw := hwl.out ha
    have HIB := Lib.hid (fun (x : Int) h => HIN.out x h ha)
    rw [ha] at HCM
    clear ha HIN HJE HPN HSZ hwl
    have HQ0 := Lib.hid (fun (W : World) hf => qJoin_any (pwL ps es wd) L2 c2 ⟨#[]⟩ W hf hps (by decide) HZ.out)
    have HQ1 := Lib.hid (fun (W : World) hf => qJoin_any (pwL ps es wd) L2 c2 ⟨#[45]⟩ W hf hps (by decide) HZ.out)
    have e0 : (⟨(jnT (pwL ps es wd) (⟨#[]⟩ : ByteArray).data.toList).toArray⟩ : ByteArray) = wd := HJ0.out
    have e1 : (⟨(jnT (pwL ps es wd) (⟨#[45]⟩ : ByteArray).data.toList).toArray⟩ : ByteArray) = hyT ps es wd := HJD.out
    rw [e0] at HQ0
    rw [e1] at HQ1
    have hln : (((pwL ps es wd).length : Int) != ((hpL ps es wd).length : Int) + 1) = false := by have := HNL.out; simp; omega
    clear e0 e1 HJ0 HJD HNL HZ
    generalize hyT ps es wd = T at *
    generalize mbB ps es wd = MB at *
    generalize pwL ps es wd = P at *
    generalize hpL ps es wd = Q at *
    go_wp2_with fail
    refine (HQT.out w7 HR7.out HS7.out).mono ?_
    rintro e w8 ⟨rfl, hb⟩
    have HB8 := Lib.hid (HB7.out.trans (hb.mono HB7.out.size))
    have HI8 := Lib.hid (HI7.out.below hb (Nat.le_refl _)); have HJ8 := Lib.hid (HJ7.out.below hb (Nat.le_refl _))
    have HP8 := Lib.hid (HP7.out.below hb (Nat.le_refl _)); have HE8 := Lib.hid (HE7.out.below hb (Nat.le_refl _)); have HS8 := Lib.hid (HS7.out.below hb (Nat.le_refl _))
    clear hb HB7 HP7 HE7 HR7 HS7 HI7 HJ7
    go_wp2_with fail
    refine (HQI.out w8 HI8.out HJ8.out).mono ?_
    rintro e w9 ⟨rfl, hb⟩
    have HB9 := Lib.hid (HB8.out.trans (hb.mono HB8.out.size))
    have HJ9 := Lib.hid (HJ8.out.below hb (Nat.le_refl _))
    have HP9 := Lib.hid (HP8.out.below hb (Nat.le_refl _)); have HE9 := Lib.hid (HE8.out.below hb (Nat.le_refl _)); have HS9 := Lib.hid (HS8.out.below hb (Nat.le_refl _))
    clear hb HB8 HI8 HJ8 HP8 HE8 HS8 HQT HQI
    go_wp2_with fail
    refine (HQ0.out w9 HS9.out).mono ?_
    rintro e w9' ⟨rfl, rfl⟩
    go_wp2_with fail
    refine (HQ1.out w9' HS9.out).mono ?_
    rintro e w9 ⟨rfl, rfl⟩
    clear HQ0 HQ1 HS9
    go_wp2
    go_loopw [20] (fun i wr => ∃ k : Nat, k ≤ wd.size + 1 ∧ i = .int .i64 (k : Int) ∧ Hid (Below w9.heap.size w9 wr)) (fun i _ => wd.size + 1 - (intOf i).toNat)
    case atStart => exact ⟨0, Nat.zero_le _, rfl, Lib.hid (Below.refl _ _)⟩
    case round =>
      obtain ⟨k, hk, rfl, HBr⟩ := hrel
      have HBW := Lib.hid (HB9.out.trans (HBr.out.mono HB9.out.size))
      by_cases hlt : k ≤ wd.size
      · have hlt' : (k : Int) ≤ (wd.size : Int) := by omega
        go_wp2_with fail
        refine (HCM.out (k : Int) wr (HP9.out.below HBr.out (Nat.le_refl _)) (HE9.out.below HBr.out (Nat.le_refl _)) (HL.out.below HBW.out)).mono ?_
        rintro e y1 ⟨rfl, hb⟩
        have HB2 := Lib.hid (HBr.out.trans (hb.mono HBr.out.size))
        clear hb
        have HQH := Lib.hid (qHas_any Q I2 i2 (k : Int) y1 (HJ9.out.below HB2.out (Nat.le_refl _)) (by omega))
        rw [← HMB.out (k : Int)] at HQH
        have hib := HIB.out (k : Int)
        cases hm : MB (k : Int)
        · rw [hm] at HQH
          clear hib hm
          go_wp2_with fail
          refine HQH.out.mono ?_
          rintro e y2 ⟨rfl, rfl⟩
          go_wp2
          go_roundw
          case rel => exact ⟨k + 1, by omega, by go_num, HB2⟩
          case measure => simp [intOf]; omega
        · rw [hm] at HQH
          obtain ⟨hk2, hkl⟩ := hib hm
          clear hib hm
          go_wp2_with fail
          refine HQH.out.mono ?_
          rintro e y2 ⟨rfl, rfl⟩
          go_wp2
          go_roundw
          case rel => exact ⟨k + 1, by omega, by go_num, HB2⟩
          case measure => simp [intOf]; omega
      · have hlt' : ¬ (k : Int) ≤ (wd.size : Int) := by omega
        clear HCM HMB HIB HP9 HE9 HJ9 HB9 HBr HPL HEL HX
        go_wp2_with fail
        refine (drawLp_any Ay cy ys wr (HY.out.below HBW.out (Nat.le_refl _)) hys).mono ?_
        rintro e x1 ⟨qs, C, f, fs, C2, f2, wu, n, rfl, hq⟩
        have HX1 := Lib.hid (HBW.out.trans (hq.bel.mono HBW.out.size))
        have HQ1 := Lib.hid hq.po.strs; have HF1 := Lib.hid hq.eo.strs
        have hql := hq.pl; have hfl := hq.el; have hw20 := hq.w20
        have HQL := Lib.hid hq.p40.le; have HFL := Lib.hid hq.e40.le
        clear hq
        go_wp2_with fail
        refine (implLastPlace_any qs C f fs C2 f2 wu n x1 HQ1.out HQL.out (by omega) HF1.out HFL.out (by omega) (by omega) (HL.out.below HX1.out)).mono ?_
        rintro e x2 ⟨rfl, hb⟩
        have HX2 := Lib.hid (HX1.out.trans (hb.mono HX1.out.size))
        have HQ2 := Lib.hid (HQ1.out.below hb (Nat.le_refl _)); have HF2 := Lib.hid (HF1.out.below hb (Nat.le_refl _))
        clear hb HX1 HQ1 HF1
        go_wp2_with fail
        refine (specLastPlace_any qs C f fs C2 f2 wu n x2 HQ2.out HQL.out (by omega) HF2.out HFL.out (by omega) (by omega)).mono ?_
        rintro e x3 ⟨rfl, hb⟩
        have HX3 := Lib.hid (HX2.out.trans (hb.mono HX2.out.size))
        have HQ3 := Lib.hid (HQ2.out.below hb (Nat.le_refl _)); have HF3 := Lib.hid (HF2.out.below hb (Nat.le_refl _))
        clear hb HX2 HQ2 HF2
        go_wp2_with fail
        refine (drawMb_any Ay cy ys x3 (HY.out.below HX3.out (Nat.le_refl _)) hys).mono ?_
        rintro e x4 ⟨ms, D, g, ns, D2, g2, wv, at_, rfl, hm⟩
        have HX4 := Lib.hid (HX3.out.trans (hm.bel.mono HX3.out.size))
        have HQ4 := Lib.hid (HQ3.out.below hm.bel (Nat.le_refl _)); have HF4 := Lib.hid (HF3.out.below hm.bel (Nat.le_refl _))
        have HM4 := Lib.hid hm.po.strs; have HN4 := Lib.hid hm.eo.strs
        have hml := hm.pl; have hnl := hm.el; have hv20 := hm.w20
        have HML := Lib.hid hm.p40.le; have HNL := Lib.hid hm.e40.le
        clear hm HX3 HQ3 HF3
        go_wp2_with fail
        refine (implMayBreakAt_any ms D g ns D2 g2 wv at_ x4 HM4.out HML.out (by omega) HN4.out HNL.out (by omega) (by omega) (HL.out.below HX4.out)).mono ?_
        rintro e x5 ⟨rfl, hb⟩
        have HX5 := Lib.hid (HX4.out.trans (hb.mono HX4.out.size))
        have HQ5 := Lib.hid (HQ4.out.below hb (Nat.le_refl _)); have HF5 := Lib.hid (HF4.out.below hb (Nat.le_refl _))
        have HM5 := Lib.hid (HM4.out.below hb (Nat.le_refl _)); have HN5 := Lib.hid (HN4.out.below hb (Nat.le_refl _))
        clear hb HX4 HQ4 HF4 HM4 HN4
        go_wp2_with fail
        refine (specMayBreakAt_any ms D g ns D2 g2 wv at_ x5 HM5.out HML.out (by omega) HN5.out HNL.out (by omega) (by omega)).mono ?_
        rintro e x6 ⟨rfl, hb⟩
        have HX6 := Lib.hid (HX5.out.trans (hb.mono HX5.out.size))
        have HQ6 := Lib.hid (HQ5.out.below hb (Nat.le_refl _)); have HF6 := Lib.hid (HF5.out.below hb (Nat.le_refl _))
        clear hb HX5 HQ5 HF5 HM5 HN5
        generalize mbB ms ns wv at_ = m1 at *
        generalize askB ms ns wv = m2 at *
        have HLW := Lib.hid (fun h => lw_told (ps := qs) (es := fs) (wd := wu) (n := n) h)
        have HMB : Hid (∀ x, mbB qs fs wu x = mbB qs fs wu x) := Lib.hid (fun _ => rfl)
        cases hlb : lwB qs fs wu n
        · clear hlb HLW
          generalize lwV qs fs wu n = k1 at *
          go_wp2
          go_ret
          exact ⟨rfl, HX6.out⟩
        · have HT := Lib.hid (HLW.out hlb)
          have HC := Lib.hid (implMayBreakAt_any qs C f fs C2 f2 wu (lwV qs fs wu n) x6 HQ6.out HQL.out (by omega) HF6.out HFL.out (by omega) (by omega) (HL.out.below HX6.out))
          rw [HT.out.1, HT.out.2.1] at HC
          have hle := HT.out.2.2
          clear hlb HLW HT
          generalize lwV qs fs wu n = k1 at *
          have hdl : decide (k1 ≤ n) = true := decide_eq_true hle
          go_wp2_with fail
          refine HC.out.mono ?_
          rintro e x7 ⟨rfl, hb⟩
          have HX7 := Lib.hid (HX6.out.trans (hb.mono HX6.out.size))
          clear hb
          go_wp2
          go_ret
          exact ⟨rfl, HX7.out⟩
end Go.Proofs.YtcbhhbcfnaekpaaDoor

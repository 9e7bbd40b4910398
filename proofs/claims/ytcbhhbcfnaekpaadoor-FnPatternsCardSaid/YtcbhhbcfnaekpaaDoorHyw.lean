/-
  The text of a word with hyphens: told plainly; the contracts of spec.HyphenText and impl.HyphenText.
-/
import Derived.Test.YtcbhhbcfnaekpaaDoorHyv
import Derived.Test.YtcbhhbcfnaekpaaDoorHyo
namespace Go.Proofs.YtcbhhbcfnaekpaaDoor
open Go.RowKit
set_option linter.unusedVariables false

/-- Texts with - between them. -/
def txtL (xs : List ByteArray) : List UInt8 := Lib.join (xs.map (·.data.toList)) [45]
theorem tail_snoc (sep : List UInt8) (r : List (List UInt8)) (x : List UInt8) : Lib.joinTail sep (r ++ [x]) = Lib.joinTail sep r ++ (sep ++ x) := by simp [Lib.joinTail]
theorem txtL_snoc {xs : List ByteArray} (h : xs ≠ []) (x : ByteArray) : txtL (xs ++ [x]) = txtL xs ++ ([45] ++ x.data.toList) := by
  cases xs with
  | nil => exact absurd rfl h
  | cons y r =>
    unfold txtL
    simp only [List.cons_append, List.map_cons, List.map_append, List.map_nil]
    rw [Lib.join_cons, Lib.join_cons, tail_snoc, List.append_assoc]
    rfl
theorem txtL_zero {xs : List ByteArray} (h : 0 < xs.length) : txtL (xs.take 1) = xs[0].data.toList := by
  cases xs with
  | nil => simp at h
  | cons y r => simp [txtL, Lib.join_one]
theorem txtL_next {xs : List ByteArray} {k : Nat} (h : k < xs.length) (h0 : 0 < k) : txtL (xs.take (k + 1)) = txtL (xs.take k) ++ ([45] ++ xs[k].data.toList) := by
  rw [List.take_succ_eq_append_getElem h, txtL_snoc]
  intro e
  have h2 : (xs.take k).length = 0 := by rw [e]; rfl
  rw [List.length_take] at h2
  omega
theorem txtL_size {xs : List ByteArray} (h : ∀ k (h : k < xs.length), xs[k].size ≤ 16) : ∀ k, k ≤ xs.length → (txtL (xs.take k)).length ≤ 17 * k
  | 0, _ => by simp [txtL, Lib.join_nil]
  | k + 1, hk => by
    have h1 := txtL_size h k (by omega)
    have h2 : xs[k].data.toList.length ≤ 16 := by have := h k (by omega); rw [len_list]; exact this
    rcases Nat.eq_zero_or_pos k with rfl | h0
    · rw [txtL_zero (by omega)]; omega
    · rw [txtL_next (by omega) h0]
      simp only [List.length_append, List.length_cons, List.length_nil]
      omega
theorem bytes_app (l : List UInt8) (b : ByteArray) : (⟨l.toArray⟩ : ByteArray) ++ b = ⟨(l ++ b.data.toList).toArray⟩ := by
  apply ByteArray.ext
  apply Array.ext'
  simp
theorem cutF_size (wd : ByteArray) : ∀ (l : List Int) (f : Nat), ∀ x ∈ cutF wd f l, x.size ≤ wd.size
  | [], _, x, h => by simp [cutF] at h
  | y :: r, f, x, h => by
    simp only [cutF, List.mem_cons] at h
    rcases h with rfl | h
    · rw [ByteArray.size_extract]; omega
    · exact cutF_size wd r _ x h
theorem ptL_size (ps es : List ByteArray) (wd : ByteArray) (k : Nat) (h : k < (ptL ps es wd).length) : (ptL ps es wd)[k].size ≤ wd.size := by
  refine cutF_size wd (hyPl ps es wd ++ [(wd.size : Int)]) 0 _ ?_
  rw [← ptL_eq]
  exact List.getElem_mem h
/-- The text of a word with hyphens. -/
def hyT (ps es : List ByteArray) (wd : ByteArray) : ByteArray := ⟨(txtL (pwL ps es wd)).toArray⟩
theorem hyT_no {ps es : List ByteArray} {wd : ByteArray} (h : askB ps es wd = false) : hyT ps es wd = ⟨#[]⟩ := by unfold hyT; rw [pw_no h]; rfl
theorem ret_tb {a b : ByteArray} {c d : Bool} (h1 : a = b) (h2 : c = d) : Ending.returned (.tuple #[.string a, .bool c]) = .returned (.tuple #[.string b, .bool d]) := by rw [h1, h2]
set_option maxRecDepth 100000 in
set_option maxHeartbeats 2000000 in
theorem specHyphenText_any (ps : List ByteArray) (A : Option Addr) (c : Nat) (es : List ByteArray) (B : Option Addr) (d : Nat) (wd : ByteArray) (w : World) (hf : StrsIn w A ps) (ho : StrsLe ps) (hn : ps.length ≤ 1048576) (hf' : StrsIn w B es) (ho' : StrsLe es) (hn' : es.length ≤ 1048576) (hw : wd.size ≤ 1048576) :
    Calls Tryd.prog 18 #[.slice A ps.length c, .slice B es.length d, .string wd] w fun e w' => e = .returned (.tuple #[.string (hyT ps es wd), .bool (askB ps es wd)]) ∧ Below w.heap.size w w' := by
  have HF := Lib.hid hf; have HF' := Lib.hid hf'; have HO := Lib.hid ho; have HO' := Lib.hid ho'
  clear hf hf' ho ho'
  cases ha : askB ps es wd
  · have HA := Lib.hid (hyAsked_is ps A c es B d wd false w HF.out HO.out hn HF'.out HO'.out hn' hw (Lib.hid ha))
    have HV := Lib.hid (hyT_no ha)
    clear ha
    go_enter Tryd.func18, Tryd.ntmps18
    go_wp2_with fail
    refine HA.out.mono ?_
    rintro e w1 ⟨rfl, hb1⟩
    go_wp2
    go_ret2
    exact ⟨ret_tb HV.out.symm rfl, hb1⟩
  · have HA := Lib.hid (hyAsked_is ps A c es B d wd true w HF.out HO.out hn HF'.out HO'.out hn' hw (Lib.hid ha))
    have HT : Hid (hyT ps es wd = ⟨(txtL (ptL ps es wd)).toArray⟩) := Lib.hid (by unfold hyT; rw [pw_yes ha])
    have hsh := pw_short ps es wd
    rw [pw_yes ha] at hsh
    have h16 := (isWord_len (ask_all ha).2.2).2
    have HSZ : Hid (∀ k (h : k < (ptL ps es wd).length), (ptL ps es wd)[k].size ≤ 16) := Lib.hid (fun k h => by have := ptL_size ps es wd k h; omega)
    have HAS := Lib.hid ha
    clear ha
    go_enter Tryd.func18, Tryd.ntmps18
    go_wp2_with fail
    refine HA.out.mono ?_
    rintro e w1 ⟨rfl, hb1⟩
    have HB1 := Lib.hid hb1
    clear hb1
    go_wp2_with fail
    refine (hyParts_any ps A c es B d wd _ (HF.out.below HB1.out (Nat.le_refl _)) HO.out hn (HF'.out.below HB1.out (Nat.le_refl _)) HO'.out hn' HAS.out).mono ?_
    rintro e w2 ⟨v, rfl, hb2, ho2⟩
    obtain ⟨A2, c2, rfl⟩ := own_shape ho2
    have HB2 := Lib.hid (HB1.out.trans (hb2.mono HB1.out.size))
    have HI2 := Lib.hid (own_in_s ho2)
    clear hb2 ho2
    generalize ptL ps es wd = P at *
    go_wp2
    go_loop [8, 21] (fun v i => ∃ (k : Nat) (t : ByteArray), k ≤ P.length ∧ i = .int .i64 k ∧ v = .string t ∧ Hid (t = ⟨(txtL (P.take k)).toArray⟩) ∧ t.size ≤ 17 * k) (fun _ i => P.length - (intOf i).toNat)
    case atStart => exact ⟨0, ⟨#[]⟩, Nat.zero_le _, rfl, rfl, Lib.hid rfl, by decide⟩
    case round =>
      obtain ⟨k, t, hk, rfl, rfl, HT0, ht⟩ := hrel
      by_cases hlt : k < P.length
      · obtain ⟨b9, o9, rfl, hbl9, hc9⟩ := HI2.out (by omega)
        have hck := hc9 k hlt
        clear hc9
        have hs16 := HSZ.out k hlt
        have hL : Hid ((⟨(txtL (P.take (k + 1))).toArray⟩ : ByteArray).size ≤ 17 * (k + 1)) := Lib.hid (by
          have := txtL_size HSZ.out (k + 1) hlt
          simpa [ByteArray.size] using this)
        rcases Nat.eq_zero_or_pos k with rfl | h0
        · have HN : Hid ((⟨(txtL (P.take (0 + 1))).toArray⟩ : ByteArray) = t ++ P[0]) := Lib.hid (by
            rw [HT0.out, bytes_app, txtL_zero hlt]; rfl)
          rw [Nat.add_zero] at hck
          generalize P[0] = p at *
          go_wp2
          go_round
          case rel => exact ⟨0 + 1, _, by omega, by go_num, rfl, Lib.hid HN.out.symm, by rw [← HN.out]; exact hL.out⟩
          case measure => simp [intOf]; omega
        · have HN : Hid ((⟨(txtL (P.take (k + 1))).toArray⟩ : ByteArray) = (t ++ ⟨#[45]⟩) ++ P[k]) := Lib.hid (by
            rw [HT0.out, bytes_app, bytes_app, txtL_next hlt h0, List.append_assoc])
          have hs1 : (t ++ (⟨#[45]⟩ : ByteArray)).size = t.size + 1 := by rw [ByteArray.size_append]; rfl
          generalize P[k] = p at *
          go_wp2
          go_round
          case rel => exact ⟨k + 1, _, by omega, by go_num, rfl, Lib.hid HN.out.symm, by rw [← HN.out]; exact hL.out⟩
          case measure => simp [intOf]; omega
      · obtain rfl : k = P.length := by omega
        have HV : Hid (hyT ps es wd = t) := Lib.hid (by rw [HT.out, HT0.out, List.take_length])
        go_wp2
        go_ret2
        exact ⟨ret_tb HV.out.symm rfl, HB2.out⟩
set_option maxRecDepth 100000 in
set_option maxHeartbeats 1000000 in
theorem implHyphenText_any (ps : List ByteArray) (A : Option Addr) (c : Nat) (es : List ByteArray) (B : Option Addr) (d : Nat) (wd : ByteArray) (w : World) (hf : StrsIn w A ps) (ho : StrsLe ps) (hn : ps.length ≤ 1048576) (hf' : StrsIn w B es) (ho' : StrsLe es) (hn' : es.length ≤ 1048576) (hw : wd.size ≤ 1048576) (hy : LayB w) :
    Calls Tryd.prog 17 #[.slice A ps.length c, .slice B es.length d, .string wd] w fun e w' => e = .returned (.tuple #[.string (hyT ps es wd), .bool (askB ps es wd)]) ∧ Below w.heap.size w w' := by
  have HC := Lib.hid (implPartsOfWord_any ps A c es B d wd w hf ho hn hf' ho' hn' hw hy)
  clear hf ho hf' ho' hy
  cases ha : askB ps es wd
  · have HV := Lib.hid (hyT_no ha)
    have HN := pw_no ha
    rw [ha, HN] at HC
    clear ha HN
    go_enter Tryd.func17, Tryd.ntmps17
    go_wp2_with fail
    refine HC.out.mono ?_
    rintro e w1 ⟨v, rfl, hb1, ho1⟩
    obtain ⟨A2, c2, rfl⟩ := own_shape ho1
    have HB1 := Lib.hid hb1
    clear hb1 ho1
    go_wp2_with fail
    refine (Tryd.strings_Join_none A2 c2 _ w1).mono ?_
    rintro e w2 ⟨rfl, rfl⟩
    go_wp2
    go_ret2
    exact ⟨ret_tb HV.out.symm rfl, HB1.out⟩
  · have HT : Hid (hyT ps es wd = ⟨(txtL (ptL ps es wd)).toArray⟩) := Lib.hid (by unfold hyT; rw [pw_yes ha])
    have hsh := pw_short ps es wd
    have hpl := ptL_len ps es wd
    have h16 := (isWord_len (ask_all ha).2.2).2
    have HSZ : Hid (∀ k (h : k < (ptL ps es wd).length), (ptL ps es wd)[k].size ≤ 16) := Lib.hid (fun k h => by have := ptL_size ps es wd k h; omega)
    have hpw := pw_yes ha
    rw [ha, hpw] at HC
    rw [hpw] at hsh
    clear ha hpw
    have hpos : 0 < (ptL ps es wd).length := by omega
    clear hpl
    go_enter Tryd.func17, Tryd.ntmps17
    go_wp2_with fail
    refine HC.out.mono ?_
    rintro e w1 ⟨v, rfl, hb1, ho1⟩
    obtain ⟨g9, c2, rfl⟩ : ∃ g9 c2, v = .slice (some ⟨g9, 0, none⟩) (ptL ps es wd).length c2 := by
      rcases ho1.2 with ⟨_, h0⟩ | ⟨g, cap, cur, hv, _⟩
      · omega
      · exact ⟨g, cap, hv⟩
    have hcap := (own_cap ho1).1
    have HB1 := Lib.hid hb1
    have HI1 := Lib.hid (own_in_s ho1)
    clear hb1 ho1
    generalize ptL ps es wd = P at *
    obtain ⟨b9, o9, hA9, hbl9, hc9⟩ := HI1.out hpos
    injection hA9 with hA9
    injection hA9 with hg9 ho9
    subst hg9 ho9
    have HC9 := Lib.hid hc9
    clear hc9
    go_wp2_with fail
    refine (Tryd.strings_Join g9 0 c2 P ⟨#[45]⟩ w1 (fun j x hx => by
      obtain ⟨hj, rfl⟩ := List.getElem?_eq_some_iff.1 hx
      exact HC9.out j hj) hbl9 (by omega) hcap (by
        have := txtL_size HSZ.out P.length (Nat.le_refl _)
        rw [List.take_length] at this
        have e : Lib.join (P.map (·.data.toList)) (⟨#[45]⟩ : ByteArray).data.toList = txtL P := rfl
        rw [e]; omega)).mono ?_
    rintro e w2 ⟨rfl, hb2⟩
    have HB2 := Lib.hid (HB1.out.trans (hb2.mono HB1.out.size))
    have HV : Hid (hyT ps es wd = ⟨(Lib.join (P.map (·.data.toList)) (⟨#[45]⟩ : ByteArray).data.toList).toArray⟩) := Lib.hid (by rw [HT.out]; rfl)
    clear hb2
    generalize (⟨(Lib.join (P.map (·.data.toList)) (⟨#[45]⟩ : ByteArray).data.toList).toArray⟩ : ByteArray) = T at *
    go_wp2
    go_ret2
    exact ⟨ret_tb HV.out.symm rfl, HB2.out⟩
end Go.Proofs.YtcbhhbcfnaekpaaDoor

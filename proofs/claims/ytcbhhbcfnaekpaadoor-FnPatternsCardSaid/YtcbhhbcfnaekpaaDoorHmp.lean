import Derived.Test.YtcbhhbcfnaekpaaDoorHma
import Derived.Test.YtcbhhbcfnaekpaaDoorHyw
import Derived.Test.YtcbhhbcfnaekpaaDoorHmb
import Derived.Test.YtcbhhbcfnaekpaaDoorQ
import Derived.Test.YtcbhhbcfnaekpaaDoorHmq
/-
  What FnHyphens asks, in plain words: parts join to the word, a place within is a place; the contracts of laws.qHas, qJoin, qTexts, qInts where both are the same.
-/
namespace Go.Proofs.YtcbhhbcfnaekpaaDoor
open Go.RowKit
set_option linter.unusedVariables false

theorem BytesIn.below {w w' : World} {B : Nat} {A : Option Addr} {l : List UInt8} (h : BytesIn w A l) (hb : Below B w w') (hB : w.heap.size ≤ B) : BytesIn w' A l := fun hn => by
  obtain ⟨b, off, e, hl, hc⟩ := h hn
  exact ⟨b, off, e, by have := hb.size; omega, fun k hk => (hb.cell (by show b < B; omega)).trans (hc k hk)⟩
theorem Le40.le {l : List ByteArray} (h : Le40 l) : StrsLe l := fun k hk => by have := h _ (List.getElem_mem hk); omega
theorem OwnS.strs {w : World} {base d : Nat} {B : Option Addr} {l : List ByteArray} (h : OwnS w base B d l) : StrsIn w B l := own_in_s h
theorem lpL_mem : ∀ (P : List Int) (n : Int), lpL P n = 0 ∨ (lpL P n ∈ P ∧ lpL P n ≤ n) := by
  have : ∀ (l : List Int) (n b : Int) (Q : List Int), (b = 0 ∨ (b ∈ Q ∧ b ≤ n)) → (∀ x ∈ l, x ∈ Q) → (l.foldl (lpF n) b = 0 ∨ (l.foldl (lpF n) b ∈ Q ∧ l.foldl (lpF n) b ≤ n)) := by
    intro l n
    induction l with
    | nil => intro b Q hb _; exact hb
    | cons x r ih =>
      intro b Q hb hq
      rw [List.foldl_cons]
      refine ih _ Q ?_ (fun y hy => hq y (by simp [hy]))
      unfold lpF
      split
      · exact .inr ⟨hq x (by simp), by assumption⟩
      · exact hb
  exact fun P n => this P n 0 P (.inl rfl) (fun x hx => hx)
/-- A last place is a place, and within. -/
theorem lw_told {ps es : List ByteArray} {wd : ByteArray} {n : Int} (h : lwB ps es wd n = true) : askB ps es wd = true ∧ mbB ps es wd (lwV ps es wd n) = true ∧ lwV ps es wd n ≤ n := by
  have h0 : 0 < lwV ps es wd n := of_decide_eq_true h
  have ha : askB ps es wd = true := by
    cases ha : askB ps es wd with
    | true => rfl
    | false => rw [lw_noask ha] at h0; omega
  have hl : ltB n = true := by
    cases hl : ltB n with
    | true => rfl
    | false => rw [lw_out hl] at h0; omega
  rw [lw_in hl] at h0 ⊢
  rcases lpL_mem (hpL ps es wd) n with h1 | ⟨h1, h2⟩
  · omega
  · exact ⟨ha, hasI_mem.2 h1, h2⟩
theorem may_in {ps es : List ByteArray} {wd : ByteArray} {x : Int} (h : mbB ps es wd x = true) (ha : askB ps es wd = true) : 2 ≤ x ∧ x ≤ (wd.size : Int) - 2 := by
  have h1 := hasI_mem.1 h
  rw [hp_yes ha] at h1
  exact hyPl_in x h1
theorem cut_listJ (wd : ByteArray) (i j : Nat) : (wd.extract i j).data.toList = (wd.data.toList.drop i).take (j - i) := by
  rw [ByteArray.data_extract, Array.toList_extract]
theorem cut_join (wd : ByteArray) : ∀ (l : List Int) (f : Nat), (∀ x ∈ l, (f : Int) ≤ x) → l.Pairwise (· ≤ ·) → (∀ x ∈ l, x ≤ (wd.size : Int)) → f ≤ wd.size → ((cutF wd f l).map (·.data.toList)).flatten ++ (wd.extract (lastF f l) wd.size).data.toList = (wd.extract f wd.size).data.toList
  | [], f, _, _, _, _ => by simp [cutF, lastF]
  | x :: r, f, h1, h2, h3, h4 => by
    have hx := h1 x (by simp)
    have hxs := h3 x (by simp)
    have ih := cut_join wd r x.toNat (fun y hy => by have := List.rel_of_pairwise_cons h2 hy; omega) (List.Pairwise.of_cons h2) (fun y hy => h3 y (by simp [hy])) (by omega)
    simp only [cutF, lastF, List.map_cons, List.flatten_cons, List.append_assoc]
    rw [ih, cut_listJ, cut_listJ, cut_listJ]
    have e : wd.data.toList.drop x.toNat = (wd.data.toList.drop f).drop (x.toNat - f) := by rw [List.drop_drop]; congr 1; omega
    rw [e]
    have e2 : wd.size - f = (x.toNat - f) + (wd.size - x.toNat) := by omega
    rw [e2, List.take_add]
theorem join_nothing (l : List (List UInt8)) : Lib.join l [] = l.flatten := by
  cases l with
  | nil => rfl
  | cons x r =>
    rw [Lib.join_cons]
    simp [Lib.joinTail]
/-- Texts with a text between them. -/
def jnT (xs : List ByteArray) (sep : List UInt8) : List UInt8 := Lib.join (xs.map (·.data.toList)) sep
/-- The parts of a word, one after the other, are the word. -/
theorem pt_join (ps es : List ByteArray) (wd : ByteArray) : (⟨(jnT (ptL ps es wd) []).toArray⟩ : ByteArray) = wd := by
  have h := cut_join wd (hyPl ps es wd) 0 (fun x hx => by have := hyPl_in x hx; omega) (hyPl_up ps es wd) (fun x hx => by have := hyPl_in x hx; omega) (Nat.zero_le _)
  have e : jnT (ptL ps es wd) [] = (wd.extract 0 wd.size).data.toList := by
    unfold jnT
    rw [join_nothing, ← h]
    unfold ptL
    simp
  rw [e]
  apply ByteArray.ext
  apply Array.ext'
  simp [cut_listJ]
theorem jnT_zero {xs : List ByteArray} {sep : List UInt8} (h : 0 < xs.length) : jnT (xs.take 1) sep = xs[0].data.toList := by
  cases xs with
  | nil => simp at h
  | cons y r => simp [jnT, Lib.join_one]
theorem jnT_next {xs : List ByteArray} {sep : List UInt8} {k : Nat} (h : k < xs.length) (h0 : 0 < k) : jnT (xs.take (k + 1)) sep = jnT (xs.take k) sep ++ (sep ++ xs[k].data.toList) := by
  cases xs with
  | nil => simp at h
  | cons y r =>
    obtain ⟨m, rfl⟩ : ∃ m, k = m + 1 := ⟨k - 1, by omega⟩
    have hm : m < r.length := by simpa using h
    unfold jnT
    simp only [List.take_succ_cons, List.map_cons, Lib.join_cons, List.getElem_cons_succ]
    rw [List.take_succ_eq_append_getElem hm, List.map_append, List.map_cons, List.map_nil, tail_snoc, List.append_assoc]
theorem jnT_size {xs : List ByteArray} {sep : List UInt8} (hs : sep.length ≤ 1) (h : ∀ k (h : k < xs.length), xs[k].size ≤ 16) : ∀ k, k ≤ xs.length → (jnT (xs.take k) sep).length ≤ 17 * k
  | 0, _ => by simp [jnT, Lib.join_nil]
  | k + 1, hk => by
    have h1 := jnT_size hs h k (by omega)
    have h2 : xs[k].data.toList.length ≤ 16 := by have := h k (by omega); rw [len_list]; exact this
    rcases Nat.eq_zero_or_pos k with rfl | h0
    · rw [jnT_zero (by omega)]; omega
    · rw [jnT_next (by omega) h0]
      simp only [List.length_append]
      omega
set_option maxRecDepth 100000 in
set_option maxHeartbeats 1000000 in
theorem qJoin_any (P : List ByteArray) (A2 : Option Addr) (c2 : Nat) (sp : ByteArray) (w2 : World) (hf : StrsIn w2 A2 P) (hsh : P.length ≤ 17) (hs : sp.size ≤ 1) (hz : ∀ k (h : k < P.length), P[k].size ≤ 16) :
    Calls Tryd.prog 21 #[.slice A2 P.length c2, .string sp] w2 fun e w' => e = .returned (.string ⟨(jnT P sp.data.toList).toArray⟩) ∧ w' = w2 := by
  have HI2 := Lib.hid hf; have HSZ := Lib.hid hz
  have HSP : Hid (sp.data.toList.length ≤ 1) := Lib.hid (by rw [len_list]; exact hs)
  clear hf hz
  go_enter Tryd.func21, Tryd.ntmps21
  go_wp2
  go_loop [5, 10] (fun v i => ∃ (k : Nat) (t : ByteArray), k ≤ P.length ∧ i = .int .i64 k ∧ v = .string t ∧ Hid (t = ⟨(jnT (P.take k) sp.data.toList).toArray⟩) ∧ t.size ≤ 17 * k) (fun _ i => P.length - (intOf i).toNat)
  case atStart => exact ⟨0, ⟨#[]⟩, Nat.zero_le _, rfl, rfl, Lib.hid rfl, by decide⟩
  case round =>
    obtain ⟨k, t, hk, rfl, rfl, HT0, ht⟩ := hrel
    by_cases hlt : k < P.length
    · obtain ⟨b9, o9, rfl, hbl9, hc9⟩ := HI2.out (by omega)
      have hck := hc9 k hlt
      clear hc9
      have hs16 := HSZ.out k hlt
      have hL : Hid ((⟨(jnT (P.take (k + 1)) sp.data.toList).toArray⟩ : ByteArray).size ≤ 17 * (k + 1)) := Lib.hid (by
        have := jnT_size HSP.out HSZ.out (k + 1) hlt
        simpa [ByteArray.size] using this)
      rcases Nat.eq_zero_or_pos k with rfl | h0
      · have HN : Hid ((⟨(jnT (P.take (0 + 1)) sp.data.toList).toArray⟩ : ByteArray) = t ++ P[0]) := Lib.hid (by
          rw [HT0.out, bytes_app, jnT_zero hlt]; rfl)
        rw [Nat.add_zero] at hck
        generalize P[0] = p at *
        go_wp2
        go_round
        case rel => exact ⟨0 + 1, _, by omega, by go_num, rfl, Lib.hid HN.out.symm, by rw [← HN.out]; exact hL.out⟩
        case measure => simp [intOf]; omega
      · have HN : Hid ((⟨(jnT (P.take (k + 1)) sp.data.toList).toArray⟩ : ByteArray) = (t ++ sp) ++ P[k]) := Lib.hid (by
          rw [HT0.out, bytes_app, bytes_app, jnT_next hlt h0, List.append_assoc])
        have hs1 : (t ++ sp).size = t.size + sp.size := ByteArray.size_append
        have hla : ¬ (9223372036854775807 : Nat) < t.size + sp.size := by omega
        generalize P[k] = p at *
        have hlb : ¬ (9223372036854775807 : Nat) < t.size + sp.size + p.size := by omega
        go_wp2
        go_round
        case rel => exact ⟨k + 1, _, by omega, by go_num, rfl, Lib.hid HN.out.symm, by rw [← HN.out]; exact hL.out⟩
        case measure => simp [intOf]; omega
    · obtain rfl : k = P.length := by omega
      have HV : Hid (t = ⟨(jnT P sp.data.toList).toArray⟩) := Lib.hid (by rw [HT0.out, List.take_length])
      go_wp2
      go_ret
      exact ⟨ret_str HV.out, rfl⟩
set_option maxRecDepth 100000 in
theorem qHas_any (l : List Int) (A : Option Addr) (c : Nat) (x : Int) (w : World) (hf : IntsIn w A l) (hn : l.length ≤ 1048576) :
    Calls Tryd.prog 23 #[.slice A l.length c, .int .i64 x] w fun e w' => e = .returned (.bool (hasI l x)) ∧ w' = w := by
  have HF := Lib.hid hf; clear hf
  go_enter Tryd.func23, Tryd.ntmps23
  go_wp2
  go_loop [9] (fun i => ∃ k : Nat, k ≤ l.length ∧ i = .int .i64 k ∧ hasI (l.take k) x = false) (fun i => l.length - (intOf i).toNat)
  case atStart => exact ⟨0, Nat.zero_le _, rfl, rfl⟩
  case round =>
    obtain ⟨k, hk, rfl, hs⟩ := hrel
    have HS := Lib.hid hs; clear hs
    by_cases hlt : k < l.length
    · obtain ⟨b, off, rfl, hbl, hc⟩ := HF.out (by omega)
      have hc0 := hc k hlt
      clear hc
      have HST := Lib.hid (hasI_step (x := x) hlt)
      by_cases he : l[k] = x
      · have ht : (l[k] == x) = true := by simp [he]
        have HE := Lib.hid (hasI_found hlt he)
        clear he
        generalize l[k] = y at *
        go_wp2
        go_ret
        exact ⟨ret_bool HE.out.symm, rfl⟩
      · have ht : (l[k] == x) = false := by simp [he]
        have HE := Lib.hid he; clear he
        generalize l[k] = y at *
        go_wp2
        go_round
        case rel => exact ⟨k + 1, by omega, by go_num, by rw [HST.out, HS.out, decide_eq_false HE.out]; rfl⟩
        case measure => simp [intOf]; omega
    · obtain rfl : k = l.length := by omega
      have HE : Hid (hasI l x = false) := Lib.hid (by have := HS.out; rw [List.take_length] at this; exact this)
      go_wp2
      go_ret
      exact ⟨ret_bool HE.out.symm, rfl⟩
theorem qTexts_same (l : List ByteArray) (A B : Option Addr) (c d : Nat) (w : World) (hf : StrsIn w A l) (hg : StrsIn w B l) (hn : l.length ≤ 1048576) :
    Calls Tryd.prog 19 #[.slice A l.length c, .slice B l.length d] w fun e w' => e = .returned (.bool true) ∧ Below w.heap.size w w' := by
  have h := qTexts_any l l A B c d w hf hg (by unfold maxLen; omega) (by unfold maxLen; omega)
  rw [decide_eq_true rfl] at h; exact h
theorem qInts_same (l : List Int) (A B : Option Addr) (c d : Nat) (w : World) (hf : IntsIn w A l) (hg : IntsIn w B l) (hn : l.length ≤ 1048576) :
    Calls Tryd.prog 20 #[.slice A l.length c, .slice B l.length d] w fun e w' => e = .returned (.bool true) ∧ Below w.heap.size w w' := by
  have h := qInts_any l l A B c d w hf hg (by unfold maxLen; omega) (by unfold maxLen; omega)
  rw [decide_eq_true rfl] at h; exact h
end Go.Proofs.YtcbhhbcfnaekpaaDoor

/-
  What FnPatterns asks, in plain words: a place breaks where its value is odd; a new exception is among the exceptions; an exception letter by letter.
-/
namespace Go.Proofs.YtcbhhbcfnaekpaaDoor
open Go.RowKit
set_option linter.unusedVariables false

theorem odd_iff : ∀ (l : List Int) (n k : Nat) (h : k < l.length), (((n + k : Nat) : Int) ∈ oddG n l ↔ l[k] % 2 = 1)
  | [], _, _, h => by simp at h
  | y :: r, n, 0, _ => by
    have hno : ((n + 0 : Nat) : Int) ∉ oddG (n + 1) r := fun h => by have := (oddG_mem r (n + 1) _ h).1; omega
    rw [show oddG n (y :: r) = if y % 2 = 1 then (n : Int) :: oddG (n + 1) r else oddG (n + 1) r from rfl]
    by_cases hy : y % 2 = 1
    · simp [hy]
    · rw [if_neg hy]
      simp only [List.getElem_cons_zero]
      exact ⟨fun h => absurd h hno, fun h => absurd h hy⟩
  | y :: r, n, k + 1, h => by
    have ih := odd_iff r (n + 1) k (by simpa using h)
    have e : ((n + (k + 1) : Nat) : Int) = ((n + 1 + k : Nat) : Int) := by omega
    rw [e]
    simp only [List.getElem_cons_succ]
    rw [← ih, show oddG n (y :: r) = if y % 2 = 1 then (n : Int) :: oddG (n + 1) r else oddG (n + 1) r from rfl]
    by_cases hy : y % 2 = 1
    · rw [if_pos hy, List.mem_cons]
      constructor
      · rintro (h1 | h1)
        · omega
        · exact h1
      · exact .inr
    · rw [if_neg hy]
theorem ask_vl {ps : List ByteArray} {wd : ByteArray} (h : vlB ps wd = true) : askB ps [] wd = true := by
  unfold vlB at h; unfold askB; rw [hyB_pats]; exact h
/-- Without exceptions a word breaks where the value is odd. -/
theorem odd_break {ps : List ByteArray} {wd : ByteArray} (h : vlB ps wd = true) {i : Nat} (hi : i < (vlL ps wd).length) (h1 : 1 ≤ i) (h2 : (i : Int) + 1 ≤ (wd.size : Int) - 2) : hasI (hpL ps [] wd) ((i : Int) + 1) = decide ((vlL ps wd)[i] % 2 = 1) := by
  have hv := vl_yes h
  rw [hp_yes (ask_vl h), Bool.eq_iff_iff, hasI_mem, decide_eq_true_iff]
  unfold hyPl hyRaw
  have e0 : exFind [] wd = none := rfl
  rw [e0]
  have hi2 : i < (valL ps wd).length := by rw [← hv]; exact hi
  have ho := odd_iff (valL ps wd) 1 i hi2
  have e1 : ((1 + i : Nat) : Int) = (i : Int) + 1 := by omega
  rw [e1] at ho
  have e2 : (vlL ps wd)[i] = (valL ps wd)[i] := by simp only [hv]
  rw [e2, ← ho, List.mem_filter]
  constructor
  · exact fun hh => hh.1
  · intro hh
    refine ⟨hh, ?_⟩
    unfold kpB
    rw [decide_eq_true (by omega), decide_eq_true (by omega)]; rfl
theorem vl_len {ps : List ByteArray} {wd : ByteArray} (h : vlB ps wd = true) : ((vlL ps wd).length : Int) = (wd.size : Int) - 1 := by
  have hw : isWordF wd = true := by unfold vlB at h; rw [Bool.and_eq_true] at h; exact h.2
  have := isWord_len hw
  rw [vl_yes h, valL_len]; omega
theorem vl_bd {ps : List ByteArray} {wd : ByteArray} (h : vlB ps wd = true) : ∀ x ∈ vlL ps wd, 0 ≤ x ∧ x ≤ 9 := by
  have hp : patsB ps = true := by unfold vlB at h; rw [Bool.and_eq_true] at h; exact h.1
  rw [vl_yes h]; exact valL_bd (patsB_all hp).1
/-- What a new exception leaves. -/
theorem nx_told {es : List ByteArray} {e : ByteArray} (h : nxB es e = true) : exsB es = true ∧ exB e = true ∧ exsB (nxL es e) = true ∧ hasS ((nxL es e).map exW) (exW e) = true ∧ (nxL es e).length ≤ es.length + 1 ∧ es.length ≤ (nxL es e).length ∧ (∀ x ∈ nxL es e, x ∈ es ∨ x = e) := by
  have h0 := h
  unfold nxB at h0
  rw [Bool.and_eq_true, Bool.and_eq_true] at h0
  obtain ⟨⟨h1, h2⟩, h3⟩ := h0
  have hA := (exsB_all h1).1
  have h20 := (exsB_all h1).2
  refine ⟨h1, h2, ?_⟩
  rcases Nat.lt_or_ge (nxAt es (exW e)) es.length with hl | hl
  · obtain ⟨_, e1⟩ := nx_hit h1 h2 rfl hl
    rw [e1]
    have hx : exW es[nxAt es (exW e)] = exW e := by
      have := List.findIdx_getElem (xs := es) (p := fun x => decide (exW x = exW e)) (w := hl)
      exact of_decide_eq_true this
    have hm : (es.set (nxAt es (exW e)) e).map exW = es.map exW := by
      rw [List.map_set, ← hx]
      apply List.ext_getElem?
      intro j
      by_cases hj : j = nxAt es (exW e)
      · rw [hx, ← hj, List.getElem?_set_self (by simp; omega), List.getElem?_eq_getElem (by simp; omega)]
        simp only [List.getElem_map]
        rw [← hx]
        simp only [hj]
      · rw [List.getElem?_set_ne (by rw [hx]; omega)]
    refine ⟨?_, ?_, by rw [List.length_set]; omega, by rw [List.length_set]; exact Nat.le_refl _, fun x hx => List.mem_or_eq_of_mem_set hx⟩
    · unfold exsB exsA at h1 ⊢
      rw [hm, List.length_set]
      rw [Bool.and_eq_true, Bool.and_eq_true, List.all_eq_true] at h1
      rw [Bool.and_eq_true, Bool.and_eq_true, List.all_eq_true]
      refine ⟨⟨fun x hx => ?_, h1.1.2⟩, h1.2⟩
      rcases List.mem_or_eq_of_mem_set hx with h4 | rfl
      · exact h1.1.1 x h4
      · exact h2
    · rw [hm, hasS_mem, List.mem_map]
      exact ⟨es[nxAt es (exW e)], List.getElem_mem hl, hx⟩
  · have he := nxAt_le es (exW e)
    have hat : nxAt es (exW e) = es.length := by omega
    have hroom : es.length < 20 := by
      unfold nxOk at h3
      rw [hat, decide_eq_false (by omega)] at h3
      exact of_decide_eq_true h3
    obtain ⟨_, e1⟩ := nx_room h1 h2 hat hroom
    have hno : ∀ j (hj : j < es.length), exW es[j] ≠ exW e := by
      have := hat
      unfold nxAt at this
      rw [List.findIdx_eq_length] at this
      intro j hj
      simpa using this _ (List.getElem_mem hj)
    rw [e1]
    refine ⟨by rw [exsB_more h1 h2 hno]; exact decide_eq_true hroom, ?_, by simp, by simp, fun x hx => ?_⟩
    · rw [hasS_mem]; simp
    · simpa using hx
theorem ex_128 {x : ByteArray} (h : exB x = true) {i : Nat} (hi : i < x.size) : x[i].toNat < 128 := by
  have hw := ex_word h
  have hl := lets_word hw.2.1
  by_cases hc : x[i] = 45
  · rw [hc]; decide
  · have hm : x[i] ∈ (bareB x).data.toList := by
      show x[i] ∈ (bareL x.data.toList).toArray.toList
      have : x[i] ∈ bareL x.data.toList := by
        unfold bareL
        rw [List.mem_filter]
        refine ⟨?_, by simpa using hc⟩
        have := at_list x i hi
        rw [← this, List.getD_eq_getElem?_getD, List.getElem?_eq_getElem (by rw [len_list]; exact hi)]
        exact List.getElem_mem _
      simpa using this
    obtain ⟨j, hj, e⟩ := List.getElem_of_mem hm
    have hj2 : j < (bareB x).size := by rw [len_list] at hj; exact hj
    have := lets_128 hl hj2
    have e2 : (bareB x)[j] = x[i] := by rw [← e]; rfl
    rw [e2] at this; exact this
theorem bare_step (x : ByteArray) (k : Nat) (h : k < x.size) : bareL (x.data.toList.take (k + 1)) = if x[k] = 45 then bareL (x.data.toList.take k) else bareL (x.data.toList.take k) ++ [x[k]] := by
  have hk : k < x.data.toList.length := by rw [len_list]; exact h
  rw [List.take_succ_eq_append_getElem hk, bareL_snoc]
  have e : x.data.toList[k] = x[k] := rfl
  rw [e]
end Go.Proofs.YtcbhhbcfnaekpaaDoor

/-
  FnPatterns: the walk of the law.
-/
namespace Go.Proofs.YtcbhhbcfnaekpaaDoor
open Go.RowKit
set_option linter.unusedVariables false

theorem below_iter {w wr : World} {k : Nat} (h : Below w.heap.size w wr) (hk : w.heap.size ≤ k) (s : ByteArray) (pos : Nat) : Below w.heap.size w (wr.iterAt k s pos) :=
  h.grown (row := some k) ⟨rfl, rfl, rfl, by rw [Lib.iterAt_size]; exact Nat.le_refl _, fun j _ hne => Lib.iterAt_other wr k j s pos (fun e => hne (by rw [e]))⟩ h.size (fun q hq => by cases hq; exact hk)
theorem nx_le40 {es : List ByteArray} {x : ByteArray} (h : Le40 es) (hx : x.size ≤ 40) (hm : ∀ y ∈ nxL es x, y ∈ es ∨ y = x) : StrsLe (nxL es x) := fun k hk => by
  rcases hm _ (List.getElem_mem hk) with h1 | h1
  · have := h _ h1; omega
  · rw [h1]; omega
set_option maxRecDepth 100000 in
set_option maxHeartbeats 8000000 in
theorem fnPatterns_walk (A : Option Addr) (xs : List UInt8) (c : Nat) (Ay : Option Addr) (ys : List UInt8) (cy : Nat) (w : World) (hx : BytesIn w A xs) (hxs : xs.length ≤ maxLen) (hy : BytesIn w Ay ys) (hys : ys.length ≤ maxLen) (hl : LayB w) :
    Calls Tryd.prog 4 #[.slice A xs.length c, .slice Ay ys.length cy] w fun e w' => e = .returned (.bool true) ∧ Below w.heap.size w w' := by
  have HX := Lib.hid hx; have HY := Lib.hid hy; have HL := Lib.hid hl; clear hx hy hl
  have hlongs : (1048576 : Int) < wrap64 ((xs.length : Int) + (ys.length : Int)) ∨ ¬ (1048576 : Int) < wrap64 ((xs.length : Int) + (ys.length : Int)) := by omega
  go_enter Tryd.func4, Tryd.ntmps4
  by_cases hlong : (1048576 : Int) < wrap64 ((xs.length : Int) + (ys.length : Int))
  · go_wp2
    go_ret
    exact ⟨rfl, Below.refl _ _⟩
  clear hlongs
  go_wp2_with fail
  refine (drawVo_any A c xs w HX.out hxs).mono ?_
  rintro e w1 ⟨ps, B, d, wd, rfl, h⟩
  have HB1 := Lib.hid h.bel
  have HP1 := Lib.hid h.own.strs
  have hpl := h.ll; have h40 := h.s40
  have HPL := Lib.hid h.l40.le
  clear h hlong
  have hvs := vl_short ps wd
  go_wp2_with fail
  refine (implValuesOf_any ps B d wd w1 HP1.out HPL.out (by omega) (by omega)).mono ?_
  rintro e w2 ⟨v, rfl, hb, ho⟩
  obtain ⟨I1, i1, rfl⟩ := ho.form
  have HB2 := Lib.hid (HB1.out.trans (hb.mono HB1.out.size))
  have HP2 := Lib.hid (HP1.out.below hb (Nat.le_refl _)); have HI2 := Lib.hid ho.ints
  clear hb ho HB1 HP1
  go_wp2_with fail
  refine (specValuesOf_any ps B d wd w2 HP2.out HPL.out (by omega) (by omega)).mono ?_
  rintro e w3 ⟨v, rfl, hb, ho⟩
  obtain ⟨I2, i2, rfl⟩ := ho.form
  have HB3 := Lib.hid (HB2.out.trans (hb.mono HB2.out.size))
  have HP3 := Lib.hid (HP2.out.below hb (Nat.le_refl _)); have HI3 := Lib.hid (HI2.out.below hb (Nat.le_refl _)); have HJ3 := Lib.hid ho.ints
  clear hb ho HB2 HP2 HI2
  have HQI := Lib.hid (fun W h1 h2 => qInts_same (vlL ps wd) I1 I2 i1 i2 W h1 h2 (by omega))
  cases hv : vlB ps wd
  · clear hv
    generalize vlL ps wd = V at *
    go_wp2_with fail
    refine (HQI.out w3 HI3.out HJ3.out).mono ?_
    rintro e w4 ⟨rfl, hb⟩
    have HB4 := Lib.hid (HB3.out.trans (hb.mono HB3.out.size))
    clear hb HB3 HP3 HI3 HJ3 HQI HX HPL
    go_wp2_with fail
    refine (drawNe_any Ay cy ys w4 (HY.out.below HB4.out (Nat.le_refl _)) hys).mono ?_
    rintro e x1 ⟨es, C, f, x, rfl, hq⟩
    have HX1 := Lib.hid (HB4.out.trans (hq.bel.mono HB4.out.size))
    have HE1 := Lib.hid hq.own.strs
    have hel := hq.ll; have hx40 := hq.s40
    have HEL := Lib.hid hq.l40.le; have HE40 := Lib.hid hq.l40
    clear hq
    have hns := nx_short es x
    have hws := wx_short es
    go_wp2_with fail
    refine (implNewException_any es C f x x1 HE1.out HEL.out (by omega) (by omega) (HL.out.below HX1.out)).mono ?_
    rintro e x2 ⟨v, rfl, hb, ho⟩
    obtain ⟨N1, n1, rfl⟩ := own_shape ho
    have HX2 := Lib.hid (HX1.out.trans (hb.mono HX1.out.size))
    have HE2 := Lib.hid (HE1.out.below hb (Nat.le_refl _)); have HN2 := Lib.hid (own_in_s ho)
    clear hb ho HX1 HE1
    go_wp2_with fail
    refine (specNewException_any es C f x x2 HE2.out HEL.out (by omega) (by omega)).mono ?_
    rintro e x3 ⟨v, rfl, hb, ho⟩
    obtain ⟨N2, n2, rfl⟩ := own_shape ho
    have HX3 := Lib.hid (HX2.out.trans (hb.mono HX2.out.size))
    have HE3 := Lib.hid (HE2.out.below hb (Nat.le_refl _)); have HN3 := Lib.hid (HN2.out.below hb (Nat.le_refl _)); have HM3 := Lib.hid (own_in_s ho)
    clear hb ho HX2 HE2 HN2
    go_wp2_with fail
    refine (implWordsOf_any es C f x3 HE3.out HEL.out (by omega) (HL.out.below HX3.out)).mono ?_
    rintro e x4 ⟨v, rfl, hb, ho⟩
    obtain ⟨W1, c1, rfl⟩ := own_shape ho
    have HX4 := Lib.hid (HX3.out.trans (hb.mono HX3.out.size))
    have HE4 := Lib.hid (HE3.out.below hb (Nat.le_refl _)); have HN4 := Lib.hid (HN3.out.below hb (Nat.le_refl _)); have HM4 := Lib.hid (HM3.out.below hb (Nat.le_refl _)); have HW4 := Lib.hid (own_in_s ho)
    clear hb ho HX3 HE3 HN3 HM3
    go_wp2_with fail
    refine (specWordsOf_any es C f x4 HE4.out HEL.out (by omega)).mono ?_
    rintro e x5 ⟨v, rfl, hb, ho⟩
    obtain ⟨W2, c2, rfl⟩ := own_shape ho
    have HX5 := Lib.hid (HX4.out.trans (hb.mono HX4.out.size))
    have HN5 := Lib.hid (HN4.out.below hb (Nat.le_refl _)); have HM5 := Lib.hid (HM4.out.below hb (Nat.le_refl _)); have HW5 := Lib.hid (HW4.out.below hb (Nat.le_refl _)); have HV5 := Lib.hid (own_in_s ho)
    clear hb ho HX4 HE4 HN4 HM4 HW4
    go_wp2_with fail
    refine (drawIp_any Ay cy ys x5 (HY.out.below HX5.out (Nat.le_refl _)) hys).mono ?_
    rintro e x6 ⟨⟨s, hs20, rfl⟩, hb⟩
    have HX6 := Lib.hid (HX5.out.trans (hb.mono HX5.out.size))
    have HN6 := Lib.hid (HN5.out.below hb (Nat.le_refl _)); have HM6 := Lib.hid (HM5.out.below hb (Nat.le_refl _)); have HW6 := Lib.hid (HW5.out.below hb (Nat.le_refl _)); have HV6 := Lib.hid (HV5.out.below hb (Nat.le_refl _))
    clear hb HX5 HN5 HM5 HW5 HV5
    have HTL := Lib.hid (fun h => nx_told (es := es) (e := x) h)
    have HQN := Lib.hid (fun W h1 h2 => qTexts_same (nxL es x) N1 N2 n1 n2 W h1 h2 (by omega))
    have HQW := Lib.hid (fun W h1 h2 => qTexts_same (wxL es) W1 W2 c1 c2 W h1 h2 (by omega))
    have HNW := Lib.hid (fun (W : World) h1 h2 h3 => implWordsOf_any (nxL es x) N1 n1 W h1 h2 (by omega) h3)
    have HXY := Lib.hid (fun (h : exsB (nxL es x) = true) => wx_yes h)
    have hwn := wx_short (nxL es x)
    have HLE := Lib.hid (fun h => nx_le40 (es := es) (x := x) HE40.out hx40 h)
    cases hnb : nxB es x
    · clear hnb HTL HXY HNW HLE
      generalize nxL es x = NX at *
      generalize wxL es = WX at *
      generalize exsB es = EB at *
      go_wp2_with fail
      refine (HQN.out x6 HN6.out HM6.out).mono ?_
      rintro e x7 ⟨rfl, hb⟩
      have HX8 := Lib.hid (HX6.out.trans (hb.mono HX6.out.size))
      have HW7 := Lib.hid (HW6.out.below hb (Nat.le_refl _)); have HV7 := Lib.hid (HV6.out.below hb (Nat.le_refl _))
      have HN7 := Lib.hid (HN6.out.below hb (Nat.le_refl _)); have HM7 := Lib.hid (HM6.out.below hb (Nat.le_refl _))
      clear hb HX6 HN6 HM6 HW6 HV6
      go_wp2_with fail
      refine (HQW.out x7 HW7.out HV7.out).mono ?_
      rintro e x8 ⟨rfl, hb⟩
      have HX9 := Lib.hid (HX8.out.trans (hb.mono HX8.out.size))
      have HN8 := Lib.hid (HN7.out.below hb (Nat.le_refl _)); have HM8 := Lib.hid (HM7.out.below hb (Nat.le_refl _))
      clear hb HX8 HN7 HM7 HW7 HV7
      go_wp2_with fail
      refine (implIsPattern_any s x8 (by omega)).mono ?_
      rintro e x9 ⟨rfl, hb⟩
      have HXa := Lib.hid (HX9.out.trans (hb.mono HX9.out.size))
      have HN9 := Lib.hid (HN8.out.below hb (Nat.le_refl _)); have HM9 := Lib.hid (HM8.out.below hb (Nat.le_refl _))
      clear hb HX9 HN8 HM8
      go_wp2_with fail
      refine (specIsPattern_any s x9 (by omega)).mono ?_
      rintro e x10 ⟨rfl, hb⟩
      have HX10 := Lib.hid (HXa.out.trans (hb.mono HXa.out.size))
      have HN10 := Lib.hid (HN9.out.below hb (Nat.le_refl _)); have HM10 := Lib.hid (HM9.out.below hb (Nat.le_refl _))
      clear hb HXa HN9 HM9 HQN HQW
      generalize ptB s = ip at *
      go_wp2
      go_ret
      exact ⟨rfl, HX10.out⟩
    · have HT := Lib.hid (HTL.out hnb)
      have HX7 := Lib.hid (HXY.out HT.out.2.2.1)
      have HLE7 := Lib.hid (HLE.out HT.out.2.2.2.2.2.2)
      rw [HT.out.2.2.1] at HNW
      have heb : exsB es = true := HT.out.1
      rw [heb]
      clear hnb HTL HXY heb HLE
      rw [HX7.out] at HNW hwn
      clear HX7
      have hg1 : ¬ ((es.length : Int) + 1 < ((nxL es x).length : Int)) := by have := HT.out.2.2.2.2.1; omega
      have hg2 : ¬ (((nxL es x).length : Int) < (es.length : Int)) := by have := HT.out.2.2.2.2.2.1; omega
      have HXB := Lib.hid HT.out.2.1
      have HBW := Lib.hid (ex_word HT.out.2.1).2.2.2.1
      have HHS := Lib.hid HT.out.2.2.2.1
      clear HT
      generalize nxL es x = NX at *
      generalize wxL es = WX at *
      generalize NX.map exW = AL at *
      go_wp2_with fail
      refine (HQN.out x6 HN6.out HM6.out).mono ?_
      rintro e x7 ⟨rfl, hb⟩
      have HX8 := Lib.hid (HX6.out.trans (hb.mono HX6.out.size))
      have HW7 := Lib.hid (HW6.out.below hb (Nat.le_refl _)); have HV7 := Lib.hid (HV6.out.below hb (Nat.le_refl _))
      have HN7 := Lib.hid (HN6.out.below hb (Nat.le_refl _)); have HM7 := Lib.hid (HM6.out.below hb (Nat.le_refl _))
      clear hb HX6 HN6 HM6 HW6 HV6
      go_wp2_with fail
      refine (HQW.out x7 HW7.out HV7.out).mono ?_
      rintro e x8 ⟨rfl, hb⟩
      have HX9 := Lib.hid (HX8.out.trans (hb.mono HX8.out.size))
      have HN8 := Lib.hid (HN7.out.below hb (Nat.le_refl _)); have HM8 := Lib.hid (HM7.out.below hb (Nat.le_refl _))
      clear hb HX8 HN7 HM7 HW7 HV7
      go_wp2_with fail
      refine (implIsPattern_any s x8 (by omega)).mono ?_
      rintro e x9 ⟨rfl, hb⟩
      have HXa := Lib.hid (HX9.out.trans (hb.mono HX9.out.size))
      have HN9 := Lib.hid (HN8.out.below hb (Nat.le_refl _)); have HM9 := Lib.hid (HM8.out.below hb (Nat.le_refl _))
      clear hb HX9 HN8 HM8
      go_wp2_with fail
      refine (specIsPattern_any s x9 (by omega)).mono ?_
      rintro e x10 ⟨rfl, hb⟩
      have HX10 := Lib.hid (HXa.out.trans (hb.mono HXa.out.size))
      have HN10 := Lib.hid (HN9.out.below hb (Nat.le_refl _)); have HM10 := Lib.hid (HM9.out.below hb (Nat.le_refl _))
      clear hb HXa HN9 HM9 HQN HQW
      generalize ptB s = ip at *
      go_wp2
      have HIT0 : Hid ((x10.iter x 0).heap[x10.heap.size]? = some (.stringIter x 0)) := Lib.hid (World.iter_heap _ _ _)
      have HBI : Hid (Below x10.heap.size x10 (x10.iter x 0)) := Lib.hid ((Below.refl _ _).alloc (Nat.le_refl _) _)
      have hws0 := HX10.out.size
      generalize hK : x10.heap.size = K0 at *
      have HK0 : Hid (K0 = x10.heap.size) := Lib.hid hK.symm
      clear hK
      go_loopw [26] (fun v wi => ∃ (pos : Nat) (t : ByteArray), pos ≤ x.size ∧ t.size ≤ pos ∧ v = .string t ∧ Hid (t = ⟨(bareL (x.data.toList.take pos)).toArray⟩) ∧ Hid (wi.heap[K0]? = some (.stringIter x pos)) ∧ Hid (Below K0 x10 wi)) (fun _ wi => x.size - wi.iterPos K0)
      case atStart => exact ⟨0, .empty, Nat.zero_le _, Nat.le_refl _, rfl, Lib.hid rfl, HIT0, HBI⟩
      case round =>
        clear HIT0 HBI
        obtain ⟨pos, t, hpl2, htp, rfl, HTT, HIT, HBr⟩ := hrel
        by_cases hlp : pos < x.size
        · have hasc := ex_128 HXB.out hlp
          have hnx : ∀ ty, (Instr.next (.pointer (some ⟨K0, 0, none⟩)) true ty).run Tryd.prog wr = .ok (.tuple #[.bool true, .int .i64 pos, .int .i32 (x[pos].toNat : Int)]) (wr.iterAt K0 x (pos + 1)) := fun ty => by
            rw [Lib.run_next_ascii_at wr K0 x pos ty HIT.out hlp hasc]
          have HIT1 := Lib.hid (Lib.iterAt_heap wr K0 x pos (pos + 1) HIT.out)
          have HB1 : Hid (Below K0 x10 (wr.iterAt K0 x (pos + 1))) := Lib.hid (by
            have h := HBr.out
            rw [HK0.out] at h ⊢
            exact below_iter h (Nat.le_refl _) x (pos + 1))
          have HPM : Hid (wr.iterPos K0 = pos) := Lib.hid (iterPos_of HIT.out)
          have HST := Lib.hid (bare_step x pos hlp)
          generalize wr.iterAt K0 x (pos + 1) = U1 at *
          clear HIT HBr hasc
          have hp0 : (0 : Int) ≤ (pos : Int) := by omega
          have hp1 : (pos : Int) + 1 ≤ (x.size : Int) := by omega
          by_cases hc : x[pos] = 45
          · have hne : ((x[pos].toNat : Int) != 45) = false := by rw [hc]; rfl
            have HT2 : Hid (t = ⟨(bareL (x.data.toList.take (pos + 1))).toArray⟩) := Lib.hid (by rw [HST.out, if_pos hc, HTT.out])
            clear HST hc
            go_wp2
            go_roundw
            case rel => exact ⟨pos + 1, t, by omega, by omega, rfl, HT2, HIT1, HB1⟩
            case measure => rw [iterPos_of HIT1.out, HPM.out]; omega
          · have hne : ((x[pos].toNat : Int) != 45) = true := by
              rw [bne_iff_ne]
              intro h
              refine hc (UInt8.toNat_inj.1 ?_)
              show x[pos].toNat = 45
              omega
            have HT2 : Hid (t ++ x.extract pos (pos + 1) = ⟨(bareL (x.data.toList.take (pos + 1))).toArray⟩) := Lib.hid (by rw [HST.out, if_neg hc, HTT.out]; exact one_cut x pos hlp _)
            have hle : (x.extract pos (pos + 1)).size = 1 := by rw [ByteArray.size_extract]; omega
            have hlb : ¬ (9223372036854775807 : Nat) < t.size + 1 := by omega
            have HSZ : Hid ((t ++ x.extract pos (pos + 1)).size ≤ pos + 1) := Lib.hid (by rw [ByteArray.size_append, hle]; omega)
            clear HST hc
            go_wp2
            go_roundw
            case rel => exact ⟨pos + 1, t ++ x.extract pos (pos + 1), by omega, HSZ.out, rfl, HT2, HIT1, HB1⟩
            case measure => rw [iterPos_of HIT1.out, HPM.out]; omega
        · have hnx : ∀ ty, (Instr.next (.pointer (some ⟨K0, 0, none⟩)) true ty).run Tryd.prog wr = .ok (.tuple #[.bool false]) wr := fun ty => Lib.run_next_end_at wr K0 x pos ty HIT.out hlp
          have HTE : Hid (exW x = t) := Lib.hid (by
            rw [HBW.out, HTT.out]
            have hpe : pos = x.data.toList.length := by rw [len_list]; omega
            rw [hpe, List.take_length]; rfl)
          have ht40 : t.size ≤ 40 := by omega
          have HXr := Lib.hid (HX10.out.trans (HBr.out.mono (by have := HK0.out; omega)))
          have hke : x10.heap.size ≤ K0 := by have := HK0.out; omega
          have HNr := Lib.hid (HN10.out.below HBr.out hke); have HMr := Lib.hid (HM10.out.below HBr.out hke)
          have hhs := HHS.out
          rw [HTE.out] at hhs
          clear HTE HTT HBW HHS hke
          go_wp2_with fail
          refine (HNW.out wr HNr.out HLE7.out (HL.out.below HXr.out)).mono ?_
          rintro e y1 ⟨v, rfl, hb, ho⟩
          obtain ⟨W3, c3, rfl⟩ := own_shape ho
          have HY1 := Lib.hid (HXr.out.trans (hb.mono HXr.out.size))
          have HN1 := Lib.hid (HNr.out.below hb (Nat.le_refl _)); have HM1 := Lib.hid (HMr.out.below hb (Nat.le_refl _)); have HA1 := Lib.hid (own_in_s ho)
          clear hb ho hnx HIT HBr HNr HMr HNW
          go_wp2_with fail
          refine (implHyphenText_any [] none 0 NX N1 n1 t y1 (noStrs _) noLe (by simp) HN1.out HLE7.out (by omega) (by omega) (HL.out.below HY1.out)).mono ?_
          rintro e y2 ⟨rfl, hb⟩
          have HY2 := Lib.hid (HY1.out.trans (hb.mono HY1.out.size))
          have HM2 := Lib.hid (HM1.out.below hb (Nat.le_refl _)); have HA2 := Lib.hid (HA1.out.below hb (Nat.le_refl _))
          clear hb HY1 HN1 HM1 HA1
          go_wp2_with fail
          refine (specHyphenText_any [] none 0 NX N2 n2 t y2 (noStrs _) noLe (by simp) HM2.out HLE7.out (by omega) (by omega)).mono ?_
          rintro e y3 ⟨rfl, hb⟩
          have HY3 := Lib.hid (HY2.out.trans (hb.mono HY2.out.size))
          have HA3 := Lib.hid (HA2.out.below hb (Nat.le_refl _))
          have HSS := Lib.hid hhs
          clear hb HY2 HM2 HA2 hhs
          generalize hyT [] NX t = TT at *
          generalize askB [] NX t = AB at *
          go_wp2
          go_loop [34, 221] (fun v i => ∃ k : Nat, k ≤ AL.length ∧ i = .int .i64 (k : Int) ∧ v = .bool (hasS (AL.take k) t)) (fun _ i => AL.length - (intOf i).toNat)
          case atStart => exact ⟨0, Nat.zero_le _, rfl, rfl⟩
          case round =>
            obtain ⟨k, hk, rfl, rfl⟩ := hrel
            by_cases hlt : k < AL.length
            · obtain ⟨b9, o9, hA9, hbl9, hc9⟩ := HA3.out (by omega)
              subst hA9
              have hck := hc9 k hlt
              have HN := Lib.hid (hasS_step (s := t) hlt)
              clear hc9
              cases hh : hasS (AL.take k) t
              · by_cases he : AL[k] = t
                · have ht := str_eq he
                  have HN2 : Hid (hasS (AL.take (k + 1)) t = true) := Lib.hid (by rw [HN.out, hh, decide_eq_true he]; rfl)
                  clear HN hh he
                  generalize AL[k] = ak at *
                  go_wp2
                  go_round
                  case rel => exact ⟨k + 1, by omega, by go_num, by rw [HN2.out]⟩
                  case measure => simp [intOf]; omega
                · have ht := str_neb he
                  have HN2 : Hid (hasS (AL.take (k + 1)) t = false) := Lib.hid (by rw [HN.out, hh, decide_eq_false he]; rfl)
                  clear HN hh he
                  generalize AL[k] = ak at *
                  go_wp2
                  go_round
                  case rel => exact ⟨k + 1, by omega, by go_num, by rw [HN2.out]⟩
                  case measure => simp [intOf]; omega
              · have HN2 : Hid (hasS (AL.take (k + 1)) t = true) := Lib.hid (by rw [HN.out, hh]; rfl)
                clear HN hh
                generalize AL[k] = ak at *
                go_wp2
                go_round
                case rel => exact ⟨k + 1, by omega, by go_num, by rw [HN2.out]⟩
                case measure => simp [intOf]; omega
            · obtain rfl : k = AL.length := by omega
              have e0 : hasS (AL.take AL.length) t = true := by rw [List.take_length]; exact HSS.out
              rw [e0]
              go_wp2
              go_ret
              exact ⟨rfl, HY3.out⟩
  · have hlv := vl_len hv
    have hln : (((vlL ps wd).length : Int) != (wd.size : Int) - 1) = false := by simp; omega
    have HBD := Lib.hid (vl_bd hv)
    have HOB := Lib.hid (fun (i : Nat) (hi : i < (vlL ps wd).length) h1 h2 => odd_break hv hi h1 h2)
    have HAV := Lib.hid (ask_vl hv)
    have HHP := Lib.hid (fun (W : World) h1 h3 => implHyphenPlaces_any ps B d [] none 0 wd W h1 HPL.out (by omega) (noStrs _) noLe (by simp) (by omega) h3)
    rw [HAV.out] at HHP
    have hqs := hp_short ps [] wd
    clear hv hlv HAV
    generalize vlL ps wd = V at *
    generalize hpL ps [] wd = Q at *
    go_wp2_with fail
    refine (HQI.out w3 HI3.out HJ3.out).mono ?_
    rintro e w4 ⟨rfl, hb⟩
    have HB4 := Lib.hid (HB3.out.trans (hb.mono HB3.out.size))
    have HP4 := Lib.hid (HP3.out.below hb (Nat.le_refl _)); have HJ4 := Lib.hid (HJ3.out.below hb (Nat.le_refl _))
    clear hb HB3 HP3 HI3 HJ3 HQI HX HPL
    go_wp2_with fail
    refine (HHP.out w4 HP4.out (HL.out.below HB4.out)).mono ?_
    rintro e w5 ⟨v, rfl, hb, ho⟩
    obtain ⟨I3, i3, rfl⟩ := ho.form
    have HB5 := Lib.hid (HB4.out.trans (hb.mono HB4.out.size))
    have HJ5 := Lib.hid (HJ4.out.below hb (Nat.le_refl _)); have HQ5 := Lib.hid ho.ints
    clear hb ho HB4 HP4 HJ4 HHP
    go_wp2
    go_loopw [88] (fun i wr => ∃ k : Nat, k ≤ V.length ∧ i = .int .i64 (k : Int) ∧ wr = w5) (fun i _ => V.length - (intOf i).toNat)
    case atStart => exact ⟨0, Nat.zero_le _, rfl, rfl⟩
    case round =>
      obtain ⟨k, hk, rfl, rfl⟩ := hrel
      by_cases hlt : k < V.length
      · obtain ⟨b9, o9, hA9, hbl9, hc9⟩ := HJ5.out (by omega)
        subst hA9
        have hck := hc9 k hlt
        have hxb := HBD.out V[k] (List.getElem_mem hlt)
        have HO := Lib.hid (HOB.out k hlt)
        clear hc9
        generalize V[k] = xv at *
        obtain ⟨hx0, hx9⟩ := hxb
        have hd0 : decide (xv < 0) = false := by simp; omega
        have hd9 : decide (9 < xv) = false := by simp; omega
        by_cases hk1 : 1 ≤ k
        · have hdk : decide ((1 : Int) ≤ (k : Int)) = true := by simp; omega
          by_cases hk2 : (k : Int) + 1 ≤ (wd.size : Int) - 2
          · have hd2 : decide ((k : Int) + 1 ≤ (wd.size : Int) - 2) = true := decide_eq_true hk2
            have HQH := Lib.hid (qHas_any Q I3 i3 ((k : Int) + 1) wr HQ5.out (by omega))
            rw [HO.out hk1 hk2] at HQH
            by_cases hod : xv % 2 = 1
            · have hoe : (xv % 2 == 1) = true := by simp [hod]
              rw [decide_eq_true hod] at HQH
              go_wp2_with fail
              refine HQH.out.mono ?_
              rintro e y2 ⟨rfl, rfl⟩
              go_wp2
              go_roundw
              case rel => exact ⟨k + 1, by omega, by go_num, (by first | trivial | rfl)⟩
              case measure => simp [intOf]; omega
            · have hoe : (xv % 2 == 1) = false := by simpa using hod
              rw [decide_eq_false hod] at HQH
              go_wp2_with fail
              refine HQH.out.mono ?_
              rintro e y2 ⟨rfl, rfl⟩
              go_wp2
              go_roundw
              case rel => exact ⟨k + 1, by omega, by go_num, (by first | trivial | rfl)⟩
              case measure => simp [intOf]; omega
          · have hd2 : decide ((k : Int) + 1 ≤ (wd.size : Int) - 2) = false := decide_eq_false hk2
            go_wp2
            go_roundw
            case rel => exact ⟨k + 1, by omega, by go_num, (by first | trivial | rfl)⟩
            case measure => simp [intOf]; omega
        · have hdk : decide ((1 : Int) ≤ (k : Int)) = false := by simp; omega
          go_wp2
          go_roundw
          case rel => exact ⟨k + 1, by omega, by go_num, (by first | trivial | rfl)⟩
          case measure => simp [intOf]; omega
      · have hkl : ¬ (k : Int) < (V.length : Int) := by omega
        clear HBD HOB HJ5 HQ5
        go_wp2_with fail
        refine (drawNe_any Ay cy ys wr (HY.out.below HB5.out (Nat.le_refl _)) hys).mono ?_
        rintro e x1 ⟨es, C, f, x, rfl, hq⟩
        have HX1 := Lib.hid (HB5.out.trans (hq.bel.mono HB5.out.size))
        have HE1 := Lib.hid hq.own.strs
        have hel := hq.ll; have hx40 := hq.s40
        have HEL := Lib.hid hq.l40.le; have HE40 := Lib.hid hq.l40
        clear hq
        have hns := nx_short es x
        have hws := wx_short es
        go_wp2_with fail
        refine (implNewException_any es C f x x1 HE1.out HEL.out (by omega) (by omega) (HL.out.below HX1.out)).mono ?_
        rintro e x2 ⟨v, rfl, hb, ho⟩
        obtain ⟨N1, n1, rfl⟩ := own_shape ho
        have HX2 := Lib.hid (HX1.out.trans (hb.mono HX1.out.size))
        have HE2 := Lib.hid (HE1.out.below hb (Nat.le_refl _)); have HN2 := Lib.hid (own_in_s ho)
        clear hb ho HX1 HE1
        go_wp2_with fail
        refine (specNewException_any es C f x x2 HE2.out HEL.out (by omega) (by omega)).mono ?_
        rintro e x3 ⟨v, rfl, hb, ho⟩
        obtain ⟨N2, n2, rfl⟩ := own_shape ho
        have HX3 := Lib.hid (HX2.out.trans (hb.mono HX2.out.size))
        have HE3 := Lib.hid (HE2.out.below hb (Nat.le_refl _)); have HN3 := Lib.hid (HN2.out.below hb (Nat.le_refl _)); have HM3 := Lib.hid (own_in_s ho)
        clear hb ho HX2 HE2 HN2
        go_wp2_with fail
        refine (implWordsOf_any es C f x3 HE3.out HEL.out (by omega) (HL.out.below HX3.out)).mono ?_
        rintro e x4 ⟨v, rfl, hb, ho⟩
        obtain ⟨W1, c1, rfl⟩ := own_shape ho
        have HX4 := Lib.hid (HX3.out.trans (hb.mono HX3.out.size))
        have HE4 := Lib.hid (HE3.out.below hb (Nat.le_refl _)); have HN4 := Lib.hid (HN3.out.below hb (Nat.le_refl _)); have HM4 := Lib.hid (HM3.out.below hb (Nat.le_refl _)); have HW4 := Lib.hid (own_in_s ho)
        clear hb ho HX3 HE3 HN3 HM3
        go_wp2_with fail
        refine (specWordsOf_any es C f x4 HE4.out HEL.out (by omega)).mono ?_
        rintro e x5 ⟨v, rfl, hb, ho⟩
        obtain ⟨W2, c2, rfl⟩ := own_shape ho
        have HX5 := Lib.hid (HX4.out.trans (hb.mono HX4.out.size))
        have HN5 := Lib.hid (HN4.out.below hb (Nat.le_refl _)); have HM5 := Lib.hid (HM4.out.below hb (Nat.le_refl _)); have HW5 := Lib.hid (HW4.out.below hb (Nat.le_refl _)); have HV5 := Lib.hid (own_in_s ho)
        clear hb ho HX4 HE4 HN4 HM4 HW4
        go_wp2_with fail
        refine (drawIp_any Ay cy ys x5 (HY.out.below HX5.out (Nat.le_refl _)) hys).mono ?_
        rintro e x6 ⟨⟨s, hs20, rfl⟩, hb⟩
        have HX6 := Lib.hid (HX5.out.trans (hb.mono HX5.out.size))
        have HN6 := Lib.hid (HN5.out.below hb (Nat.le_refl _)); have HM6 := Lib.hid (HM5.out.below hb (Nat.le_refl _)); have HW6 := Lib.hid (HW5.out.below hb (Nat.le_refl _)); have HV6 := Lib.hid (HV5.out.below hb (Nat.le_refl _))
        clear hb HX5 HN5 HM5 HW5 HV5
        have HTL := Lib.hid (fun h => nx_told (es := es) (e := x) h)
        have HQN := Lib.hid (fun W h1 h2 => qTexts_same (nxL es x) N1 N2 n1 n2 W h1 h2 (by omega))
        have HQW := Lib.hid (fun W h1 h2 => qTexts_same (wxL es) W1 W2 c1 c2 W h1 h2 (by omega))
        have HNW := Lib.hid (fun (W : World) h1 h2 h3 => implWordsOf_any (nxL es x) N1 n1 W h1 h2 (by omega) h3)
        have HXY := Lib.hid (fun (h : exsB (nxL es x) = true) => wx_yes h)
        have hwn := wx_short (nxL es x)
        have HLE := Lib.hid (fun h => nx_le40 (es := es) (x := x) HE40.out hx40 h)
        cases hnb : nxB es x
        · clear hnb HTL HXY HNW HLE
          generalize nxL es x = NX at *
          generalize wxL es = WX at *
          generalize exsB es = EB at *
          go_wp2_with fail
          refine (HQN.out x6 HN6.out HM6.out).mono ?_
          rintro e x7 ⟨rfl, hb⟩
          have HX8 := Lib.hid (HX6.out.trans (hb.mono HX6.out.size))
          have HW7 := Lib.hid (HW6.out.below hb (Nat.le_refl _)); have HV7 := Lib.hid (HV6.out.below hb (Nat.le_refl _))
          have HN7 := Lib.hid (HN6.out.below hb (Nat.le_refl _)); have HM7 := Lib.hid (HM6.out.below hb (Nat.le_refl _))
          clear hb HX6 HN6 HM6 HW6 HV6
          go_wp2_with fail
          refine (HQW.out x7 HW7.out HV7.out).mono ?_
          rintro e x8 ⟨rfl, hb⟩
          have HX9 := Lib.hid (HX8.out.trans (hb.mono HX8.out.size))
          have HN8 := Lib.hid (HN7.out.below hb (Nat.le_refl _)); have HM8 := Lib.hid (HM7.out.below hb (Nat.le_refl _))
          clear hb HX8 HN7 HM7 HW7 HV7
          go_wp2_with fail
          refine (implIsPattern_any s x8 (by omega)).mono ?_
          rintro e x9 ⟨rfl, hb⟩
          have HXa := Lib.hid (HX9.out.trans (hb.mono HX9.out.size))
          have HN9 := Lib.hid (HN8.out.below hb (Nat.le_refl _)); have HM9 := Lib.hid (HM8.out.below hb (Nat.le_refl _))
          clear hb HX9 HN8 HM8
          go_wp2_with fail
          refine (specIsPattern_any s x9 (by omega)).mono ?_
          rintro e x10 ⟨rfl, hb⟩
          have HX10 := Lib.hid (HXa.out.trans (hb.mono HXa.out.size))
          have HN10 := Lib.hid (HN9.out.below hb (Nat.le_refl _)); have HM10 := Lib.hid (HM9.out.below hb (Nat.le_refl _))
          clear hb HXa HN9 HM9 HQN HQW
          generalize ptB s = ip at *
          go_wp2
          go_ret
          exact ⟨rfl, HX10.out⟩
        · have HT := Lib.hid (HTL.out hnb)
          have HX7 := Lib.hid (HXY.out HT.out.2.2.1)
          have HLE7 := Lib.hid (HLE.out HT.out.2.2.2.2.2.2)
          rw [HT.out.2.2.1] at HNW
          have heb : exsB es = true := HT.out.1
          rw [heb]
          clear hnb HTL HXY heb HLE
          rw [HX7.out] at HNW hwn
          clear HX7
          have hg1 : ¬ ((es.length : Int) + 1 < ((nxL es x).length : Int)) := by have := HT.out.2.2.2.2.1; omega
          have hg2 : ¬ (((nxL es x).length : Int) < (es.length : Int)) := by have := HT.out.2.2.2.2.2.1; omega
          have HXB := Lib.hid HT.out.2.1
          have HBW := Lib.hid (ex_word HT.out.2.1).2.2.2.1
          have HHS := Lib.hid HT.out.2.2.2.1
          clear HT
          generalize nxL es x = NX at *
          generalize wxL es = WX at *
          generalize NX.map exW = AL at *
          go_wp2_with fail
          refine (HQN.out x6 HN6.out HM6.out).mono ?_
          rintro e x7 ⟨rfl, hb⟩
          have HX8 := Lib.hid (HX6.out.trans (hb.mono HX6.out.size))
          have HW7 := Lib.hid (HW6.out.below hb (Nat.le_refl _)); have HV7 := Lib.hid (HV6.out.below hb (Nat.le_refl _))
          have HN7 := Lib.hid (HN6.out.below hb (Nat.le_refl _)); have HM7 := Lib.hid (HM6.out.below hb (Nat.le_refl _))
          clear hb HX6 HN6 HM6 HW6 HV6
          go_wp2_with fail
          refine (HQW.out x7 HW7.out HV7.out).mono ?_
          rintro e x8 ⟨rfl, hb⟩
          have HX9 := Lib.hid (HX8.out.trans (hb.mono HX8.out.size))
          have HN8 := Lib.hid (HN7.out.below hb (Nat.le_refl _)); have HM8 := Lib.hid (HM7.out.below hb (Nat.le_refl _))
          clear hb HX8 HN7 HM7 HW7 HV7
          go_wp2_with fail
          refine (implIsPattern_any s x8 (by omega)).mono ?_
          rintro e x9 ⟨rfl, hb⟩
          have HXa := Lib.hid (HX9.out.trans (hb.mono HX9.out.size))
          have HN9 := Lib.hid (HN8.out.below hb (Nat.le_refl _)); have HM9 := Lib.hid (HM8.out.below hb (Nat.le_refl _))
          clear hb HX9 HN8 HM8
          go_wp2_with fail
          refine (specIsPattern_any s x9 (by omega)).mono ?_
          rintro e x10 ⟨rfl, hb⟩
          have HX10 := Lib.hid (HXa.out.trans (hb.mono HXa.out.size))
          have HN10 := Lib.hid (HN9.out.below hb (Nat.le_refl _)); have HM10 := Lib.hid (HM9.out.below hb (Nat.le_refl _))
          clear hb HXa HN9 HM9 HQN HQW
          generalize ptB s = ip at *
          go_wp2
          have HIT0 : Hid ((x10.iter x 0).heap[x10.heap.size]? = some (.stringIter x 0)) := Lib.hid (World.iter_heap _ _ _)
          have HBI : Hid (Below x10.heap.size x10 (x10.iter x 0)) := Lib.hid ((Below.refl _ _).alloc (Nat.le_refl _) _)
          have hws0 := HX10.out.size
          generalize hK : x10.heap.size = K0 at *
          have HK0 : Hid (K0 = x10.heap.size) := Lib.hid hK.symm
          clear hK
          go_loopw [26] (fun v wi => ∃ (pos : Nat) (t : ByteArray), pos ≤ x.size ∧ t.size ≤ pos ∧ v = .string t ∧ Hid (t = ⟨(bareL (x.data.toList.take pos)).toArray⟩) ∧ Hid (wi.heap[K0]? = some (.stringIter x pos)) ∧ Hid (Below K0 x10 wi)) (fun _ wi => x.size - wi.iterPos K0)
          case atStart => exact ⟨0, .empty, Nat.zero_le _, Nat.le_refl _, rfl, Lib.hid rfl, HIT0, HBI⟩
          case round =>
            clear HIT0 HBI
            obtain ⟨pos, t, hpl2, htp, rfl, HTT, HIT, HBr⟩ := hrel
            by_cases hlp : pos < x.size
            · have hasc := ex_128 HXB.out hlp
              have hnx : ∀ ty, (Instr.next (.pointer (some ⟨K0, 0, none⟩)) true ty).run Tryd.prog wr = .ok (.tuple #[.bool true, .int .i64 pos, .int .i32 (x[pos].toNat : Int)]) (wr.iterAt K0 x (pos + 1)) := fun ty => by
                rw [Lib.run_next_ascii_at wr K0 x pos ty HIT.out hlp hasc]
              have HIT1 := Lib.hid (Lib.iterAt_heap wr K0 x pos (pos + 1) HIT.out)
              have HB1 : Hid (Below K0 x10 (wr.iterAt K0 x (pos + 1))) := Lib.hid (by
                have h := HBr.out
                rw [HK0.out] at h ⊢
                exact below_iter h (Nat.le_refl _) x (pos + 1))
              have HPM : Hid (wr.iterPos K0 = pos) := Lib.hid (iterPos_of HIT.out)
              have HST := Lib.hid (bare_step x pos hlp)
              generalize wr.iterAt K0 x (pos + 1) = U1 at *
              clear HIT HBr hasc
              have hp0 : (0 : Int) ≤ (pos : Int) := by omega
              have hp1 : (pos : Int) + 1 ≤ (x.size : Int) := by omega
              by_cases hc : x[pos] = 45
              · have hne : ((x[pos].toNat : Int) != 45) = false := by rw [hc]; rfl
                have HT2 : Hid (t = ⟨(bareL (x.data.toList.take (pos + 1))).toArray⟩) := Lib.hid (by rw [HST.out, if_pos hc, HTT.out])
                clear HST hc
                go_wp2
                go_roundw
                case rel => exact ⟨pos + 1, t, by omega, by omega, rfl, HT2, HIT1, HB1⟩
                case measure => rw [iterPos_of HIT1.out, HPM.out]; omega
              · have hne : ((x[pos].toNat : Int) != 45) = true := by
                  rw [bne_iff_ne]
                  intro h
                  refine hc (UInt8.toNat_inj.1 ?_)
                  show x[pos].toNat = 45
                  omega
                have HT2 : Hid (t ++ x.extract pos (pos + 1) = ⟨(bareL (x.data.toList.take (pos + 1))).toArray⟩) := Lib.hid (by rw [HST.out, if_neg hc, HTT.out]; exact one_cut x pos hlp _)
                have hle : (x.extract pos (pos + 1)).size = 1 := by rw [ByteArray.size_extract]; omega
                have hlb : ¬ (9223372036854775807 : Nat) < t.size + 1 := by omega
                have HSZ : Hid ((t ++ x.extract pos (pos + 1)).size ≤ pos + 1) := Lib.hid (by rw [ByteArray.size_append, hle]; omega)
                clear HST hc
                go_wp2
                go_roundw
                case rel => exact ⟨pos + 1, t ++ x.extract pos (pos + 1), by omega, HSZ.out, rfl, HT2, HIT1, HB1⟩
                case measure => rw [iterPos_of HIT1.out, HPM.out]; omega
            · have hnx : ∀ ty, (Instr.next (.pointer (some ⟨K0, 0, none⟩)) true ty).run Tryd.prog wr = .ok (.tuple #[.bool false]) wr := fun ty => Lib.run_next_end_at wr K0 x pos ty HIT.out hlp
              have HTE : Hid (exW x = t) := Lib.hid (by
                rw [HBW.out, HTT.out]
                have hpe : pos = x.data.toList.length := by rw [len_list]; omega
                rw [hpe, List.take_length]; rfl)
              have ht40 : t.size ≤ 40 := by omega
              have HXr := Lib.hid (HX10.out.trans (HBr.out.mono (by have := HK0.out; omega)))
              have hke : x10.heap.size ≤ K0 := by have := HK0.out; omega
              have HNr := Lib.hid (HN10.out.below HBr.out hke); have HMr := Lib.hid (HM10.out.below HBr.out hke)
              have hhs := HHS.out
              rw [HTE.out] at hhs
              clear HTE HTT HBW HHS hke
              go_wp2_with fail
              refine (HNW.out wr HNr.out HLE7.out (HL.out.below HXr.out)).mono ?_
              rintro e y1 ⟨v, rfl, hb, ho⟩
              obtain ⟨W3, c3, rfl⟩ := own_shape ho
              have HY1 := Lib.hid (HXr.out.trans (hb.mono HXr.out.size))
              have HN1 := Lib.hid (HNr.out.below hb (Nat.le_refl _)); have HM1 := Lib.hid (HMr.out.below hb (Nat.le_refl _)); have HA1 := Lib.hid (own_in_s ho)
              clear hb ho hnx HIT HBr HNr HMr HNW
              go_wp2_with fail
              refine (implHyphenText_any [] none 0 NX N1 n1 t y1 (noStrs _) noLe (by simp) HN1.out HLE7.out (by omega) (by omega) (HL.out.below HY1.out)).mono ?_
              rintro e y2 ⟨rfl, hb⟩
              have HY2 := Lib.hid (HY1.out.trans (hb.mono HY1.out.size))
              have HM2 := Lib.hid (HM1.out.below hb (Nat.le_refl _)); have HA2 := Lib.hid (HA1.out.below hb (Nat.le_refl _))
              clear hb HY1 HN1 HM1 HA1
              go_wp2_with fail
              refine (specHyphenText_any [] none 0 NX N2 n2 t y2 (noStrs _) noLe (by simp) HM2.out HLE7.out (by omega) (by omega)).mono ?_
              rintro e y3 ⟨rfl, hb⟩
              have HY3 := Lib.hid (HY2.out.trans (hb.mono HY2.out.size))
              have HA3 := Lib.hid (HA2.out.below hb (Nat.le_refl _))
              have HSS := Lib.hid hhs
              clear hb HY2 HM2 HA2 hhs
              generalize hyT [] NX t = TT at *
              generalize askB [] NX t = AB at *
              go_wp2
              go_loop [34, 221] (fun v i => ∃ k : Nat, k ≤ AL.length ∧ i = .int .i64 (k : Int) ∧ v = .bool (hasS (AL.take k) t)) (fun _ i => AL.length - (intOf i).toNat)
              case atStart => exact ⟨0, Nat.zero_le _, rfl, rfl⟩
              case round =>
                obtain ⟨k, hk, rfl, rfl⟩ := hrel
                by_cases hlt : k < AL.length
                · obtain ⟨b9, o9, hA9, hbl9, hc9⟩ := HA3.out (by omega)
                  subst hA9
                  have hck := hc9 k hlt
                  have HN := Lib.hid (hasS_step (s := t) hlt)
                  clear hc9
                  cases hh : hasS (AL.take k) t
                  · by_cases he : AL[k] = t
                    · have ht := str_eq he
                      have HN2 : Hid (hasS (AL.take (k + 1)) t = true) := Lib.hid (by rw [HN.out, hh, decide_eq_true he]; rfl)
                      clear HN hh he
                      generalize AL[k] = ak at *
                      go_wp2
                      go_round
                      case rel => exact ⟨k + 1, by omega, by go_num, by rw [HN2.out]⟩
                      case measure => simp [intOf]; omega
                    · have ht := str_neb he
                      have HN2 : Hid (hasS (AL.take (k + 1)) t = false) := Lib.hid (by rw [HN.out, hh, decide_eq_false he]; rfl)
                      clear HN hh he
                      generalize AL[k] = ak at *
                      go_wp2
                      go_round
                      case rel => exact ⟨k + 1, by omega, by go_num, by rw [HN2.out]⟩
                      case measure => simp [intOf]; omega
                  · have HN2 : Hid (hasS (AL.take (k + 1)) t = true) := Lib.hid (by rw [HN.out, hh]; rfl)
                    clear HN hh
                    generalize AL[k] = ak at *
                    go_wp2
                    go_round
                    case rel => exact ⟨k + 1, by omega, by go_num, by rw [HN2.out]⟩
                    case measure => simp [intOf]; omega
                · obtain rfl : k = AL.length := by omega
                  have e0 : hasS (AL.take AL.length) t = true := by rw [List.take_length]; exact HSS.out
                  rw [e0]
                  go_wp2
                  go_ret
                  exact ⟨rfl, HY3.out⟩
end Go.Proofs.YtcbhhbcfnaekpaaDoor

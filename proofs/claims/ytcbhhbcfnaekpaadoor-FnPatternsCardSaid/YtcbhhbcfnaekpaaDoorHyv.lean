/-
  Breaks asked for at a place: the contracts of spec.l1Has, spec.MayBreakAt, impl.MayBreakAt. Parts of a word, told plainly; the contracts of spec.hyParts, spec.PartsOfWord, impl.PartsOfWord.
-/
import Derived.Test.YtcbhhbcfnaekpaaDoorHyu
namespace Go.Proofs.YtcbhhbcfnaekpaaDoor
open Go.RowKit
set_option linter.unusedVariables false

def hasI (l : List Int) (x : Int) : Bool := l.any fun y => decide (y = x)
theorem hasI_step {l : List Int} {k : Nat} {x : Int} (h : k < l.length) : hasI (l.take (k + 1)) x = (hasI (l.take k) x || decide (l[k] = x)) := by
  unfold hasI; rw [List.take_succ_eq_append_getElem h, List.any_append]; simp
theorem hasI_found {l : List Int} {k : Nat} {x : Int} (h : k < l.length) (e : l[k] = x) : hasI l x = true := by
  unfold hasI; rw [List.any_eq_true]; exact ⟨l[k], List.getElem_mem h, by simp [e]⟩
theorem hasI_mem {l : List Int} {x : Int} : hasI l x = true ↔ x ∈ l := by
  unfold hasI
  rw [List.any_eq_true]
  constructor
  · rintro ⟨y, h1, h2⟩; simp at h2; subst h2; exact h1
  · intro h; exact ⟨x, h, by simp⟩
set_option maxRecDepth 100000 in
theorem l1Has_any (l : List Int) (A : Option Addr) (c : Nat) (x : Int) (w : World) (hf : IntsIn w A l) (hn : l.length ≤ 1048576) :
    Calls Tryd.prog 62 #[.slice A l.length c, .int .i64 x] w fun e w' => e = .returned (.bool (hasI l x)) ∧ w' = w := by
  have HF := Lib.hid hf; clear hf
  go_enter Tryd.func62, Tryd.ntmps62
  go_wp2
  go_loop [9] (fun i => ∃ k : Nat, k ≤ l.length ∧ i = .int .i64 k ∧ hasI (l.take k) x = false) (fun i => l.length - (intOf i).toNat)
  case atStart => exact ⟨0, Nat.zero_le _, rfl, rfl⟩
  case round =>
    obtain ⟨k, hk, rfl, hs⟩ := hrel
    have HS := Lib.hid hs; clear hs
    by_cases hlt : k < l.length
    · obtain ⟨b, off, rfl, hbl, hc⟩ := HF.out (by omega)
      have hc0 := hc k hlt
      clear hc
      have HST := Lib.hid (hasI_step (x := x) hlt)
      by_cases he : l[k] = x
      · have ht : (l[k] == x) = true := by simp [he]
        have HE := Lib.hid (hasI_found hlt he)
        clear he
        generalize l[k] = y at *
        go_wp2
        go_ret
        exact ⟨ret_bool HE.out.symm, rfl⟩
      · have ht : (l[k] == x) = false := by simp [he]
        have HE := Lib.hid he; clear he
        generalize l[k] = y at *
        go_wp2
        go_round
        case rel => exact ⟨k + 1, by omega, by go_num, by rw [HST.out, HS.out, decide_eq_false HE.out]; rfl⟩
        case measure => simp [intOf]; omega
    · obtain rfl : k = l.length := by omega
      have HE : Hid (hasI l x = false) := Lib.hid (by have := HS.out; rw [List.take_length] at this; exact this)
      go_wp2
      go_ret
      exact ⟨ret_bool HE.out.symm, rfl⟩
theorem contains_is (l : List Int) (A : Option Addr) (c : Nat) (x : Int) (w : World) (hf : IntsIn w A l) (hn : l.length ≤ 1048576) :
    Calls Tryd.prog 58 #[.slice A l.length c, .int .i64 x] w fun e w' => e = .returned (.bool (hasI l x)) ∧ w' = w := by
  rcases Nat.eq_zero_or_pos l.length with h0 | h0
  · have e : l = [] := List.eq_nil_of_length_eq_zero h0
    subst e
    exact Tryd.slices_Contains_int_empty A c x w
  · obtain ⟨b, off, rfl, hbl, hc⟩ := hf h0
    refine (Tryd.slices_Contains_int b off l.length c l x w (Nat.le_refl _) (by omega) (fun j hj => by rw [hc j hj, getI hj])).mono ?_
    rintro e w' ⟨rfl, rfl⟩
    refine ⟨?_, rfl⟩
    rw [List.take_length]
    refine ret_bool ?_
    rw [Bool.eq_iff_iff, hasI_mem]
    simp
theorem ret_bb {a b c d : Bool} (h1 : a = c) (h2 : b = d) : Ending.returned (.tuple #[.bool a, .bool b]) = .returned (.tuple #[.bool c, .bool d]) := by rw [h1, h2]
def mbB (ps es : List ByteArray) (wd : ByteArray) (x : Int) : Bool := hasI (hpL ps es wd) x
set_option maxRecDepth 100000 in
set_option maxHeartbeats 1000000 in
theorem specMayBreakAt_any (ps : List ByteArray) (A : Option Addr) (c : Nat) (es : List ByteArray) (B : Option Addr) (d : Nat) (wd : ByteArray) (x : Int) (w : World) (hf : StrsIn w A ps) (ho : StrsLe ps) (hn : ps.length ≤ 1048576) (hf' : StrsIn w B es) (ho' : StrsLe es) (hn' : es.length ≤ 1048576) (hw : wd.size ≤ 1048576) :
    Calls Tryd.prog 28 #[.slice A ps.length c, .slice B es.length d, .string wd, .int .i64 x] w fun e w' => e = .returned (.tuple #[.bool (mbB ps es wd x), .bool (askB ps es wd)]) ∧ Below w.heap.size w w' := by
  have HF := Lib.hid hf; have HF' := Lib.hid hf'; have HO := Lib.hid ho; have HO' := Lib.hid ho'
  clear hf hf' ho ho'
  cases ha : askB ps es wd
  · have HA := Lib.hid (hyAsked_is ps A c es B d wd false w HF.out HO.out hn HF'.out HO'.out hn' hw (Lib.hid ha))
    have HV : Hid (mbB ps es wd x = false) := Lib.hid (by unfold mbB; rw [hp_no ha]; rfl)
    clear ha
    go_enter Tryd.func28, Tryd.ntmps28
    go_wp2_with fail
    refine HA.out.mono ?_
    rintro e w1 ⟨rfl, hb1⟩
    go_wp2
    go_ret2
    exact ⟨ret_bb HV.out.symm rfl, hb1⟩
  · have HA := Lib.hid (hyAsked_is ps A c es B d wd true w HF.out HO.out hn HF'.out HO'.out hn' hw (Lib.hid ha))
    have HV : Hid (mbB ps es wd x = hasI (hyPl ps es wd) x) := Lib.hid (by unfold mbB; rw [hp_yes ha])
    have hsh := hp_short ps es wd
    rw [hp_yes ha] at hsh
    have HP := Lib.hid (patsB_all (ask_all ha).1).1
    obtain ⟨h1, h16⟩ := isWord_len (ask_all ha).2.2
    clear ha
    go_enter Tryd.func28, Tryd.ntmps28
    go_wp2_with fail
    refine HA.out.mono ?_
    rintro e w1 ⟨rfl, hb1⟩
    have HB1 := Lib.hid hb1
    clear hb1
    go_wp2_with fail
    refine (hyPlaces_any ps A c es B d wd _ (HF.out.below HB1.out (Nat.le_refl _)) HO.out hn (HF'.out.below HB1.out (Nat.le_refl _)) HO'.out hn' HP.out h1 h16).mono ?_
    rintro e w2 ⟨v, rfl, hb2, ho2⟩
    obtain ⟨A2, c2, rfl⟩ := own_form ho2
    have HB2 := Lib.hid (HB1.out.trans (hb2.mono HB1.out.size))
    have HI2 := Lib.hid (own_in ho2)
    clear hb2 ho2
    generalize hyPl ps es wd = P at *
    go_wp2_with fail
    refine (l1Has_any P A2 c2 x w2 HI2.out (by omega)).mono ?_
    rintro e w3 ⟨rfl, rfl⟩
    go_wp2
    go_ret2
    exact ⟨ret_bb HV.out.symm rfl, HB2.out⟩
set_option maxRecDepth 100000 in
set_option maxHeartbeats 1000000 in
theorem implMayBreakAt_any (ps : List ByteArray) (A : Option Addr) (c : Nat) (es : List ByteArray) (B : Option Addr) (d : Nat) (wd : ByteArray) (x : Int) (w : World) (hf : StrsIn w A ps) (ho : StrsLe ps) (hn : ps.length ≤ 1048576) (hf' : StrsIn w B es) (ho' : StrsLe es) (hn' : es.length ≤ 1048576) (hw : wd.size ≤ 1048576) (hy : LayB w) :
    Calls Tryd.prog 22 #[.slice A ps.length c, .slice B es.length d, .string wd, .int .i64 x] w fun e w' => e = .returned (.tuple #[.bool (mbB ps es wd x), .bool (askB ps es wd)]) ∧ Below w.heap.size w w' := by
  have HV : Hid (mbB ps es wd x = hasI (hpL ps es wd) x) := Lib.hid rfl
  have hsh := hp_short ps es wd
  have HC := Lib.hid (implHyphenPlaces_own ps A c es B d wd w hf ho hn hf' ho' hn' hw hy)
  clear hf ho hf' ho' hy
  go_enter Tryd.func22, Tryd.ntmps22
  go_wp2_with fail
  refine HC.out.mono ?_
  rintro e w1 ⟨v, rfl, hb1, ho1⟩
  obtain ⟨A2, c2, rfl⟩ := own_form ho1
  have HB1 := Lib.hid hb1
  have HI1 := Lib.hid (own_in ho1)
  clear hb1 ho1
  generalize hpL ps es wd = P at *
  go_wp2_with fail
  refine (contains_is P A2 c2 x w1 HI1.out (by omega)).mono ?_
  rintro e w2 ⟨rfl, rfl⟩
  go_wp2
  go_ret2
  exact ⟨ret_bb HV.out.symm rfl, HB1.out⟩
def cutF (wd : ByteArray) : Nat → List Int → List ByteArray
  | _, [] => []
  | f, x :: r => wd.extract f x.toNat :: cutF wd x.toNat r
def lastF : Nat → List Int → Nat
  | f, [] => f
  | _, x :: r => lastF x.toNat r
theorem cutF_snoc (wd : ByteArray) : ∀ (l : List Int) (f : Nat) (x : Int), cutF wd f (l ++ [x]) = cutF wd f l ++ [wd.extract (lastF f l) x.toNat]
  | [], _, _ => rfl
  | y :: r, f, x => by simp only [List.cons_append, cutF, lastF, cutF_snoc wd r y.toNat x]
theorem lastF_snoc : ∀ (l : List Int) (f : Nat) (x : Int), lastF f (l ++ [x]) = x.toNat
  | [], _, _ => rfl
  | y :: r, f, x => by simp only [List.cons_append, lastF, lastF_snoc r y.toNat x]
theorem cutF_len (wd : ByteArray) : ∀ (l : List Int) (f : Nat), (cutF wd f l).length = l.length
  | [], _ => rfl
  | y :: r, f => by simp [cutF, cutF_len wd r y.toNat]
theorem lastF_le {P : List Int} (h : P.Pairwise (· ≤ ·)) {k : Nat} (hk : k < P.length) (h0 : 0 ≤ P[k]) : (lastF 0 (P.take k) : Int) ≤ P[k] := by
  cases k with
  | zero => simpa [lastF] using h0
  | succ j =>
    rw [List.take_succ_eq_append_getElem (by omega), lastF_snoc]
    have := (List.pairwise_iff_getElem.1 h) j (j + 1) (by omega) hk (by omega)
    omega
theorem lastF_max {P : List Int} {n : Nat} (h : ∀ x ∈ P, x ≤ n) : ∀ k, k ≤ P.length → lastF 0 (P.take k) ≤ n
  | 0, _ => by simp [lastF]
  | j + 1, hk => by
    rw [List.take_succ_eq_append_getElem (by omega), lastF_snoc]
    have := h P[j] (List.getElem_mem _)
    omega
/-- The parts of a word. -/
def ptL (ps es : List ByteArray) (wd : ByteArray) : List ByteArray := cutF wd 0 (hyPl ps es wd) ++ [wd.extract (lastF 0 (hyPl ps es wd)) wd.size]
theorem ptL_eq (ps es : List ByteArray) (wd : ByteArray) : ptL ps es wd = cutF wd 0 (hyPl ps es wd ++ [(wd.size : Int)]) := by
  unfold ptL; rw [cutF_snoc]; rfl
theorem ptL_len (ps es : List ByteArray) (wd : ByteArray) : (ptL ps es wd).length = (hyPl ps es wd).length + 1 := by unfold ptL; simp [cutF_len]
def pwL (ps es : List ByteArray) (wd : ByteArray) : List ByteArray := if askB ps es wd then ptL ps es wd else []
theorem pw_no {ps es : List ByteArray} {wd : ByteArray} (h : askB ps es wd = false) : pwL ps es wd = [] := by unfold pwL; rw [h]; rfl
theorem pw_yes {ps es : List ByteArray} {wd : ByteArray} (h : askB ps es wd = true) : pwL ps es wd = ptL ps es wd := by unfold pwL; rw [h]; rfl
theorem pw_short (ps es : List ByteArray) (wd : ByteArray) : (pwL ps es wd).length ≤ 17 := by
  cases h : askB ps es wd
  · rw [pw_no h]; simp
  · have := hp_short ps es wd
    rw [hp_yes h] at this
    rw [pw_yes h, ptL_len]; omega
set_option maxRecDepth 100000 in
set_option maxHeartbeats 2000000 in
theorem hyParts_any (ps : List ByteArray) (A : Option Addr) (c : Nat) (es : List ByteArray) (B : Option Addr) (d : Nat) (wd : ByteArray) (w : World) (hf : StrsIn w A ps) (ho : StrsLe ps) (hn : ps.length ≤ 1048576) (hf' : StrsIn w B es) (ho' : StrsLe es) (hn' : es.length ≤ 1048576) (ha : askB ps es wd = true) :
    Calls Tryd.prog 50 #[.slice A ps.length c, .slice B es.length d, .string wd] w fun e w' => ∃ v, e = .returned v ∧ Below w.heap.size w w' ∧ w'.ownsRow w.heap.size 9 1 v (ptL ps es wd).length (strs (ptL ps es wd)) := by
  obtain ⟨i0, hi, hz0, hz1, hz2⟩ := info_parts info9
  have HI0 := Lib.hid hi; have HZ0 := Lib.hid hz0; have HZ1 := Lib.hid hz1; have HZ2 := Lib.hid hz2
  clear hi hz0 hz1 hz2
  have hsh := hp_short ps es wd
  rw [hp_yes ha] at hsh
  obtain ⟨h1, h16⟩ := isWord_len (ask_all ha).2.2
  have HC := Lib.hid (hyPlaces_any ps A c es B d wd w hf ho hn hf' ho' hn' (patsB_all (ask_all ha).1).1 h1 h16)
  have HUP := Lib.hid (hyPl_up ps es wd)
  have HIN := Lib.hid (hyPl_in (ps := ps) (es := es) (wd := wd))
  have HPT : Hid (ptL ps es wd = cutF wd 0 (hyPl ps es wd) ++ [wd.extract (lastF 0 (hyPl ps es wd)) wd.size]) := Lib.hid rfl
  have HPL := Lib.hid (ptL_len ps es wd)
  clear hf ho hf' ho' ha
  go_enter Tryd.func50, Tryd.ntmps50
  go_wp2_with fail
  refine HC.out.mono ?_
  rintro e w1 ⟨v, rfl, hb1, ho1⟩
  obtain ⟨A2, c2, rfl⟩ := own_form ho1
  have HB1 := Lib.hid hb1
  have HI1 := Lib.hid (own_in ho1)
  clear hb1 ho1
  generalize hyPl ps es wd = P at *
  go_wp2
  go_loopw [7, 8, 16] (fun v f i wr => ∃ (k : Nat) (A3 : Option Addr) (c3 : Nat), k ≤ P.length ∧ i = .int .i64 k ∧ v = .slice A3 k c3 ∧ f = .int .i64 (lastF 0 (P.take k) : Nat) ∧ Hid (wr.ownsRow w1.heap.size 9 1 (.slice A3 k c3) k (strs (cutF wd 0 (P.take k)))) ∧ Hid (Below w1.heap.size w1 wr)) (fun _ _ i _ => P.length - (intOf i).toNat)
  case atStart => exact ⟨0, none, 0, Nat.zero_le _, rfl, rfl, rfl, Lib.hid (own_nil _ _ _ _), Lib.hid (Below.refl _ _)⟩
  case round =>
    obtain ⟨k, A3, c3, hk, rfl, rfl, rfl, HO, HB⟩ := hrel
    have hbs := HB.out.size
    have hlm := lastF_max (P := P) (n := wd.size) (fun x hx => by have := HIN.out x hx; omega) k hk
    by_cases hlt : k < P.length
    · obtain ⟨b9, o9, hA9, hbl9, hc9⟩ := HI1.out (by omega)
      subst hA9
      have hck := (HB.out.cell (p := ⟨b9, o9 + k, none⟩) hbl9).trans (hc9 k hlt)
      clear hc9
      have hin := HIN.out P[k] (List.getElem_mem hlt)
      have hle := lastF_le HUP.out hlt (by omega)
      have HSN : Hid (strs (cutF wd 0 (P.take (k + 1))) = strs (cutF wd 0 (P.take k)) ++ [.string (wd.extract (lastF 0 (P.take k)) P[k].toNat)]) := Lib.hid (by rw [List.take_succ_eq_append_getElem hlt, cutF_snoc, strs_snoc])
      have HLS : Hid (lastF 0 (P.take (k + 1)) = P[k].toNat) := Lib.hid (by rw [List.take_succ_eq_append_getElem hlt, lastF_snoc])
      obtain ⟨m, hm⟩ : ∃ m : Nat, P[k] = (m : Int) := ⟨P[k].toNat, by omega⟩
      rw [hm] at hck hin hle HSN HLS
      rw [Int.toNat_natCast] at HSN HLS
      generalize lastF 0 (P.take k) = f at *
      have hfm : f ≤ m := by omega
      have hms : m ≤ wd.size := by omega
      have hmx : k + 1 ≤ maxLen := by unfold maxLen; omega
      clear hm
      go_wp2_with (at_builtin; refine wpList_append_own _ rfl _ _ 23 rfl w1.heap.size 9 i0 (.string .empty) 1 16 Tryd.underlying23 HI0.out HZ0.out HZ1.out HZ2.out rfl (by decide) _ _ _ rfl (HO.out.alloc _) ⟨wr.heap.size, 0, none⟩ 1 1 [.string (wd.extract f m)] rfl rfl (cell_one_new _ _ _) (by simp [Value.oneCell']) hmx (by omega) (by simp; omega) ?_)
      intro v' w4 hown' hgrow _
      have hb4 : Below w1.heap.size w1 w4 := below_append HB.out hgrow HB.out.size (own_lt HO.out)
      rw [← HSN.out] at hown'
      obtain ⟨A4, c4, hv4⟩ := own_shape hown'
      subst hv4
      have HO4 := Lib.hid hown'; have HB4 := Lib.hid hb4
      clear hown' hgrow hb4
      go_wp2
      go_roundw
      case rel => exact ⟨k + 1, A4, c4, by omega, by go_num, rfl, by rw [HLS.out], HO4, HB4⟩
      case measure => simp [intOf]; omega
    · obtain rfl : k = P.length := by omega
      rw [List.take_length] at HO
      have e0 : P.take P.length = P := List.take_length
      rw [e0] at hlm ⊢
      have HSN : Hid (strs (ptL ps es wd) = strs (cutF wd 0 P) ++ [.string (wd.extract (lastF 0 P) wd.size)]) := Lib.hid (by rw [HPT.out, strs_snoc])
      have hmx : P.length + 1 ≤ maxLen := by unfold maxLen; omega
      clear e0
      generalize lastF 0 P = f at *
      go_wp2_with (at_builtin; refine wpList_append_own _ rfl _ _ 23 rfl w1.heap.size 9 i0 (.string .empty) 1 16 Tryd.underlying23 HI0.out HZ0.out HZ1.out HZ2.out rfl (by decide) _ _ _ rfl (HO.out.alloc _) ⟨wr.heap.size, 0, none⟩ 1 1 [.string (wd.extract f wd.size)] rfl rfl (cell_one_new _ _ _) (by simp [Value.oneCell']) hmx (by omega) (by simp; omega) ?_)
      intro v' w4 hown' hgrow _
      have hb4 : Below w1.heap.size w1 w4 := below_append HB.out hgrow HB.out.size (own_lt HO.out)
      rw [← HSN.out] at hown'
      have HO4 : Hid (w4.ownsRow w.heap.size 9 1 v' (ptL ps es wd).length (strs (ptL ps es wd))) := Lib.hid (by rw [HPL.out]; exact Joins.ownsRow_le hown' HB1.out.size)
      have HB4 := Lib.hid (HB1.out.trans (hb4.mono HB1.out.size))
      clear hown' hgrow hb4
      go_wp2
      go_ret
      exact ⟨_, rfl, HB4.out, HO4.out⟩
set_option maxRecDepth 100000 in
set_option maxHeartbeats 1000000 in
theorem specPartsOfWord_any (ps : List ByteArray) (A : Option Addr) (c : Nat) (es : List ByteArray) (B : Option Addr) (d : Nat) (wd : ByteArray) (w : World) (hf : StrsIn w A ps) (ho : StrsLe ps) (hn : ps.length ≤ 1048576) (hf' : StrsIn w B es) (ho' : StrsLe es) (hn' : es.length ≤ 1048576) (hw : wd.size ≤ 1048576) :
    Calls Tryd.prog 14 #[.slice A ps.length c, .slice B es.length d, .string wd] w fun e w' => ∃ v, e = .returned (.tuple #[v, .bool (askB ps es wd)]) ∧ Below w.heap.size w w' ∧ w'.ownsRow w.heap.size 9 1 v (pwL ps es wd).length (strs (pwL ps es wd)) := by
  have HF := Lib.hid hf; have HF' := Lib.hid hf'; have HO := Lib.hid ho; have HO' := Lib.hid ho'
  clear hf hf' ho ho'
  cases ha : askB ps es wd
  · have HA := Lib.hid (hyAsked_is ps A c es B d wd false w HF.out HO.out hn HF'.out HO'.out hn' hw (Lib.hid ha))
    have HV := Lib.hid (pw_no ha)
    clear ha
    go_enter Tryd.func14, Tryd.ntmps14
    go_wp2_with fail
    refine HA.out.mono ?_
    rintro e w1 ⟨rfl, hb1⟩
    go_wp2
    go_ret2
    exact ⟨_, rfl, hb1, by rw [HV.out]; exact own_nil _ _ _ _⟩
  · have HA := Lib.hid (hyAsked_is ps A c es B d wd true w HF.out HO.out hn HF'.out HO'.out hn' hw (Lib.hid ha))
    have HV := Lib.hid (pw_yes ha)
    have HAS := Lib.hid ha
    clear ha
    go_enter Tryd.func14, Tryd.ntmps14
    go_wp2_with fail
    refine HA.out.mono ?_
    rintro e w1 ⟨rfl, hb1⟩
    have HB1 := Lib.hid hb1
    clear hb1
    go_wp2_with fail
    refine (hyParts_any ps A c es B d wd _ (HF.out.below HB1.out (Nat.le_refl _)) HO.out hn (HF'.out.below HB1.out (Nat.le_refl _)) HO'.out hn' HAS.out).mono ?_
    rintro e w2 ⟨v, rfl, hb2, ho2⟩
    have HB2 := Lib.hid (HB1.out.trans (hb2.mono HB1.out.size))
    have HO2 := Lib.hid (Joins.ownsRow_le ho2 HB1.out.size)
    clear hb2 ho2
    go_wp2
    go_ret2
    exact ⟨_, rfl, HB2.out, by rw [HV.out]; exact HO2.out⟩
set_option maxRecDepth 100000 in
set_option maxHeartbeats 2000000 in
theorem implPartsOfWord_any (ps : List ByteArray) (A : Option Addr) (c : Nat) (es : List ByteArray) (B : Option Addr) (d : Nat) (wd : ByteArray) (w : World) (hf : StrsIn w A ps) (ho : StrsLe ps) (hn : ps.length ≤ 1048576) (hf' : StrsIn w B es) (ho' : StrsLe es) (hn' : es.length ≤ 1048576) (hw : wd.size ≤ 1048576) (hy : LayB w) :
    Calls Tryd.prog 13 #[.slice A ps.length c, .slice B es.length d, .string wd] w fun e w' => ∃ v, e = .returned (.tuple #[v, .bool (askB ps es wd)]) ∧ Below w.heap.size w w' ∧ w'.ownsRow w.heap.size 9 1 v (pwL ps es wd).length (strs (pwL ps es wd)) := by
  obtain ⟨i0, hi, hz0, hz1, hz2⟩ := info_parts info9
  have HI0 := Lib.hid hi; have HZ0 := Lib.hid hz0; have HZ1 := Lib.hid hz1; have HZ2 := Lib.hid hz2
  clear hi hz0 hz1 hz2
  obtain ⟨j0, hj, hz0, hz1, hz2⟩ := info_parts info3
  have HJ0 := Lib.hid hj; have HY0 := Lib.hid hz0; have HY1 := Lib.hid hz1; have HY2 := Lib.hid hz2
  clear hj hz0 hz1 hz2
  have hsh := hp_short ps es wd
  have HC := Lib.hid (implHyphenPlaces_own ps A c es B d wd w hf ho hn hf' ho' hn' hw hy)
  clear hf ho hf' ho' hy
  cases ha : askB ps es wd
  · have HV := Lib.hid (pw_no ha)
    rw [ha] at HC
    clear ha
    go_enter Tryd.func13, Tryd.ntmps13
    go_wp2_with fail
    refine HC.out.mono ?_
    rintro e w1 ⟨v, rfl, hb1, ho1⟩
    obtain ⟨A2, c2, rfl⟩ := own_form ho1
    clear ho1
    generalize (hpL ps es wd).length = n0 at *
    go_wp2
    go_ret2
    exact ⟨_, rfl, hb1, by rw [HV.out]; exact own_nil _ _ _ _⟩
  have HV := Lib.hid (pw_yes ha)
  have hwl := isWord_len (ask_all ha).2.2
  have hph := hp_yes ha
  rw [ha, hph] at HC
  rw [hph] at hsh
  have HUP := Lib.hid (hyPl_up ps es wd)
  have HIN := Lib.hid (hyPl_in (ps := ps) (es := es) (wd := wd))
  have HPT := Lib.hid (ptL_eq ps es wd)
  have HPL := Lib.hid (ptL_len ps es wd)
  clear ha hph
  go_enter Tryd.func13, Tryd.ntmps13
  go_wp2_with fail
  refine HC.out.mono ?_
  rintro e w1 ⟨v, rfl, hb1, ho1⟩
  obtain ⟨A2, c2, rfl⟩ := own_form ho1
  have HB1 := Lib.hid hb1
  have HO1 := Lib.hid ho1
  clear hb1 ho1
  generalize hyPl ps es wd = P at *
  have hmy : P.length + 1 ≤ maxLen := by unfold maxLen; omega
  have hbs1 := HB1.out.size
  go_wp2_with (at_builtin; refine wpList_append_own _ rfl _ _ 28 rfl w.heap.size 3 j0 (.int .i64 0) 1 8 Tryd.underlying28 HJ0.out HY0.out HY1.out HY2.out rfl (by decide) _ _ _ rfl (HO1.out.alloc _) ⟨w1.heap.size, 0, none⟩ 1 1 [.int .i64 (wd.size : Int)] rfl rfl (cell_one_new _ _ _) (by simp [Value.oneCell']) hmy (by omega) (by simp; omega) ?_)
  intro v' w2 hown' hgrow _
  have hb2 : Below w.heap.size w w2 := below_append HB1.out hgrow HB1.out.size (own_lt HO1.out)
  rw [← intsZ_snoc] at hown'
  obtain ⟨A5, c5, hv5⟩ := own_shape hown'
  subst hv5
  obtain ⟨Q, hQ⟩ : ∃ Q, Q = P ++ [(wd.size : Int)] := ⟨_, rfl⟩
  have HQL : Hid (Q.length = P.length + 1) := Lib.hid (by rw [hQ]; simp)
  have HQU : Hid (Q.Pairwise (· ≤ ·)) := Lib.hid (by
    rw [hQ, List.pairwise_append]
    exact ⟨HUP.out, by simp, fun a h b hb => by
      obtain rfl : b = (wd.size : Int) := by simpa using hb
      have := HIN.out a h
      omega⟩)
  have HQI : Hid (∀ x ∈ Q, 0 ≤ x ∧ x ≤ (wd.size : Int)) := Lib.hid (fun x hx => by
    rw [hQ] at hx
    rcases List.mem_append.1 hx with h | h
    · have := HIN.out x h; omega
    · obtain rfl : x = (wd.size : Int) := by simpa using h
      omega)
  rw [← hQ] at hown'
  rw [← hQ] at HPT
  have HI2 := Lib.hid (own_in hown')
  have HB2 := Lib.hid hb2
  clear hown' hgrow hb2 hQ HUP HIN HO1
  go_wp2
  go_loopw [10, 11, 29] (fun v f i wr => ∃ (k : Nat) (A3 : Option Addr) (c3 : Nat), k ≤ P.length + 1 ∧ i = .int .i64 k ∧ v = .slice A3 k c3 ∧ f = .int .i64 (lastF 0 (Q.take k) : Nat) ∧ Hid (wr.ownsRow w2.heap.size 9 1 (.slice A3 k c3) k (strs (cutF wd 0 (Q.take k)))) ∧ Hid (Below w2.heap.size w2 wr)) (fun _ _ i _ => P.length + 1 - (intOf i).toNat)
  case atStart => exact ⟨0, none, 0, Nat.zero_le _, rfl, rfl, rfl, Lib.hid (own_nil _ _ _ _), Lib.hid (Below.refl _ _)⟩
  case round =>
    obtain ⟨k, A3, c3, hk, rfl, rfl, rfl, HO, HB⟩ := hrel
    have hbs := HB.out.size
    by_cases hlt : k < P.length + 1
    · have hqk : k < Q.length := by rw [HQL.out]; exact hlt
      obtain ⟨b9, o9, hA9, hbl9, hc9⟩ := HI2.out (by omega)
      subst hA9
      have hck := (HB.out.cell (p := ⟨b9, o9 + k, none⟩) hbl9).trans (hc9 k hqk)
      clear hc9
      have hin := HQI.out Q[k] (List.getElem_mem hqk)
      have hle := lastF_le HQU.out hqk (by omega)
      have HSN : Hid (strs (cutF wd 0 (Q.take (k + 1))) = strs (cutF wd 0 (Q.take k)) ++ [.string (wd.extract (lastF 0 (Q.take k)) Q[k].toNat)]) := Lib.hid (by rw [List.take_succ_eq_append_getElem hqk, cutF_snoc, strs_snoc])
      have HLS : Hid (lastF 0 (Q.take (k + 1)) = Q[k].toNat) := Lib.hid (by rw [List.take_succ_eq_append_getElem hqk, lastF_snoc])
      obtain ⟨m, hm⟩ : ∃ m : Nat, Q[k] = (m : Int) := ⟨Q[k].toNat, by omega⟩
      rw [hm] at hck hin hle HSN HLS
      rw [Int.toNat_natCast] at HSN HLS
      generalize lastF 0 (Q.take k) = f at *
      have hfm : f ≤ m := by omega
      have hms : m ≤ wd.size := by omega
      have hmx : k + 1 ≤ maxLen := by unfold maxLen; omega
      clear hm hqk
      go_wp2_with (at_builtin; refine wpList_append_own _ rfl _ _ 23 rfl w2.heap.size 9 i0 (.string .empty) 1 16 Tryd.underlying23 HI0.out HZ0.out HZ1.out HZ2.out rfl (by decide) _ _ _ rfl (HO.out.alloc _) ⟨wr.heap.size, 0, none⟩ 1 1 [.string (wd.extract f m)] rfl rfl (cell_one_new _ _ _) (by simp [Value.oneCell']) hmx (by omega) (by simp; omega) ?_)
      intro v' w4 hown' hgrow _
      have hb4 : Below w2.heap.size w2 w4 := below_append HB.out hgrow HB.out.size (own_lt HO.out)
      rw [← HSN.out] at hown'
      obtain ⟨A4, c4, hv4⟩ := own_shape hown'
      subst hv4
      have HO4 := Lib.hid hown'; have HB4 := Lib.hid hb4
      clear hown' hgrow hb4
      go_wp2
      go_roundw
      case rel => exact ⟨k + 1, A4, c4, by omega, by go_num, rfl, by rw [HLS.out], HO4, HB4⟩
      case measure => simp [intOf]; omega
    · obtain rfl : k = P.length + 1 := by omega
      have e0 : Q.take (P.length + 1) = Q := List.take_of_length_le (by rw [HQL.out]; exact Nat.le_refl _)
      rw [e0] at HO ⊢
      have HO4 : Hid (wr.ownsRow w.heap.size 9 1 (.slice A3 (P.length + 1) c3) (pwL ps es wd).length (strs (pwL ps es wd))) := Lib.hid (by rw [HV.out, HPL.out, HPT.out]; exact Joins.ownsRow_le HO.out HB2.out.size)
      have HB4 := Lib.hid (HB2.out.trans (HB.out.mono HB2.out.size))
      clear e0
      generalize lastF 0 Q = f at *
      go_wp2
      go_ret2
      exact ⟨_, rfl, HB4.out, HO4.out⟩
end Go.Proofs.YtcbhhbcfnaekpaaDoor

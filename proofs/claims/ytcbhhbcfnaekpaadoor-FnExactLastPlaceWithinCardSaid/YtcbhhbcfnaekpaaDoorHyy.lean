/-
  The last place within so many letters: told plainly; the contracts of spec.LastPlaceWithin and impl.LastPlaceWithin.
-/
import Derived.Test.YtcbhhbcfnaekpaaDoorHyx
import Derived.Test.YtcbhhbcfnaekpaaDoorHyu
namespace Go.Proofs.YtcbhhbcfnaekpaaDoor
open Go.RowKit Go.Shelf
set_option linter.unusedVariables false
attribute [local go_sem] Oper.semAt_some encB BwI.w

def lpF (n b x : Int) : Int := if x ≤ n then x else b
/-- The last number of a list that is at most n, or 0. -/
def lpL (P : List Int) (n : Int) : Int := P.foldl (lpF n) 0
theorem lpL_snoc (P : List Int) (n x : Int) : lpL (P ++ [x]) n = if x ≤ n then x else lpL P n := by unfold lpL; rw [List.foldl_append]; rfl
theorem lp_keep {n : Int} : ∀ (l : List Int) (b : Int), (∀ x ∈ l, ¬ x ≤ n) → l.foldl (lpF n) b = b
  | [], _, _ => rfl
  | x :: r, b, h => by
    have h1 : lpF n b x = b := if_neg (h x (by simp))
    rw [List.foldl_cons, h1]
    exact lp_keep r b (fun y hy => h y (by simp [hy]))
theorem lpL_none {P : List Int} {n : Int} (h : ∀ j (hj : j < P.length), ¬ P[j] ≤ n) : lpL P n = 0 := lp_keep P 0 (fun x hx => by
  obtain ⟨j, hj, rfl⟩ := List.getElem_of_mem hx
  exact h j hj)
theorem lpL_hit {P : List Int} {n : Int} {k : Nat} (hk : k < P.length) (h : P[k] ≤ n) (h2 : ∀ j (hj : j < P.length), k < j → ¬ P[j] ≤ n) : lpL P n = P[k] := by
  have e : P = (P.take k ++ [P[k]]) ++ P.drop (k + 1) := by rw [← List.take_succ_eq_append_getElem hk, List.take_append_drop]
  rw [congrArg (fun l => lpL l n) e]
  show lpL ((P.take k ++ [P[k]]) ++ P.drop (k + 1)) n = P[k]
  unfold lpL
  rw [List.foldl_append, lp_keep (P.drop (k + 1)) _ (fun x hx => by
    obtain ⟨j, hj, rfl⟩ := List.getElem_of_mem hx
    rw [List.getElem_drop]
    exact h2 _ _ (by omega))]
  show lpL (P.take k ++ [P[k]]) n = P[k]
  rw [lpL_snoc, if_pos h]
theorem lpL_of {P : List Int} {n : Int} (hP : ∀ x ∈ P, 2 ≤ x) : lpL P n = 0 ∨ 2 ≤ lpL P n := by
  have : ∀ (l : List Int) (b : Int), (∀ x ∈ l, 2 ≤ x) → (b = 0 ∨ 2 ≤ b) → (l.foldl (lpF n) b = 0 ∨ 2 ≤ l.foldl (lpF n) b) := by
    intro l
    induction l with
    | nil => intro b _ hb; exact hb
    | cons x r ih =>
      intro b h hb
      rw [List.foldl_cons]
      refine ih _ (fun y hy => h y (by simp [hy])) ?_
      unfold lpF
      split
      · exact .inr (h x (by simp))
      · exact hb
  exact this P 0 hP (.inl rfl)
/-- The number of letters is 0 to 16. -/
def ltB (n : Int) : Bool := decide (0 ≤ n) && decide (n ≤ 16)
/-- The answer. -/
def lwV (ps es : List ByteArray) (wd : ByteArray) (n : Int) : Int := if ltB n then lpL (hpL ps es wd) n else 0
def lwB (ps es : List ByteArray) (wd : ByteArray) (n : Int) : Bool := decide (0 < lwV ps es wd n)
theorem lw_no {ps es : List ByteArray} {wd : ByteArray} {n : Int} (h : lwV ps es wd n = 0) : lwV ps es wd n = 0 ∧ lwB ps es wd n = false := ⟨h, by unfold lwB; rw [h]; rfl⟩
theorem lw_noask {ps es : List ByteArray} {wd : ByteArray} {n : Int} (h : askB ps es wd = false) : lwV ps es wd n = 0 := by unfold lwV; rw [hp_no h]; split <;> rfl
theorem lw_out {ps es : List ByteArray} {wd : ByteArray} {n : Int} (h : ltB n = false) : lwV ps es wd n = 0 := by unfold lwV; rw [h]; rfl
theorem lw_in {ps es : List ByteArray} {wd : ByteArray} {n : Int} (h : ltB n = true) : lwV ps es wd n = lpL (hpL ps es wd) n := by unfold lwV; rw [h]; rfl
theorem ret_ib {a b : Int} {c d : Bool} (h1 : a = b) (h2 : c = d) : Ending.returned (.tuple #[.int .i64 a, .bool c]) = .returned (.tuple #[.int .i64 b, .bool d]) := by rw [h1, h2]
set_option maxRecDepth 100000 in
set_option maxHeartbeats 1000000 in
theorem specLastPlace_any (ps : List ByteArray) (A : Option Addr) (c : Nat) (es : List ByteArray) (B : Option Addr) (d : Nat) (wd : ByteArray) (n : Int) (w : World) (hf : StrsIn w A ps) (ho : StrsLe ps) (hn : ps.length ≤ 1048576) (hf' : StrsIn w B es) (ho' : StrsLe es) (hn' : es.length ≤ 1048576) (hw : wd.size ≤ 1048576) :
    Calls Tryd.prog 26 #[.slice A ps.length c, .slice B es.length d, .string wd, .int .i64 n] w fun e w' => e = .returned (.tuple #[.int .i64 (lwV ps es wd n), .bool (lwB ps es wd n)]) ∧ Below w.heap.size w w' := by
  have HF := Lib.hid hf; have HF' := Lib.hid hf'; have HO := Lib.hid ho; have HO' := Lib.hid ho'
  clear hf hf' ho ho'
  cases ha : askB ps es wd
  · have HA := Lib.hid (hyAsked_is ps A c es B d wd false w HF.out HO.out hn HF'.out HO'.out hn' hw (Lib.hid ha))
    have HV := Lib.hid (lw_no (lw_noask (n := n) ha))
    clear ha
    go_enter Tryd.func26, Tryd.ntmps26
    go_wp2_with fail
    refine HA.out.mono ?_
    rintro e w1 ⟨rfl, hb1⟩
    go_wp2
    go_ret2
    exact ⟨ret_ib HV.out.1.symm HV.out.2.symm, hb1⟩
  · have HA := Lib.hid (hyAsked_is ps A c es B d wd true w HF.out HO.out hn HF'.out HO'.out hn' hw (Lib.hid ha))
    have hsh := hp_short ps es wd
    rw [hp_yes ha] at hsh
    have HP := Lib.hid (patsB_all (ask_all ha).1).1
    obtain ⟨h1, h16⟩ := isWord_len (ask_all ha).2.2
    cases hl : ltB n
    · have HV := Lib.hid (lw_no (lw_out (ps := ps) (es := es) (wd := wd) hl))
      have hno : (decide (0 ≤ n) && decide (n ≤ 16)) = false := hl
      clear ha hl
      go_enter Tryd.func26, Tryd.ntmps26
      go_wp2_with fail
      refine HA.out.mono ?_
      rintro e w1 ⟨rfl, hb1⟩
      have HB1 := Lib.hid hb1
      clear hb1
      go_wp2_with (go_at_call 61; refine (in_any _ _ _ _).mono ?_; rintro e w' ⟨rfl, rfl⟩)
      go_ret2
      exact ⟨ret_ib HV.out.1.symm HV.out.2.symm, HB1.out⟩
    · have HV : Hid (lwV ps es wd n = lpL (hyPl ps es wd) n) := Lib.hid (by rw [lw_in hl, hp_yes ha])
      have HVB : Hid (lwB ps es wd n = decide (0 < lwV ps es wd n)) := Lib.hid rfl
      have hyes : (decide (0 ≤ n) && decide (n ≤ 16)) = true := hl
      clear ha hl
      go_enter Tryd.func26, Tryd.ntmps26
      go_wp2_with fail
      refine HA.out.mono ?_
      rintro e w1 ⟨rfl, hb1⟩
      have HB1 := Lib.hid hb1
      clear hb1
      go_wp2_with (go_at_call 61; refine (in_any _ _ _ _).mono ?_; rintro e w' ⟨rfl, rfl⟩)
      refine (hyPlaces_any ps A c es B d wd _ (HF.out.below HB1.out (Nat.le_refl _)) HO.out hn (HF'.out.below HB1.out (Nat.le_refl _)) HO'.out hn' HP.out h1 h16).mono ?_
      rintro e w2 ⟨v, rfl, hb2, ho2⟩
      obtain ⟨A2, c2, rfl⟩ := own_form ho2
      have HB2 := Lib.hid (HB1.out.trans (hb2.mono HB1.out.size))
      have HI2 := Lib.hid (own_in ho2)
      clear hb2 ho2
      generalize hyPl ps es wd = P at *
      go_wp2
      go_loop [10, 28] (fun v i => ∃ k : Nat, k ≤ P.length ∧ i = .int .i64 k ∧ v = .int .i64 (lpL (P.take k) n)) (fun _ i => P.length - (RowKit.intOf i).toNat)
      case atStart => exact ⟨0, Nat.zero_le _, rfl, rfl⟩
      case round =>
        obtain ⟨k, hk, rfl, rfl⟩ := hrel
        by_cases hlt : k < P.length
        · obtain ⟨b9, o9, rfl, hbl9, hc9⟩ := HI2.out (by omega)
          have hck := hc9 k hlt
          have HN : Hid (lpL (P.take (k + 1)) n = if P[k] ≤ n then P[k] else lpL (P.take k) n) := Lib.hid (by rw [List.take_succ_eq_append_getElem hlt, lpL_snoc])
          clear hc9
          generalize P[k] = x at *
          generalize lpL (P.take k) n = b at *
          by_cases hx : x ≤ n
          · have hd : decide (x ≤ n) = true := decide_eq_true hx
            rw [if_pos hx] at HN
            go_wp2
            go_round
            case rel => exact ⟨k + 1, by omega, by go_num, by rw [HN.out]⟩
            case measure => simp [RowKit.intOf]; omega
          · have hd : decide (x ≤ n) = false := decide_eq_false hx
            rw [if_neg hx] at HN
            go_wp2
            go_round
            case rel => exact ⟨k + 1, by omega, by go_num, by rw [HN.out]⟩
            case measure => simp [RowKit.intOf]; omega
        · obtain rfl : k = P.length := by omega
          have e0 : lpL (P.take P.length) n = lpL P n := by rw [List.take_length]
          rw [e0]
          generalize lpL P n = r at *
          go_wp2
          go_ret2
          refine ⟨ret_ib HV.out.symm ?_, HB2.out⟩
          rw [HVB.out, HV.out]
end Go.Proofs.YtcbhhbcfnaekpaaDoor

/-
  The contracts of spec.csMost and spec.MostCastings.
-/
import Derived.Test.YtpocghcdfpcedaaKx
namespace Go.Proofs.Ytpocghcdfpcedaa
open Go.RowKit
set_option linter.unusedVariables false

section
variable {n : Nat} {a : Int} {tm : List Int → Int}
theorem visM_len {S o : List Int} {t : Int} (hS : S.length ≤ n) (ho : o.length ≤ n) : (visM n a S o t).1.length ≤ n := by
  unfold visM; split
  · exact hS
  · split
    · exact ho
    · exact hS
theorem foldN_keep {σ : Type} {g : Nat → σ → σ} {Q : σ → Prop} (h : ∀ i s, Q s → Q (g i s)) : ∀ k s, Q s → Q (foldN g k s)
  | 0, _, hs => hs
  | k + 1, s, hs => h _ _ (foldN_keep h k s hs)
theorem rcM_len : ∀ (D : Nat) (o S : List Int), o.length + D ≤ n + 1 → S.length ≤ n → (rc (visM n a) tm n D o S).length ≤ n
  | 0, _, _, _, hS => hS
  | D + 1, o, S, ho, hS => by
    have h1 := visM_len (a := a) (t := tm o) hS (show o.length ≤ n by omega)
    show (if _ then _ else _ : List Int).length ≤ n
    split
    · refine foldN_keep (Q := fun s : List Int => s.length ≤ n) (fun i s hs => ?_) _ _ h1
      show (if _ then _ else _ : List Int).length ≤ n
      split
      · exact hs
      · exact rcM_len D _ _ (by simp; omega) hs
    · exact h1
theorem rcM_full : ∀ (D : Nat) (o S : List Int), o.length + D ≤ n + 1 → S.length = n → rc (visM n a) tm n D o S = S
  | 0, _, _, _, _ => rfl
  | D + 1, o, S, ho, hS => by
    have h : visM n a S o (tm o) = (S, false) := by
      unfold visM
      split
      · rfl
      · rw [if_neg (by omega), decide_eq_false (by omega)]
    have h2 := rc_no (vis := visM n a) (tm := tm) (n := n) (d := D) (o := o) (s := S) (by rw [h])
    rw [h2, h]
theorem rcM_late {D : Nat} {o S : List Int} (h : a < tm o) : rc (visM n a) tm n D o S = S := by
  cases D with
  | zero => rfl
  | succ D =>
    have h1 := visM_late (n := n) (S := S) (o := o) h
    have h2 := rc_no (vis := visM n a) (tm := tm) (n := n) (d := D) (o := o) (s := S) (by rw [h1])
    rw [h2, h1]
theorem lpM_len {D : Nat} {o S : List Int} (ho : o.length + D ≤ n) (hS : S.length ≤ n) (k : Nat) : (lpF (rc (visM n a) tm n D) o k S).length ≤ n := by
  refine foldN_keep (Q := fun s : List Int => s.length ≤ n) (fun i s hs => ?_) _ _ hS
  show (if _ then _ else _ : List Int).length ≤ n
  split
  · exact hs
  · exact rcM_len D _ _ (by simp; omega) hs
theorem lpM_full {D : Nat} {o S : List Int} (ho : o.length + D ≤ n) {k : Nat} (h : (lpF (rc (visM n a) tm n D) o k S).length = n) : ∀ j, k ≤ j → lpF (rc (visM n a) tm n D) o j S = lpF (rc (visM n a) tm n D) o k S := by
  intro j hj
  induction j with
  | zero => obtain rfl : k = 0 := by omega
            rfl
  | succ j ih =>
    rcases Nat.lt_or_ge j k with h1 | h1
    · obtain rfl : k = j + 1 := by omega
      rfl
    · have e := ih h1
      cases hb : hasB o (j : Int) with
      | true => rw [lpF_skip hb, e]
      | false => rw [lpF_step hb, e, rcM_full D _ _ (by simp; omega) h]
end
theorem own_eqL {w : World} {base n : Nat} {e : TypeId} {v : Value} {l : List Int} (h : w.ownsRow base e 1 v n (intsZ l)) : n = l.length := by have := h.1; rw [intsZ_len] at this; omega
set_option maxRecDepth 100000 in
set_option maxHeartbeats 8000000 in
theorem csMost_any (m : Mc) (f : List Ca) (A : Option Addr) (c : Nat) (a : Int) (B : Nat) (hm : goodMc m = true) (hL : goodL f = true) :
    ∀ (D : Nat) (o S : List Int) (vo vb : Value) (w : World), CasIn w A f → OkO f.length o → o.length + D = f.length + 1 → tmO m f o ≤ a → S.length ≤ f.length → B ≤ w.heap.size →
      w.ownsRow B 3 1 vo o.length (intsZ o) → w.ownsRow B 3 1 vb S.length (intsZ S) →
      Calls Try.prog 65 #[.agg #[.int .i64 m.bod, .int .i64 m.hou, .int .i64 m.cha], .slice A f.length c, vo, .int .i64 a, vb] w fun e w' => ∃ v', e = .returned v' ∧ Below w.heap.size w w' ∧ w'.ownsRow B 3 1 v' (rc (visM f.length a) (tmO m f) f.length D o S).length (intsZ (rc (visM f.length a) (tmO m f) f.length D o S)) := by
  have h8 := (goodL_all hL).2
  have HG := Lib.hid hm; have HL := Lib.hid hL
  obtain ⟨i0, hi, hz0, hz1, hz2⟩ := info_parts info3
  have HI := Lib.hid hi; have HZ0 := Lib.hid hz0; have HZ1 := Lib.hid hz1; have HZ2 := Lib.hid hz2
  clear hi hz0 hz1 hz2 hm hL
  intro D
  induction D with
  | zero => intro o S vo vb w _ hok hlen; exact absurd (okO_len _ _ hok) (by omega)
  | succ D ih =>
    intro o S vo vb w hf hok hlen hta hS hB hvo hvb
    have HIH := Lib.hid ih
    have HOK := Lib.hid hok
    have hol := okO_len _ _ hok
    have HF := Lib.hid hf; have HVO := Lib.hid hvo; have HVB := Lib.hid hvb; have HTA := Lib.hid hta
    obtain ⟨Ao, co, rfl⟩ := own_form hvo
    obtain ⟨Ab, cb, rfl⟩ := own_form hvb
    clear ih hok hf hvo hvb hta
    have HBW : Hid (Below w.heap.size w (w.alloc (.cells #[.int .i64 m.bod, .int .i64 m.hou, .int .i64 m.cha] 32))) := Lib.hid ((Below.refl _ _).alloc (Nat.le_refl _) _)
    have HM : Hid (McAt (w.alloc (.cells #[.int .i64 m.bod, .int .i64 m.hou, .int .i64 m.cha] 32)) w.heap.size 32 m) := Lib.hid (McAt.new _ _ _)
    have HVO1 := Lib.hid (own_below HVO.out HBW.out)
    have HVB1 := Lib.hid (own_below HVB.out HBW.out)
    -- the longer one of order and best
    have HS1 : Hid (∀ S1 : List Int, S1 = (if S.length < o.length then o else S) → visM f.length a S o (tmO m f o) = (S1, decide (S1.length < f.length)) ∧ S1.length ≤ f.length) := Lib.hid (by
      rintro S1 rfl
      have hnl : ¬ a < tmO m f o := by have := HTA.out; omega
      by_cases h : S.length < o.length
      · rw [if_pos h]; exact ⟨visM_new hnl h, hol⟩
      · rw [if_neg h]; exact ⟨visM_old hnl h, hS⟩)
    go_enter Try.func65, Try.ntmps65
    by_cases hlonger : S.length < o.length
    all_goals
      obtain ⟨S1, hS1⟩ : ∃ S1 : List Int, S1 = (if S.length < o.length then o else S) := ⟨_, rfl⟩
      obtain ⟨hv1, hl1⟩ := HS1.out S1 hS1
      have HV1 := Lib.hid hv1
    · rw [if_pos hlonger] at hS1
      have HE := Lib.hid hS1
      have hgt : (S.length : Int) < (o.length : Int) := by omega
      have HR1 : Hid ((w.alloc (.cells #[.int .i64 m.bod, .int .i64 m.hou, .int .i64 m.cha] 32)).ownsRow B 3 1 (.slice Ao o.length co) S1.length (intsZ S1)) := Lib.hid (by rw [hS1]; exact HVO1.out)
      clear hlonger hS1 hv1 HS1 HVB1
      go_wp2
      go_loopw [4, 21] (fun v i wr => ∃ k : Nat, k ≤ f.length ∧ i = .int .i64 k ∧ (k = 0 ∨ S1.length < f.length) ∧ wr.ownsRow B 3 1 v (lpF (rc (visM f.length a) (tmO m f) f.length D) o k S1).length (intsZ (lpF (rc (visM f.length a) (tmO m f) f.length D) o k S1)) ∧ wr.ownsRow B 3 1 (.slice Ao o.length co) o.length (intsZ o) ∧ McAt wr w.heap.size 32 m ∧ Below w.heap.size w wr) (fun _ i _ => f.length - (intOf i).toNat)
      case atStart => exact ⟨0, Nat.zero_le _, rfl, .inl rfl, HR1.out, HVO1.out, HM.out, HBW.out⟩
      case round =>
        obtain ⟨k, hk, rfl, hfl, hv, hvo, hmm, hb⟩ := hrel
        have HFL := Lib.hid hfl
        have HV := Lib.hid hv; have HO := Lib.hid hvo; have HMM := Lib.hid hmm; have HB := Lib.hid hb
        clear hfl hvo hmm hb HR1 HVO1 HM HBW
        have HLN := Lib.hid (lpM_len (a := a) (tm := tmO m f) (D := D) (o := o) (S := S1) (n := f.length) (by omega) hl1 k)
        have HFU := Lib.hid (fun h => lpM_full (a := a) (tm := tmO m f) (D := D) (o := o) (S := S1) (n := f.length) (by omega) (k := k) h)
        -- the answer, once it is known that no more comes
        have HAN : Hid (lpF (rc (visM f.length a) (tmO m f) f.length D) o f.length S1 = lpF (rc (visM f.length a) (tmO m f) f.length D) o k S1 → (k = 0 → f.length = 0 ∨ ¬ S1.length < f.length → True) → (S1.length < f.length ∨ k = 0) → (¬ S1.length < f.length → k = 0) → rc (visM f.length a) (tmO m f) f.length (D + 1) o S = lpF (rc (visM f.length a) (tmO m f) f.length D) o k S1) := Lib.hid (by
          intro h1 _ _ h4
          by_cases h5 : S1.length < f.length
          · rw [rc_yes (by rw [HV1.out]; exact decide_eq_true h5), HV1.out]; exact h1
          · obtain rfl := h4 h5
            rw [rc_no (by rw [HV1.out]; exact decide_eq_false h5), HV1.out]; rfl)
        have hsl := own_bound HV.out
        obtain ⟨Av, cv, rfl⟩ := own_form hv
        clear hv
        obtain ⟨Sk, hSk⟩ : ∃ Sk, Sk = lpF (rc (visM f.length a) (tmO m f) f.length D) o k S1 := ⟨_, rfl⟩
        have HSK := Lib.hid hSk
        rw [← hSk] at HV HLN HFU HAN hsl ⊢
        clear hSk
        have hln := HLN.out
        by_cases hlt : k < f.length
        · have hkl1 : (k : Int) < (f.length : Int) := by omega
          have hkl0 : (0 : Int) ≤ (k : Int) := by omega
          by_cases hfull : Sk.length = f.length
          · have hfi : ((Sk.length : Int) == (f.length : Int)) = true := by rw [beq_iff_eq]; omega
            have HR := Lib.hid (HAN.out (HFU.out hfull f.length hk) (fun _ _ => trivial) (by rcases HFL.out with h | h; exact .inr h; exact .inl h) (fun h => by rcases HFL.out with h2 | h2; exact h2; exact absurd h2 h))
            clear hfull
            go_wp2
            go_ret
            exact ⟨_, rfl, HB.out, by rw [HR.out]; exact HV.out⟩
          · have hfi : ((Sk.length : Int) == (f.length : Int)) = false := by rw [beq_eq_false_iff_ne]; omega
            have hflag : S1.length < f.length := by
              rcases HFL.out with h | h
              · subst h
                have : Sk = S1 := HSK.out
                rw [this] at hfull hln
                omega
              · exact h
            have HFG := Lib.hid hflag
            clear hfull hflag
            go_wp2_with fail
            refine (l1OwnR_any o _ HO.out (by omega)).mono ?_
            intro e w1 hto
            obtain ⟨v1, rfl, hb1, hown1⟩ := hto
            have HO1 := Lib.hid hown1
            have HB1 := Lib.hid hb1
            have HVR := HV; have HOR := HO; have HMR := HMM
            have hsz1 := hb1.size
            have hmx : o.length + 1 ≤ maxLen := by unfold maxLen; omega
            clear hb1 hown1 HV HO HMM
            go_wp2_with (at_builtin; refine wpList_append_own _ rfl _ _ 42 rfl wr.heap.size 3 i0 (.int .i64 0) 1 8 Try.underlying42 HI.out HZ0.out HZ1.out HZ2.out rfl (by decide) _ _ _ rfl (HO1.out.alloc _) ⟨w1.heap.size, 0, none⟩ 1 1 [.int .i64 (k : Int)] rfl rfl (cell_one_new _ _ _) (by simp [Value.oneCell']) hmx (by omega) (by first | (simp; done) | (simp; omega) | omega) ?_)
            intro v2 w5 hown' hgrow _
            have hb5 : Below wr.heap.size wr w5 := (HB1.out.alloc HB1.out.size (.cells #[.int .i64 (k : Int)] 3)).grown hgrow (by first | (simp; done) | (simp; omega) | omega) (own_lt HO1.out)
            have HV5 := Lib.hid (own_below HVR.out hb5); have HO5 := Lib.hid (own_below HOR.out hb5); have HM5 := Lib.hid (HMR.out.next hb5)
            have HB5 := Lib.hid (HB.out.trans (hb5.mono HB.out.size))
            have HN5 := Lib.hid (Joins.ownsRow_le (base' := B) hown' (by have := HB.out.size; omega))
            obtain ⟨A2, c2, rfl, hin2⟩ := own_n (l := o ++ [(k : Int)]) (by rw [intsZ_snoc]; exact hown')
            have HI2 := Lib.hid hin2
            have hin5 := own_in HO5.out
            have HF5 := Lib.hid (HF.out.below HB5.out (Nat.le_refl _))
            clear hown' hgrow hb5 HO1 HB1 hin2 HVR HOR HMR
            go_wp2_with fail
            refine (l1Has_any o Ao co (k : Int) _ hin5 (by omega)).mono ?_
            rintro e w' ⟨rfl, rfl⟩
            cases hh : hasB o (k : Int)
            rotate_left
            · have HSP := Lib.hid (lpF_skip (rec := (rc (visM f.length a) (tmO m f) f.length D)) (s := S1) hh)
              clear hh hin5
              go_wp2
              go_roundw
              case rel => exact ⟨k + 1, by omega, by go_num, .inr HFG.out, by rw [HSP.out, ← HSK.out]; exact HV5.out, HO5.out, HM5.out, HB5.out⟩
              case measure => simp [intOf]; omega
            · have HSP := Lib.hid (lpF_step (rec := (rc (visM f.length a) (tmO m f) f.length D)) (s := S1) hh)
              have hok2 := okO_snoc HOK.out hlt hh
              have HOK2 := Lib.hid hok2
              have hlast := csLast_any m f A c (o ++ [(k : Int)]) A2 c2 w5 HF5.out (by omega) HI2.out (by simp; omega) HG.out HL.out (okO_in hok2)
              simp only [List.length_append, List.length_cons, List.length_nil, Nat.zero_add] at hlast
              have HLA := Lib.hid hlast
              have hrb := run_ok HG.out HL.out (okO_in hok2) _ (Nat.le_refl _)
              rw [List.take_length] at hrb
              have hrt := hrb.2.1
              obtain ⟨m0, m1, m2⟩ := HM5.out.cells
              have ml := HM5.out.lt
              clear hh hok2 hlast hin5 hrb
              go_wp2_with fail
              refine HLA.out.mono ?_
              rintro e w6 ⟨rfl, hb6⟩
              have HV6 := Lib.hid (own_below HV5.out hb6); have HO6 := Lib.hid (own_below HO5.out hb6); have HM6 := Lib.hid (HM5.out.next hb6)
              have HB6 := Lib.hid (HB5.out.trans (hb6.mono HB5.out.size)); have HN6 := Lib.hid (own_below HN5.out hb6)
              clear hb6 HV5 HO5 HM5 HB5 HN5 HLA m0 m1 m2 ml HF5 HI2
              have HTM : Hid (tmO m f (o ++ [(k : Int)]) = (run m f (o ++ [(k : Int)])).t) := Lib.hid rfl
              obtain ⟨T, hT⟩ : ∃ T, T = (run m f (o ++ [(k : Int)])).t := ⟨_, rfl⟩
              rw [← hT] at hrt HTM ⊢
              clear hT
              by_cases hlate : a < T
              · have HSQ : Hid (rc (visM f.length a) (tmO m f) f.length D (o ++ [(k : Int)]) Sk = Sk) := Lib.hid (rcM_late (by rw [HTM.out]; exact hlate))
                have hle : ¬ T ≤ a := by omega
                clear hlate
                go_wp2
                go_roundw
                case rel => exact ⟨k + 1, by omega, by go_num, .inr HFG.out, by rw [HSP.out, ← HSK.out, HSQ.out]; exact HV6.out, HO6.out, HM6.out, HB6.out⟩
                case measure => simp [intOf]; omega
              · have hle : T ≤ a := by omega
                have hrow2 : w6.ownsRow B 3 1 (.slice A2 (o.length + 1) c2) (o ++ [(k : Int)]).length (intsZ (o ++ [(k : Int)])) := by
                  rw [List.length_append, intsZ_snoc]; exact HN6.out
                have hcall := HIH.out (o ++ [(k : Int)]) Sk (.slice A2 (o.length + 1) c2) (.slice Av Sk.length cv) w6 (HF.out.below HB6.out (Nat.le_refl _)) HOK2.out (by rw [List.length_append]; show o.length + 1 + D = _; omega) (by rw [HTM.out]; exact hle) hln (by have := HB6.out.size; omega) hrow2 HV6.out
                have HCALL := Lib.hid hcall
                obtain ⟨m0, m1, m2⟩ := HM6.out.cells
                have ml := HM6.out.lt
                clear hlate hrow2 hcall
                go_wp2_with fail
                refine HCALL.out.mono ?_
                intro e w7 hto
                obtain ⟨v7, rfl, hb7, hown7⟩ := hto
                have HR7 := Lib.hid hown7
                have HO7 := Lib.hid (own_below HO6.out hb7); have HM7 := Lib.hid (HM6.out.next hb7)
                have HB7 := Lib.hid (HB6.out.trans (hb7.mono HB6.out.size))
                clear hb7 hown7 HCALL m0 m1 m2 ml HV6 HO6 HM6 HB6 HN6
                go_wp2
                go_roundw
                case rel => exact ⟨k + 1, by omega, by go_num, .inr HFG.out, by rw [HSP.out, ← HSK.out]; exact HR7.out, HO7.out, HM7.out, HB7.out⟩
                case measure => simp [intOf]; omega
        · obtain rfl : k = f.length := by omega
          have HR := Lib.hid (HAN.out HSK.out.symm (fun _ _ => trivial) (by rcases HFL.out with h | h; exact .inr h; exact .inl h) (fun h => by rcases HFL.out with h2 | h2; exact h2; exact absurd h2 h))
          go_wp2
          go_ret
          exact ⟨_, rfl, HB.out, by rw [HR.out]; exact HV.out⟩
    · rw [if_neg hlonger] at hS1
      have HE := Lib.hid hS1
      have hgt : ¬ (S.length : Int) < (o.length : Int) := by omega
      have HR1 : Hid ((w.alloc (.cells #[.int .i64 m.bod, .int .i64 m.hou, .int .i64 m.cha] 32)).ownsRow B 3 1 (.slice Ab S.length cb) S1.length (intsZ S1)) := Lib.hid (by rw [hS1]; exact HVB1.out)
      clear hlonger hS1 hv1 HS1 HVB1
      go_wp2
      go_loopw [4, 21] (fun v i wr => ∃ k : Nat, k ≤ f.length ∧ i = .int .i64 k ∧ (k = 0 ∨ S1.length < f.length) ∧ wr.ownsRow B 3 1 v (lpF (rc (visM f.length a) (tmO m f) f.length D) o k S1).length (intsZ (lpF (rc (visM f.length a) (tmO m f) f.length D) o k S1)) ∧ wr.ownsRow B 3 1 (.slice Ao o.length co) o.length (intsZ o) ∧ McAt wr w.heap.size 32 m ∧ Below w.heap.size w wr) (fun _ i _ => f.length - (intOf i).toNat)
      case atStart => exact ⟨0, Nat.zero_le _, rfl, .inl rfl, HR1.out, HVO1.out, HM.out, HBW.out⟩
      case round =>
        obtain ⟨k, hk, rfl, hfl, hv, hvo, hmm, hb⟩ := hrel
        have HFL := Lib.hid hfl
        have HV := Lib.hid hv; have HO := Lib.hid hvo; have HMM := Lib.hid hmm; have HB := Lib.hid hb
        clear hfl hvo hmm hb HR1 HVO1 HM HBW
        have HLN := Lib.hid (lpM_len (a := a) (tm := tmO m f) (D := D) (o := o) (S := S1) (n := f.length) (by omega) hl1 k)
        have HFU := Lib.hid (fun h => lpM_full (a := a) (tm := tmO m f) (D := D) (o := o) (S := S1) (n := f.length) (by omega) (k := k) h)
        -- the answer, once it is known that no more comes
        have HAN : Hid (lpF (rc (visM f.length a) (tmO m f) f.length D) o f.length S1 = lpF (rc (visM f.length a) (tmO m f) f.length D) o k S1 → (k = 0 → f.length = 0 ∨ ¬ S1.length < f.length → True) → (S1.length < f.length ∨ k = 0) → (¬ S1.length < f.length → k = 0) → rc (visM f.length a) (tmO m f) f.length (D + 1) o S = lpF (rc (visM f.length a) (tmO m f) f.length D) o k S1) := Lib.hid (by
          intro h1 _ _ h4
          by_cases h5 : S1.length < f.length
          · rw [rc_yes (by rw [HV1.out]; exact decide_eq_true h5), HV1.out]; exact h1
          · obtain rfl := h4 h5
            rw [rc_no (by rw [HV1.out]; exact decide_eq_false h5), HV1.out]; rfl)
        have hsl := own_bound HV.out
        obtain ⟨Av, cv, rfl⟩ := own_form hv
        clear hv
        obtain ⟨Sk, hSk⟩ : ∃ Sk, Sk = lpF (rc (visM f.length a) (tmO m f) f.length D) o k S1 := ⟨_, rfl⟩
        have HSK := Lib.hid hSk
        rw [← hSk] at HV HLN HFU HAN hsl ⊢
        clear hSk
        have hln := HLN.out
        by_cases hlt : k < f.length
        · have hkl1 : (k : Int) < (f.length : Int) := by omega
          have hkl0 : (0 : Int) ≤ (k : Int) := by omega
          by_cases hfull : Sk.length = f.length
          · have hfi : ((Sk.length : Int) == (f.length : Int)) = true := by rw [beq_iff_eq]; omega
            have HR := Lib.hid (HAN.out (HFU.out hfull f.length hk) (fun _ _ => trivial) (by rcases HFL.out with h | h; exact .inr h; exact .inl h) (fun h => by rcases HFL.out with h2 | h2; exact h2; exact absurd h2 h))
            clear hfull
            go_wp2
            go_ret
            exact ⟨_, rfl, HB.out, by rw [HR.out]; exact HV.out⟩
          · have hfi : ((Sk.length : Int) == (f.length : Int)) = false := by rw [beq_eq_false_iff_ne]; omega
            have hflag : S1.length < f.length := by
              rcases HFL.out with h | h
              · subst h
                have : Sk = S1 := HSK.out
                rw [this] at hfull hln
                omega
              · exact h
            have HFG := Lib.hid hflag
            clear hfull hflag
            go_wp2_with fail
            refine (l1OwnR_any o _ HO.out (by omega)).mono ?_
            intro e w1 hto
            obtain ⟨v1, rfl, hb1, hown1⟩ := hto
            have HO1 := Lib.hid hown1
            have HB1 := Lib.hid hb1
            have HVR := HV; have HOR := HO; have HMR := HMM
            have hsz1 := hb1.size
            have hmx : o.length + 1 ≤ maxLen := by unfold maxLen; omega
            clear hb1 hown1 HV HO HMM
            go_wp2_with (at_builtin; refine wpList_append_own _ rfl _ _ 42 rfl wr.heap.size 3 i0 (.int .i64 0) 1 8 Try.underlying42 HI.out HZ0.out HZ1.out HZ2.out rfl (by decide) _ _ _ rfl (HO1.out.alloc _) ⟨w1.heap.size, 0, none⟩ 1 1 [.int .i64 (k : Int)] rfl rfl (cell_one_new _ _ _) (by simp [Value.oneCell']) hmx (by omega) (by first | (simp; done) | (simp; omega) | omega) ?_)
            intro v2 w5 hown' hgrow _
            have hb5 : Below wr.heap.size wr w5 := (HB1.out.alloc HB1.out.size (.cells #[.int .i64 (k : Int)] 3)).grown hgrow (by first | (simp; done) | (simp; omega) | omega) (own_lt HO1.out)
            have HV5 := Lib.hid (own_below HVR.out hb5); have HO5 := Lib.hid (own_below HOR.out hb5); have HM5 := Lib.hid (HMR.out.next hb5)
            have HB5 := Lib.hid (HB.out.trans (hb5.mono HB.out.size))
            have HN5 := Lib.hid (Joins.ownsRow_le (base' := B) hown' (by have := HB.out.size; omega))
            obtain ⟨A2, c2, rfl, hin2⟩ := own_n (l := o ++ [(k : Int)]) (by rw [intsZ_snoc]; exact hown')
            have HI2 := Lib.hid hin2
            have hin5 := own_in HO5.out
            have HF5 := Lib.hid (HF.out.below HB5.out (Nat.le_refl _))
            clear hown' hgrow hb5 HO1 HB1 hin2 HVR HOR HMR
            go_wp2_with fail
            refine (l1Has_any o Ao co (k : Int) _ hin5 (by omega)).mono ?_
            rintro e w' ⟨rfl, rfl⟩
            cases hh : hasB o (k : Int)
            rotate_left
            · have HSP := Lib.hid (lpF_skip (rec := (rc (visM f.length a) (tmO m f) f.length D)) (s := S1) hh)
              clear hh hin5
              go_wp2
              go_roundw
              case rel => exact ⟨k + 1, by omega, by go_num, .inr HFG.out, by rw [HSP.out, ← HSK.out]; exact HV5.out, HO5.out, HM5.out, HB5.out⟩
              case measure => simp [intOf]; omega
            · have HSP := Lib.hid (lpF_step (rec := (rc (visM f.length a) (tmO m f) f.length D)) (s := S1) hh)
              have hok2 := okO_snoc HOK.out hlt hh
              have HOK2 := Lib.hid hok2
              have hlast := csLast_any m f A c (o ++ [(k : Int)]) A2 c2 w5 HF5.out (by omega) HI2.out (by simp; omega) HG.out HL.out (okO_in hok2)
              simp only [List.length_append, List.length_cons, List.length_nil, Nat.zero_add] at hlast
              have HLA := Lib.hid hlast
              have hrb := run_ok HG.out HL.out (okO_in hok2) _ (Nat.le_refl _)
              rw [List.take_length] at hrb
              have hrt := hrb.2.1
              obtain ⟨m0, m1, m2⟩ := HM5.out.cells
              have ml := HM5.out.lt
              clear hh hok2 hlast hin5 hrb
              go_wp2_with fail
              refine HLA.out.mono ?_
              rintro e w6 ⟨rfl, hb6⟩
              have HV6 := Lib.hid (own_below HV5.out hb6); have HO6 := Lib.hid (own_below HO5.out hb6); have HM6 := Lib.hid (HM5.out.next hb6)
              have HB6 := Lib.hid (HB5.out.trans (hb6.mono HB5.out.size)); have HN6 := Lib.hid (own_below HN5.out hb6)
              clear hb6 HV5 HO5 HM5 HB5 HN5 HLA m0 m1 m2 ml HF5 HI2
              have HTM : Hid (tmO m f (o ++ [(k : Int)]) = (run m f (o ++ [(k : Int)])).t) := Lib.hid rfl
              obtain ⟨T, hT⟩ : ∃ T, T = (run m f (o ++ [(k : Int)])).t := ⟨_, rfl⟩
              rw [← hT] at hrt HTM ⊢
              clear hT
              by_cases hlate : a < T
              · have HSQ : Hid (rc (visM f.length a) (tmO m f) f.length D (o ++ [(k : Int)]) Sk = Sk) := Lib.hid (rcM_late (by rw [HTM.out]; exact hlate))
                have hle : ¬ T ≤ a := by omega
                clear hlate
                go_wp2
                go_roundw
                case rel => exact ⟨k + 1, by omega, by go_num, .inr HFG.out, by rw [HSP.out, ← HSK.out, HSQ.out]; exact HV6.out, HO6.out, HM6.out, HB6.out⟩
                case measure => simp [intOf]; omega
              · have hle : T ≤ a := by omega
                have hrow2 : w6.ownsRow B 3 1 (.slice A2 (o.length + 1) c2) (o ++ [(k : Int)]).length (intsZ (o ++ [(k : Int)])) := by
                  rw [List.length_append, intsZ_snoc]; exact HN6.out
                have hcall := HIH.out (o ++ [(k : Int)]) Sk (.slice A2 (o.length + 1) c2) (.slice Av Sk.length cv) w6 (HF.out.below HB6.out (Nat.le_refl _)) HOK2.out (by rw [List.length_append]; show o.length + 1 + D = _; omega) (by rw [HTM.out]; exact hle) hln (by have := HB6.out.size; omega) hrow2 HV6.out
                have HCALL := Lib.hid hcall
                obtain ⟨m0, m1, m2⟩ := HM6.out.cells
                have ml := HM6.out.lt
                clear hlate hrow2 hcall
                go_wp2_with fail
                refine HCALL.out.mono ?_
                intro e w7 hto
                obtain ⟨v7, rfl, hb7, hown7⟩ := hto
                have HR7 := Lib.hid hown7
                have HO7 := Lib.hid (own_below HO6.out hb7); have HM7 := Lib.hid (HM6.out.next hb7)
                have HB7 := Lib.hid (HB6.out.trans (hb7.mono HB6.out.size))
                clear hb7 hown7 HCALL m0 m1 m2 ml HV6 HO6 HM6 HB6 HN6
                go_wp2
                go_roundw
                case rel => exact ⟨k + 1, by omega, by go_num, .inr HFG.out, by rw [HSP.out, ← HSK.out]; exact HR7.out, HO7.out, HM7.out, HB7.out⟩
                case measure => simp [intOf]; omega
        · obtain rfl : k = f.length := by omega
          have HR := Lib.hid (HAN.out HSK.out.symm (fun _ _ => trivial) (by rcases HFL.out with h | h; exact .inr h; exact .inl h) (fun h => by rcases HFL.out with h2 | h2; exact h2; exact absurd h2 h))
          go_wp2
          go_ret
          exact ⟨_, rfl, HB.out, by rw [HR.out]; exact HV.out⟩
end Go.Proofs.Ytpocghcdfpcedaa

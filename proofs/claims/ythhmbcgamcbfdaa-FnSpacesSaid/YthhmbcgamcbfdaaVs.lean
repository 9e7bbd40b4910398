/-
  The contract of spec.FewestSpaces.
-/
import Derived.Test.YthhmbcgamcbfdaaVe
import Derived.Test.YthhmbcgamcbfdaaVo
namespace Go.Proofs.Ythhmbcgamcbfdaa
open Go.RowKit
set_option linter.unusedVariables false

theorem ints_take {w : World} {A : Option Addr} {l : List Int} (h : IntsIn w A l) (k : Nat) (hk : k ≤ l.length) : IntsIn w A (l.take k) := fun hn => by
  rw [List.length_take] at hn
  obtain ⟨b, off, rfl, h2, h3⟩ := h (by omega)
  exact ⟨b, off, rfl, h2, fun j hj => by
    rw [List.length_take] at hj
    rw [List.getElem_take]; exact h3 j (by omega)⟩
theorem useC_is {ks : List Int} (hp : Pos ks) {k : Nat} (hk : k < ks.length) {n : Int} (h : LeftP ks (k + 1) n) {m : Nat} (ho : OptP ks k n ks[k] m) (hno : ∀ c, m < c → ¬ OptP ks k n ks[k] c) : useC ks n ks[k] = m := by
  have h1 := opt_le hp (List.getElem_mem hk) ho
  have h2 := opt_useC hp hk h
  rcases Nat.lt_or_ge m (useC ks n ks[k]) with h3 | h3
  · exact absurd h2 (hno _ h3)
  · omega
theorem useC_none {ks : List Int} (hp : Pos ks) {k : Nat} (hk : k < ks.length) {n : Int} (h : LeftP ks (k + 1) n) (hno : ∀ c, 0 < c → ¬ OptP ks k n ks[k] c) : useC ks n ks[k] = 0 := by
  have h2 := opt_useC hp hk h
  rcases Nat.eq_zero_or_pos (useC ks n ks[k]) with h3 | h3
  · exact h3
  · exact absurd h2 (hno _ h3)
noncomputable def outF (l : List Int) (N : Int) (k : Nat) : Nat → Value := fun j => .int .i64 (if l.length - k ≤ j ∧ j < l.length then (cntF l N j : Int) else 0)
theorem outF_set {l : List Int} {N : Int} {k : Nat} (hk : k < l.length) {m : Nat} (h : cntF l N (l.length - 1 - k) = m) : (fun j => if j = l.length - 1 - k then Value.int .i64 (m : Int) else outF l N k j) = outF l N (k + 1) := by
  funext j; unfold outF
  by_cases hj : j = l.length - 1 - k
  · subst hj; rw [if_pos rfl, if_pos (by omega), h]
  · rw [if_neg hj]
    by_cases h3 : l.length - k ≤ j ∧ j < l.length
    · rw [if_pos h3, if_pos (by omega)]
    · rw [if_neg h3, if_neg (by omega)]
theorem outF_keep {l : List Int} {N : Int} {k : Nat} (hk : k < l.length) (h : cntF l N (l.length - 1 - k) = 0) : outF l N k = outF l N (k + 1) := by
  funext j; unfold outF
  by_cases hj : j = l.length - 1 - k
  · subst hj; rw [if_neg (by omega), if_pos (by omega), h]; rfl
  · by_cases h3 : l.length - k ≤ j ∧ j < l.length
    · rw [if_pos h3, if_pos (by omega)]
    · rw [if_neg h3, if_neg (by omega)]
theorem cnt_at {l : List Int} {N : Int} {k : Nat} (hk : k < l.length) : cntF l N (l.length - 1 - k) = useC l (remF l N k) (l[l.length - 1 - k]'(by omega)) := by
  unfold cntF
  rw [show l.length - 1 - (l.length - 1 - k) = k from by omega, getD_of (by omega)]
theorem rem_succ {l : List Int} {N : Int} {k : Nat} (hk : k < l.length) : remF l N (k + 1) = remF l N k - (useC l (remF l N k) (l[l.length - 1 - k]'(by omega)) : Int) * (l[l.length - 1 - k]'(by omega)) := by
  show remF l N k - (useC l (remF l N k) (l.getD (l.length - 1 - k) 0) : Int) * l.getD (l.length - 1 - k) 0 = _
  rw [getD_of (by omega)]
theorem rem_is {l : List Int} {N : Int} {k : Nat} {v : Int} {m : Nat} (hv : l.getD (l.length - 1 - k) 0 = v) (h : useC l (remF l N k) v = m) : remF l N (k + 1) = remF l N k - (m : Int) * v ∧ (k < l.length → cntF l N (l.length - 1 - k) = m) := by
  subst hv
  refine ⟨by rw [← h]; rfl, fun hk => ?_⟩
  unfold cntF
  rw [show l.length - 1 - (l.length - 1 - k) = k from by omega]
  exact h
theorem rem_range {l : List Int} (hp : Pos l) {N : Int} (h : Can l N) : ∀ k : Nat, k ≤ l.length → 0 ≤ remF l N k ∧ remF l N k ≤ N
  | 0, _ => ⟨can_nonneg hp h, Int.le_refl _⟩
  | k + 1, hk => by
    have ih := rem_range hp h k (by omega)
    have h1 := can_nonneg hp (rem_left hp h (k + 1) hk).1
    rw [rem_succ (by omega)] at h1 ⊢
    have := nat_mul_nonneg (hp _ (List.getElem_mem (show l.length - 1 - k < l.length by omega))) (useC l (remF l N k) (l[l.length - 1 - k]'(by omega)))
    omega

set_option maxRecDepth 100000 in
set_option maxHeartbeats 4000000 in
theorem specFewestSpaces_any (l : List Int) (A : Option Addr) (c : Nat) (n : Int) (w : World) (hf : IntsIn w A l) (hlen : l.length ≤ 1048576) (hcap : l.length ≤ c) :
    Calls Try.prog 6 #[.slice A l.length c, .int .i64 n] w fun e w' => ∃ v T, e = .returned (.tuple #[v, .bool (canV l n)]) ∧ Below w.heap.size w w' ∧ w'.ownsRow w.heap.size T 1 v (fewL l n).length (intsZ (fewL l n)) := by
  have HF := Lib.hid hf; clear hf
  cases ha : wAsk l n
  · have HC : Hid (canV l n = false) := Lib.hid (by unfold canV; rw [ha]; rfl)
    have HV := Lib.hid (fewL_no (ks := l) (n := n) HC.out)
    have HA := Lib.hid ha; clear ha
    go_enter Try.func6, Try.ntmps6
    go_wp2_with fail
    refine (wsAsked_any l A c n _ HF.out hlen).mono ?_
    rintro e w' ⟨rfl, rfl⟩
    rw [HA.out]
    go_wp2
    go_ret2
    exact ⟨_, 3, by rw [HC.out]; rfl, Below.refl _ _, by rw [HV.out]; exact own_nil _ _ _ _⟩
  have HA := Lib.hid ha
  obtain ⟨hg, h0, h4⟩ := wAsk_iff.1 ha
  obtain ⟨N, rfl⟩ : ∃ N : Nat, n = (N : Int) := ⟨n.toNat, by omega⟩
  have hN4 : N ≤ 400 := by omega
  have hN1 : (N : Int) < (N : Int) + 1 := by omega
  have HG := Lib.hid hg
  have hl6 := hg.six
  have hl1 := hg.one
  clear hg ha
  go_enter Try.func6, Try.ntmps6
  go_wp2_with fail
  refine (wsAsked_any l A c (N : Int) _ HF.out hlen).mono ?_
  rintro e w' ⟨rfl, rfl⟩
  rw [HA.out]
  go_wp2_with fail
  refine (wsFew_any l A c N _ HF.out hlen HG.out.pos (fun j hj => HG.out.le hj) hN4).mono ?_
  intro e w1 hto
  obtain ⟨rfl, hb1, ht1⟩ := hto
  have HB1 := Lib.hid hb1
  have e0 := ht1.cell (j := N) (by omega)
  clear ht1 hb1
  by_cases hcan : Can l (N : Int)
  · have hq := fewV_can.2 hcan
    have HC := Lib.hid hcan
    have ha : canV l (N : Int) = true := canV_iff.2 ⟨HA.out, hcan⟩
    have HV := Lib.hid (fewL_yes (ks := l) (n := (N : Int)) ha)
    have HCV := Lib.hid ha
    clear hcan ha
    obtain ⟨b, off, rfl, hbl, hc⟩ := HF.out (by omega)
    have HKC := Lib.hid hc
    clear hc
    generalize fewV l (N : Int) = q at *
    go_wp2_with fail
    refine (wsFew_any l _ c N w1 (HF.out.below HB1.out (Nat.le_refl _)) hlen HG.out.pos (fun j hj => HG.out.le hj) hN4).mono ?_
    intro e w2 hto
    obtain ⟨rfl, hb2, ht2⟩ := hto
    have HB2 := Lib.hid (HB1.out.trans (hb2.mono HB1.out.size))
    have HT2 := Lib.hid ht2
    have hw12 : w1.heap.size < w2.heap.size := ht2.lt
    have hsz : w.heap.size ≤ w1.heap.size := HB1.out.size
    clear hb2 ht2 e0 hq
    obtain ⟨w3, hw3⟩ : ∃ x : World, x = w2.alloc (.cells (madeCells #[.int .i64 0] (l.length * 1)) 3) := ⟨_, rfl⟩
    have hmk : (Instr.makeSlice 23 (.int .i64 (l.length : Int)) (.int .i64 (l.length : Int))).run Try.prog w2 = .ok (.slice (some ⟨w2.heap.size, 0, none⟩) l.length l.length) w3 := by rw [hw3]; exact run_makeI l.length hlen w2
    have b3 : Below w2.heap.size w2 w3 := by rw [hw3]; exact (Below.refl _ _).alloc (Nat.le_refl _) _
    have HT3 := Lib.hid (HT2.out.next b3)
    have HO3 : Hid (Tb w3 w2.heap.size 3 l.length (outF l (N : Int) 0)) := Lib.hid (by
      rw [hw3]; exact (made_int _ _ _).cong (fun j hj => by unfold outF; rw [if_neg (by omega)]))
    have HB3 := Lib.hid (HB2.out.trans (b3.mono HB2.out.size))
    have hll : (1 : Int) ≤ (l.length : Int) := by omega
    clear b3 hw3
    go_wp2
    go_loopw [1, 8] (fun nv kv wr => ∃ k : Nat, k ≤ l.length ∧ nv = .int .i64 (remF l (N : Int) k) ∧ kv = .int .i64 ((l.length : Int) - 1 - (k : Int)) ∧ Tb wr w2.heap.size 3 l.length (outF l (N : Int) k) ∧ Tb wr w1.heap.size 3 (N + 1) (fun j => .int .i64 (fewV l (j : Int))) ∧ Below w.heap.size w wr) (fun _ kv _ => (intOf kv + 1).toNat)
    case atStart => exact ⟨0, Nat.zero_le _, rfl, by simp, HO3.out, HT3.out, HB3.out⟩
    case round =>
      obtain ⟨k, hk, rfl, rfl, ho, ht, hb⟩ := hrel
      clear hmk
      by_cases hlt : k < l.length
      · obtain ⟨i, hi⟩ : ∃ i, i = l.length - 1 - k := ⟨_, rfl⟩
        have hil : i < l.length := by omega
        have hii : (l.length : Int) - 1 - (k : Int) = (i : Int) := by omega
        have hil' : (i : Int) < (l.length : Int) := by omega
        have hi0 : (0 : Int) ≤ (i : Int) := by omega
        have hrr := rem_range HG.out.pos HC.out k hk
        obtain ⟨R, hR⟩ : ∃ R : Nat, remF l (N : Int) k = (R : Int) := ⟨_, (Int.toNat_of_nonneg hrr.1).symm⟩
        have hv1 := HG.out.pos.get hil
        have hv54 := HG.out.le hil
        obtain ⟨V, hV⟩ : ∃ V : Nat, l[i] = (V : Int) := ⟨l[i].toNat, by omega⟩
        have HMV : Hid (l.getD i 0 = (V : Int)) := Lib.hid (by rw [getD_of hil]; exact hV)
        have HLP := Lib.hid (rem_left HG.out.pos HC.out k hk)
        rw [hR, show l.length - k = i + 1 from by omega] at HLP
        have HIS : Hid (∀ m, OptP l i (R : Int) (V : Int) m → (∀ c, m < c → ¬ OptP l i (R : Int) (V : Int) c) → useC l (R : Int) (V : Int) = m) := Lib.hid (fun m h1 h2 => by
          rw [← hV] at h1 h2 ⊢; exact useC_is HG.out.pos hil HLP.out h1 h2)
        have HI0 : Hid ((∀ c, 0 < c → ¬ OptP l i (R : Int) (V : Int) c) → useC l (R : Int) (V : Int) = 0) := Lib.hid (fun h2 => by
          rw [← hV] at h2 ⊢; exact useC_none HG.out.pos hil HLP.out h2)
        have HRM : Hid (∀ m, useC l (R : Int) (V : Int) = m → remF l (N : Int) (k + 1) = (R : Int) - (m : Int) * (V : Int) ∧ cntF l (N : Int) i = m) := Lib.hid (fun m h => by
          have h1 := rem_is (l := l) (N := (N : Int)) (k := k) (v := (V : Int)) (m := m) (by rw [← hi]; exact HMV.out) (by rw [hR]; exact h)
          rw [hR, ← hi] at h1
          exact ⟨h1.1, h1.2 hlt⟩)
        have HOS : Hid (∀ m, cntF l (N : Int) i = m → (fun j => if j = i then Value.int .i64 (m : Int) else outF l (N : Int) k j) = outF l (N : Int) (k + 1)) := Lib.hid (fun m h => by
          have := outF_set (l := l) (N := (N : Int)) hlt (m := m) (by rw [← hi]; exact h)
          rw [← hi] at this; exact this)
        have HOK : Hid (cntF l (N : Int) i = 0 → outF l (N : Int) k = outF l (N : Int) (k + 1)) := Lib.hid (fun h => outF_keep hlt (by rw [← hi]; exact h))
        have ev := (hb.cell (p := ⟨b, off + i, none⟩) hbl).trans (HKC.out i hil)
        rw [hV] at ev hv1 hv54
        rw [hR] at hrr
        obtain ⟨Q, hQ⟩ : ∃ Q, Q = R / V := ⟨_, rfl⟩
        have hQd : (R : Int).tdiv (V : Int) = (Q : Int) := by rw [hQ]; exact (Int.ofNat_tdiv R V).symm
        have hQ4 : Q ≤ 400 := by have := Nat.div_le_self R V; omega
        have HQV : Hid (∀ m, m ≤ Q → m * V ≤ R) := Lib.hid (fun m hm => by
          have h1 : m * V ≤ Q * V := Nat.mul_le_mul_right V hm
          have h2 : Q * V ≤ R := by rw [hQ]; exact Nat.div_mul_le_self R V
          omega)
        have HN0 : Hid (∀ c, Q < c → ¬ OptP l i (R : Int) (V : Int) c) := Lib.hid (fun cc hcc ho => by
          have h1 := can_nonneg (HG.out.pos.take i) (fewV_can.1 ho.1)
          rw [← Int.natCast_mul] at h1
          have h2 : cc * V ≤ R := by omega
          have h3 : cc ≤ R / V := (Nat.le_div_iff_mul_le (by omega)).2 h2
          omega)
        have hvne : ¬ (V : Int) = 0 := by omega
        have HO := Lib.hid ho; have HT := Lib.hid ht; have HB := Lib.hid hb
        have hci : i ≤ c := by omega
        have hci' : (i : Int) ≤ (c : Int) := by omega
        have HNXT : Hid ((l.length : Int) - 1 - ((k + 1 : Nat) : Int) = (i : Int) - 1) := Lib.hid (by omega)
        have HII : Hid ((l.length : Int) - 1 - (k : Int) = (i : Int)) := Lib.hid hii
        rw [hR, hii]
        clear hi hii hV hR hQ ho ht hb
        generalize hwx : wr = wx at *
        clear hwx
        go_wp2
        go_loopw [1, 9] (fun nv mv wr => ∃ m : Nat, m ≤ Q ∧ nv = .int .i64 (R : Int) ∧ mv = .int .i64 (m : Int) ∧ (∀ c, m < c → ¬ OptP l i (R : Int) (V : Int) c) ∧ Tb wr w2.heap.size 3 l.length (outF l (N : Int) k) ∧ Tb wr w1.heap.size 3 (N + 1) (fun j => .int .i64 (fewV l (j : Int))) ∧ Below w.heap.size w wr) (fun _ mv _ => (intOf mv).toNat)
        case atStart => exact ⟨Q, Nat.le_refl _, rfl, rfl, HN0.out, HO.out, HT.out, HB.out⟩
        case round =>
          obtain ⟨m, hm, rfl, rfl, hno, ho, ht, hb⟩ := hrel
          have HNO := Lib.hid hno
          clear hno ev
          have hgo := ho.lt; have hgt := ht.lt
          cases m with
          | zero =>
            obtain ⟨h1, h2⟩ := HRM.out 0 (HI0.out HNO.out)
            have HR1 : Hid (remF l (N : Int) (k + 1) = (R : Int)) := Lib.hid (by rw [h1]; simp)
            have HO1 := Lib.hid (by have h := ho; rw [HOK.out h2] at h; exact h)
            have HT1 := Lib.hid ht; have HB1' := Lib.hid hb
            clear h1 h2 ho ht hb
            go_wp2
            go_roundw
            case rel => exact ⟨k + 1, by omega, by rw [HR1.out], by rw [HNXT.out], HO1.out, HT1.out, HB1'.out⟩
            case measure => simp [intOf] <;> omega
          | succ m' =>
            obtain ⟨m, hmm⟩ : ∃ m, m = m' + 1 := ⟨_, rfl⟩
            have hm1 : ((m' + 1 : Nat) : Int) = (m : Int) := by rw [hmm]
            have hmQ : m ≤ Q := by omega
            have HM1 : Hid ((m : Int) - 1 = (m' : Int)) := Lib.hid (by omega)
            obtain ⟨p, hp⟩ : ∃ p, p = m * V := ⟨_, rfl⟩
            have hmp : (m : Int) * (V : Int) = (p : Int) := by rw [hp]; exact (Int.natCast_mul m V).symm
            have hpR : p ≤ R := by rw [hp]; exact HQV.out m hmQ
            obtain ⟨D, hD⟩ : ∃ D, D = R - p := ⟨_, rfl⟩
            have hDi : (R : Int) - (p : Int) = (D : Int) := by omega
            have hD4 : D ≤ 400 := by omega
            have htl : (l.take i).length = i := by rw [List.length_take]; omega
            have hHWF : ∀ W, Below wr.heap.size wr W → Calls Try.prog 24 #[.slice (some ⟨b, off, none⟩) i c, .int .i64 (D : Int)] W fun e w' => FewTo (l.take i) D W w' e := fun W hW => by
              have h := wsFew_any (l.take i) (some ⟨b, off, none⟩) c D W ((ints_take HF.out i (by omega)).below (hb.trans (hW.mono hb.size)) (Nat.le_refl _)) (by omega) (HG.out.pos.take i) (fun j hj => by rw [List.getElem_take]; exact HG.out.le _) hD4
              rw [htl] at h; exact h
            have HWF := Lib.hid hHWF
            have hOPT : OptP l i (R : Int) (V : Int) m ↔ 0 ≤ fewV (l.take i) (D : Int) ∧ fewV (l.take i) (D : Int) + (m : Int) = fewV l (R : Int) := by
              unfold OptP; rw [hmp, hDi]
            have HOPT := Lib.hid hOPT
            have HMP : Hid ((R : Int) - (m : Int) * (V : Int) = (D : Int)) := Lib.hid (by rw [hmp, hDi])
            have HMM := Lib.hid hmm
            have hm4 : 1 ≤ m := by omega
            have hbw := Nat.lt_of_lt_of_le hbl hb.size
            have ev := KeptW.cell ((hb.cell (p := ⟨b, off + i, none⟩) hbl).trans (HKC.out i hil)) hbw
            rw [← getD_of hil, HMV.out] at ev
            have HO1 := Lib.hid ho; have HT1 := Lib.hid ht; have HB1' := Lib.hid hb
            rw [hm1]
            clear hHWF hOPT hp hpR hD hmm hm1 ho ht hb htl hm
            go_wp2_with fail
            refine region_mid wr.heap.size 11 (by kernel_rfl) (by kernel_rfl) rfl ?_
            simp only [List.take_succ_cons, List.take_zero]
            repeat (go_big_quiet_step (fail))
            refine wpQuiet_nil ?_
            intro w5 hb5 K hK
            have HB5 := Lib.hid hb5
            go_simp
            go_at_call 24
            refine (HWF.out w5 HB5.out).mono ?_
            intro e w6 hto
            obtain ⟨rfl, hb6, ht6⟩ := hto
            have hb56 := HB5.out.trans (hb6.mono HB5.out.size)
            have HB6 := Lib.hid (HB1'.out.trans (hb56.mono HB1'.out.size))
            have HO6 := Lib.hid (HO1.out.next hb56); have HT6 := Lib.hid (HT1.out.next hb56)
            have HF6 := Lib.hid ht6
            clear hb5 hb6 hb56 ht6 ev
            refine hK _ _ ?_
            clear hK
            simp only [List.drop_succ_cons, List.drop_zero]
            repeat (go_big_quiet_step (fail))
            refine wpQuiet_nil ?_
            have eq := HF6.out.cell (j := D) (by omega)
            have eP := HT6.out.cell (j := R) (by omega)
            have hOPT := HOPT.out
            have hRN1 : (R : Int) < (N : Int) + 1 := by omega
            have hR0 : (0 : Int) ≤ (R : Int) := by omega
            have hDD : ((D : Int) + 1 - 1) = (D : Int) := by omega
            have hqr := fewV_range (ks := l.take i) (HG.out.pos.take i) (n := (D : Int)) (by omega)
            have hPr := fewV_range (ks := l) HG.out.pos (n := (R : Int)) hR0
            clear HOPT
            generalize fewV (l.take i) (D : Int) = q at *
            generalize fewV l (R : Int) = P at *
            have ev := (HB6.out.cell (p := ⟨b, off + i, none⟩) hbl).trans (HKC.out i hil)
            rw [← getD_of hil, HMV.out] at ev
            by_cases hq0 : 0 ≤ q
            · have hd1 : decide (0 ≤ q) = true := decide_eq_true hq0
              by_cases hqP : q + (m : Int) = P
              · have hd2 : (q + (m : Int) == P) = true := by simp [hqP]
                obtain ⟨h1, h2⟩ := HRM.out m (HIS.out m (hOPT.2 ⟨hq0, hqP⟩) (fun cc hcc => HNO.out cc (by rw [← HMM.out]; exact hcc)))
                have HR1 : Hid (remF l (N : Int) (k + 1) = (D : Int)) := Lib.hid (by rw [h1, HMP.out])
                have eo := HO6.out.cell hil
                have fo := HO6.out.free i
                have HO7 := Lib.hid (by have h := HO6.out.set i (.int .i64 (m : Int)); rw [HOS.out m h2] at h; exact h)
                have hne : ¬ w1.heap.size = w2.heap.size := by omega
                have HT7 := Lib.hid (HT6.out.other (c := w2.heap.size) (i := i) (.int .i64 (m : Int)) hne)
                have HB7 := Lib.hid (HB6.out.setCell (p := ⟨w2.heap.size, i, none⟩) (by show w.heap.size ≤ w2.heap.size; omega) (.int .i64 (m : Int)))
                have ev7 := (HB7.out.cell (p := ⟨b, off + i, none⟩) hbl).trans (HKC.out i hil)
                rw [← getD_of hil, HMV.out] at ev7
                clear hOPT h1 h2 hqP
                go_wp2
                go_roundw
                case rel => exact ⟨k + 1, by omega, by rw [HR1.out], by rw [HNXT.out], HO7.out, HT7.out, HB7.out⟩
                case measure => simp [intOf] <;> omega
              · have hd2 : (q + (m : Int) == P) = false := by simpa using hqP
                have HNN : Hid (∀ cc, m' < cc → ¬ OptP l i (R : Int) (V : Int) cc) := Lib.hid (fun cc hcc ho => by
                  rcases Nat.lt_or_ge (m' + 1) cc with h1 | h1
                  · exact HNO.out cc h1 ho
                  · obtain rfl : cc = m := by have := HMM.out; omega
                    exact hqP (hOPT.1 ho).2)
                clear hOPT
                go_wp2
                go_roundw
                case rel => exact ⟨m', by have := HMM.out; omega, rfl, by rw [HM1.out], HNN.out, HO6.out, HT6.out, HB6.out⟩
                case measure => have := HM1.out; simp [intOf] <;> omega
            · have hd1 : decide (0 ≤ q) = false := decide_eq_false hq0
              have HNN : Hid (∀ cc, m' < cc → ¬ OptP l i (R : Int) (V : Int) cc) := Lib.hid (fun cc hcc ho => by
                rcases Nat.lt_or_ge (m' + 1) cc with h1 | h1
                · exact HNO.out cc h1 ho
                · obtain rfl : cc = m := by have := HMM.out; omega
                  exact hq0 (hOPT.1 ho).1)
              clear hOPT
              go_wp2
              go_roundw
              case rel => exact ⟨m', by have := HMM.out; omega, rfl, by rw [HM1.out], HNN.out, HO6.out, HT6.out, HB6.out⟩
              case measure => have := HM1.out; simp [intOf] <;> omega
      · obtain rfl : k = l.length := by omega
        have hkk : (l.length : Int) - 1 - (l.length : Int) = -1 := by omega
        have hfl : (fewL l (N : Int)).length = l.length := by rw [HV.out]; simp
        have HOW : Hid (wr.ownsRow w.heap.size 3 1 (.slice (some ⟨w2.heap.size, 0, none⟩) l.length l.length) (fewL l (N : Int)).length (intsZ (fewL l (N : Int)))) := Lib.hid (by
          have h := Tb.own (l := fewL l (N : Int)) (base := w.heap.size) (by rw [hfl]; exact ho) (by omega) (by rw [hfl]; unfold maxLen; omega) (fun j hj => by
            unfold outF; rw [if_pos (by omega)]; simp only [HV.out, List.getElem_map, List.getElem_range])
          rw [hfl] at h ⊢; exact h)
        have HB9 := Lib.hid hb
        rw [hkk]
        clear ho ht hb hkk hfl
        go_wp2
        go_ret2
        exact ⟨_, 3, by rw [HCV.out]; rfl, HB9.out, HOW.out⟩
  · have hq := fewV_neg.2 hcan
    have HC : Hid (canV l (N : Int) = false) := Lib.hid (by
      cases h : canV l (N : Int) with
      | false => rfl
      | true => exact absurd (canV_iff.1 h).2 hcan)
    have HV := Lib.hid (fewL_no (ks := l) (n := (N : Int)) HC.out)
    clear hcan
    generalize fewV l (N : Int) = q at *
    go_wp2
    go_ret2
    exact ⟨_, 3, by rw [HC.out]; rfl, HB1.out, by rw [HV.out]; exact own_nil _ _ _ _⟩
end Go.Proofs.Ythhmbcgamcbfdaa

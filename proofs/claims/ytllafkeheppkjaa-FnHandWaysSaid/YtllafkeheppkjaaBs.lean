/-
  The contracts of spec.BestSwap and impl.BestSwap: the first exchange for which the way is least.
-/
import Derived.Test.YtllafkeheppkjaaSz
import Derived.Test.YtllafkeheppkjaaWk
import Derived.OwnWalk
namespace Go.Proofs.Ytllafkeheppkjaa
open Go.RowKit
set_option linter.unusedVariables false

/-- The way behind an exchange. -/
def swW (l : List Bx) (is : List Nat) (a b : Nat) : Int := wayI (swapL l a b) is
def bsUpd (l : List Bx) (is : List Nat) (st : Option (Nat × Nat)) (a b : Nat) : Option (Nat × Nat) :=
  match st with
  | none => some (a, b)
  | some (x, y) => if swW l is a b < swW l is x y then some (a, b) else some (x, y)
/-- Behind the pairs (a, a + 1) .. (a, a + n). -/
def bsC (l : List Bx) (is : List Nat) (st : Option (Nat × Nat)) (a : Nat) : Nat → Option (Nat × Nat)
  | 0 => st
  | n + 1 => bsUpd l is (bsC l is st a n) a (a + 1 + n)
/-- Behind all pairs whose first is less than a. -/
def bsR (l : List Bx) (is : List Nat) (s0 : Option (Nat × Nat)) : Nat → Option (Nat × Nat)
  | 0 => s0
  | a + 1 => bsC l is (bsR l is s0 a) a (l.length - (a + 1))
def bsX (st : Option (Nat × Nat)) : Int := match st with | none => -1 | some p => p.1
def bsY (st : Option (Nat × Nat)) : Int := match st with | none => -1 | some p => p.2
def bsW (l : List Bx) (is : List Nat) (st : Option (Nat × Nat)) : Int := match st with | none => 0 | some p => swW l is p.1 p.2
theorem bsUpd_none (l : List Bx) (is : List Nat) (a b : Nat) : bsUpd l is none a b = some (a, b) := rfl
theorem bsUpd_lt {l : List Bx} {is : List Nat} {a b x y : Nat} (h : swW l is a b < swW l is x y) : bsUpd l is (some (x, y)) a b = some (a, b) := by
  show (if _ then _ else _) = _; rw [if_pos h]
theorem bsUpd_ge {l : List Bx} {is : List Nat} {a b x y : Nat} (h : ¬ swW l is a b < swW l is x y) : bsUpd l is (some (x, y)) a b = some (x, y) := by
  show (if _ then _ else _) = _; rw [if_neg h]
/-- Whether one starts with nothing or with the first pair: the same comes out behind the first row. -/
theorem bsC_first (l : List Bx) (is : List Nat) : ∀ n : Nat, bsC l is (some (0, 1)) 0 (n + 1) = bsC l is none 0 (n + 1)
  | 0 => by
    show bsUpd l is (some (0, 1)) 0 1 = bsUpd l is none 0 1
    rw [bsUpd_ge (by omega), bsUpd_none]
  | n + 1 => by
    show bsUpd l is (bsC l is (some (0, 1)) 0 (n + 1)) 0 _ = bsUpd l is (bsC l is none 0 (n + 1)) 0 _
    rw [bsC_first l is n]
theorem bsR_first {l : List Bx} (is : List Nat) (h : 2 ≤ l.length) : ∀ a : Nat, bsR l is (some (0, 1)) (a + 1) = bsR l is none (a + 1)
  | 0 => by
    show bsC l is (some (0, 1)) 0 (l.length - 1) = bsC l is none 0 (l.length - 1)
    rw [show l.length - 1 = (l.length - 2) + 1 from by omega, bsC_first]
  | a + 1 => by
    show bsC l is (bsR l is (some (0, 1)) (a + 1)) _ _ = bsC l is (bsR l is none (a + 1)) _ _
    rw [bsR_first is h a]
theorem bsUpd_isSome (l : List Bx) (is : List Nat) (st : Option (Nat × Nat)) (a b : Nat) : (bsUpd l is st a b).isSome = true := by
  cases st with
  | none => rfl
  | some p => obtain ⟨x, y⟩ := p; show (if _ then _ else _ : Option _).isSome = true; split <;> rfl
theorem bsC_isSome {l : List Bx} {is : List Nat} {st : Option (Nat × Nat)} {a : Nat} : ∀ n : Nat, (st.isSome = true ∨ 0 < n) → (bsC l is st a n).isSome = true
  | 0, h => by
    rcases h with h | h
    · exact h
    · exact absurd h (Nat.lt_irrefl 0)
  | n + 1, _ => bsUpd_isSome _ _ _ _ _
theorem bsR_isSome {l : List Bx} {is : List Nat} (h : 2 ≤ l.length) : ∀ a : Nat, (bsR l is none (a + 1)).isSome = true
  | 0 => bsC_isSome (l.length - (0 + 1)) (.inr (by omega))
  | a + 1 => bsC_isSome _ (.inl (bsR_isSome h a))
/-- The pair is one of two different boxes. -/
def bsIn (l : List Bx) (st : Option (Nat × Nat)) : Prop := ∀ p, st = some p → p.1 < l.length ∧ p.2 < l.length
theorem bsUpd_in {l : List Bx} {is : List Nat} {st : Option (Nat × Nat)} {a b : Nat} (h : bsIn l st) (ha : a < l.length) (hb : b < l.length) : bsIn l (bsUpd l is st a b) := by
  cases st with
  | none => intro p e; obtain rfl := Option.some.inj e; exact ⟨ha, hb⟩
  | some q =>
    obtain ⟨x, y⟩ := q
    show bsIn l (if _ then _ else _)
    split
    · intro p e; obtain rfl := Option.some.inj e; exact ⟨ha, hb⟩
    · exact h
/-- The answer of BestSwap. -/
noncomputable def bsA (l : List Bx) (cs : List ByteArray) : Option (Nat × Nat) := if askB2 l cs = true ∧ 2 ≤ l.length then bsR l (ixs l cs) none l.length else none
noncomputable def bsV (l : List Bx) (cs : List ByteArray) : Int := match bsA l cs with | none => 0 | some p => swW l (ixs l cs) p.1 p.2
theorem bsA_no {l : List Bx} {cs : List ByteArray} (h : askB2 l cs = false ∨ l.length < 2) : bsA l cs = none := by
  unfold bsA
  rw [if_neg]
  rintro ⟨h1, h2⟩
  rcases h with h | h
  · rw [h] at h1; cases h1
  · omega
theorem bsA_yes {l : List Bx} {cs : List ByteArray} (h : askB2 l cs = true) (h2 : 2 ≤ l.length) : bsA l cs = bsR l (ixs l cs) none l.length ∧ ∃ p, bsR l (ixs l cs) none l.length = some p := by
  refine ⟨by unfold bsA; rw [if_pos ⟨h, h2⟩], ?_⟩
  have := bsR_isSome (l := l) (is := ixs l cs) h2 (l.length - 1)
  rw [show l.length - 1 + 1 = l.length from by omega] at this
  exact Option.isSome_iff_exists.1 this
theorem ixs_swap {l : List Bx} {cs : List ByteArray} {a b : Nat} (ha : a < l.length) (hb : b < l.length) : ixs (swapL l a b) cs = ixs l cs := by
  unfold ixs kI
  simp only [swapL_caI ha hb]
theorem allIn_swap {l : List Bx} {cs : List ByteArray} {a b : Nat} (ha : a < l.length) (hb : b < l.length) (h : AllIn l cs) : AllIn (swapL l a b) cs := fun k hk => by rw [swapL_caI ha hb]; exact h k hk
theorem wayI_range {l : List Bx} {cs : List ByteArray} (hp : Places l) (ha : AllIn l cs) (h60 : cs.length ≤ 60) : 0 ≤ wayI l (ixs l cs) ∧ wayI l (ixs l cs) ≤ 1080 := by
  have h := runW_range _ (ten_of hp ha) cs.length (by simp [ixs])
  rw [List.take_of_length_le (by simp [ixs])] at h
  unfold wayI; omega

set_option maxRecDepth 100000 in
set_option maxHeartbeats 4000000 in
theorem specBestSwap_yes (l : List Bx) (A : Option Addr) (c : Nat) (cs : List ByteArray) (B : Option Addr) (d : Nat) (w : World) (hf : BxsIn w A l) (hn : l.length ≤ 1048576) (ho : BxsOk l) (hcap : l.length ≤ c) (hs : StrsIn w B cs) (hso : StrsOk cs) (hm : cs.length ≤ 1048576) (hv : askB2 l cs = true) (h2 : 2 ≤ l.length) :
    Calls Try.prog 35 #[.slice A l.length c, .slice B cs.length d] w fun e w' => e = .returned (.tuple #[.int .i64 (bsX (bsR l (ixs l cs) none l.length)), .int .i64 (bsY (bsR l (ixs l cs) none l.length)), .int .i64 (bsW l (ixs l cs) (bsR l (ixs l cs) none l.length)), .bool true]) ∧ Below w.heap.size w w' := by
  have HF := Lib.hid hf; clear hf
  have HO := Lib.hid ho; clear ho
  have HS := Lib.hid hs; clear hs
  obtain ⟨hC, hA, hL⟩ := askB2_all hv
  have h32 : l.length ≤ 32 := hC.2.2
  have HC := Lib.hid hC; have HA := Lib.hid hA; clear hC hA
  have HV := Lib.hid hv; clear hv
  have hlt2 : ¬ (l.length : Int) < 2 := by omega
  obtain ⟨is, his⟩ : ∃ is, is = ixs l cs := ⟨_, rfl⟩
  have HIS := Lib.hid his
  rw [← his]
  clear his
  go_enter Try.func35, Try.ntmps35
  go_wp2_with fail
  refine (caAsked_is l _ A c cs B d _ HF.out hn HO.out hcap HS.out hso hm HV).mono ?_
  rintro e w1 ⟨rfl, hb1⟩
  have HB1 := Lib.hid hb1; clear hb1
  go_wp2
  go_loopw [8, 9, 10, 25] (fun x y z i wr => ∃ (a : Nat), a ≤ l.length ∧ i = .int .i64 a ∧ x = .int .i64 (bsX (bsR l is none a)) ∧ y = .int .i64 (bsY (bsR l is none a)) ∧ z = .int .i64 (bsW l is (bsR l is none a)) ∧ bsIn l (bsR l is none a) ∧ Below w.heap.size w wr) (fun _ _ _ i _ => l.length - (intOf i).toNat)
  case atStart => exact ⟨0, Nat.zero_le _, rfl, rfl, rfl, rfl, (fun p e => by cases e), HB1.out⟩
  case round =>
    obtain ⟨a, ha, rfl, rfl, rfl, rfl, hin, hb⟩ := hrel
    by_cases hlt : a < l.length
    · have hal : (a : Int) < (l.length : Int) := by omega
      have HRN : Hid (bsR l is none (a + 1) = bsC l is (bsR l is none a) a (l.length - (a + 1))) := Lib.hid rfl
      have HIN := Lib.hid hin; have HB := Lib.hid hb; clear hin hb
      generalize bsR l is none a = S at *
      go_wp2
      go_loopw [8, 9, 10, 12] (fun x y z i wi => ∃ (n : Nat), a + 1 + n ≤ l.length ∧ i = .int .i64 ((a + 1 + n : Nat) : Int) ∧ x = .int .i64 (bsX (bsC l is S a n)) ∧ y = .int .i64 (bsY (bsC l is S a n)) ∧ z = .int .i64 (bsW l is (bsC l is S a n)) ∧ bsIn l (bsC l is S a n) ∧ Below w.heap.size w wi) (fun _ _ _ i _ => l.length - (intOf i).toNat)
      case atStart => exact ⟨0, by omega, by go_num, rfl, rfl, rfl, HIN.out, HB.out⟩
      case round =>
        obtain ⟨n, hn1, rfl, rfl, rfl, rfl, hin2, hb2⟩ := hrel
        by_cases hlt3 : a + 1 + n < l.length
        · have hbl : ((a + 1 + n : Nat) : Int) < (l.length : Int) := by omega
          have HCN : Hid (bsC l is S a (n + 1) = bsUpd l is (bsC l is S a n) a (a + 1 + n)) := Lib.hid rfl
          have HIN2 := Lib.hid hin2; have HBO := Lib.hid hb2
          have HUI := Lib.hid (bsUpd_in (is := is) hin2 hlt hlt3)
          have hnx : ((a + 1 + (n + 1) : Nat) : Int) = ((a + 1 + n : Nat) : Int) + 1 := by omega
          have HNX := Lib.hid hnx
          have hnn : a + 1 + (n + 1) ≤ l.length := by omega
          clear hin2 hb2 hnx hn1
          generalize bsC l is S a n = T at *
          generalize a + 1 + n = b at *
          have HF1 := Lib.hid (HF.out.below HBO.out (Nat.le_refl _)); have HS1 := Lib.hid (HS.out.below HBO.out (Nat.le_refl _))
          go_wp2_with fail
          refine (caSwap_any l A c a b _ HF1.out hn hlt hlt3).mono ?_
          intro e w3 hto
          obtain ⟨v, rfl, hb3, hown⟩ := hto
          obtain ⟨A3, c3, rfl⟩ := own_form_bx hown
          have HSW := Lib.hid (own_in_bx hown)
          have HS3 := Lib.hid (HS1.out.below hb3 (Nat.le_refl _))
          have HB3 := Lib.hid (HBO.out.trans (hb3.mono HBO.out.size))
          have hsl := swapL_len l a b
          have hPL := swapL_places hlt hlt3 HC.out.places
          have hAI := allIn_swap hlt hlt3 HA.out
          have hix := ixs_swap (cs := cs) hlt hlt3
          have hcw := caWay_any (swapL l a b) A3 c3 cs B d w3 HSW.out (by rw [hsl]; exact hn) HS3.out hPL hAI hL
          have hwr := wayI_range hPL hAI hL
          rw [hix, ← HIS.out] at hcw hwr
          have hcw2 : Calls Try.prog 63 #[.slice A3 (swapL l a b).length c3, .slice B cs.length d] w3 fun e w' => e = .returned (.int .i64 (swW l is a b)) ∧ Below w3.heap.size w3 w' := hcw
          have hwr2 : 0 ≤ swW l is a b ∧ swW l is a b ≤ 1080 := hwr
          have HCW := Lib.hid hcw2
          clear hown hb3 hPL hAI hix hcw hcw2 hwr hsl
          go_wp2_with fail
          refine HCW.out.mono ?_
          rintro e w4 ⟨rfl, hb4⟩
          have HB4 := Lib.hid (HB3.out.trans (hb4.mono HB3.out.size))
          clear hb4
          cases T with
          | none =>
            have HN : Hid (bsC l is S a (n + 1) = some (a, b)) := Lib.hid (by rw [HCN.out, bsUpd_none])
            have HINN : Hid (bsIn l (some (a, b))) := Lib.hid (by rw [← HN.out, HCN.out]; exact HUI.out)
            have t1 : bsX none = -1 := rfl
            have HSV : Hid (bsW l is (some (a, b)) = swW l is a b) := Lib.hid rfl
            go_wp2
            go_roundw
            case rel => exact ⟨n + 1, hnn, congrArg (Value.int .i64) HNX.out.symm, by rw [HN.out]; rfl, by rw [HN.out]; rfl, by rw [HN.out, HSV.out], by rw [HN.out]; exact HINN.out, HB4.out⟩
            case measure => simp [intOf]; omega
          | some p =>
            obtain ⟨x, y⟩ := p
            have t1 : bsX (some (x, y)) = (x : Int) := rfl
            have t2 : bsW l is (some (x, y)) = swW l is x y := rfl
            have hnx : ¬ (x : Int) < 0 := by omega
            by_cases hd : swW l is a b < swW l is x y
            · have HN : Hid (bsC l is S a (n + 1) = some (a, b)) := Lib.hid (by rw [HCN.out, bsUpd_lt hd])
              have HINN : Hid (bsIn l (some (a, b))) := Lib.hid (by rw [← HN.out, HCN.out]; exact HUI.out)
              have HSV : Hid (bsW l is (some (a, b)) = swW l is a b) := Lib.hid rfl
              go_wp2
              go_roundw
              case rel => exact ⟨n + 1, hnn, congrArg (Value.int .i64) HNX.out.symm, by rw [HN.out]; rfl, by rw [HN.out]; rfl, by rw [HN.out, HSV.out], by rw [HN.out]; exact HINN.out, HB4.out⟩
              case measure => simp [intOf]; omega
            · have HN : Hid (bsC l is S a (n + 1) = some (x, y)) := Lib.hid (by rw [HCN.out, bsUpd_ge hd])
              go_wp2
              go_roundw
              case rel => exact ⟨n + 1, hnn, congrArg (Value.int .i64) HNX.out.symm, by rw [HN.out] <;> rfl, by rw [HN.out] <;> rfl, by rw [HN.out] <;> rfl, by rw [HN.out]; exact HIN2.out, HB4.out⟩
              case measure => simp [intOf]; omega
        · have hnl : n = l.length - (a + 1) := by omega
          have HNL : Hid (bsR l is none (a + 1) = bsC l is S a n) := Lib.hid (by rw [HRN.out, hnl])
          have HI2 := Lib.hid hin2; have HB2 := Lib.hid hb2
          have hbl : ¬ ((a + 1 + n : Nat) : Int) < (l.length : Int) := by omega
          have hbl' : a + 1 + n = l.length := by omega
          clear hnl hin2 hb2
          have HBL := Lib.hid hbl'; clear hbl' hn1
          generalize bsC l is S a n = T at *
          generalize a + 1 + n = b at *
          go_wp2
          go_roundw
          case rel => exact ⟨a + 1, by omega, by go_num, by rw [HNL.out], by rw [HNL.out], by rw [HNL.out], by rw [HNL.out]; exact HI2.out, HB2.out⟩
          case measure => simp [intOf]; omega
    · obtain rfl : a = l.length := by omega
      go_wp2
      refine bodyPost_ret (v := .tuple #[.int .i64 (bsX (bsR l is none l.length)), .int .i64 (bsY (bsR l is none l.length)), .int .i64 (bsW l is (bsR l is none l.length)), .bool true]) (by simp [results, Try.results35, go_sem]) rfl ?_
      exact ⟨rfl, hb⟩

theorem specBestSwap_any (l : List Bx) (A : Option Addr) (c : Nat) (cs : List ByteArray) (B : Option Addr) (d : Nat) (w : World) (hf : BxsIn w A l) (hn : l.length ≤ 1048576) (ho : BxsOk l) (hcap : l.length ≤ c) (hs : StrsIn w B cs) (hso : StrsOk cs) (hm : cs.length ≤ 1048576) :
    Calls Try.prog 35 #[.slice A l.length c, .slice B cs.length d] w fun e w' => e = .returned (.tuple #[.int .i64 (((bsA l cs).getD (0, 0)).1 : Nat), .int .i64 (((bsA l cs).getD (0, 0)).2 : Nat), .int .i64 (bsV l cs), .bool (bsA l cs).isSome]) ∧ Below w.heap.size w w' := by
  cases hv : askB2 l cs
  · have hno := bsA_no (l := l) (cs := cs) (.inl hv)
    have HE : Hid (bsA l cs = none ∧ bsV l cs = 0) := Lib.hid ⟨hno, by unfold bsV; rw [hno]⟩
    have HF := Lib.hid hf; clear hf hno
    have HO := Lib.hid ho; clear ho
    have HS := Lib.hid hs; clear hs
    have HV := Lib.hid hv; clear hv
    go_enter Try.func35, Try.ntmps35
    go_wp2_with fail
    refine (caAsked_is l _ A c cs B d _ HF.out hn HO.out hcap HS.out hso hm HV).mono ?_
    rintro e w1 ⟨rfl, hb1⟩
    go_wp2
    refine bodyPost_ret (v := .tuple #[.int .i64 (0), .int .i64 (0), .int .i64 (0), .bool false]) (by simp [results, Try.results35, go_sem]) rfl ?_
    exact ⟨by rw [HE.out.1, HE.out.2]; rfl, hb1⟩
  · by_cases h2 : 2 ≤ l.length
    · obtain ⟨e1, p, e2⟩ := bsA_yes hv h2
      refine (specBestSwap_yes l A c cs B d w hf hn ho hcap hs hso hm hv h2).mono ?_
      rintro e w1 ⟨rfl, hb1⟩
      refine ⟨?_, hb1⟩
      unfold bsV
      rw [e1, e2]; rfl
    · have hno := bsA_no (l := l) (cs := cs) (.inr (by omega))
      have HE : Hid (bsA l cs = none ∧ bsV l cs = 0) := Lib.hid ⟨hno, by unfold bsV; rw [hno]⟩
      have HF := Lib.hid hf; clear hf hno
      have HO := Lib.hid ho; clear ho
      have HS := Lib.hid hs; clear hs
      have HV := Lib.hid hv; clear hv
      have hl2 : (l.length : Int) < 2 := by omega
      go_enter Try.func35, Try.ntmps35
      go_wp2_with fail
      refine (caAsked_is l _ A c cs B d _ HF.out hn HO.out hcap HS.out hso hm HV).mono ?_
      rintro e w1 ⟨rfl, hb1⟩
      go_wp2
      refine bodyPost_ret (v := .tuple #[.int .i64 (0), .int .i64 (0), .int .i64 (0), .bool false]) (by simp [results, Try.results35, go_sem]) rfl ?_
      exact ⟨by rw [HE.out.1, HE.out.2]; rfl, hb1⟩
end Go.Proofs.Ytllafkeheppkjaa

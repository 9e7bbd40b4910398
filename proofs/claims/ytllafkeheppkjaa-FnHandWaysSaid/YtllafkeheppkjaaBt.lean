/-
  The contract of impl.BestSwap.
-/
import Derived.Test.YtllafkeheppkjaaBs
namespace Go.Proofs.Ytllafkeheppkjaa
open Go.RowKit
set_option linter.unusedVariables false

theorem bsF_in {l : List Bx} (h : 2 ≤ l.length) : bsIn l (some (0, 1)) := by
  intro p e; obtain rfl := Option.some.inj e; exact ⟨by show 0 < l.length; omega, by show 1 < l.length; omega⟩
/-- The way over the boxes of an exchange, as wayOver answers it. -/
theorem wayOver_sw (l : List Bx) (A : Option Addr) (c : Nat) (is : List Nat) (B : Option Addr) (d : Nat) (a b : Nat) (w : World) (hf : PbsIn w A (swapL l a b)) (hn : l.length ≤ 1048576) (hs : IntsIn w B (idxZ is)) (hp : Places l) (hi : ∀ k (h : k < is.length), is[k] < l.length) (hm : is.length ≤ 60) (ha : a < l.length) (hb : b < l.length) :
    Calls Try.prog 65 #[.slice A (swapL l a b).length c, .slice B is.length d] w fun e w' => e = .returned (.int .i64 (swW l is a b)) ∧ Below w.heap.size w w' :=
  wayOver_any (swapL l a b) A c is B d w hf (by rw [swapL_len]; exact hn) hs (swapL_places ha hb hp) (fun k h => by rw [swapL_len]; exact hi k h) hm

set_option maxRecDepth 100000 in
set_option maxHeartbeats 4000000 in
theorem implBestSwap_yes (l : List Bx) (A : Option Addr) (c : Nat) (cs : List ByteArray) (B : Option Addr) (d : Nat) (w : World) (hf : BxsIn w A l) (hn : l.length ≤ 1048576) (ho : BxsOk l) (hs : StrsIn w B cs) (hso : StrsOk cs) (hm : cs.length ≤ 1048576) (hv : askB2 l cs = true) (h2 : 2 ≤ l.length) :
    Calls Try.prog 36 #[.slice A l.length c, .slice B cs.length d] w fun e w' => e = .returned (.tuple #[.int .i64 (bsX (bsR l (ixs l cs) (some (0, 1)) l.length)), .int .i64 (bsY (bsR l (ixs l cs) (some (0, 1)) l.length)), .int .i64 (bsW l (ixs l cs) (bsR l (ixs l cs) (some (0, 1)) l.length)), .bool true]) ∧ Below w.heap.size w w' := by
  have HF := Lib.hid hf; clear hf
  have HO := Lib.hid ho; clear ho
  have HS := Lib.hid hs; clear hs
  have hr : ixR l cs = some (ixs l cs) := by unfold ixR; rw [hv]; rfl
  obtain ⟨hC, _, hil, h60, hAA⟩ := ixR_some hr
  have h32 : l.length ≤ 32 := hC.2.2
  have HP := Lib.hid hC.places; have HIL := Lib.hid hil; have HA := Lib.hid hAA
  have hlt2 : ¬ (l.length : Int) < 2 := by omega
  have HRS := Lib.hid hr
  obtain ⟨is, his⟩ : ∃ is, is = ixs l cs := ⟨_, rfl⟩
  have HIS := Lib.hid his
  rw [← his] at HIL h60 ⊢
  clear his hr hC hil hAA hv
  go_enter Try.func36, Try.ntmps36
  go_wp2_with fail
  refine (boxesOfCodes_any l A c cs B d _ HF.out hn HO.out HS.out hso hm).mono ?_
  intro e w1 hto
  obtain ⟨v, rfl, hb1, hown⟩ := hto
  rw [HRS.out, ← HIS.out] at hown
  rw [HRS.out]
  have hown' : w1.ownsRow w.heap.size 3 1 v is.length (intsZ (idxZ is)) := hown
  obtain ⟨A2, c2, rfl⟩ := own_form hown'
  have HIN := Lib.hid (own_in hown')
  have HF1 := Lib.hid (HF.out.next hb1)
  clear hown hown'
  rw [idxZ_len]
  go_wp2_with fail
  refine (placeBoxes_any l A c _ HF1.out hn).mono ?_
  intro e w2 hto
  obtain ⟨v2, rfl, hb2, hown2⟩ := hto
  obtain ⟨A3, c3, rfl, _, _, hpb⟩ := own_pbs hown2
  have HPB0 := Lib.hid hpb
  have HIN0 := Lib.hid (HIN.out.below hb2 (Nat.le_refl _))
  have HB0 := Lib.hid (hb1.trans (hb2.mono hb1.size))
  clear hpb hown2 hb1 hb2
  have ha0 : 0 < l.length := by omega
  have hb0 : 1 < l.length := by omega
  go_wp2_with fail
  refine (withSwap_any l A3 c3 0 1 _ HPB0.out hn ha0 hb0).mono ?_
  intro e wx hto
  obtain ⟨v4, rfl, hb4, hown⟩ := hto
  obtain ⟨A4, c4, rfl, _, _, hpb⟩ := own_pbs hown
  have HPX := Lib.hid hpb
  have HIX := Lib.hid (HIN0.out.below hb4 (Nat.le_refl _))
  have HPN := Lib.hid (HPB0.out.next hb4)
  have HBX := Lib.hid (HB0.out.trans (hb4.mono HB0.out.size))
  clear hown hb4 hpb
  go_wp2_with fail
  refine (wayOver_sw l A4 c4 is A2 c2 0 1 _ HPX.out hn HIX.out HP.out HIL.out h60 ha0 hb0).mono ?_
  rintro e wy ⟨rfl, hb5⟩
  have HIY := Lib.hid (HIX.out.below hb5 (Nat.le_refl _))
  have HPY := Lib.hid (HPN.out.next hb5)
  have HBY := Lib.hid (HBX.out.trans (hb5.mono HBX.out.size))
  clear hb5
  have HSV : Hid (bsW l is (some (0, 1)) = swW l is 0 1) := Lib.hid rfl
  have HI0 := Lib.hid (bsF_in h2)
  rw [show (1 : Int) = ((1 : Nat) : Int) from rfl]
  go_wp2
  go_loopw [11, 12, 13, 40] (fun x y z i wr => ∃ (a x' y' : Nat), a ≤ l.length ∧ i = .int .i64 a ∧ x = .int .i64 (x' : Int) ∧ y = .int .i64 (y' : Int) ∧ z = .int .i64 (swW l is x' y') ∧ bsR l is (some (0, 1)) a = some (x', y') ∧ IntsIn wr A2 (idxZ is) ∧ PbsIn wr A3 l ∧ Below w.heap.size w wr) (fun _ _ _ i _ => l.length - (intOf i).toNat)
  case atStart => exact ⟨0, 0, 1, Nat.zero_le _, rfl, rfl, rfl, rfl, rfl, HIY.out, HPY.out, HBY.out⟩
  case round =>
    obtain ⟨a, x0, y0, ha, rfl, rfl, rfl, rfl, hst, hin, hpb, hb⟩ := hrel
    by_cases hlt : a < l.length
    · have hal : (a : Int) < (l.length : Int) := by omega
      have HRN : Hid (bsR l is (some (0, 1)) (a + 1) = bsC l is (some (x0, y0)) a (l.length - (a + 1))) := Lib.hid (by rw [← hst]; rfl)
      have HINa := Lib.hid hin; have HPBa := Lib.hid hpb; have HBa := Lib.hid hb; clear hst hin hpb hb
      go_wp2
      go_loopw [11, 12, 13, 15] (fun x y z i wi => ∃ (n x' y' : Nat), a + 1 + n ≤ l.length ∧ i = .int .i64 ((a + 1 + n : Nat) : Int) ∧ x = .int .i64 (x' : Int) ∧ y = .int .i64 (y' : Int) ∧ z = .int .i64 (swW l is x' y') ∧ bsC l is (some (x0, y0)) a n = some (x', y') ∧ IntsIn wi A2 (idxZ is) ∧ PbsIn wi A3 l ∧ Below w.heap.size w wi) (fun _ _ _ i _ => l.length - (intOf i).toNat)
      case atStart => exact ⟨0, x0, y0, by omega, by go_num, rfl, rfl, rfl, rfl, HINa.out, HPBa.out, HBa.out⟩
      case round =>
        obtain ⟨n, x, y, hn1, rfl, rfl, rfl, rfl, hst, hin, hpb, hb⟩ := hrel
        by_cases hlt3 : a + 1 + n < l.length
        · have hbl : ((a + 1 + n : Nat) : Int) < (l.length : Int) := by omega
          have HCN : Hid (bsC l is (some (x0, y0)) a (n + 1) = bsUpd l is (some (x, y)) a (a + 1 + n)) := Lib.hid (by rw [← hst]; rfl)
          have HIN5 := Lib.hid hin; have HPB5 := Lib.hid hpb; have HB5 := Lib.hid hb
          have hnx : ((a + 1 + (n + 1) : Nat) : Int) = ((a + 1 + n : Nat) : Int) + 1 := by omega
          have HNX := Lib.hid hnx
          have hnn : a + 1 + (n + 1) ≤ l.length := by omega
          clear hst hin hpb hb hnx hn1
          generalize a + 1 + n = b at *
          go_wp2_with fail
          refine (withSwap_any l A3 c3 a b _ HPB5.out hn hlt hlt3).mono ?_
          intro e wx hto
          obtain ⟨v4, rfl, hb4, hown⟩ := hto
          obtain ⟨A4, c4, rfl, _, _, hpb⟩ := own_pbs hown
          have HPX := Lib.hid hpb
          have HIX := Lib.hid (HIN5.out.below hb4 (Nat.le_refl _))
          have HPN := Lib.hid (HPB5.out.next hb4)
          have HBX := Lib.hid (HB5.out.trans (hb4.mono HB5.out.size))
          clear hown hb4 hpb
          go_wp2_with fail
          refine (wayOver_sw l A4 c4 is A2 c2 a b _ HPX.out hn HIX.out HP.out HIL.out h60 hlt hlt3).mono ?_
          rintro e wy ⟨rfl, hb5⟩
          have HIY := Lib.hid (HIX.out.below hb5 (Nat.le_refl _))
          have HPY := Lib.hid (HPN.out.next hb5)
          have HBY := Lib.hid (HBX.out.trans (hb5.mono HBX.out.size))
          clear hb5
          by_cases hd : swW l is a b < swW l is x y
          · have HN : Hid (bsC l is (some (x0, y0)) a (n + 1) = some (a, b)) := Lib.hid (by rw [HCN.out, bsUpd_lt hd])
            go_wp2
            go_roundw
            case rel => exact ⟨n + 1, a, b, hnn, congrArg (Value.int .i64) HNX.out.symm, rfl, rfl, rfl, HN.out, HIY.out, HPY.out, HBY.out⟩
            case measure => simp [intOf]; omega
          · have HN : Hid (bsC l is (some (x0, y0)) a (n + 1) = some (x, y)) := Lib.hid (by rw [HCN.out, bsUpd_ge hd])
            go_wp2
            go_roundw
            case rel => exact ⟨n + 1, x, y, hnn, congrArg (Value.int .i64) HNX.out.symm, rfl, rfl, rfl, HN.out, HIY.out, HPY.out, HBY.out⟩
            case measure => simp [intOf]; omega
        · have hnl : n = l.length - (a + 1) := by omega
          have HNL : Hid (bsR l is (some (0, 1)) (a + 1) = some (x, y)) := Lib.hid (by rw [HRN.out, ← hnl]; exact hst)
          have HIN6 := Lib.hid hin; have HPB6 := Lib.hid hpb; have HB6 := Lib.hid hb
          have hbl : ¬ ((a + 1 + n : Nat) : Int) < (l.length : Int) := by omega
          clear hnl hst hin hpb hb hn1
          generalize a + 1 + n = b at *
          go_wp2
          go_roundw
          case rel => exact ⟨a + 1, x, y, by omega, by go_num, rfl, rfl, rfl, HNL.out, HIN6.out, HPB6.out, HB6.out⟩
          case measure => simp [intOf]; omega
    · obtain rfl : a = l.length := by omega
      have HST := Lib.hid hst
      clear hst hin hpb
      go_wp2
      refine bodyPost_ret (v := .tuple #[.int .i64 ((x0 : Int)), .int .i64 ((y0 : Int)), .int .i64 (swW l is x0 y0), .bool true]) (by simp [results, Try.results36, go_sem]) rfl ?_
      exact ⟨by rw [HST.out]; rfl, hb⟩

theorem implBestSwap_any (l : List Bx) (A : Option Addr) (c : Nat) (cs : List ByteArray) (B : Option Addr) (d : Nat) (w : World) (hf : BxsIn w A l) (hn : l.length ≤ 1048576) (ho : BxsOk l) (hcap : l.length ≤ c) (hs : StrsIn w B cs) (hso : StrsOk cs) (hm : cs.length ≤ 1048576) :
    Calls Try.prog 36 #[.slice A l.length c, .slice B cs.length d] w fun e w' => e = .returned (.tuple #[.int .i64 (((bsA l cs).getD (0, 0)).1 : Nat), .int .i64 (((bsA l cs).getD (0, 0)).2 : Nat), .int .i64 (bsV l cs), .bool (bsA l cs).isSome]) ∧ Below w.heap.size w w' := by
  by_cases hb : askB2 l cs = true ∧ 2 ≤ l.length
  · obtain ⟨hv, h2⟩ := hb
    obtain ⟨e1, p, e2⟩ := bsA_yes hv h2
    refine (implBestSwap_yes l A c cs B d w hf hn ho hs hso hm hv h2).mono ?_
    rintro e w1 ⟨rfl, hb1⟩
    refine ⟨?_, hb1⟩
    have e3 := bsR_first (l := l) (ixs l cs) h2 (l.length - 1)
    rw [show l.length - 1 + 1 = l.length from by omega] at e3
    unfold bsV
    rw [e3, e1, e2]; rfl
  · have hno : bsA l cs = none := by unfold bsA; rw [if_neg hb]
    have HE : Hid (bsA l cs = none ∧ bsV l cs = 0) := Lib.hid ⟨hno, by unfold bsV; rw [hno]⟩
    have HNB := Lib.hid hb
    have HF := Lib.hid hf; clear hf hno hb
    have HO := Lib.hid ho; clear ho
    have HS := Lib.hid hs; clear hs
    go_enter Try.func36, Try.ntmps36
    go_wp2_with fail
    refine (boxesOfCodes_any l A c cs B d _ HF.out hn HO.out HS.out hso hm).mono ?_
    intro e w1 hto
    obtain ⟨v, rfl, hb1, hown⟩ := hto
    cases hr : ixR l cs with
    | none =>
      rw [hr] at hown
      obtain ⟨A2, c2, rfl⟩ := own_form (l := []) hown
      clear hown hr
      go_wp2
      refine bodyPost_ret (v := .tuple #[.int .i64 (0), .int .i64 (0), .int .i64 (0), .bool false]) (by simp [results, Try.results36, go_sem]) rfl ?_
      exact ⟨by rw [HE.out.1, HE.out.2]; rfl, hb1⟩
    | some is =>
      have hl2 : (l.length : Int) < 2 := by
        have hv : askB2 l cs = true := by
          unfold ixR at hr
          cases h : askB2 l cs
          · rw [h] at hr; cases hr
          · rfl
        have := HNB.out
        have h3 : ¬ 2 ≤ l.length := fun h => this ⟨hv, h⟩
        omega
      clear hr hown
      go_wp2
      refine bodyPost_ret (v := .tuple #[.int .i64 (0), .int .i64 (0), .int .i64 (0), .bool false]) (by simp [results, Try.results36, go_sem]) rfl ?_
      exact ⟨by rw [HE.out.1, HE.out.2]; rfl, hb1⟩
end Go.Proofs.Ytllafkeheppkjaa

/-
  The contracts of LeastRecast, in spec and in impl: each answers what the plain words here say and changes nothing that was there.
-/
import Derived.Test.YtdomccamkiplcaaEnf
import Derived.OwnWalk
import Derived.Maps.AppendAt
import Derived.Deep.RegionLaw
namespace Go.Proofs.Ytdomccamkiplcaa
open Go.RowKit
set_option linter.unusedVariables false

def mx0 (x : Int) : Int := if x < 0 then 0 else x
/-- How many of each sort have to be cast. -/
def rcL (need st : List Int) (t : Int) : List Int := (List.range need.length).map fun i => mx0 (t * need.getD i 0 - st.getD i 0)
theorem rcL_len (need st : List Int) (t : Int) : (rcL need st t).length = need.length := by simp [rcL]
theorem rcL_succ {need st : List Int} {t : Int} {k : Nat} (h1 : k < need.length) (h2 : k < st.length) : (rcL need st t).take (k + 1) = (rcL need st t).take k ++ [mx0 (t * need[k] - st[k])] := by
  rw [List.take_succ_eq_append_getElem (by rw [rcL_len]; exact h1)]
  congr 2
  simp only [rcL, List.getElem_map, List.getElem_range]
  rw [getD_of h1, getD_of h2]
noncomputable def rcR (f : List (ByteArray × Int)) (st : List Int) (ws : List ByteArray) (t : Int) : Option (List Int) := if askB f st ws && inB 0 1000 t && allB 0 100000 (rcL (needF f ws) st t) then some (rcL (needF f ws) st t) else none
theorem rc_no {f : List (ByteArray × Int)} {st : List Int} {ws : List ByteArray} {t : Int} (h : askB f st ws = false ∨ inB 0 1000 t = false ∨ allB 0 100000 (rcL (needF f ws) st t) = false) : rcR f st ws t = none := by
  unfold rcR; rcases h with h | h | h <;> simp [h]
theorem rc_yes {f : List (ByteArray × Int)} {st : List Int} {ws : List ByteArray} {t : Int} (h1 : askB f st ws = true) (h2 : inB 0 1000 t = true) (h3 : allB 0 100000 (rcL (needF f ws) st t) = true) : rcR f st ws t = some (rcL (needF f ws) st t) := by
  unfold rcR; simp [h1, h2, h3]
theorem mul_in {t x : Int} (h0 : 0 ≤ t) (h1 : t ≤ 1000) (g0 : 0 ≤ x) (g1 : x ≤ 640) : 0 ≤ t * x ∧ t * x ≤ 640000 := by
  have a := Int.mul_nonneg h0 g0
  have b := Int.mul_le_mul h1 g1 g0 (by omega)
  omega
theorem most_is (x : Int) (w : World) : Calls Try.prog 64 #[.int .i64 0, .int .i64 x] w fun e w' => e = .returned (.int .i64 (mx0 x)) ∧ w = w' := l1Most_any 0 x w

set_option maxRecDepth 100000 in
set_option maxHeartbeats 1000000 in
theorem specRec_any (f : List (ByteArray × Int)) (A : Option Addr) (c : Nat) (st : List Int) (C : Option Addr) (q : Nat) (ws : List ByteArray) (B : Option Addr) (d : Nat) (t : Int) (lo : Nat) (w : World) (hf : SortsIn w lo A f) (hn : f.length ≤ 1048576) (ho : CodesOk f) (hi : IntsIn w C st) (hq : st.length ≤ 1048576) (hg : StrsIn w B ws) (ho' : StrsOk ws) (hm : ws.length ≤ 1048576) :
    Calls Try.prog 26 #[.slice A f.length c, .slice C st.length q, .slice B ws.length d, .int .i64 t] w fun e w' => IntsTo w w' e (rcR f st ws t) := by
  have HF := Lib.hid hf; have HG := Lib.hid hg; have HII := Lib.hid hi
  clear hf hg hi
  obtain ⟨i0, hi, hz0, hz1, hz2⟩ := info_parts info3
  have HI0 := Lib.hid hi; have HZ0 := Lib.hid hz0; have HZ1 := Lib.hid hz1; have HZ2 := Lib.hid hz2
  clear hi hz0 hz1 hz2
  go_enter Try.func26, Try.ntmps26
  go_wp2_with fail
  refine (biAsk_any f A c st C q ws B d lo _ HF.out hn ho HII.out hq HG.out ho' hm).mono ?_
  rintro e w1 ⟨rfl, hb1⟩
  clear ho ho'
  cases hv : askB f st ws
  · have HN := Lib.hid (rc_no (t := t) (.inl hv)); clear hv
    go_wp2
    go_ret2
    exact IntsTo.no HN.out hb1
  have HV := Lib.hid hv; clear hv
  cases hin : inB 0 1000 t
  · have HN := Lib.hid (rc_no (f := f) (st := st) (ws := ws) (.inr (.inl hin)))
    have HIN := Lib.hid hin; clear hin
    go_wp2_with fail
    refine (in_is _ _ _ _ _ HIN).mono ?_
    rintro e w' ⟨rfl, rfl⟩
    go_wp2
    go_ret2
    exact IntsTo.no HN.out hb1
  have ht : 0 ≤ t ∧ t ≤ 1000 := by simpa [inB] using hin
  obtain ⟨ht0, ht1⟩ := ht
  have HIN := Lib.hid hin; clear hin
  obtain ⟨hcp, hsk⟩ := askB_parts HV.out
  have HCP := Lib.hid (copy_parts hcp)
  have HCR := Lib.hid (canR_yes HCP.out.2.2)
  have HG1 := Lib.hid (HG.out.below hb1 (Nat.le_refl _))
  have HF1 := Lib.hid (HF.out.below hb1 (Nat.le_refl _))
  have HB1 := Lib.hid hb1
  clear hcp hsk hb1
  go_wp2_with fail
  refine (in_is _ _ _ _ _ HIN).mono ?_
  rintro e w' ⟨rfl, rfl⟩
  go_wp2_with fail
  refine (biNeed_any f A c ws B d lo _ HF1.out HCP.out.1 HG1.out HCP.out.2.1).mono ?_
  intro e w2 hto
  obtain ⟨A2, c2, rfl, hb2, ho2⟩ := hto.some HCR.out
  have HI := Lib.hid (own_in ho2)
  have HB := Lib.hid (HB1.out.trans (hb2.mono HB1.out.size))
  have HC := Lib.hid (HII.out.below HB.out (Nat.le_refl _))
  clear hto hb2 ho2 HB1 HG1 HF1
  obtain ⟨hNl, hSl, h32, h1l, hNb, hSb⟩ := need_stock HV.out
  have HNB := Lib.hid hNb; have HSB := Lib.hid hSb
  clear hNb hSb
  have HNO : Hid (allB 0 100000 (rcL (needF f ws) st t) = false → rcR f st ws t = none) := Lib.hid fun h => rc_no (.inr (.inr h))
  have HYES : Hid (allB 0 100000 (rcL (needF f ws) st t) = true → rcR f st ws t = some (rcL (needF f ws) st t)) := Lib.hid fun h => rc_yes HV.out HIN.out h
  obtain ⟨N, hN⟩ : ∃ N, N = needF f ws := ⟨_, rfl⟩
  rw [← hN] at HI hNl HNB HNO HYES ⊢
  clear hN
  have hwz : w.heap.size ≤ w2.heap.size := HB.out.size
  go_wp2
  obtain ⟨wo, hwo⟩ : ∃ wo : World, wo = w2 := ⟨_, rfl⟩
  subst hwo
  go_loopw [12, 33] (fun v i wr => ∃ (k : Nat), k ≤ N.length ∧ i = .int .i64 k ∧ wr.ownsRow wo.heap.size 3 1 v k (intsZ ((rcL N st t).take k)) ∧ Below wo.heap.size wo wr) (fun _ i _ => N.length - (intOf i).toNat)
  case atStart => exact ⟨0, Nat.zero_le _, rfl, own_nil _ _ _ _, Below.refl _ _⟩
  case round =>
    obtain ⟨k, hk, rfl, hown, hb⟩ := hrel
    have HOWN := Lib.hid hown; clear hown
    have HBW := Lib.hid hb; clear hb
    by_cases hlt : k < N.length
    · obtain ⟨b, off, rfl, hbl, hc⟩ := HI.out (by omega)
      have hc0 := (HBW.out.cell (p := ⟨b, off + k, none⟩) hbl).trans (hc k hlt)
      clear hc
      have hlt2 : k < st.length := by omega
      obtain ⟨b', off', rfl, hbl', hd⟩ := HC.out (by omega)
      have hd0 := (HBW.out.cell (p := ⟨b', off' + k, none⟩) hbl').trans (hd k hlt2)
      clear hd
      have hx := HNB.out k hlt
      have hy := allB_at hlt2 HSB.out
      have HST := Lib.hid (rcL_succ (t := t) hlt hlt2)
      generalize N[k] = x at *
      generalize st[k] = y at *
      obtain ⟨m0, m1⟩ := mul_in ht0 ht1 hx.1 hx.2
      have hownw := HOWN.out
      have hmx : k + 1 ≤ maxLen := by unfold maxLen; omega
      have hsz := HBW.out.size
      go_wp2_with fail
      refine (most_is _ _).mono ?_
      rintro e w' ⟨rfl, rfl⟩
      generalize mx0 (t * x - y) = z at *
      go_wp2_with (at_builtin; refine wpList_append_own _ rfl _ _ 24 rfl wo.heap.size 3 i0 (.int .i64 0) 1 8 Try.underlying24 HI0.out HZ0.out HZ1.out HZ2.out rfl (by decide) _ _ _ rfl (hownw.alloc _) ⟨wr.heap.size, 0, none⟩ 1 1 [.int .i64 z] rfl rfl (cell_one_new _ _ _) (by simp [Value.oneCell']) hmx (by omega) (by simp; omega) ?_)
      intro v' w4 hown' hgrow _
      have HB1 : Hid (Below wo.heap.size wo w4) := Lib.hid ((HBW.out.alloc HBW.out.size _).grown hgrow (by have := HBW.out.size; simp; omega) (own_lt hownw))
      have HO3 : Hid (w4.ownsRow wo.heap.size 3 1 v' (k + 1) (intsZ ((rcL N st t).take (k + 1)))) := Lib.hid (by
        rw [HST.out, intsZ_snoc]; exact hown')
      clear hown' hgrow hownw HOWN hc0 hd0 HBW
      go_wp2
      go_roundw
      case rel => exact ⟨k + 1, by omega, by go_num, HO3.out, HB1.out⟩
      case measure => simp [intOf]; omega
    · obtain rfl : k = N.length := by omega
      have HBB := Lib.hid (HB.out.trans (HBW.out.mono HB.out.size))
      have h := HOWN.out
      rw [List.take_of_length_le (by rw [rcL_len]; exact Nat.le_refl _)] at h
      have hl : (rcL N st t).length = N.length := rcL_len N st t
      rw [← hl] at h
      obtain ⟨A3, c3, rfl⟩ := own_form h
      have HO := Lib.hid (Joins.ownsRow_le h hwz)
      have HIN3 := Lib.hid (own_in h)
      have hlm : (rcL N st t).length ≤ maxLen := by unfold maxLen; omega
      clear h hl
      generalize rcL N st t = R at *
      go_wp2_with fail
      refine (l1All_any R A3 c3 0 100000 _ HIN3.out hlm).mono ?_
      rintro e w' ⟨rfl, rfl⟩
      cases hall : allB 0 100000 R
      · have HE := Lib.hid (HNO.out hall); clear hall
        go_wp2
        go_ret2
        exact IntsTo.no HE.out HBB.out
      · have HE := Lib.hid (HYES.out hall); clear hall
        go_wp2
        go_ret2
        exact IntsTo.yes HE.out HBB.out HO.out

theorem rcR_short (f : List (ByteArray × Int)) (st : List Int) (ws : List ByteArray) (t : Int) : ((rcR f st ws t).getD []).length ≤ 64 := by
  unfold rcR
  split
  · rename_i h
    simp only [Bool.and_eq_true] at h
    obtain ⟨h1, _, h2, _⟩ := need_stock h.1.1
    rw [Option.getD_some, rcL_len]; omega
  · simp

theorem mx0_max (x : Int) : max x 0 = mx0 x := by unfold mx0; split <;> omega

set_option maxRecDepth 100000 in
set_option maxHeartbeats 1000000 in
theorem implRec_any (f : List (ByteArray × Int)) (A : Option Addr) (c : Nat) (st : List Int) (C : Option Addr) (q : Nat) (ws : List ByteArray) (B : Option Addr) (d : Nat) (t : Int) (lo : Nat) (w : World) (hf : SortsIn w lo A f) (hn : f.length ≤ 1048576) (ho : CodesOk f) (hi : IntsIn w C st) (hq : st.length ≤ 1048576) (hg : StrsIn w B ws) (ho' : StrsOk ws) (hm : ws.length ≤ 1048576) :
    Calls Try.prog 24 #[.slice A f.length c, .slice C st.length q, .slice B ws.length d, .int .i64 t] w fun e w' => IntsTo w w' e (rcR f st ws t) := by
  have HII := Lib.hid hi
  clear hi
  go_enter Try.func24, Try.ntmps24
  go_wp2_with fail
  refine (implCount_any f A c ws B d lo _ hf hn ho hg ho' hm).mono ?_
  intro e w1 hto
  clear hf ho hg ho'
  cases hcp : copyB f ws
  · obtain ⟨v, rfl, hb1⟩ := hto.none (need_no hcp)
    have HN := Lib.hid (rc_no (t := t) (.inl (askB_no (st := st) (.inl hcp))))
    clear hcp hto
    go_wp2
    go_ret2
    exact IntsTo.no HN.out hb1
  obtain ⟨A2, c2, rfl, hb1, ho2⟩ := hto.some (need_yes hcp)
  have HB := Lib.hid hb1
  have HC := Lib.hid (HII.out.below hb1 (Nat.le_refl _))
  have HI := Lib.hid (own_in ho2)
  have HCPY := Lib.hid hcp
  clear hto hb1 ho2 hcp
  cases hsk : stockB f st
  · have HN := Lib.hid (rc_no (t := t) (.inl (askB_no (ws := ws) (.inr hsk))))
    have HK := Lib.hid hsk; clear hsk
    go_wp2_with fail
    refine (implStock_is f A c st C q false _ HC.out hn hq HK).mono ?_
    rintro e w2 ⟨rfl, rfl⟩
    go_wp2
    go_ret2
    exact IntsTo.no HN.out HB.out
  have HV : Hid (askB f st ws = true) := Lib.hid (by unfold askB; rw [HCPY.out, hsk]; rfl)
  have HK := Lib.hid hsk; clear hsk
  rcases (by omega : (0 ≤ t ∧ t ≤ 1000) ∨ t < 0 ∨ (0 ≤ t ∧ 1000 < t)) with ⟨ht0, ht1⟩ | ht | ⟨ht, ht'⟩
  rotate_left
  · have HN := Lib.hid (rc_no (f := f) (st := st) (ws := ws) (t := t) (.inr (.inl (by simp [inB]; omega))))
    go_wp2_with fail
    refine (implStock_is f A c st C q true _ HC.out hn hq HK).mono ?_
    rintro e w2 ⟨rfl, rfl⟩
    go_wp2
    go_ret2
    exact IntsTo.no HN.out HB.out
  · have HN := Lib.hid (rc_no (f := f) (st := st) (ws := ws) (t := t) (.inr (.inl (by simp [inB]; omega))))
    go_wp2_with fail
    refine (implStock_is f A c st C q true _ HC.out hn hq HK).mono ?_
    rintro e w2 ⟨rfl, rfl⟩
    go_wp2
    go_ret2
    exact IntsTo.no HN.out HB.out
  go_wp2_with fail
  refine (implStock_is f A c st C q true _ HC.out hn hq HK).mono ?_
  rintro e w2 ⟨rfl, rfl⟩
  obtain ⟨hNl, hSl, h32, h1l, hNb, hSb⟩ := need_stock HV.out
  have HNB := Lib.hid hNb; have HSB := Lib.hid hSb
  clear hNb hSb
  have HNO : Hid (allB 0 100000 (rcL (needF f ws) st t) = false → rcR f st ws t = none) := Lib.hid fun h => rc_no (.inr (.inr h))
  have HYES : Hid (allB 0 100000 (rcL (needF f ws) st t) = true → rcR f st ws t = some (rcL (needF f ws) st t)) := Lib.hid fun h => rc_yes HV.out (by simp [inB, ht0, ht1]) h
  obtain ⟨N, hN⟩ : ∃ N, N = needF f ws := ⟨_, rfl⟩
  rw [← hN] at HI hNl HNB HNO HYES ⊢
  clear hN
  have hNs : N.length ≤ st.length := by omega
  have hN32 : N.length ≤ 32 := by omega
  have HNL := Lib.hid hNl; have HSL := Lib.hid hSl
  clear hNl hSl
  have hwz : w.heap.size ≤ w1.heap.size := HB.out.size
  have hmk := run_makeInt N.length (by omega)
  have hst : Marked (w1.alloc (.cells (madeCells #[.int .i64 0] (N.length * 1)) 3)) w1.heap.size 3 N.length (intsZ ((rcL N st t).take 0)) := ⟨_, heap_new _ _, by rw [size_madeCells]; omega, by simp [intsZ]⟩
  generalize hz : madeCells #[.int .i64 0] (N.length * 1) = cs0 at *
  have HST := Lib.hid hst; clear hst hz
  go_wp2
  clear hmk
  obtain ⟨g, hg⟩ : ∃ g, g = w1.heap.size := ⟨_, rfl⟩
  rw [← hg] at HST ⊢
  have hgle : w1.heap.size ≤ g := by omega
  clear hg
  go_loopw [42] (fun i wr => ∃ (k : Nat), k ≤ N.length ∧ i = .int .i64 k ∧ Marked wr g 3 N.length (intsZ ((rcL N st t).take k)) ∧ allB 0 100000 ((rcL N st t).take k) = true ∧ Below w1.heap.size w1 wr) (fun i _ => N.length - (intOf i).toNat)
  case atStart => exact ⟨0, Nat.zero_le _, rfl, HST.out, rfl, (Below.refl _ _).alloc (Nat.le_refl _) _⟩
  case round =>
    obtain ⟨k, hk, rfl, hp, ha, hb⟩ := hrel
    clear HST
    have HBW := Lib.hid hb; clear hb
    have HAL := Lib.hid ha; clear ha
    by_cases hlt : k < N.length
    · obtain ⟨b, off, rfl, hbl, hc⟩ := HI.out (by omega)
      have hc0 := (HBW.out.cell (p := ⟨b, off + k, none⟩) hbl).trans (hc k hlt)
      clear hc
      have hlt2 : k < st.length := by omega
      obtain ⟨b', off', rfl, hbl', hd⟩ := HC.out (by omega)
      have hd0 := (HBW.out.cell (p := ⟨b', off' + k, none⟩) hbl').trans (hd k hlt2)
      clear hd
      have hx := HNB.out k hlt
      have hy := allB_at hlt2 HSB.out
      have HST := Lib.hid (rcL_succ (t := t) hlt hlt2)
      have hltR : k < (rcL N st t).length := by rw [rcL_len]; exact hlt
      have hgetR : (rcL N st t)[k] = mx0 (t * N[k] - st[k]) := by simp only [rcL, List.getElem_map, List.getElem_range]; rw [getD_of hlt, getD_of hlt2]
      have hno := allB_no (lo := 0) (hi := 100000) hltR
      rw [hgetR] at hno
      have HNOK := Lib.hid hno
      clear hgetR hno
      generalize N[k] = x at *
      generalize st[k] = y at *
      obtain ⟨m0, m1⟩ := mul_in ht0 ht1 hx.1 hx.2
      have hcm : mx0 (t * x - y) = max (x * t - y) 0 := by rw [mx0_max, Int.mul_comm]
      rw [hcm] at HNOK HST
      rw [Int.mul_comm] at m0 m1
      clear hcm
      have hlk : (intsZ ((rcL N st t).take k)).length = k := by rw [intsZ_len, List.length_take, rcL_len]; omega
      obtain ⟨⟨u0, hu0⟩, hf0⟩ := hp.at_ hlt
      have hzb : 0 ≤ max (x * t - y) 0 := by omega
      have hzc : max (x * t - y) 0 ≤ 640000 := by omega
      have hst1 := hp.step (by rw [hlk]; omega) (.int .i64 (max (x * t - y) 0))
      rw [hlk] at hst1
      have HP : Hid (Marked (wr.setCell ⟨g, k, none⟩ (.int .i64 (max (x * t - y) 0))) g 3 N.length (intsZ ((rcL N st t).take (k + 1)))) := Lib.hid (by rw [HST.out, intsZ_snoc]; exact hst1)
      have HB2 := Lib.hid (HBW.out.setCell (p := ⟨g, k, none⟩) hgle (.int .i64 (max (x * t - y) 0)))
      clear hp hlk hst1 HBW
      by_cases hzl : 100000 < max (x * t - y) 0
      · have HE := Lib.hid (HNO.out (HNOK.out (by simp [inB]; omega)))
        go_wp2
        go_ret2
        exact IntsTo.no HE.out (HB.out.trans (HB2.out.mono HB.out.size))
      · have HA2 : Hid (allB 0 100000 ((rcL N st t).take (k + 1)) = true) := Lib.hid (by rw [HST.out, allB_snoc, HAL.out]; simp [inB]; omega)
        go_wp2
        go_roundw
        case rel => exact ⟨k + 1, by omega, by go_num, HP.out, HA2.out, HB2.out⟩
        case measure => simp [intOf]; omega
    · obtain rfl : k = N.length := by omega
      have HBB := Lib.hid (HB.out.trans (HBW.out.mono HB.out.size))
      have hl : (rcL N st t).length = N.length := rcL_len N st t
      have ha := HAL.out
      rw [List.take_of_length_le (by rw [hl]; exact Nat.le_refl _)] at hp ha
      have HE := Lib.hid (HYES.out ha)
      rw [← hl] at hp
      have HO := Lib.hid (ints_of_marked hp)
      have HLN := Lib.hid hl
      have hgw : w.heap.size ≤ g := by omega
      clear hl ha hp HAL
      go_wp2
      go_ret2
      have h := IntsTo.own (b := g) HE.out HBB.out HO.out hgw (by rw [HLN.out]; unfold maxLen; omega)
      rw [HLN.out] at h
      exact h
end Go.Proofs.Ytdomccamkiplcaa

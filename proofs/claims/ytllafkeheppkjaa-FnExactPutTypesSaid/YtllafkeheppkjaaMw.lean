/-
  The contracts of impl.withCounts, impl.TakeTypes, impl.PutTypes.
-/
import Derived.Test.YtllafkeheppkjaaMv
namespace Go.Proofs.Ytllafkeheppkjaa
open Go.RowKit
set_option linter.unusedVariables false

theorem mvR_ix {l : List Bx} {cs : List ByteArray} {z : Int} : mvR l cs z = (ixR l cs).bind fun is => mvT l is z := by
  unfold mvR ixR mvT
  cases askB2 l cs
  · simp
  · simp
set_option maxRecDepth 100000 in
set_option maxHeartbeats 2000000 in
theorem withCounts_any (l : List Bx) (A : Option Addr) (c : Nat) (cs : List ByteArray) (B : Option Addr) (d : Nat) (z : Int) (w : World) (hf : BxsIn w A l) (hn : l.length ≤ 1048576) (ho : BxsOk l) (hs : StrsIn w B cs) (hso : StrsOk cs) (hm : cs.length ≤ 1048576) (hz : -1 ≤ z ∧ z ≤ 1) :
    Calls Try.prog 76 #[.slice A l.length c, .slice B cs.length d, .int .i64 z] w fun e w' => BxsTo w w' e (mvR l cs z) := by
  have HF := Lib.hid hf; clear hf
  have HO := Lib.hid ho; clear ho
  have HS := Lib.hid hs; clear hs
  have HX := Lib.hid (mvR_ix (l := l) (cs := cs) (z := z))
  have HZ := Lib.hid hz
  go_enter Try.func76, Try.ntmps76
  go_wp2_with fail
  refine (boxesOfCodes_any l A c cs B d _ HF.out hn HO.out HS.out hso hm).mono ?_
  intro e w1 hto
  obtain ⟨v, rfl, hb1, hown⟩ := hto
  cases hr : ixR l cs with
  | none =>
    have HE : Hid (mvR l cs z = none) := Lib.hid (by rw [HX.out, hr]; rfl)
    rw [hr] at hown
    obtain ⟨A2, c2, rfl⟩ := own_form (l := []) hown
    clear hown hr
    go_wp2
    go_ret2
    exact BxsTo.no HE.out hb1
  | some is =>
    have HX2 : Hid (mvR l cs z = mvT l is z) := Lib.hid (by rw [HX.out, hr]; rfl)
    obtain ⟨hC, hix, hil, h60, hAA⟩ := ixR_some hr
    clear hix hAA
    rw [hr] at hown
    have hown' : w1.ownsRow w.heap.size 3 1 v is.length (intsZ (idxZ is)) := hown
    obtain ⟨A2, c2, rfl⟩ := own_form hown'
    have HIN := Lib.hid (own_in hown')
    have h1l : 1 ≤ l.length := hC.2.1
    have h32 : l.length ≤ 32 := hC.2.2
    have HC := Lib.hid hC; have HI := Lib.hid hil
    have HF1 := Lib.hid (HF.out.next hb1)
    clear hown hown' hr hC hil
    rw [idxZ_len]
    go_wp2_with fail
    refine (cloneBx_any l A c _ HF1.out (by omega) hn).mono ?_
    intro e w4 hto
    obtain ⟨v2, rfl, hb2, hown⟩ := hto
    obtain ⟨g, cap, rfl, hg, hcap, hcm, hmk⟩ := own4_marked hown (by omega)
    have HMK := Lib.hid hmk
    have HIN2 := Lib.hid (HIN.out.below hb2 (Nat.le_refl _))
    have HB1 := Lib.hid (hb1.trans (hb2.mono hb1.size))
    have HGW : Hid (w.heap.size ≤ g) := Lib.hid (Nat.le_trans hb1.size hg)
    have hgw4 : ∀ b, b < w1.heap.size → ¬ b = g := fun b h e => by omega
    have HIL : Hid (∀ b off, A2 = some ⟨b, off, none⟩ → 0 < is.length → b < w4.heap.size) := Lib.hid (fun b off e h => by
      obtain ⟨b', off', e', h1, _⟩ := HIN2.out (by rw [idxZ_len]; exact h)
      rw [e] at e'
      rw [Option.some.injEq, Addr.mk.injEq] at e'
      omega)
    have HNE : Hid (∀ b off, A2 = some ⟨b, off, none⟩ → 0 < is.length → ¬ g = b) := Lib.hid (fun b off e h => by
      obtain ⟨b', off', e', h1, _⟩ := HIN.out (by rw [idxZ_len]; exact h)
      rw [e] at e'
      rw [Option.some.injEq, Addr.mk.injEq] at e'
      omega)
    clear hown hb1 hb2 hmk hgw4
    go_wp2
    go_loopw [25] (fun i wr => ∃ (k : Nat), k ≤ is.length ∧ i = .int .i64 k ∧ Marked wr g 26 (cap * 4) (flatBx (moveL l (is.take k) z)) ∧ IntsIn wr A2 (idxZ is) ∧ Below w.heap.size w wr) (fun i _ => is.length - (intOf i).toNat)
    case atStart => exact ⟨0, Nat.zero_le _, rfl, HMK.out, HIN2.out, HB1.out⟩
    case round =>
      obtain ⟨k, hk, rfl, hmk, hin, hb⟩ := hrel
      have hml := moveL_len l (is.take k) z
      by_cases hlt : k < is.length
      · obtain ⟨b, off2, rfl, hbl2, hc⟩ := hin (by rw [idxZ_len]; omega)
        have hc0 := hc k (by rw [idxZ_len]; exact hlt)
        rw [show (idxZ is)[k]'(by rw [idxZ_len]; exact hlt) = ((is[k] : Nat) : Int) from by simp [idxZ]] at hc0
        have hbg := HNE.out b off2 rfl (by omega)
        have hbg2 : ¬ b = g := fun e => hbg e.symm
        have hkl := HI.out k hlt
        have hcn := moveL_cnt HZ.out (is.take k) l is[k] (by rw [hml]; exact hkl) hkl
        have hcr := (HC.out.range hkl).2.2
        have hkk : (is.take k).length = k := by rw [List.length_take]; omega
        rw [hkk] at hcn
        have HNX : Hid (moveL l (is.take (k + 1)) z = bumpL z (moveL l (is.take k) z) is[k]) := Lib.hid (by
          rw [List.take_succ_eq_append_getElem hlt, moveL_snoc])
        have hML : (moveL l (is.take k) z).length = l.length := hml
        generalize hM : moveL l (is.take k) z = M at *
        clear hM
        have hkM : is[k] < M.length := by omega
        have hcn2 : l[is[k]].cnt - (k : Int) ≤ (M[is[k]]'hkM).cnt ∧ (M[is[k]]'hkM).cnt ≤ l[is[k]].cnt + (k : Int) := hcn
        clear hcn
        have HML := Lib.hid hML
        have hzz := HZ.out
        clear hML hml
        have hgt := hmk.cntAt hkM
        obtain ⟨_, hfz⟩ := hmk.at_ (j := is[k] * 4 + 3) (by have := HML.out; omega)
        have HMN : Hid (Marked (wr.setCell ⟨g, is[k] * 4 + 3, none⟩ (.int .i64 (M[is[k]].cnt + z))) g 26 (cap * 4) (flatBx (moveL l (is.take (k + 1)) z))) := Lib.hid (by
          have h := hmk.put (j := is[k] * 4 + 3) (.int .i64 (M[is[k]].cnt + z))
          rw [bumpL_flat hkM, ← HNX.out] at h
          exact h)
        have HBN := Lib.hid (hb.setCell (p := ⟨g, is[k] * 4 + 3, none⟩) HGW.out (.int .i64 (M[is[k]].cnt + z)))
        have HINN : Hid (IntsIn (wr.setCell ⟨g, is[k] * 4 + 3, none⟩ (.int .i64 (M[is[k]].cnt + z))) (some ⟨b, off2, none⟩) (idxZ is)) := Lib.hid (fun hn => ⟨b, off2, rfl, by simpa using hbl2, fun j hj => by
          rw [World.cell?_setCell_far _ _ _ _ (by simpa using hbg)]
          exact hc j hj⟩)
        clear hmk hb hc hin
        generalize is[k] = K at *
        go_wp2
        go_roundw
        case rel => exact ⟨k + 1, by omega, by go_num, HMN.out, HINN.out, HBN.out⟩
        case measure => simp [intOf]; omega
      · obtain rfl : k = is.length := by omega
        rw [List.take_of_length_le (Nat.le_refl _)] at hmk hml
        have HMV : Hid (mvR l cs z = if caseB (moveL l is z) = true then some (moveL l is z) else none) := Lib.hid HX2.out
        have HOK := Lib.hid (moveL_ok is z HO.out)
        generalize moveL l is z = M at *
        have HBX := Lib.hid (hmk.bxs (by omega) hcm)
        have HOW : Hid (wr.ownsRow w.heap.size 26 4 (.slice (some ⟨g, 0, none⟩) l.length cap) l.length (flatBx M)) := Lib.hid (hmk.own4 HGW.out (by rw [flatBx_len]; omega) (by omega) hcm)
        have HBW := Lib.hid hb
        have hM2 : M.length ≤ 1048576 := by omega
        have HML := Lib.hid hml
        clear hmk hb hml hin
        cases hv : caseB M
        · have HE : Hid (mvR l cs z = none) := Lib.hid (by rw [HMV.out, hv]; rfl)
          have HV := Lib.hid hv; clear hv
          have hcg := implIsCase_is M _ (some ⟨g, 0, none⟩) cap wr HBX.out hM2 HOK.out HV
          rw [HML.out] at hcg
          have HCG := Lib.hid hcg; clear hcg
          go_wp2_with fail
          refine HCG.out.mono ?_
          rintro e w5 ⟨rfl, hb5⟩
          have hbf := HBW.out.trans (hb5.mono HBW.out.size)
          go_wp2
          go_ret2
          exact BxsTo.no HE.out hbf
        · have HE : Hid (mvR l cs z = some M) := Lib.hid (by rw [HMV.out, hv]; rfl)
          have HV := Lib.hid hv; clear hv
          have hcg := implIsCase_is M _ (some ⟨g, 0, none⟩) cap wr HBX.out hM2 HOK.out HV
          rw [HML.out] at hcg
          have HCG := Lib.hid hcg; clear hcg
          go_wp2_with fail
          refine HCG.out.mono ?_
          rintro e w5 ⟨rfl, hb5⟩
          have hbf := HBW.out.trans (hb5.mono HBW.out.size)
          have HOW2 := Lib.hid (own_below HOW.out hb5)
          go_wp2
          go_ret2
          exact ⟨.slice (some ⟨g, 0, none⟩) l.length cap, by rw [HE.out]; rfl, hbf, by rw [HE.out]; have h := HOW2.out; rw [← HML.out] at h ⊢; exact h⟩

theorem implTakeTypes_any (l : List Bx) (A : Option Addr) (c : Nat) (cs : List ByteArray) (B : Option Addr) (d : Nat) (w : World) (hf : BxsIn w A l) (hn : l.length ≤ 1048576) (ho : BxsOk l) (hcap : l.length ≤ c) (hs : StrsIn w B cs) (hso : StrsOk cs) (hm : cs.length ≤ 1048576) :
    Calls Try.prog 40 #[.slice A l.length c, .slice B cs.length d] w fun e w' => BxsTo w w' e (mvR l cs (-1)) := by
  have HF := Lib.hid hf; clear hf
  have HO := Lib.hid ho; clear ho
  have HS := Lib.hid hs; clear hs
  go_enter Try.func40, Try.ntmps40
  go_wp2_with fail
  refine (withCounts_any l A c cs B d (-1) _ HF.out hn HO.out HS.out hso hm (by decide)).mono ?_
  intro e w2 hto
  obtain ⟨v, rfl, hb2, hown⟩ := hto
  have HOW := Lib.hid hown
  clear hown
  generalize hbS : (mvR l cs (-1)).isSome = bS
  have HBS := Lib.hid hbS; clear hbS
  go_wp2
  go_ret2
  exact ⟨v, by rw [HBS.out]; rfl, hb2, HOW.out⟩
theorem implPutTypes_any (l : List Bx) (A : Option Addr) (c : Nat) (cs : List ByteArray) (B : Option Addr) (d : Nat) (w : World) (hf : BxsIn w A l) (hn : l.length ≤ 1048576) (ho : BxsOk l) (hcap : l.length ≤ c) (hs : StrsIn w B cs) (hso : StrsOk cs) (hm : cs.length ≤ 1048576) :
    Calls Try.prog 43 #[.slice A l.length c, .slice B cs.length d] w fun e w' => BxsTo w w' e (mvR l cs 1) := by
  have HF := Lib.hid hf; clear hf
  have HO := Lib.hid ho; clear ho
  have HS := Lib.hid hs; clear hs
  go_enter Try.func43, Try.ntmps43
  go_wp2_with fail
  refine (withCounts_any l A c cs B d 1 _ HF.out hn HO.out HS.out hso hm (by decide)).mono ?_
  intro e w2 hto
  obtain ⟨v, rfl, hb2, hown⟩ := hto
  have HOW := Lib.hid hown
  clear hown
  generalize hbS : (mvR l cs 1).isSome = bS
  have HBS := Lib.hid hbS; clear hbS
  go_wp2
  go_ret2
  exact ⟨v, by rw [HBS.out]; rfl, hb2, HOW.out⟩
end Go.Proofs.Ytllafkeheppkjaa

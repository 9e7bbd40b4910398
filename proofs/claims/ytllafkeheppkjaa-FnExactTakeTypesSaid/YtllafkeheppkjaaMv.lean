/-
  The contracts of spec.caMove, spec.TakeTypes, spec.PutTypes, impl.withCounts, impl.TakeTypes, impl.PutTypes.
-/
import Derived.Test.YtllafkeheppkjaaSz
namespace Go.Proofs.Ytllafkeheppkjaa
open Go.RowKit
set_option linter.unusedVariables false

def bumpL (z : Int) (l : List Bx) (i : Nat) : List Bx := l.set i { l.getD i default with cnt := (l.getD i default).cnt + z }
def moveL (l : List Bx) (is : List Nat) (z : Int) : List Bx := is.foldl (bumpL z) l
theorem moveL_snoc (l : List Bx) (is : List Nat) (i : Nat) (z : Int) : moveL l (is ++ [i]) z = bumpL z (moveL l is z) i := by unfold moveL; rw [List.foldl_append]; rfl
theorem bumpL_len (z : Int) (l : List Bx) (i : Nat) : (bumpL z l i).length = l.length := by simp [bumpL]
theorem moveL_len (l : List Bx) (is : List Nat) (z : Int) : (moveL l is z).length = l.length := by
  induction is generalizing l with
  | nil => rfl
  | cons i r ih => show (moveL (bumpL z l i) r z).length = _; rw [ih, bumpL_len]
theorem bumpL_cod (z : Int) (l : List Bx) (i : Nat) : (bumpL z l i).map Bx.cod = l.map Bx.cod := by
  apply List.ext_getElem
  · simp [bumpL]
  · intro k h1 h2
    simp only [List.getElem_map, bumpL, List.getElem_set]
    split
    · rename_i e
      subst e
      rw [getD_at (by simpa using h2)]
    · rfl
theorem moveL_cod (l : List Bx) (is : List Nat) (z : Int) : (moveL l is z).map Bx.cod = l.map Bx.cod := by
  induction is generalizing l with
  | nil => rfl
  | cons i r ih => show (moveL (bumpL z l i) r z).map Bx.cod = _; rw [ih, bumpL_cod]
theorem moveL_caI (l : List Bx) (is : List Nat) (z : Int) (c : ByteArray) : caI (moveL l is z) c = caI l c := by unfold caI; rw [sf_swap (moveL_cod l is z)]
theorem moveL_ok {l : List Bx} (is : List Nat) (z : Int) (h : BxsOk l) : BxsOk (moveL l is z) := by
  intro k hk
  have hk' : k < l.length := by rwa [moveL_len] at hk
  have e := moveL_cod l is z
  have e2 : ((moveL l is z).map Bx.cod)[k]'(by simpa using hk) = (l.map Bx.cod)[k]'(by simpa using hk') := by simp only [e]
  simp only [List.getElem_map] at e2
  show (moveL l is z)[k].cod.size ≤ maxLen
  rw [e2]
  exact h k hk'
theorem bumpL_cnt {z : Int} (hz : -1 ≤ z ∧ z ≤ 1) (l : List Bx) (i k : Nat) (h : k < (bumpL z l i).length) (h' : k < l.length) : l[k].cnt - 1 ≤ (bumpL z l i)[k].cnt ∧ (bumpL z l i)[k].cnt ≤ l[k].cnt + 1 := by
  simp only [bumpL, List.getElem_set]
  split
  · rename_i e
    subst e
    rw [getD_at h']
    show l[i].cnt - 1 ≤ l[i].cnt + z ∧ l[i].cnt + z ≤ l[i].cnt + 1
    omega
  · omega
theorem moveL_cnt {z : Int} (hz : -1 ≤ z ∧ z ≤ 1) : ∀ (is : List Nat) (l : List Bx) (k : Nat) (h : k < (moveL l is z).length) (h' : k < l.length), l[k].cnt - is.length ≤ (moveL l is z)[k].cnt ∧ (moveL l is z)[k].cnt ≤ l[k].cnt + is.length
  | [], l, k, h, h' => by simp [moveL]
  | i :: r, l, k, h, h' => by
    have hb : k < (bumpL z l i).length := by rwa [bumpL_len]
    have h1 := bumpL_cnt hz l i k hb h'
    have h2 := moveL_cnt hz r (bumpL z l i) k (by rw [moveL_len]; exact hb) hb
    have e : moveL l (i :: r) z = moveL (bumpL z l i) r z := rfl
    simp only [e, List.length_cons]
    omega
theorem bumpL_flat {l : List Bx} {i : Nat} (h : i < l.length) (z : Int) : (flatBx l).set (i * 4 + 3) (.int .i64 (l[i].cnt + z)) = flatBx (bumpL z l i) := by
  rw [flatBx_cnt l i h]
  unfold bumpL
  rw [getD_at h]
theorem Marked.bxs {w : World} {g cap : Nat} {e : TypeId} {m : List Bx} (h : Marked w g e (cap * 4) (flatBx m)) (h1 : m.length ≤ cap) (h2 : cap ≤ maxLen) : BxsIn w (some ⟨g, 0, none⟩) m :=
  own_in_bx (h.own4 (base := 0) (Nat.zero_le _) (by rw [flatBx_len]; omega) h1 h2)
theorem Marked.cntAt {w : World} {g n : Nat} {e : TypeId} {m : List Bx} (h : Marked w g e n (flatBx m)) {i : Nat} (hi : i < m.length) : w.cell? ⟨g, i * 4 + 3, none⟩ = some (.int .i64 m[i].cnt) := by
  have hl := flatBx_len m
  have hc := h.cellAt (j := i * 4 + 3) (by omega)
  obtain ⟨_, _, _, g3⟩ := flatBx_get m i hi
  rw [List.getElem?_eq_getElem (by omega)] at g3
  rw [hc]; exact g3
/-- The answer of TakeTypes (z = -1) and PutTypes (z = 1). -/
noncomputable def mvR (l : List Bx) (cs : List ByteArray) (z : Int) : Option (List Bx) := if askB2 l cs = true ∧ caseB (moveL l (ixs l cs) z) = true then some (moveL l (ixs l cs) z) else none
theorem mvR_short (l : List Bx) (cs : List ByteArray) (z : Int) : ((mvR l cs z).getD []).length ≤ 64 := by
  unfold mvR
  split
  · rename_i h
    have := (caseB_iff.1 h.2).2.2
    simp; omega
  · simp
noncomputable def mvT (l : List Bx) (is : List Nat) (z : Int) : Option (List Bx) := if caseB (moveL l is z) = true then some (moveL l is z) else none
theorem bx_up {w : World} {b1 b2 n : Nat} {e : TypeId} {v : Value} {xs : List Value} (h : w.ownsRow b1 e 4 v n xs) (hb : b2 ≤ b1) : w.ownsRow b2 e 4 v n xs := ⟨h.1, h.2.imp id fun ⟨g, cap, cur, e1, e2, e3⟩ => ⟨g, cap, cur, e1, Nat.le_trans hb e2, e3⟩⟩
theorem BxsTo.up {w0 w w' : World} {e : Ending} {r : Option (List Bx)} (hb : Below w0.heap.size w0 w) (h : BxsTo w w' e r) : BxsTo w0 w' e r := by
  obtain ⟨v, rfl, h1, h2⟩ := h
  exact ⟨v, rfl, hb.trans (h1.mono hb.size), bx_up h2 hb.size⟩

set_option maxRecDepth 100000 in
set_option maxHeartbeats 2000000 in
theorem caMove_any (l : List Bx) (A : Option Addr) (c : Nat) (cs : List ByteArray) (B : Option Addr) (d : Nat) (z : Int) (w : World) (hf : BxsIn w A l) (hn : l.length ≤ 1048576) (ho : BxsOk l) (hs : StrsIn w B cs) (hC : CaseOk l) (ha : AllIn l cs) (hm : cs.length ≤ 60) (hz : -1 ≤ z ∧ z ≤ 1) :
    Calls Try.prog 75 #[.slice A l.length c, .slice B cs.length d, .int .i64 z] w fun e w' => BxsTo w w' e (mvT l (ixs l cs) z) := by
  have hf' := hf.next ((Below.refl w.heap.size w).alloc (Nat.le_refl _) (.cells #[] 26))
  have h1l : 1 ≤ l.length := hC.2.1
  have h32 : l.length ≤ 32 := hC.2.2
  have HS := Lib.hid hs; have HA := Lib.hid ha; have HC := Lib.hid hC; have HO := Lib.hid ho
  clear hs ha hC ho
  obtain ⟨q, off, rfl, hbl, hc'⟩ := hf' (by omega)
  obtain ⟨i0, hi, hz0, hz1, hz2⟩ := info_parts infoBx
  have HI0 := Lib.hid hi; have HZ0 := Lib.hid hz0; have HZ1 := Lib.hid hz1; have HZ2 := Lib.hid hz2
  clear hi hz0 hz1 hz2
  have HNW := Lib.hid (newsBx hc')
  have HOW : Hid ((w.alloc (.cells #[] 26)).ownsRow w.heap.size 26 4 (.slice (some ⟨w.heap.size, 0, none⟩) 0 0) 0 []) := Lib.hid (own_none4 _ (heap_new _ _) (Nat.le_refl _))
  have hmx : 0 + l.length ≤ maxLen := by unfold maxLen; omega
  clear hc' hf' hf
  obtain ⟨is, his⟩ : ∃ is, is = ixs l cs := ⟨_, rfl⟩
  have hil : is.length = cs.length := by rw [his]; simp [ixs]
  have HIL := Lib.hid hil; have HIS := Lib.hid his
  have HIK : Hid (∀ k (h : k < is.length) (h' : k < cs.length), is[k] = kI l cs[k]) := Lib.hid (by subst his; intro k h h'; simp [ixs])
  rw [← his]
  clear his hil
  go_enter Try.func75, Try.ntmps75
  go_wp2_with (at_builtin; refine wpList_append_own _ rfl _ _ 32 rfl w.heap.size 26 i0 (.agg #[.string .empty, .int .i64 0, .int .i64 0, .int .i64 0]) 4 40 Try.underlying32 HI0.out HZ0.out HZ1.out HZ2.out rfl (by decide) _ _ _ rfl HOW.out ⟨q, off, none⟩ l.length c (flatBx l) rfl (by rw [flatBx_len]; omega) HNW.out (flatBx_one l) hmx (by omega) (by simp) ?_)
  intro v' w4 hown' hgrow _
  have HB1 : Hid (Below w.heap.size w w4) := Lib.hid (((Below.refl _ _).alloc (Nat.le_refl _) _).grown hgrow (by simp) (own_lt HOW.out))
  have hown : w4.ownsRow w.heap.size 26 4 v' l.length (flatBx l) := by simpa using hown'
  obtain ⟨g, cap, rfl, hg, hcap, hcm, hmk⟩ := own4_marked hown (by omega)
  have HMK := Lib.hid hmk
  clear hown hown' hgrow hmk HNW HOW
  go_wp2
  go_loopw [16] (fun i wr => ∃ (k : Nat), k ≤ cs.length ∧ i = .int .i64 k ∧ Marked wr g 26 (cap * 4) (flatBx (moveL l (is.take k) z)) ∧ Below w.heap.size w wr) (fun i _ => cs.length - (intOf i).toNat)
  case atStart => exact ⟨0, Nat.zero_le _, rfl, HMK.out, HB1.out⟩
  case round =>
    obtain ⟨k, hk, rfl, hmk, hb⟩ := hrel
    have hml := moveL_len l (is.take k) z
    have hmxl := hcm
    by_cases hlt : k < cs.length
    · obtain ⟨b, off2, rfl, hbl2, hc⟩ := HS.out (by omega)
      have hc0 := hc k hlt
      clear hc
      rw [← hb.cell (p := ⟨b, off2 + k, none⟩) hbl2] at hc0
      obtain ⟨hkl, hkv⟩ := kI_lt (HA.out k hlt)
      have HBX := Lib.hid (hmk.bxs (by rw [hml]; exact hcap) hcm)
      have hcaI := moveL_caI l (is.take k) z cs[k]
      have hik := HIK.out k (by rw [HIL.out]; exact hlt) hlt
      have hcn := moveL_cnt hz (is.take k) l (kI l cs[k]) (by rw [hml]; exact hkl) hkl
      have hcr := (HC.out.range hkl).2.2
      have hkk : (is.take k).length = k := by rw [List.length_take, HIL.out]; omega
      rw [hkk] at hcn
      have HNX : Hid (moveL l (is.take (k + 1)) z = bumpL z (moveL l (is.take k) z) (kI l cs[k])) := Lib.hid (by
        rw [List.take_succ_eq_append_getElem (by rw [HIL.out]; exact hlt), moveL_snoc, hik])
      have hML : (moveL l (is.take k) z).length = l.length := hml
      generalize hM : moveL l (is.take k) z = M at *
      have HMEQ := Lib.hid hM; clear hM
      have hkM : kI l cs[k] < M.length := by omega
      have hM2 : M.length ≤ 1048576 := by omega
      have hcn2 : l[kI l cs[k]].cnt - (k : Int) ≤ (M[kI l cs[k]]'hkM).cnt ∧ (M[kI l cs[k]]'hkM).cnt ≤ l[kI l cs[k]].cnt + (k : Int) := hcn
      clear hcn
      have HML := Lib.hid hML
      clear hML hml
      have hcf := caFind_any M (some ⟨g, 0, none⟩) cap cs[k] wr HBX.out hM2
      rw [HML.out] at hcf
      have HCF := Lib.hid hcf
      clear hcf
      go_wp2_with fail
      refine HCF.out.mono ?_
      rintro e w5 ⟨rfl, hb5⟩
      rw [hcaI, hkv]
      have hmk5 := hmk.below hb5
      have hb' := hb.trans (hb5.mono hb.size)
      clear hb hb5 hmk hc0 hcaI hkv HBX hik
      generalize kI l cs[k] = K at *
      have hgt := hmk5.cntAt hkM
      obtain ⟨_, hfz⟩ := hmk5.at_ (j := K * 4 + 3) (by have := HML.out; omega)
      have hkl2 : K < l.length := hkl
      have HMN : Hid (Marked (w5.setCell ⟨g, K * 4 + 3, none⟩ (.int .i64 (M[K].cnt + z))) g 26 (cap * 4) (flatBx (moveL l (is.take (k + 1)) z))) := Lib.hid (by
        have h := hmk5.put (j := K * 4 + 3) (.int .i64 (M[K].cnt + z))
        rw [bumpL_flat hkM, ← HNX.out] at h
        exact h)
      have HBN := Lib.hid (hb'.setCell (p := ⟨g, K * 4 + 3, none⟩) hg (.int .i64 (M[K].cnt + z)))
      clear hmk5 hb'
      go_wp2
      go_roundw
      case rel => exact ⟨k + 1, by omega, by go_num, HMN.out, HBN.out⟩
      case measure => simp [intOf]; omega
    · obtain rfl : k = cs.length := by omega
      rw [List.take_of_length_le (by rw [HIL.out]; exact Nat.le_refl _)] at hmk hml
      have HMV : Hid (mvT l is z = if caseB (moveL l is z) = true then some (moveL l is z) else none) := Lib.hid rfl
      have HOK := Lib.hid (moveL_ok is z HO.out)
      generalize moveL l is z = M at *
      have HBX := Lib.hid (hmk.bxs (by omega) hcm)
      have HOW : Hid (wr.ownsRow w.heap.size 26 4 (.slice (some ⟨g, 0, none⟩) l.length cap) l.length (flatBx M)) := Lib.hid (hmk.own4 hg (by rw [flatBx_len]; omega) (by omega) hcm)
      have HBW := Lib.hid hb
      have hMc : M.length ≤ cap := by omega
      have hM2 : M.length ≤ 1048576 := by omega
      have HML := Lib.hid hml
      clear hmk hb hml
      cases hv : caseB M
      · have HE : Hid (mvT l is z = none) := Lib.hid (by rw [HMV.out, hv]; rfl)
        have HV := Lib.hid hv; clear hv
        have hcg := caGood_is M _ (some ⟨g, 0, none⟩) cap wr HBX.out hM2 HOK.out hMc HV
        rw [HML.out] at hcg
        have HCG := Lib.hid hcg; clear hcg
        go_wp2_with fail
        refine HCG.out.mono ?_
        rintro e w5 ⟨rfl, hb5⟩
        have hbf := HBW.out.trans (hb5.mono HBW.out.size)
        go_wp2
        go_ret2
        exact BxsTo.no HE.out hbf
      · have HE : Hid (mvT l is z = some M) := Lib.hid (by rw [HMV.out, hv]; rfl)
        have HV := Lib.hid hv; clear hv
        have hcg := caGood_is M _ (some ⟨g, 0, none⟩) cap wr HBX.out hM2 HOK.out hMc HV
        rw [HML.out] at hcg
        have HCG := Lib.hid hcg; clear hcg
        go_wp2_with fail
        refine HCG.out.mono ?_
        rintro e w5 ⟨rfl, hb5⟩
        have hbf := HBW.out.trans (hb5.mono HBW.out.size)
        have HOW2 := Lib.hid (own_below HOW.out hb5)
        go_wp2
        go_ret2
        exact ⟨.slice (some ⟨g, 0, none⟩) l.length cap, by rw [HE.out]; rfl, hbf, by rw [HE.out]; have h := HOW2.out; rw [← HML.out] at h ⊢; exact h⟩

theorem specTakeTypes_any (l : List Bx) (A : Option Addr) (c : Nat) (cs : List ByteArray) (B : Option Addr) (d : Nat) (w : World) (hf : BxsIn w A l) (hn : l.length ≤ 1048576) (ho : BxsOk l) (hcap : l.length ≤ c) (hs : StrsIn w B cs) (hso : StrsOk cs) (hm : cs.length ≤ 1048576) :
    Calls Try.prog 39 #[.slice A l.length c, .slice B cs.length d] w fun e w' => BxsTo w w' e (mvR l cs (-1)) := by
  have HF := Lib.hid hf; clear hf
  have HO := Lib.hid ho; clear ho
  have HS := Lib.hid hs; clear hs
  cases hv : askB2 l cs
  · have HE : Hid (mvR l cs (-1) = none) := Lib.hid (by unfold mvR; rw [hv]; simp)
    have HV := Lib.hid hv; clear hv
    go_enter Try.func39, Try.ntmps39
    go_wp2_with fail
    refine (caAsked_is l _ A c cs B d _ HF.out hn HO.out hcap HS.out hso hm HV).mono ?_
    rintro e w1 ⟨rfl, hb1⟩
    go_wp2
    go_ret2
    exact BxsTo.no HE.out hb1
  · have HE : Hid (mvR l cs (-1) = mvT l (ixs l cs) (-1)) := Lib.hid (by unfold mvR mvT; rw [hv]; simp)
    obtain ⟨hC, hA, hL⟩ := askB2_all hv
    have HC := Lib.hid hC; have HA := Lib.hid hA; clear hC hA
    have HV := Lib.hid hv; clear hv
    go_enter Try.func39, Try.ntmps39
    go_wp2_with fail
    refine (caAsked_is l _ A c cs B d _ HF.out hn HO.out hcap HS.out hso hm HV).mono ?_
    rintro e w1 ⟨rfl, hb1⟩
    have HF1 := Lib.hid (HF.out.next hb1); have HS1 := Lib.hid (HS.out.below hb1 (Nat.le_refl _))
    go_wp2_with fail
    refine (caMove_any l A c cs B d (-1) _ HF1.out hn HO.out HS1.out HC.out HA.out hL (by decide)).mono ?_
    intro e w2 hto
    obtain ⟨v, rfl, hb2, hown⟩ := BxsTo.up hb1 hto
    have HOW := Lib.hid hown
    clear hto hown
    generalize hbS : (mvT l (ixs l cs) (-1)).isSome = bS
    have HBS := Lib.hid hbS; clear hbS
    go_wp2
    go_ret2
    exact ⟨v, by rw [HE.out, HBS.out]; rfl, hb2, by rw [HE.out]; exact HOW.out⟩
theorem specPutTypes_any (l : List Bx) (A : Option Addr) (c : Nat) (cs : List ByteArray) (B : Option Addr) (d : Nat) (w : World) (hf : BxsIn w A l) (hn : l.length ≤ 1048576) (ho : BxsOk l) (hcap : l.length ≤ c) (hs : StrsIn w B cs) (hso : StrsOk cs) (hm : cs.length ≤ 1048576) :
    Calls Try.prog 42 #[.slice A l.length c, .slice B cs.length d] w fun e w' => BxsTo w w' e (mvR l cs 1) := by
  have HF := Lib.hid hf; clear hf
  have HO := Lib.hid ho; clear ho
  have HS := Lib.hid hs; clear hs
  cases hv : askB2 l cs
  · have HE : Hid (mvR l cs 1 = none) := Lib.hid (by unfold mvR; rw [hv]; simp)
    have HV := Lib.hid hv; clear hv
    go_enter Try.func42, Try.ntmps42
    go_wp2_with fail
    refine (caAsked_is l _ A c cs B d _ HF.out hn HO.out hcap HS.out hso hm HV).mono ?_
    rintro e w1 ⟨rfl, hb1⟩
    go_wp2
    go_ret2
    exact BxsTo.no HE.out hb1
  · have HE : Hid (mvR l cs 1 = mvT l (ixs l cs) 1) := Lib.hid (by unfold mvR mvT; rw [hv]; simp)
    obtain ⟨hC, hA, hL⟩ := askB2_all hv
    have HC := Lib.hid hC; have HA := Lib.hid hA; clear hC hA
    have HV := Lib.hid hv; clear hv
    go_enter Try.func42, Try.ntmps42
    go_wp2_with fail
    refine (caAsked_is l _ A c cs B d _ HF.out hn HO.out hcap HS.out hso hm HV).mono ?_
    rintro e w1 ⟨rfl, hb1⟩
    have HF1 := Lib.hid (HF.out.next hb1); have HS1 := Lib.hid (HS.out.below hb1 (Nat.le_refl _))
    go_wp2_with fail
    refine (caMove_any l A c cs B d 1 _ HF1.out hn HO.out HS1.out HC.out HA.out hL (by decide)).mono ?_
    intro e w2 hto
    obtain ⟨v, rfl, hb2, hown⟩ := BxsTo.up hb1 hto
    have HOW := Lib.hid hown
    clear hto hown
    generalize hbS : (mvT l (ixs l cs) 1).isSome = bS
    have HBS := Lib.hid hbS; clear hbS
    go_wp2
    go_ret2
    exact ⟨v, by rw [HE.out, HBS.out]; rfl, hb2, by rw [HE.out]; exact HOW.out⟩
end Go.Proofs.Ytllafkeheppkjaa

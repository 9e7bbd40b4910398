/-
  The contracts of spec.biNeed, spec.biCopy, spec.biAsked, spec.CountSorts: each answers what the plain words here say and changes nothing that was there.
-/
import Derived.Test.YtdomccamkiplcaaChk
namespace Go.Proofs.Ytdomccamkiplcaa
open Go.RowKit
set_option linter.unusedVariables false

/-- The need, where all words can be set. -/
def canR (f : List (ByteArray × Int)) (ws : List ByteArray) : Option (List Int) := if canB f ws then some (needF f ws) else none
theorem canR_no {f : List (ByteArray × Int)} {ws : List ByteArray} (h : canB f ws = false) : canR f ws = none := by unfold canR; rw [h]; rfl
theorem canR_yes {f : List (ByteArray × Int)} {ws : List ByteArray} (h : canB f ws = true) : canR f ws = some (needF f ws) := by unfold canR; rw [h]; rfl
/-- The row g counts a list of sorts, and nothing else has turned. -/
def CntAt (w : World) (g : Nat) (n : Nat) (L : List Nat) (wr : World) : Prop := Own wr g 3 (intsZ (cntL n L)) ∧ Below w.heap.size w wr
theorem CntAt.step {w wr : World} {g n i : Nat} {L : List Nat} (h : CntAt w g n L wr) (hg : w.heap.size ≤ g) (hi : i < n) : CntAt w g n (L ++ [i]) (wr.setCell ⟨g, i, none⟩ (.int .i64 (((L.count i : Nat) : Int) + 1))) :=
  ⟨by rw [← cntL_snoc L hi]; exact h.1.set i _, h.2.setCell hg _⟩
theorem CntAt.next {w wr w' : World} {g n : Nat} {L : List Nat} (h : CntAt w g n L wr) (hb : Below wr.heap.size wr w') : CntAt w g n L w' := ⟨h.1.next hb, h.2.trans (hb.mono h.2.size)⟩

set_option maxRecDepth 100000 in
set_option maxHeartbeats 1000000 in
theorem biNeed_any (f : List (ByteArray × Int)) (A : Option Addr) (c : Nat) (ws : List ByteArray) (B : Option Addr) (d : Nat) (lo : Nat) (w : World) (hf : SortsIn w lo A f) (hF : Font f) (hg : StrsIn w B ws) (hw : wordsB ws = true) :
    Calls Try.prog 48 #[.slice A f.length c, .slice B ws.length d] w fun e w' => IntsTo w w' e (canR f ws) := by
  have hn : f.length ≤ 32 := hF.2.2
  have hw40 := words_40 hw
  have HS := Lib.hid hf; clear hf
  have HG := Lib.hid hg; clear hg
  have HFF := Lib.hid hF; clear hF
  have HW := Lib.hid hw; clear hw
  have hmk := run_makeInt f.length (by omega)
  have hst : CntAt w w.heap.size f.length (flS f (ws.take 0)) (w.alloc (.cells (madeCells #[.int .i64 0] (f.length * 1)) 3)) := ⟨made_own _ _, (Below.refl _ _).alloc (Nat.le_refl _) _⟩
  generalize hz : madeCells #[.int .i64 0] (f.length * 1) = cs0 at *
  go_enter Try.func48, Try.ntmps48
  have HST := Lib.hid hst; clear hst hz
  go_wp2
  clear hmk
  obtain ⟨g, hg⟩ : ∃ g, g = w.heap.size := ⟨_, rfl⟩
  rw [← hg] at HST ⊢
  have hgle : w.heap.size ≤ g := by omega
  have HGE := Lib.hid hg; clear hg
  go_loopw [18] (fun i wr => ∃ (k : Nat), k ≤ ws.length ∧ i = .int .i64 k ∧ canB f (ws.take k) = true ∧ CntAt w g f.length (flS f (ws.take k)) wr) (fun i _ => ws.length - (intOf i).toNat)
  case atStart => exact ⟨0, Nat.zero_le _, rfl, rfl, HST.out⟩
  case round =>
    obtain ⟨k, hk, rfl, hs, hc⟩ := hrel
    clear HST
    have HC := Lib.hid hc; clear hc
    have HS1 := Lib.hid hs; clear hs
    by_cases hlt : k < ws.length
    · obtain ⟨b, off, rfl, hbl, hd⟩ := HG.out (by omega)
      have hd0 := hd k hlt
      clear hd
      rw [← HC.out.2.cell (p := ⟨b, off + k, none⟩) hbl] at hd0
      have hsz := words_size HW.out hlt
      have HSN := Lib.hid (flS_snoc f hlt)
      have HCN := Lib.hid (canB_no (f := f) hlt)
      have HCS := Lib.hid (canB_snoc (f := f) hlt HS1.out)
      have H640 := Lib.hid (flS_640 (f := f) HW.out k)
      have HSW := Lib.hid (HS.out.below HC.out.2 (Nat.le_refl _))
      have HSG : Hid (sg f ws[k] = (setW f ws[k]).getD []) := Lib.hid rfl
      generalize ws[k] = s at *
      go_wp2_with fail
      refine (tySet_any f A c s lo _ HSW.out HFF.out hsz).mono ?_
      intro e w1 hto
      have HC1 := Lib.hid (HC.out.next hto.1)
      have hbw := hto.1
      obtain ⟨_, hto⟩ := hto
      cases hr : setW f s with
      | none =>
        rw [hr] at hto
        obtain rfl := hto
        have HN := Lib.hid (canR_no (HCN.out hr))
        clear hr hbw HC
        go_wp2
        go_ret2
        exact IntsTo.no HN.out HC1.out.2
      | some l =>
        rw [hr] at hto
        obtain ⟨v, rfl, ho⟩ := hto
        have ho2 : w1.ownsRow wr.heap.size 3 1 v (intL l).length (intsZ (intL l)) := by rw [intL_len]; rw [ints_Z] at ho; exact ho
        obtain ⟨A1, c1, rfl⟩ := own_form ho2
        have HI := Lib.hid (own_off (g := g) ho2 (by have := HC.out.1.lt; exact this))
        have HSG1 : Hid (sg f s = l) := Lib.hid (by rw [HSG.out, hr]; rfl)
        have HCS1 := Lib.hid (HCS.out (by rw [hr]; rfl))
        have HM : Hid (∀ i ∈ l, i < f.length) := Lib.hid (by rw [← HSG1.out]; exact sg_mem)
        have hl16 : l.length ≤ 16 := by rw [← HSG1.out]; exact sg_len hsz
        rw [intL_len]
        clear hr hbw ho ho2 HSG HCS HCN HC hd0
        go_wp2
        obtain ⟨wo, hwo⟩ : ∃ wo : World, wo = w1 := ⟨_, rfl⟩
        subst hwo
        go_loopw [32] (fun i wr => ∃ (j : Nat), j ≤ l.length ∧ i = .int .i64 j ∧ CntAt w g f.length (flS f (ws.take k) ++ l.take j) wr ∧ wo.grownBy wr (some g)) (fun i _ => l.length - (intOf i).toNat)
        case atStart => exact ⟨0, Nat.zero_le _, rfl, by rw [List.take_zero, List.append_nil]; exact HC1.out, World.grownBy.refl _ _⟩
        case round =>
          obtain ⟨j, hj, rfl, hc, hgr⟩ := hrel
          clear HC1
          have HGR := Lib.hid hgr; clear hgr
          have HC := Lib.hid hc; clear hc
          by_cases hlj : j < l.length
          · obtain ⟨b1, o1, rfl, hne, hb1, hd⟩ := HI.out (by rw [intL_len]; omega)
            have hd0 := hd j (by rw [intL_len]; exact hlj)
            rw [intL_get] at hd0
            have hd1 := (cell_grown HGR.out hne hb1).trans hd0
            have hil := HM.out _ (List.getElem_mem hlj)
            have HT := Lib.hid (List.take_succ_eq_append_getElem hlj)
            clear hd hd0 hne hb1
            obtain ⟨L, hL⟩ : ∃ L, L = flS f (ws.take k) ++ l.take j := ⟨_, rfl⟩
            rw [← hL] at HC
            have hLl : L.length ≤ 700 := by rw [hL, List.length_append, List.length_take]; have := H640.out; omega
            have HL := Lib.hid hL; clear hL
            generalize l[j] = i at *
            have hcell : wr.cell? ⟨g, i, none⟩ = some (.int .i64 ((L.count i : Nat) : Int)) := by rw [HC.out.1.cell]; exact cntL_at hil
            have hfr := HC.out.1.free i
            have HST := Lib.hid (HC.out.step hgle hil)
            have hq : L.count i ≤ 700 := Nat.le_trans (count_le L i) hLl
            have HGR1 := Lib.hid (grown_set HGR.out i (.int .i64 (((L.count i : Nat) : Int) + 1)))
            generalize L.count i = q at *
            clear HC HGR hLl
            go_wp2
            go_roundw
            case rel => exact ⟨j + 1, by omega, by go_num, by rw [HT.out, ← List.append_assoc, ← HL.out]; exact HST.out, HGR1.out⟩
            case measure => simp [intOf]; omega
          · obtain rfl : j = l.length := by omega
            have HE : Hid (CntAt w g f.length (flS f (ws.take (k + 1))) wr) := by
              have h := HC.out
              rw [List.take_length] at h
              rw [HSN.out, HSG1.out]; exact Lib.hid h
            clear HC
            go_wp2
            go_roundw
            case rel => exact ⟨k + 1, by omega, by go_num, HCS1.out, HE.out⟩
            case measure => simp [intOf]; omega
    · obtain rfl : k = ws.length := by omega
      have hcan := HS1.out
      have hc := HC.out
      rw [List.take_length] at hcan hc
      have HY := Lib.hid (canR_yes hcan)
      have HO := Lib.hid hc
      have HLN := Lib.hid (needF_len f ws)
      clear hcan hc HC HS1
      go_wp2
      go_ret2
      have h := IntsTo.own (b := g) HY.out HO.out.2 HO.out.1 hgle (by rw [HLN.out]; unfold maxLen; omega)
      rw [HLN.out] at h
      exact h

theorem copyB_no {f : List (ByteArray × Int)} {ws : List ByteArray} (h : fontB f = false ∨ wordsB ws = false ∨ canB f ws = false) : copyB f ws = false := by
  unfold copyB
  rcases h with h | h | h <;> simp [h]
theorem copyB_yes {f : List (ByteArray × Int)} {ws : List ByteArray} (h1 : fontB f = true) (h2 : wordsB ws = true) : copyB f ws = canB f ws := by
  unfold copyB; simp [h1, h2]
theorem needR_can {f : List (ByteArray × Int)} {ws : List ByteArray} (h : copyB f ws = true) : needR f ws = canR f ws := by
  rw [need_yes h, canR_yes (copy_parts h).2.2]

theorem biCopy_any (f : List (ByteArray × Int)) (A : Option Addr) (c : Nat) (ws : List ByteArray) (B : Option Addr) (d : Nat) (lo : Nat) (w : World) (hf : SortsIn w lo A f) (hn : f.length ≤ 1048576) (ho : CodesOk f) (hg : StrsIn w B ws) (ho' : StrsOk ws) (hm : ws.length ≤ 1048576) :
    Calls Try.prog 47 #[.slice A f.length c, .slice B ws.length d] w fun e w' => e = .returned (.bool (copyB f ws)) ∧ Below w.heap.size w w' := by
  have HS := Lib.hid hf; clear hf
  have HG := Lib.hid hg; clear hg
  have HO := Lib.hid ho; clear ho
  have HO' := Lib.hid ho'; clear ho'
  go_enter Try.func47, Try.ntmps47
  go_wp2_with fail
  refine (tyFont_any f A c lo _ HS.out hn HO.out).mono ?_
  rintro e w1 ⟨rfl, hb1⟩
  cases hv : fontB f
  · have HN := Lib.hid (copyB_no (ws := ws) (.inl hv))
    clear hv
    go_wp2
    go_ret
    exact ⟨ret_bool HN.out.symm, hb1⟩
  have HV := Lib.hid hv; clear hv
  have HG1 := Lib.hid (HG.out.below hb1 (Nat.le_refl _))
  go_wp2_with fail
  refine (tyWords_any ws B d _ HG1.out HO'.out hm).mono ?_
  rintro e w2 ⟨rfl, hb2⟩
  have hb2' := hb1.trans (hb2.mono hb1.size)
  clear hb1 hb2 HG1
  cases hw : wordsB ws
  · have HN := Lib.hid (copyB_no (f := f) (.inr (.inl hw)))
    clear hw
    go_wp2
    go_ret
    exact ⟨ret_bool HN.out.symm, hb2'⟩
  have HCC := Lib.hid (copyB_yes HV.out hw)
  have HW := Lib.hid hw; clear hw
  have HG2 := Lib.hid (HG.out.below hb2' (Nat.le_refl _))
  have HS2 := Lib.hid (HS.out.below hb2' (Nat.le_refl _))
  go_wp2_with fail
  refine (biNeed_any f A c ws B d lo _ HS2.out (fontB_iff.1 HV.out) HG2.out HW.out).mono ?_
  rintro e w3 ⟨v, rfl, hb3, _⟩
  have hb3' := hb2'.trans (hb3.mono hb2'.size)
  have HR : Hid ((canR f ws).isSome = copyB f ws) := Lib.hid (by rw [HCC.out]; unfold canR; cases canB f ws <;> rfl)
  clear hb2' hb3
  go_wp2
  go_ret
  exact ⟨ret_bool HR.out, hb3'⟩

theorem biAsked_any (f : List (ByteArray × Int)) (A : Option Addr) (c : Nat) (st : List Int) (C : Option Addr) (q : Nat) (ws : List ByteArray) (B : Option Addr) (d : Nat) (lo : Nat) (w : World) (hf : SortsIn w lo A f) (hn : f.length ≤ 1048576) (ho : CodesOk f) (hi : IntsIn w C st) (hq : st.length ≤ 1048576) (hg : StrsIn w B ws) (ho' : StrsOk ws) (hm : ws.length ≤ 1048576) :
    Calls Try.prog 50 #[.slice A f.length c, .slice C st.length q, .slice B ws.length d] w fun e w' => e = .returned (.bool (copyB f ws && stockB f st)) ∧ Below w.heap.size w w' := by
  have HI := Lib.hid hi; clear hi
  go_enter Try.func50, Try.ntmps50
  go_wp2_with fail
  refine (biCopy_any f A c ws B d lo _ hf hn ho hg ho' hm).mono ?_
  rintro e w1 ⟨rfl, hb1⟩
  have HI1 := Lib.hid (HI.out.below hb1 (Nat.le_refl _))
  clear hf ho hg ho'
  cases hv : copyB f ws
  · have HV := Lib.hid hv; clear hv
    go_wp2
    go_ret
    exact ⟨ret_bool (by rw [HV.out]; rfl), hb1⟩
  · have HV := Lib.hid hv; clear hv
    go_wp2_with fail
    refine (biStock_any f A c st C q _ HI1.out hn hq).mono ?_
    rintro e w2 ⟨rfl, rfl⟩
    go_wp2
    go_ret
    exact ⟨ret_bool (by rw [HV.out]; rfl), hb1⟩

theorem specCount_any (f : List (ByteArray × Int)) (A : Option Addr) (c : Nat) (ws : List ByteArray) (B : Option Addr) (d : Nat) (lo : Nat) (w : World) (hf : SortsIn w lo A f) (hn : f.length ≤ 1048576) (ho : CodesOk f) (hg : StrsIn w B ws) (ho' : StrsOk ws) (hm : ws.length ≤ 1048576) :
    Calls Try.prog 14 #[.slice A f.length c, .slice B ws.length d] w fun e w' => IntsTo w w' e (needR f ws) := by
  have HS := Lib.hid hf; clear hf
  have HG := Lib.hid hg; clear hg
  go_enter Try.func14, Try.ntmps14
  go_wp2_with fail
  refine (biCopy_any f A c ws B d lo _ HS.out hn ho HG.out ho' hm).mono ?_
  rintro e w1 ⟨rfl, hb1⟩
  clear ho ho'
  cases hv : copyB f ws
  · have HN := Lib.hid (need_no hv)
    clear hv
    go_wp2
    go_ret2
    exact IntsTo.no HN.out hb1
  · have HN := Lib.hid (needR_can hv)
    have HP := Lib.hid (copy_parts hv)
    have HG1 := Lib.hid (HG.out.below hb1 (Nat.le_refl _))
    have HS1 := Lib.hid (HS.out.below hb1 (Nat.le_refl _))
    clear hv
    go_wp2_with fail
    refine (biNeed_any f A c ws B d lo _ HS1.out HP.out.1 HG1.out HP.out.2.1).mono ?_
    rintro e w2 ⟨v, rfl, hb2, ho⟩
    have hb2' := hb1.trans (hb2.mono hb1.size)
    have HE : Hid (IntsTo w w2 (.returned (.tuple #[v, .bool (canR f ws).isSome])) (needR f ws)) := by
      rw [HN.out]; exact Lib.hid ⟨_, rfl, hb2', Joins.ownsRow_le ho hb1.size⟩
    clear hb2 ho hb2' hb1
    go_wp2
    go_ret2
    exact HE.out
end Go.Proofs.Ytdomccamkiplcaa

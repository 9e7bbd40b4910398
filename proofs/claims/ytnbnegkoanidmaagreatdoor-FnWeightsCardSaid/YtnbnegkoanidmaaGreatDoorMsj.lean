import Derived.Test.YtnbnegkoanidmaaGreatDoorMsi
/-
  The contracts of spec.biNeed, spec.biCopy, spec.biAsked, spec.CountSorts: each answers what the plain words here say and changes nothing that was there.
-/
namespace Go.Proofs.YtnbnegkoanidmaaGreatDoor.S1
open Go.RowKit
set_option linter.unusedVariables false

/-- The need, where all words can be set. -/
def canR (f : List (ByteArray × Int)) (ws : List ByteArray) : Option (List Int) := if canB f ws then some (needF f ws) else none
theorem canR_no {f : List (ByteArray × Int)} {ws : List ByteArray} (h : canB f ws = false) : canR f ws = none := by unfold canR; rw [h]; rfl
theorem canR_yes {f : List (ByteArray × Int)} {ws : List ByteArray} (h : canB f ws = true) : canR f ws = some (needF f ws) := by unfold canR; rw [h]; rfl
/-- The row g counts a list of sorts, and nothing else has turned. -/
def CntAt (w : World) (g : Nat) (n : Nat) (L : List Nat) (wr : World) : Prop := Own wr g 3 (intsZ (cntL n L)) ∧ Below w.heap.size w wr
theorem CntAt.step {w wr : World} {g n i : Nat} {L : List Nat} (h : CntAt w g n L wr) (hg : w.heap.size ≤ g) (hi : i < n) : CntAt w g n (L ++ [i]) (wr.setCell ⟨g, i, none⟩ (.int .i64 (((L.count i : Nat) : Int) + 1))) :=
  ⟨by rw [← cntL_snoc L hi]; exact h.1.set i _, h.2.setCell hg _⟩
theorem CntAt.next {w wr w' : World} {g n : Nat} {L : List Nat} (h : CntAt w g n L wr) (hb : Below wr.heap.size wr w') : CntAt w g n L w' := ⟨h.1.next hb, h.2.trans (hb.mono h.2.size)⟩

set_option maxRecDepth 100000 in
set_option maxHeartbeats 1000000 in
theorem biNeed_any (f : List (ByteArray × Int)) (A : Option Addr) (c : Nat) (ws : List ByteArray) (B : Option Addr) (d : Nat) (lo : Nat) (w : World) (hf : SortsIn w lo A f) (hF : Font f) (hg : StrsIn w B ws) (hw : wordsB ws = true) :
    Calls Tryz.prog 29 #[.slice A f.length c, .slice B ws.length d] w fun e w' => IntsTo w w' e (canR f ws) := by
  have hn : f.length ≤ 32 := hF.2.2
  have hw40 := words_40 hw
  have HS := Lib.hid hf; clear hf
  have HG := Lib.hid hg; clear hg
  have HFF := Lib.hid hF; clear hF
  have HW := Lib.hid hw; clear hw
  have hmk := run_makeInt f.length (by omega)
  have hst : CntAt w w.heap.size f.length (flS f (ws.take 0)) (w.alloc (.cells (madeCells #[.int .i64 0] (f.length * 1)) 3)) := ⟨made_own _ _, (Below.refl _ _).alloc (Nat.le_refl _) _⟩
  generalize hz : madeCells #[.int .i64 0] (f.length * 1) = cs0 at *
  go_enter Tryz.func29, Tryz.ntmps29
  have HST := Lib.hid hst; clear hst hz
  go_wp2
  clear hmk
  obtain ⟨g, hg⟩ : ∃ g, g = w.heap.size := ⟨_, rfl⟩
  rw [← hg] at HST ⊢
  have hgle : w.heap.size ≤ g := by omega
  have HGE := Lib.hid hg; clear hg
  go_loopw [18] (fun i wr => ∃ (k : Nat), k ≤ ws.length ∧ i = .int .i64 k ∧ canB f (ws.take k) = true ∧ CntAt w g f.length (flS f (ws.take k)) wr) (fun i _ => ws.length - (intOf i).toNat)
  case atStart => exact ⟨0, Nat.zero_le _, rfl, rfl, HST.out⟩
  case round =>
    obtain ⟨k, hk, rfl, hs, hc⟩ := hrel
    clear HST
    have HC := Lib.hid hc; clear hc
    have HS1 := Lib.hid hs; clear hs
    by_cases hlt : k < ws.length
    · obtain ⟨b, off, rfl, hbl, hd⟩ := HG.out (by omega)
      have hd0 := hd k hlt
      clear hd
      rw [← HC.out.2.cell (p := ⟨b, off + k, none⟩) hbl] at hd0
      have hsz := words_size HW.out hlt
      have HSN := Lib.hid (flS_snoc f hlt)
      have HCN := Lib.hid (canB_no (f := f) hlt)
      have HCS := Lib.hid (canB_snoc (f := f) hlt HS1.out)
      have H640 := Lib.hid (flS_640 (f := f) HW.out k)
      have HSW := Lib.hid (HS.out.below HC.out.2 (Nat.le_refl _))
      have HSG : Hid (sg f ws[k] = (setW f ws[k]).getD []) := Lib.hid rfl
      generalize ws[k] = s at *
      go_wp2_with fail
      refine (tySet_any f A c s lo _ HSW.out HFF.out hsz).mono ?_
      intro e w1 hto
      have HC1 := Lib.hid (HC.out.next hto.1)
      have hbw := hto.1
      obtain ⟨_, hto⟩ := hto
      cases hr : setW f s with
      | none =>
        rw [hr] at hto
        obtain rfl := hto
        have HN := Lib.hid (canR_no (HCN.out hr))
        clear hr hbw HC
        go_wp2
        go_ret2
        exact IntsTo.no HN.out HC1.out.2
      | some l =>
        rw [hr] at hto
        obtain ⟨v, rfl, ho⟩ := hto
        have ho2 : w1.ownsRow wr.heap.size 3 1 v (intL l).length (intsZ (intL l)) := by rw [intL_len]; rw [ints_Z] at ho; exact ho
        obtain ⟨A1, c1, rfl⟩ := own_form ho2
        have HI := Lib.hid (own_off (g := g) ho2 (by have := HC.out.1.lt; exact this))
        have HSG1 : Hid (sg f s = l) := Lib.hid (by rw [HSG.out, hr]; rfl)
        have HCS1 := Lib.hid (HCS.out (by rw [hr]; rfl))
        have HM : Hid (∀ i ∈ l, i < f.length) := Lib.hid (by rw [← HSG1.out]; exact sg_mem)
        have hl16 : l.length ≤ 16 := by rw [← HSG1.out]; exact sg_len hsz
        rw [intL_len]
        clear hr hbw ho ho2 HSG HCS HCN HC hd0
        go_wp2
        obtain ⟨wo, hwo⟩ : ∃ wo : World, wo = w1 := ⟨_, rfl⟩
        subst hwo
        go_loopw [32] (fun i wr => ∃ (j : Nat), j ≤ l.length ∧ i = .int .i64 j ∧ CntAt w g f.length (flS f (ws.take k) ++ l.take j) wr ∧ wo.grownBy wr (some g)) (fun i _ => l.length - (intOf i).toNat)
        case atStart => exact ⟨0, Nat.zero_le _, rfl, by rw [List.take_zero, List.append_nil]; exact HC1.out, World.grownBy.refl _ _⟩
        case round =>
          obtain ⟨j, hj, rfl, hc, hgr⟩ := hrel
          clear HC1
          have HGR := Lib.hid hgr; clear hgr
          have HC := Lib.hid hc; clear hc
          by_cases hlj : j < l.length
          · obtain ⟨b1, o1, rfl, hne, hb1, hd⟩ := HI.out (by rw [intL_len]; omega)
            have hd0 := hd j (by rw [intL_len]; exact hlj)
            rw [intL_get] at hd0
            have hd1 := (cell_grown HGR.out hne hb1).trans hd0
            have hil := HM.out _ (List.getElem_mem hlj)
            have HT := Lib.hid (List.take_succ_eq_append_getElem hlj)
            clear hd hd0 hne hb1
            obtain ⟨L, hL⟩ : ∃ L, L = flS f (ws.take k) ++ l.take j := ⟨_, rfl⟩
            rw [← hL] at HC
            have hLl : L.length ≤ 700 := by rw [hL, List.length_append, List.length_take]; have := H640.out; omega
            have HL := Lib.hid hL; clear hL
            generalize l[j] = i at *
            have hcell : wr.cell? ⟨g, i, none⟩ = some (.int .i64 ((L.count i : Nat) : Int)) := by rw [HC.out.1.cell]; exact cntL_at hil
            have hfr := HC.out.1.free i
            have HST := Lib.hid (HC.out.step hgle hil)
            have hq : L.count i ≤ 700 := Nat.le_trans (count_le L i) hLl
            have HGR1 := Lib.hid (grown_set HGR.out i (.int .i64 (((L.count i : Nat) : Int) + 1)))
            generalize L.count i = q at *
            clear HC HGR hLl
            go_wp2
            go_roundw
            case rel => exact ⟨j + 1, by omega, by go_num, by rw [HT.out, ← List.append_assoc, ← HL.out]; exact HST.out, HGR1.out⟩
            case measure => simp [intOf]; omega
          · obtain rfl : j = l.length := by omega
            have HE : Hid (CntAt w g f.length (flS f (ws.take (k + 1))) wr) := by
              have h := HC.out
              rw [List.take_length] at h
              rw [HSN.out, HSG1.out]; exact Lib.hid h
            clear HC
            go_wp2
            go_roundw
            case rel => exact ⟨k + 1, by omega, by go_num, HCS1.out, HE.out⟩
            case measure => simp [intOf]; omega
    · obtain rfl : k = ws.length := by omega
      have hcan := HS1.out
      have hc := HC.out
      rw [List.take_length] at hcan hc
      have HY := Lib.hid (canR_yes hcan)
      have HO := Lib.hid hc
      have HLN := Lib.hid (needF_len f ws)
      clear hcan hc HC HS1
      go_wp2
      go_ret2
      have h := IntsTo.own (b := g) HY.out HO.out.2 HO.out.1 hgle (by rw [HLN.out]; unfold maxLen; omega)
      rw [HLN.out] at h
      exact h

theorem copyB_no {f : List (ByteArray × Int)} {ws : List ByteArray} (h : fontB f = false ∨ wordsB ws = false ∨ canB f ws = false) : copyB f ws = false := by
  unfold copyB
  rcases h with h | h | h <;> simp [h]
theorem copyB_yes {f : List (ByteArray × Int)} {ws : List ByteArray} (h1 : fontB f = true) (h2 : wordsB ws = true) : copyB f ws = canB f ws := by
  unfold copyB; simp [h1, h2]
theorem needR_can {f : List (ByteArray × Int)} {ws : List ByteArray} (h : copyB f ws = true) : needR f ws = canR f ws := by
  rw [need_yes h, canR_yes (copy_parts h).2.2]

theorem biCopy_any (f : List (ByteArray × Int)) (A : Option Addr) (c : Nat) (ws : List ByteArray) (B : Option Addr) (d : Nat) (lo : Nat) (w : World) (hf : SortsIn w lo A f) (hn : f.length ≤ 1048576) (ho : CodesOk f) (hg : StrsIn w B ws) (ho' : StrsOk ws) (hm : ws.length ≤ 1048576) :
    Calls Tryz.prog 54 #[.slice A f.length c, .slice B ws.length d] w fun e w' => e = .returned (.bool (copyB f ws)) ∧ Below w.heap.size w w' := by
  have HS := Lib.hid hf; clear hf
  have HG := Lib.hid hg; clear hg
  have HO := Lib.hid ho; clear ho
  have HO' := Lib.hid ho'; clear ho'
  go_enter Tryz.func54, Tryz.ntmps54
  go_wp2_with fail
  refine (tyFont_any f A c lo _ HS.out hn HO.out).mono ?_
  rintro e w1 ⟨rfl, hb1⟩
  cases hv : fontB f
  · have HN := Lib.hid (copyB_no (ws := ws) (.inl hv))
    clear hv
    go_wp2
    go_ret
    exact ⟨ret_bool HN.out.symm, hb1⟩
  have HV := Lib.hid hv; clear hv
  have HG1 := Lib.hid (HG.out.below hb1 (Nat.le_refl _))
  go_wp2_with fail
  refine (tyWords_any ws B d _ HG1.out HO'.out hm).mono ?_
  rintro e w2 ⟨rfl, hb2⟩
  have hb2' := hb1.trans (hb2.mono hb1.size)
  clear hb1 hb2 HG1
  cases hw : wordsB ws
  · have HN := Lib.hid (copyB_no (f := f) (.inr (.inl hw)))
    clear hw
    go_wp2
    go_ret
    exact ⟨ret_bool HN.out.symm, hb2'⟩
  have HCC := Lib.hid (copyB_yes HV.out hw)
  have HW := Lib.hid hw; clear hw
  have HG2 := Lib.hid (HG.out.below hb2' (Nat.le_refl _))
  have HS2 := Lib.hid (HS.out.below hb2' (Nat.le_refl _))
  go_wp2_with fail
  refine (biNeed_any f A c ws B d lo _ HS2.out (fontB_iff.1 HV.out) HG2.out HW.out).mono ?_
  rintro e w3 ⟨v, rfl, hb3, _⟩
  have hb3' := hb2'.trans (hb3.mono hb2'.size)
  have HR : Hid ((canR f ws).isSome = copyB f ws) := Lib.hid (by rw [HCC.out]; unfold canR; cases canB f ws <;> rfl)
  clear hb2' hb3
  go_wp2
  go_ret
  exact ⟨ret_bool HR.out, hb3'⟩

theorem biAsked_any (f : List (ByteArray × Int)) (A : Option Addr) (c : Nat) (st : List Int) (C : Option Addr) (q : Nat) (ws : List ByteArray) (B : Option Addr) (d : Nat) (lo : Nat) (w : World) (hf : SortsIn w lo A f) (hn : f.length ≤ 1048576) (ho : CodesOk f) (hi : IntsIn w C st) (hq : st.length ≤ 1048576) (hg : StrsIn w B ws) (ho' : StrsOk ws) (hm : ws.length ≤ 1048576) :
    Calls Tryz.prog 28 #[.slice A f.length c, .slice C st.length q, .slice B ws.length d] w fun e w' => e = .returned (.bool (copyB f ws && stockB f st)) ∧ Below w.heap.size w w' := by
  have HI := Lib.hid hi; clear hi
  go_enter Tryz.func28, Tryz.ntmps28
  go_wp2_with fail
  refine (biCopy_any f A c ws B d lo _ hf hn ho hg ho' hm).mono ?_
  rintro e w1 ⟨rfl, hb1⟩
  have HI1 := Lib.hid (HI.out.below hb1 (Nat.le_refl _))
  clear hf ho hg ho'
  cases hv : copyB f ws
  · have HV := Lib.hid hv; clear hv
    go_wp2
    go_ret
    exact ⟨ret_bool (by rw [HV.out]; rfl), hb1⟩
  · have HV := Lib.hid hv; clear hv
    go_wp2_with fail
    refine (biStock_any f A c st C q _ HI1.out hn hq).mono ?_
    rintro e w2 ⟨rfl, rfl⟩
    go_wp2
    go_ret
    exact ⟨ret_bool (by rw [HV.out]; rfl), hb1⟩

end Go.Proofs.YtnbnegkoanidmaaGreatDoor.S1

/-
  The contracts of impl.setCopy and impl.CountSorts: each answers what the plain words here say and changes nothing that was there.
-/
namespace Go.Proofs.YtnbnegkoanidmaaGreatDoor.S1
open Go.RowKit
set_option linter.unusedVariables false

theorem IntsOff.next {w w' : World} {g : Nat} {A : Option Addr} {l : List Int} (h : IntsOff w g A l) (hb : Below w.heap.size w w') : IntsOff w' g A l := by
  intro hn
  obtain ⟨b, off, rfl, h1, h2, h3⟩ := h hn
  exact ⟨b, off, rfl, h1, Nat.lt_of_lt_of_le h2 hb.size, fun k hk => (hb.cell (p := ⟨b, off + k, none⟩) h2).trans (h3 k hk)⟩
theorem IntsOff.set {w : World} {g : Nat} {A : Option Addr} {l : List Int} (h : IntsOff w g A l) (i : Nat) (v : Value) : IntsOff (w.setCell ⟨g, i, none⟩ v) g A l := by
  intro hn
  obtain ⟨b, off, rfl, h1, h2, h3⟩ := h hn
  refine ⟨b, off, rfl, h1, by simpa [World.setCell] using h2, fun k hk => ?_⟩
  rw [← h3 k hk]
  have := Below.heap_setCell w ⟨g, i, none⟩ v b h1
  simp only [World.cell?, this]
/-- Row g holds slices; those at the first places read as the lists. -/
def SetsIn (w : World) (g : Nat) (sts : List (List Nat)) (n : Nat) : Prop :=
  ∃ vs : List Value, Own w g 23 vs ∧ vs.length = n ∧ ∀ k (h : k < sts.length), ∃ A c, vs[k]? = some (.slice A sts[k].length c) ∧ IntsOff w g A (intL sts[k])
theorem SetsIn.next {w w' : World} {g n : Nat} {sts : List (List Nat)} (h : SetsIn w g sts n) (hb : Below w.heap.size w w') : SetsIn w' g sts n := by
  obtain ⟨vs, h1, h2, h3⟩ := h
  refine ⟨vs, h1.next hb, h2, fun k hk => ?_⟩
  obtain ⟨A, c, h4, h5⟩ := h3 k hk
  exact ⟨A, c, h4, h5.next hb⟩
theorem SetsIn.step {w : World} {g n c : Nat} {sts : List (List Nat)} {l : List Nat} {A : Option Addr} (h : SetsIn w g sts n) (hl : sts.length < n) (hi : IntsOff w g A (intL l)) (j : Nat) (hj : j = sts.length) : SetsIn (w.setCell ⟨g, j, none⟩ (.slice A l.length c)) g (sts ++ [l]) n := by
  subst hj
  obtain ⟨vs, h1, h2, h3⟩ := h
  refine ⟨_, h1.set sts.length _, by simpa using h2, fun k hk => ?_⟩
  by_cases hkl : k = sts.length
  · subst hkl
    refine ⟨A, c, ?_, ?_⟩
    · rw [List.getElem?_set_self (by omega)]; simp
    · simpa using hi.set _ _
  · have hk' : k < sts.length := by simp at hk; omega
    obtain ⟨A', c', h4, h5⟩ := h3 k hk'
    refine ⟨A', c', ?_, ?_⟩
    · rw [List.getElem?_set_ne (by omega), h4, List.getElem_append_left hk']
    · rw [List.getElem_append_left hk']; exact h5.set _ _
theorem SetsIn.at_ {w : World} {g n k : Nat} {sts : List (List Nat)} (h : SetsIn w g sts n) (hk : k < n) : (∃ u, w.cell? ⟨g, k, none⟩ = some u) ∧ w.frozen? ⟨g, k, none⟩ = false := by
  obtain ⟨vs, h1, h2, h3⟩ := h
  exact ⟨⟨_, (h1.cell k).trans (List.getElem?_eq_getElem (by omega))⟩, h1.free k⟩

noncomputable def copyR (f : List (ByteArray × Int)) (ws : List ByteArray) : Option (List (List Nat)) := if copyB f ws then some (ws.map (sg f)) else none
theorem copyR_no {f : List (ByteArray × Int)} {ws : List ByteArray} (h : copyB f ws = false) : copyR f ws = none := by unfold copyR; rw [h]; rfl
theorem copyR_yes {f : List (ByteArray × Int)} {ws : List ByteArray} (h : copyB f ws = true) : copyR f ws = some (ws.map (sg f)) := by unfold copyR; rw [h]; rfl
def CopyTo (w w' : World) (e : Ending) (r : Option (List (List Nat))) : Prop := Below w.heap.size w w' ∧
  match r with
  | none => e = .returned (.tuple #[.slice none 0 0, .bool false])
  | some sts => ∃ g, e = .returned (.tuple #[.slice (some ⟨g, 0, none⟩) sts.length sts.length, .bool true]) ∧ w.heap.size ≤ g ∧ SetsIn w' g sts sts.length
theorem CopyTo.no {w w' : World} {r : Option (List (List Nat))} (h : r = none) (hb : Below w.heap.size w w') : CopyTo w w' (.returned (.tuple #[.slice none 0 0, .bool false])) r := by subst h; exact ⟨hb, rfl⟩
theorem CopyTo.yes {w w' : World} {r : Option (List (List Nat))} {sts : List (List Nat)} {n g : Nat} (h : r = some sts) (hn : sts.length = n) (hb : Below w.heap.size w w') (hg : w.heap.size ≤ g) (hs : SetsIn w' g sts n) : CopyTo w w' (.returned (.tuple #[.slice (some ⟨g, 0, none⟩) n n, .bool true])) r := by
  subst h hn; exact ⟨hb, g, rfl, hg, hs⟩

theorem infoSl : (Tryz.prog.info? 23).map (fun i => (i.zero, i.size, i.bytes)) = some (some (.slice none 0 0), 1, 24) := by kernel_rfl
theorem run_makeRows (n : Nat) (hn : n ≤ 1048576) (w : World) :
    (Instr.makeSlice 67 (.int .i64 (n : Int)) (.int .i64 (n : Int))).run Tryz.prog w = .ok (.slice (some ⟨w.heap.size, 0, none⟩) n n) (w.alloc (.cells (madeCells #[.slice none 0 0] (n * 1)) 23)) := by
  obtain ⟨i0, hi, hz0, hz1, hz2⟩ := info_parts infoSl
  have h := run_make (P := Tryz.prog) w 67 23 i0 _ Tryz.underlying67 hi hz0 .i64 .i64 (n : Int) (n : Int) (by omega) (Int.le_refl _) (by rw [hz2]; omega) (by omega)
  rw [hz1, Int.toNat_natCast] at h
  exact h
theorem SetsIn.made (w : World) (n : Nat) : SetsIn (w.alloc (.cells (madeCells #[.slice none 0 0] (n * 1)) 23)) w.heap.size [] n :=
  ⟨List.replicate n (.slice none 0 0), by unfold Own; rw [heap_new, Nat.mul_one, ← toList_madeCells_one], by simp, fun k h => absurd h (by simp)⟩
theorem sow_word {f : List (ByteArray × Int)} {s : ByteArray} (h1 : fontB f = true) (h2 : isWordF s = true) : sowF f s = setW f s := sow_of_font (by rw [h1, h2]; rfl)
theorem words_isWord {ws : List ByteArray} {j : Nat} (h : wordsB ws = true) (hj : j < ws.length) : isWordF ws[j] = true := by
  unfold wordsB at h
  simp only [Bool.and_eq_true] at h
  exact List.all_eq_true.1 h.2 _ (List.getElem_mem hj)

set_option maxRecDepth 100000 in
set_option maxHeartbeats 1000000 in
theorem setCopy_any (f : List (ByteArray × Int)) (A : Option Addr) (c : Nat) (ws : List ByteArray) (B : Option Addr) (d : Nat) (lo : Nat) (w : World) (hf : SortsIn w lo A f) (hn : f.length ≤ 1048576) (ho : CodesOk f) (hg : StrsIn w B ws) (ho' : StrsOk ws) (hm : ws.length ≤ 1048576) :
    Calls Tryz.prog 30 #[.slice A f.length c, .slice B ws.length d] w fun e w' => CopyTo w w' e (copyR f ws) := by
  have HS := Lib.hid hf; clear hf
  have HG := Lib.hid hg; clear hg
  have HO := Lib.hid ho; clear ho
  have HO' := Lib.hid ho'; clear ho'
  go_enter Tryz.func30, Tryz.ntmps30
  go_wp2_with fail
  refine (implIsFont_any f A c lo _ HS.out hn HO.out).mono ?_
  rintro e w1 ⟨rfl, hb1⟩
  cases hv : fontB f
  · have HN := Lib.hid (copyR_no (copyB_no (ws := ws) (.inl hv)))
    clear hv
    go_wp2
    go_ret2
    exact CopyTo.no HN.out hb1
  have HV := Lib.hid hv; clear hv
  have HG1 := Lib.hid (HG.out.below hb1 (Nat.le_refl _))
  go_wp2_with fail
  refine (areWords_any ws B d _ HG1.out HO'.out hm).mono ?_
  rintro e w2 ⟨rfl, hb2⟩
  have hb2' := hb1.trans (hb2.mono hb1.size)
  clear hb1 hb2 HG1
  cases hw : wordsB ws
  · have HN := Lib.hid (copyR_no (copyB_no (f := f) (.inr (.inl hw))))
    clear hw
    go_wp2
    go_ret2
    exact CopyTo.no HN.out hb2'
  have HCC := Lib.hid (copyB_yes HV.out hw)
  have HW := Lib.hid hw; clear hw
  have hw40 := words_40 HW.out
  have hmk := run_makeRows ws.length hm
  have hst : SetsIn (w2.alloc (.cells (madeCells #[.slice none 0 0] (ws.length * 1)) 23)) w2.heap.size [] ws.length := SetsIn.made _ _
  generalize hz : madeCells #[.slice none 0 0] (ws.length * 1) = cs0 at *
  have HST := Lib.hid hst; clear hst hz
  have hgle : w.heap.size ≤ w2.heap.size := hb2'.size
  have HB2 := Lib.hid (hb2'.alloc hb2'.size (.cells cs0 23))
  go_wp2
  clear hmk
  obtain ⟨g, hg⟩ : ∃ g, g = w2.heap.size := ⟨_, rfl⟩
  rw [← hg] at HST hgle ⊢
  clear hg hb2'
  go_loopw [24] (fun i wr => ∃ (k : Nat), k ≤ ws.length ∧ i = .int .i64 k ∧ canB f (ws.take k) = true ∧ SetsIn wr g ((ws.take k).map (sg f)) ws.length ∧ Below w.heap.size w wr) (fun i _ => ws.length - (intOf i).toNat)
  case atStart => exact ⟨0, Nat.zero_le _, rfl, rfl, HST.out, HB2.out⟩
  case round =>
    obtain ⟨k, hk, rfl, hs, hsi, hb⟩ := hrel
    clear HST HB2
    have HS1 := Lib.hid hs; clear hs
    have HSI := Lib.hid hsi; clear hsi
    have HB := Lib.hid hb; clear hb
    by_cases hlt : k < ws.length
    · obtain ⟨b, off, rfl, hbl, hd⟩ := HG.out (by omega)
      have hd0 := hd k hlt
      clear hd
      rw [← HB.out.cell (p := ⟨b, off + k, none⟩) hbl] at hd0
      have hsz := words_size HW.out hlt
      have hsz2 : ws[k].size ≤ maxLen := HO'.out k hlt
      have HCN := Lib.hid (canB_no (f := f) hlt)
      have HCS := Lib.hid (canB_snoc (f := f) hlt HS1.out)
      have HSW := Lib.hid (HS.out.below HB.out (Nat.le_refl _))
      have HSO := Lib.hid (sow_word HV.out (words_isWord HW.out hlt))
      have HMP : Hid ((ws.take (k + 1)).map (sg f) = (ws.take k).map (sg f) ++ [(setW f ws[k]).getD []]) := Lib.hid (by rw [List.take_succ_eq_append_getElem hlt, List.map_append]; rfl)
      have hml : ((ws.take k).map (sg f)).length = k := by rw [List.length_map, List.length_take]; omega
      have HML := Lib.hid hml; clear hml
      generalize ws[k] = s at *
      go_wp2_with fail
      refine (implSow_any f A c s lo _ HSW.out hn HO.out hsz2).mono ?_
      intro e w3 hto
      rw [HSO.out] at hto
      have HB3 := Lib.hid (HB.out.trans (hto.1.mono HB.out.size))
      have HSI3 := Lib.hid (HSI.out.next hto.1)
      have HLT : Hid (g < wr.heap.size) := Lib.hid (by obtain ⟨vs, h1, _⟩ := HSI.out; exact h1.lt)
      obtain ⟨_, hto⟩ := hto
      cases hr : setW f s with
      | none =>
        rw [hr] at hto
        obtain rfl := hto
        have HN := Lib.hid (copyR_no (HCC.out.trans (HCN.out hr)))
        clear hr HB HSI hd0
        go_wp2
        go_ret2
        exact CopyTo.no HN.out HB3.out
      | some l =>
        rw [hr] at hto HMP
        obtain ⟨v, rfl, hov⟩ := hto
        have ho2 : w3.ownsRow wr.heap.size 3 1 v (intL l).length (intsZ (intL l)) := by rw [intL_len]; rw [ints_Z] at hov; exact hov
        obtain ⟨A1, c1, rfl⟩ := own_form ho2
        have HI := Lib.hid (own_off (g := g) ho2 HLT.out)
        rw [intL_len]
        have HCS1 := Lib.hid (HCS.out (by rw [hr]; rfl))
        obtain ⟨⟨u0, hu0⟩, hfr⟩ := HSI3.out.at_ hlt
        have HSI4 := Lib.hid (HSI3.out.step (c := c1) (by rw [HML.out]; exact hlt) HI.out k HML.out.symm)
        have HB4 := Lib.hid (HB3.out.setCell (p := ⟨g, k, none⟩) hgle (.slice A1 l.length c1))
        clear hr hov ho2 HB HSI HSI3 HB3 HI hd0
        go_wp2
        go_roundw
        case rel => exact ⟨k + 1, by omega, by go_num, HCS1.out, by rw [HMP.out]; exact HSI4.out, HB4.out⟩
        case measure => simp [intOf]; omega
    · obtain rfl : k = ws.length := by omega
      have hcan := HS1.out
      have hsi := HSI.out
      rw [List.take_length] at hcan hsi
      have HY := Lib.hid (copyR_yes (HCC.out.trans hcan))
      have HO1 := Lib.hid hsi
      clear hcan hsi HSI HS1
      go_wp2
      go_ret2
      exact CopyTo.yes HY.out (by simp) HB.out hgle HO1.out

set_option maxRecDepth 100000 in
set_option maxHeartbeats 1000000 in
theorem implCount_any (f : List (ByteArray × Int)) (A : Option Addr) (c : Nat) (ws : List ByteArray) (B : Option Addr) (d : Nat) (lo : Nat) (w : World) (hf : SortsIn w lo A f) (hn : f.length ≤ 1048576) (ho : CodesOk f) (hg : StrsIn w B ws) (ho' : StrsOk ws) (hm : ws.length ≤ 1048576) :
    Calls Tryz.prog 12 #[.slice A f.length c, .slice B ws.length d] w fun e w' => IntsTo w w' e (needR f ws) := by
  go_enter Tryz.func12, Tryz.ntmps12
  go_wp2_with fail
  refine (setCopy_any f A c ws B d lo _ hf hn ho hg ho' hm).mono ?_
  intro e w1 hto
  clear hf ho hg ho'
  obtain ⟨hb1, hto⟩ := hto
  cases hv : copyB f ws
  · have HN := Lib.hid (need_no hv)
    rw [copyR_no hv] at hto
    obtain rfl := hto
    clear hv
    go_wp2
    go_ret2
    exact IntsTo.no HN.out hb1
  rw [copyR_yes hv] at hto
  obtain ⟨g0, rfl, hg0, hsi⟩ := hto
  have HY := Lib.hid (need_yes hv)
  have HP := Lib.hid (copy_parts hv)
  have HSI := Lib.hid hsi
  have HB1 := Lib.hid hb1
  clear hv hsi hb1
  have hn32 : f.length ≤ 32 := HP.out.1.2.2
  have hw40 := words_40 HP.out.2.1
  have hmk := run_makeInt f.length (by omega)
  have hst : CntAt w1 w1.heap.size f.length (flS f (ws.take 0)) (w1.alloc (.cells (madeCells #[.int .i64 0] (f.length * 1)) 3)) := ⟨made_own _ _, (Below.refl _ _).alloc (Nat.le_refl _) _⟩
  generalize hz : madeCells #[.int .i64 0] (f.length * 1) = cs0 at *
  have HST := Lib.hid hst; clear hst hz
  have hml : (ws.map (sg f)).length = ws.length := by simp
  rw [hml] at HSI ⊢
  clear hml
  go_wp2
  clear hmk
  obtain ⟨g, hg⟩ : ∃ g, g = w1.heap.size := ⟨_, rfl⟩
  rw [← hg] at HST ⊢
  have hgle : w1.heap.size ≤ g := by omega
  have hgw : w.heap.size ≤ g := by have := HB1.out.size; omega
  have HGE := Lib.hid hg; clear hg
  go_loopw [26] (fun i wr => ∃ (k : Nat), k ≤ ws.length ∧ i = .int .i64 k ∧ CntAt w1 g f.length (flS f (ws.take k)) wr) (fun i _ => ws.length - (intOf i).toNat)
  case atStart => exact ⟨0, Nat.zero_le _, rfl, HST.out⟩
  case round =>
    obtain ⟨k, hk, rfl, hc⟩ := hrel
    clear HST
    have HC := Lib.hid hc; clear hc
    by_cases hlt : k < ws.length
    · obtain ⟨vs, hvo, hvl, hvs⟩ := HSI.out
      obtain ⟨A1, c1, hv1, hi1⟩ := hvs k (by simpa using hlt)
      have hd0 : w1.cell? ⟨g0, k, none⟩ = some (.slice A1 (sg f ws[k]).length c1) := by rw [hvo.cell, hv1]; simp
      have hbl := hvo.lt
      have hi1' : IntsOff w1 g0 A1 (intL (sg f ws[k])) := by simpa using hi1
      have HI := Lib.hid hi1'
      rw [← HC.out.2.cell (p := ⟨g0, k, none⟩) hbl] at hd0
      have hsz := words_size HP.out.2.1 hlt
      have HSN := Lib.hid (flS_snoc f hlt)
      have H640 := Lib.hid (flS_640 (f := f) HP.out.2.1 k)
      have HM := Lib.hid (sg_mem (f := f) (s := ws[k]))
      have hl16 := sg_len (f := f) hsz
      clear hvo hvl hvs hv1 hi1 hi1' hsz
      generalize sg f ws[k] = l at *
      go_wp2
      go_loopw [32] (fun i wr => ∃ (j : Nat), j ≤ l.length ∧ i = .int .i64 j ∧ CntAt w1 g f.length (flS f (ws.take k) ++ l.take j) wr) (fun i _ => l.length - (intOf i).toNat)
      case atStart => exact ⟨0, Nat.zero_le _, rfl, by rw [List.take_zero, List.append_nil]; exact HC.out⟩
      case round =>
        obtain ⟨j, hj, rfl, hc⟩ := hrel
        clear HC hd0
        have HC := Lib.hid hc; clear hc
        by_cases hlj : j < l.length
        · obtain ⟨b1, o1, rfl, hne, hb1, hd⟩ := HI.out (by rw [intL_len]; omega)
          have hd0 := hd j (by rw [intL_len]; exact hlj)
          rw [intL_get] at hd0
          rw [← HC.out.2.cell (p := ⟨b1, o1 + j, none⟩) hb1] at hd0
          have hil := HM.out _ (List.getElem_mem hlj)
          have HT := Lib.hid (List.take_succ_eq_append_getElem hlj)
          clear hd hne hb1
          obtain ⟨L, hL⟩ : ∃ L, L = flS f (ws.take k) ++ l.take j := ⟨_, rfl⟩
          rw [← hL] at HC
          have hLl : L.length ≤ 700 := by rw [hL, List.length_append, List.length_take]; have := H640.out; omega
          have HL := Lib.hid hL; clear hL
          generalize l[j] = i at *
          have hcell : wr.cell? ⟨g, i, none⟩ = some (.int .i64 ((L.count i : Nat) : Int)) := by rw [HC.out.1.cell]; exact cntL_at hil
          have hfr := HC.out.1.free i
          have HST := Lib.hid (HC.out.step hgle hil)
          have hq : L.count i ≤ 700 := Nat.le_trans (count_le L i) hLl
          generalize L.count i = q at *
          clear HC hLl
          go_wp2
          go_roundw
          case rel => exact ⟨j + 1, by omega, by go_num, by rw [HT.out, ← List.append_assoc, ← HL.out]; exact HST.out⟩
          case measure => simp [intOf]; omega
        · obtain rfl : j = l.length := by omega
          have HE : Hid (CntAt w1 g f.length (flS f (ws.take (k + 1))) wr) := by
            have h := HC.out
            rw [List.take_length] at h
            rw [HSN.out]; exact Lib.hid h
          clear HC
          go_wp2
          go_roundw
          case rel => exact ⟨k + 1, by omega, by go_num, HE.out⟩
          case measure => simp [intOf]; omega
    · obtain rfl : k = ws.length := by omega
      have hc := HC.out
      rw [List.take_length] at hc
      have HO := Lib.hid hc
      have HB := Lib.hid (HB1.out.trans (hc.2.mono HB1.out.size))
      have HLN := Lib.hid (needF_len f ws)
      clear hc HC
      go_wp2
      go_ret2
      have h := IntsTo.own (b := g) HY.out HB.out HO.out.1 hgw (by rw [HLN.out]; unfold maxLen; omega)
      rw [HLN.out] at h
      exact h
end Go.Proofs.YtnbnegkoanidmaaGreatDoor.S1

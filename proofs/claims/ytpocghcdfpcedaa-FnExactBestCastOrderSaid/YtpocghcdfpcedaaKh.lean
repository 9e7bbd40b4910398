/-
  The contracts of EndsOf and OrderTime, in spec and in impl: each answers what the plain words here say and changes nothing that was there.
-/
import Derived.Test.YtpocghcdfpcedaaKg
import Derived.Deep.RegionLaw
import Derived.Deep.DeepCutAuto
namespace Go.Proofs.Ytpocghcdfpcedaa
open Go.RowKit
set_option linter.unusedVariables false

theorem McAt.put3 {w : World} {b : Nat} {t : TypeId} {m : Mc} (h : McAt w b t m) (x y z : Int) : McAt (((w.setCell ⟨b, 0, none⟩ (.int .i64 x)).setCell ⟨b, 1, none⟩ (.int .i64 y)).setCell ⟨b, 2, none⟩ (.int .i64 z)) b t ⟨x, y, z⟩ := by
  have h1 := heap_set (i := 2) (heap_set (i := 1) (heap_set (i := 0) h (.int .i64 x)) (.int .i64 y)) (.int .i64 z)
  exact h1
theorem heap_far {w : World} {b c i : Nat} {o : Obj} (h : w.heap[c]? = some o) (hne : c ≠ b) (x : Value) : (w.setCell ⟨b, i, none⟩ x).heap[c]? = some o := (Below.heap_setCell w ⟨b, i, none⟩ x c (fun e => hne e)).trans h
theorem Marked.far {w : World} {g cap b i : Nat} {e : TypeId} {l : List Value} (h : Marked w g e cap l) (hne : g ≠ b) (x : Value) : Marked (w.setCell ⟨b, i, none⟩ x) g e cap l := by
  obtain ⟨cur, h1, h2⟩ := h
  exact ⟨cur, heap_far h1 hne x, h2⟩
theorem Marked.owns {w : World} {g n base : Nat} {e : TypeId} {l : List Value} (h : Marked w g e n l) (hl : l.length = n) (hb : base ≤ g) (hn : n ≤ maxLen) : w.ownsRow base e 1 (.slice (some ⟨g, 0, none⟩) n n) n l := by
  obtain ⟨cur, h1, h2, h3⟩ := h
  exact ⟨by omega, .inr ⟨g, n, cur, rfl, hb, h1, Nat.le_refl _, hn, by omega, by rw [Nat.mul_one, ← hl]; exact h3⟩⟩
def enV (m : Mc) (f : List Ca) (o : List Int) : List Int := if askB m f o then endsL m f o else []
theorem en_no {m : Mc} {f : List Ca} {o : List Int} (h : askB m f o = false) : enV m f o = [] := by unfold enV; rw [h]; rfl
theorem en_yes {m : Mc} {f : List Ca} {o : List Int} (h : askB m f o = true) : enV m f o = endsL m f o := by unfold enV; rw [h]; rfl
theorem enV_len {m : Mc} {f : List Ca} {o : List Int} (h : o.length ≤ 1048576) : (enV m f o).length ≤ 1048576 := by
  unfold enV; split
  · rw [endsL_len]; exact h
  · exact Nat.zero_le _
/-- A row of ints of its own and a truth value come back. -/
def EnTo (w w' : World) (e : Ending) (l : List Int) (b : Bool) : Prop := ∃ v T, e = .returned (.tuple #[v, .bool b]) ∧ Below w.heap.size w w' ∧ w'.ownsRow w.heap.size T 1 v l.length (intsZ l)
theorem EnTo.no {w w' : World} {l : List Int} {b : Bool} (h1 : l = []) (h2 : b = false) (hb : Below w.heap.size w w') : EnTo w w' (.returned (.tuple #[.slice none 0 0, .bool false])) l b := by
  subst h1; subst h2; exact ⟨_, 3, rfl, hb, own_nil _ _ _ _⟩
theorem EnTo.yes {w w' : World} {l l' : List Int} {n : Nat} {b : Bool} {v : Value} {T : TypeId} (h1 : l = l') (h2 : b = true) (hb : Below w.heap.size w w') (ho : w'.ownsRow w.heap.size T 1 v n (intsZ l')) : EnTo w w' (.returned (.tuple #[v, .bool true])) l b := by
  subst h1; subst h2
  have hn : n = l.length := by have := ho.1; rw [intsZ_len] at this; omega
  subst hn
  exact ⟨v, T, rfl, hb, ho⟩

set_option maxRecDepth 100000 in
theorem specEndsOf_any (m : Mc) (f : List Ca) (A : Option Addr) (c : Nat) (o : List Int) (B : Option Addr) (d : Nat) (w : World) (hf : CasIn w A f) (hn : f.length ≤ 1048576) (hs : IntsIn w B o) (hk : o.length ≤ 1048576) (hcap : o.length ≤ d) :
    Calls Try.prog 38 #[.agg #[.int .i64 m.bod, .int .i64 m.hou, .int .i64 m.cha], .slice A f.length c, .slice B o.length d] w fun e w' => EnTo w w' e (enV m f o) (askB m f o) := by
  have HF := Lib.hid hf; have HS := Lib.hid hs; clear hf hs
  have HA : Hid (Below w.heap.size w (w.alloc (.cells #[.int .i64 m.bod, .int .i64 m.hou, .int .i64 m.cha] 32))) := Lib.hid ((Below.refl _ _).alloc (Nat.le_refl _) _)
  have HM : Hid (McAt (w.alloc (.cells #[.int .i64 m.bod, .int .i64 m.hou, .int .i64 m.cha] 32)) w.heap.size 32 m) := Lib.hid (McAt.new _ _ _)
  go_enter Try.func38, Try.ntmps38
  go_wp2_with fail
  refine (csAsked_any m f A c o B d _ (HF.out.below HA.out (Nat.le_refl _)) hn (HS.out.below HA.out (Nat.le_refl _)) hk hcap).mono ?_
  rintro e w1 ⟨rfl, hb1⟩
  have HB1 := Lib.hid (HA.out.trans (hb1.mono HA.out.size))
  have HM1 := Lib.hid (HM.out.next hb1)
  clear hb1 HA HM
  cases hg : askB m f o
  · have HV := Lib.hid (en_no hg)
    have HG := Lib.hid hg; clear hg
    go_wp2
    refine bodyPost_ret (v := .tuple #[.slice none 0 0, .bool false]) (by simp [results, Try.results38, go_sem]) rfl ?_
    exact EnTo.no HV.out HG.out HB1.out
  have HV := Lib.hid (en_yes hg)
  have HG := Lib.hid hg
  obtain ⟨h1, h2, h3⟩ := askB_all hg
  have HO := Lib.hid h3
  clear hg h3
  obtain ⟨m0, m1, m2⟩ := HM1.out.cells
  have ml := HM1.out.lt
  go_wp2_with fail
  refine (csEnds_any m f A c o B d _ (HF.out.below HB1.out (Nat.le_refl _)) hn (HS.out.below HB1.out (Nat.le_refl _)) hk h1 h2 HO.out).mono ?_
  intro e w2 hto
  obtain ⟨v, rfl, hb2, hown⟩ := hto
  have HB2 := Lib.hid (HB1.out.trans (hb2.mono HB1.out.size))
  have HO2 := Lib.hid (Joins.ownsRow_le hown HB1.out.size)
  clear hb2 hown m0 m1 m2 ml HM1 HB1
  go_wp2
  refine bodyPost_ret (v := .tuple #[v, .bool true]) (by simp [results, Try.results38, go_sem]) rfl ?_
  exact EnTo.yes HV.out HG.out HB2.out HO2.out

set_option maxRecDepth 100000 in
set_option maxHeartbeats 4000000 in
theorem implEndsOf_any (m : Mc) (f : List Ca) (A : Option Addr) (c : Nat) (o : List Int) (B : Option Addr) (d : Nat) (w : World) (hf : CasIn w A f) (hn : f.length ≤ 1048576) (hs : IntsIn w B o) (hk : o.length ≤ 1048576) :
    Calls Try.prog 39 #[.agg #[.int .i64 m.bod, .int .i64 m.hou, .int .i64 m.cha], .slice A f.length c, .slice B o.length d] w fun e w' => EnTo w w' e (enV m f o) (askB m f o) := by
  have HF := Lib.hid hf; have HS := Lib.hid hs; clear hf hs
  have HA : Hid (Below w.heap.size w (w.alloc (.cells #[.int .i64 m.bod, .int .i64 m.hou, .int .i64 m.cha] 32))) := Lib.hid ((Below.refl _ _).alloc (Nat.le_refl _) _)
  have HM : Hid (McAt (w.alloc (.cells #[.int .i64 m.bod, .int .i64 m.hou, .int .i64 m.cha] 32)) w.heap.size 32 m) := Lib.hid (McAt.new _ _ _)
  go_enter Try.func39, Try.ntmps39
  go_wp2_with fail
  refine (implIsMachine_any m _).mono ?_
  rintro e w1 ⟨rfl, hb1⟩
  have HB1 := Lib.hid (HA.out.trans (hb1.mono HA.out.size))
  have HM1 := Lib.hid (HM.out.next hb1)
  clear hb1 HA HM
  cases hg : goodMc m
  · have HV : Hid (askB m f o = false) := Lib.hid (by unfold askB; rw [hg]; rfl)
    clear hg
    go_wp2
    refine bodyPost_ret (v := .tuple #[.slice none 0 0, .bool false]) (by simp [results, Try.results39, go_sem]) rfl ?_
    exact EnTo.no (en_no HV.out) HV.out HB1.out
  have HG := Lib.hid hg; clear hg
  go_wp2_with fail
  refine (implAreCastings_any f A c _ (HF.out.below HB1.out (Nat.le_refl _)) hn).mono ?_
  rintro e w2 ⟨rfl, hb2⟩
  have HB2 := Lib.hid (HB1.out.trans (hb2.mono HB1.out.size))
  have HM2 := Lib.hid (HM1.out.next hb2)
  clear hb2 HB1 HM1
  cases hg : goodL f
  · have HV : Hid (askB m f o = false) := Lib.hid (by unfold askB; rw [hg]; simp)
    clear hg
    go_wp2
    refine bodyPost_ret (v := .tuple #[.slice none 0 0, .bool false]) (by simp [results, Try.results39, go_sem]) rfl ?_
    exact EnTo.no (en_no HV.out) HV.out HB2.out
  have h8 := (goodL_all hg).2
  have HL := Lib.hid hg; clear hg
  go_wp2_with fail
  refine (isCastOrder_any f A c o B d _ h8 (HS.out.below HB2.out (Nat.le_refl _)) hk).mono ?_
  rintro e w3 ⟨rfl, hb3⟩
  have HB3 := Lib.hid (HB2.out.trans (hb3.mono HB2.out.size))
  have HM3 := Lib.hid (HM2.out.next hb3)
  clear hb3 HB2 HM2
  cases hg : ordB f o
  · have HV : Hid (askB m f o = false) := Lib.hid (by unfold askB; rw [hg]; simp)
    clear hg
    go_wp2
    refine bodyPost_ret (v := .tuple #[.slice none 0 0, .bool false]) (by simp [results, Try.results39, go_sem]) rfl ?_
    exact EnTo.no (en_no HV.out) HV.out HB3.out
  have HAS : Hid (askB m f o = true) := Lib.hid (by unfold askB; rw [HG.out, HL.out, hg]; rfl)
  have HO := Lib.hid (askB_all HAS.out).2.2
  have HRK := Lib.hid (run_ok HG.out HL.out HO.out)
  clear hg
  have hmk := run_makeInt o.length hk
  have hst : Marked (w3.alloc (.cells (madeCells #[.int .i64 0] (o.length * 1)) 3)) w3.heap.size 3 o.length (intsZ (endsTo m f o 0)) := ⟨_, heap_new _ _, by rw [size_madeCells]; omega, by simp [intsZ, endsTo]⟩
  have HST := Lib.hid hst
  have HM4 := Lib.hid (HM3.out.alloc (.cells (madeCells #[.int .i64 0] (o.length * 1)) 3))
  have HB4 := Lib.hid (HB3.out.alloc HB3.out.size (.cells (madeCells #[.int .i64 0] (o.length * 1)) 3))
  have hgl := HM3.out.lt
  clear hst HM3
  generalize hz : madeCells #[.int .i64 0] (o.length * 1) = cs0 at *
  clear hz
  go_wp2
  go_loopw [9, 32] (fun t i wr => ∃ k : Nat, k ≤ o.length ∧ i = .int .i64 k ∧ t = .int .i64 (run m f (o.take k)).t ∧ McAt wr w.heap.size 32 (run m f (o.take k)).mc ∧ Marked wr w3.heap.size 3 o.length (intsZ (endsTo m f o k)) ∧ Below w.heap.size w wr) (fun _ i _ => o.length - (intOf i).toNat)
  case atStart => exact ⟨0, Nat.zero_le _, rfl, rfl, HM4.out, HST.out, HB4.out⟩
  case round =>
    obtain ⟨k, hkk, rfl, rfl, hmc, hmd, hb⟩ := hrel
    have HM := Lib.hid hmc; have HMD := Lib.hid hmd; have HB := Lib.hid hb
    clear hmc hmd hb hmk
    by_cases hlt : k < o.length
    · obtain ⟨j, hj, hjl⟩ := HO.out k hlt
      obtain ⟨b, off, rfl, hbl, hc⟩ := HF.out (by omega)
      have HCJ := Lib.hid (cas_at hbl (hc j hjl))
      obtain ⟨b', off', rfl, hbl', hc'⟩ := HS.out (by omega)
      have hco := hc' k hlt
      rw [← HB.out.cell (p := ⟨b', off' + k, none⟩) hbl', hj] at hco
      clear hc hc'
      have HRS := Lib.hid (run_succ m f hlt)
      have HEN := Lib.hid (endsTo_succ m f o k)
      have HAX := Lib.hid (atC_at hjl)
      have HGX := Lib.hid (goodL_at HL.out hjl)
      obtain ⟨hgs, hts, hns⟩ := HRK.out k hkk
      have HGS := Lib.hid hgs
      clear hgs
      have HJ := Lib.hid hj; clear hj
      generalize f[j] = x at *
      generalize run m f (o.take k) = S at *
      have HMC : Hid (nextM S.mc x = (run m f (o.take (k + 1))).mc) := Lib.hid (by rw [HRS.out, HJ.out]; unfold stp; rw [HAX.out])
      have HT1 : Hid (S.t + costI S.mc x = (run m f (o.take (k + 1))).t) := Lib.hid (by rw [HRS.out, HJ.out]; unfold stp; rw [HAX.out])
      have hcr := costI_range HGS.out HGX.out
      have hjl1 : (j : Int) < (f.length : Int) := by omega
      have hjl0 : (0 : Int) ≤ (j : Int) := by omega
      have hbw : b < wr.heap.size := Nat.lt_of_lt_of_le hbl HB.out.size
      have hmlt := HM.out.lt
      obtain ⟨n0, n1, n2⟩ := HM.out.cells
      obtain ⟨hx0, hx1⟩ := HCJ.out wr HB.out
      have hne1 : ¬ w3.heap.size = w.heap.size := by omega
      go_wp2_with fail
      clear hco
      go_cut [12] (fun s12 wx => s12 = .int .i64 (costI S.mc x) ∧ McAt wx w.heap.size 32 (nextM S.mc x) ∧ Marked wx w3.heap.size 3 o.length (intsZ (endsTo m f o k)) ∧ Below w.heap.size w wx)
      case first =>
        go_region_law (go_simp; go_at_call 64; refine (castNext_any S.mc x _ HGS.out HGX.out).mono ?_; rintro e wq ⟨rfl, hq⟩; have hqb : Below wr.heap.size wr wq := ((Below.refl wr.heap.size wr).drew).trans (hq.mono (Nat.le_refl _)); have HBq := Lib.hid (HB.out.trans (hqb.mono HB.out.size)); have HMq := Lib.hid (HM.out.next hqb); have HDq := Lib.hid (HMD.out.below hqb); obtain ⟨c0, c1, c2⟩ := HMq.out.cells; have f0 := HMq.out.free 0; have f1 := HMq.out.free 1; have f2 := HMq.out.free 2; have hml := HMq.out.lt; clear hq hqb n0 n1 n2 hx0 hx1)
        all_goals (go_wp2_with fail; go_meet; exact ⟨rfl, HMq.out.put3 _ _ _, ((HDq.out.far (i := 0) hne1 _).far (i := 1) hne1 _).far (i := 2) hne1 _, ((HBq.out.setCell (p := ⟨w.heap.size, 0, none⟩) (Nat.le_refl _) _).setCell (p := ⟨w.heap.size, 1, none⟩) (Nat.le_refl _) _).setCell (p := ⟨w.heap.size, 2, none⟩) (Nat.le_refl _) _⟩)
      case rest =>
        obtain ⟨rfl, hmx, hdx, hbx⟩ := hcut
        have HMx := Lib.hid hmx; have HDx := Lib.hid hdx; have HBx := Lib.hid hbx
        clear hmx hdx hbx HB HM HMD hbw n0 n1 n2 hx0 hx1
        obtain ⟨⟨z0, hz0⟩, hfz⟩ := HDx.out.at_ hlt
        have hg2 := HDx.out.lt
        have HDf : Hid (Marked (wc.setCell ⟨w3.heap.size, k, none⟩ (.int .i64 (S.t + costI S.mc x))) w3.heap.size 3 o.length (intsZ (endsTo m f o (k + 1)))) := Lib.hid (by
          rw [HEN.out, ← HT1.out, intsZ_snoc]
          exact HDx.out.stepAt k (by rw [intsZ_len, endsTo_len]) hlt _)
        have HMf : Hid (McAt (wc.setCell ⟨w3.heap.size, k, none⟩ (.int .i64 (S.t + costI S.mc x))) w.heap.size 32 (run m f (o.take (k + 1))).mc) := Lib.hid (by
          rw [← HMC.out]
          exact heap_far (i := k) HMx.out (fun e => hne1 e.symm) _)
        have HBf := Lib.hid (HBx.out.setCell (p := ⟨w3.heap.size, k, none⟩) (Nat.le_of_lt hgl) (.int .i64 (S.t + costI S.mc x)))
        have hkl1 : (k : Int) < (o.length : Int) := by omega
        have hkl0 : (0 : Int) ≤ (k : Int) := by omega
        obtain ⟨q, hq⟩ : ∃ q, q = costI S.mc x := ⟨_, rfl⟩
        rw [← hq] at hcr HMf HDf HBf HT1
        rw [← hq]
        clear hq
        go_wp2
        go_roundw
        case rel => exact ⟨k + 1, by omega, by go_num, by rw [HT1.out], HMf.out, HDf.out, HBf.out⟩
        case measure => simp [intOf]; omega
    · obtain rfl : k = o.length := by omega
      have HO2 := Lib.hid (HMD.out.owns (base := w.heap.size) (by rw [intsZ_len, endsTo_len]) (Nat.le_of_lt hgl) (by unfold maxLen; omega))
      go_wp2
      refine bodyPost_ret (v := .tuple #[.slice (some ⟨w3.heap.size, 0, none⟩) o.length o.length, .bool true]) (by simp [results, Try.results39, go_sem]) rfl ?_
      exact EnTo.yes (en_yes HAS.out) HAS.out HB.out HO2.out
end Go.Proofs.Ytpocghcdfpcedaa

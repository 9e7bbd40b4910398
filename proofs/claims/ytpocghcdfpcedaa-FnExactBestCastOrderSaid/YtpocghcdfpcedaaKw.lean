/-
  The contracts of impl.searchCastOrders and impl.BestCastOrder.
-/
import Derived.Test.YtpocghcdfpcedaaKv
import Derived.Test.YtpocghcdfpcedaaKo
namespace Go.Proofs.Ytpocghcdfpcedaa
open Go.RowKit
set_option linter.unusedVariables false

theorem toList_made (n : Nat) : (madeCells #[.int .i64 0] (n * 1)).size = n := by rw [size_madeCells]; omega
theorem run_makeRoom (n : Nat) (hn : n ≤ 1048576) (w : World) :
    (Instr.makeSlice 42 (.int .i64 0) (.int .i64 (n : Int))).run Try.prog w = .ok (.slice (some ⟨w.heap.size, 0, none⟩) 0 n) (w.alloc (.cells (madeCells #[.int .i64 0] (n * 1)) 3)) := by
  obtain ⟨i0, hi, hz0, hz1, hz2⟩ := info_parts info3
  have h := run_make (P := Try.prog) w 42 3 i0 _ Try.underlying42 hi hz0 .i64 .i64 (0 : Int) (n : Int) (by omega) (by omega) (by rw [hz2]; omega) (by omega)
  rw [hz1, Int.toNat_natCast] at h
  exact h
set_option maxRecDepth 100000 in
set_option maxHeartbeats 4000000 in
theorem searchCastB_any (m : Mc) (f : List Ca) (A : Option Addr) (c : Nat) (wE w : World) (P0 pf pl pb pt : Nat) (hm : goodMc m = true) (hL : goodL f = true) (hA : CasE wE P0 A f) (hE : Below P0 wE w)
    (hn : (P0 ≤ pf ∧ pf < w.heap.size) ∧ (P0 ≤ pl ∧ pl < w.heap.size) ∧ (P0 ≤ pb ∧ pb < w.heap.size) ∧ (P0 ≤ pt ∧ pt < w.heap.size)) (dp : pb ≠ pf ∧ pb ≠ pl ∧ pb ≠ pt) (d1 : pf ≠ pl) (d2 : pf ≠ pt) (d3 : pl ≠ pt)
    (hpb : Box1 w pb 25 (.slice A f.length c)) (hpf : Box1 w pf 4 (.bool false)) (hpl : Box1 w pl 3 (.int .i64 0)) (hpt : Box1 w pt 42 (.slice none 0 0)) :
    Calls Try.prog 59 #[.agg #[.int .i64 m.bod, .int .i64 m.hou, .int .i64 m.cha], .slice A f.length c, (.func (.func 60) #[] #[(.pointer (some ⟨pf, 0, none⟩)), (.pointer (some ⟨pl, 0, none⟩)), (.pointer (some ⟨pb, 0, none⟩)), (.pointer (some ⟨pt, 0, none⟩))])] w fun e w' => e = .returned (.tuple #[]) ∧ VB w' pf pl pt (w.heap.size + 6) (rc (visB f.length) (tmO m f) f.length (f.length + 1) [] none) ∧ Kep (ExB w.heap.size pf pl pt) w w' := by
  have h8 := (goodL_all hL).2
  have hmk := run_makeRoom f.length (by omega)
  have hsz0 := toList_made f.length
  generalize madeCells #[.int .i64 0] (f.length * 1) = cs0 at *
  obtain ⟨u, hu⟩ : ∃ u : World, u = (((((w.alloc (.cells #[.int .i64 m.bod, .int .i64 m.hou, .int .i64 m.cha] 32)).alloc (.cells #[.slice A f.length c] 25)).alloc (.cells #[(.func (.func 60) #[] #[(.pointer (some ⟨pf, 0, none⟩)), (.pointer (some ⟨pl, 0, none⟩)), (.pointer (some ⟨pb, 0, none⟩)), (.pointer (some ⟨pt, 0, none⟩))])] 73)).alloc (.cells cs0 3)).alloc (.cells #[.slice (some ⟨w.heap.size + 1 + 1 + 1, 0, none⟩) 0 f.length] 42)).alloc (.cells #[(.func (.func 75) #[] #[(.pointer (some ⟨w.heap.size + 1 + 1, 0, none⟩)), (.pointer (some ⟨w.heap.size + 1 + 1 + 1 + 1, 0, none⟩)), (.pointer (some ⟨w.heap.size + 1, 0, none⟩)), (.pointer (some ⟨w.heap.size + 1 + 1 + 1 + 1 + 1, 0, none⟩))])] 84) := ⟨_, rfl⟩
  have hk : Kep (ExB w.heap.size pf pl pt) w u := by rw [hu]; exact ((((((Kep.refl _ _).alloc _).alloc _).alloc _).alloc _).alloc _).alloc _
  have hkN : Kep (fun _ => False) w u := by rw [hu]; exact ((((((Kep.refl _ _).alloc _).alloc _).alloc _).alloc _).alloc _).alloc _
  have e1 : u.heap[w.heap.size + 1]? = some (.cells #[.slice A f.length c] 25 (0, 0)) := by
    rw [hu]
    have h := heap_alloc2_new w (.cells #[.int .i64 m.bod, .int .i64 m.hou, .int .i64 m.cha] 32) (.cells #[.slice A f.length c] 25)
    exact (((((Below.refl _ _).alloc (Nat.le_refl _) _).alloc (by first | (simp; done) | (simp; omega)) _).alloc (by first | (simp; done) | (simp; omega)) _).alloc (by first | (simp; done) | (simp; omega)) _).block _ (lt_of_heap h) |>.trans h
  have e2 : u.heap[w.heap.size + 2]? = some (.cells #[(.func (.func 60) #[] #[(.pointer (some ⟨pf, 0, none⟩)), (.pointer (some ⟨pl, 0, none⟩)), (.pointer (some ⟨pb, 0, none⟩)), (.pointer (some ⟨pt, 0, none⟩))])] 73 (0, 0)) := by
    rw [hu]
    have h := heap_alloc3_new w (.cells #[.int .i64 m.bod, .int .i64 m.hou, .int .i64 m.cha] 32) (.cells #[.slice A f.length c] 25) (.cells #[(.func (.func 60) #[] #[(.pointer (some ⟨pf, 0, none⟩)), (.pointer (some ⟨pl, 0, none⟩)), (.pointer (some ⟨pb, 0, none⟩)), (.pointer (some ⟨pt, 0, none⟩))])] 73)
    exact ((((Below.refl _ _).alloc (Nat.le_refl _) _).alloc (by first | (simp; done) | (simp; omega)) _).alloc (by first | (simp; done) | (simp; omega)) _).block _ (lt_of_heap h) |>.trans h
  have e3 : u.heap[w.heap.size + 3]? = some (.cells cs0 3 (0, 0)) := by
    rw [hu]
    have h := heap_alloc4_new w (.cells #[.int .i64 m.bod, .int .i64 m.hou, .int .i64 m.cha] 32) (.cells #[.slice A f.length c] 25) (.cells #[(.func (.func 60) #[] #[(.pointer (some ⟨pf, 0, none⟩)), (.pointer (some ⟨pl, 0, none⟩)), (.pointer (some ⟨pb, 0, none⟩)), (.pointer (some ⟨pt, 0, none⟩))])] 73) (.cells cs0 3)
    exact (((Below.refl _ _).alloc (Nat.le_refl _) _).alloc (by first | (simp; done) | (simp; omega)) _).block _ (lt_of_heap h) |>.trans h
  have e4 : u.heap[w.heap.size + 4]? = some (.cells #[.slice (some ⟨w.heap.size + 3, 0, none⟩) 0 f.length] 42 (0, 0)) := by
    rw [hu]
    have h := heap_alloc4_new (w.alloc (.cells #[.int .i64 m.bod, .int .i64 m.hou, .int .i64 m.cha] 32)) (.cells #[.slice A f.length c] 25) (.cells #[(.func (.func 60) #[] #[(.pointer (some ⟨pf, 0, none⟩)), (.pointer (some ⟨pl, 0, none⟩)), (.pointer (some ⟨pb, 0, none⟩)), (.pointer (some ⟨pt, 0, none⟩))])] 73) (.cells cs0 3) (.cells #[.slice (some ⟨w.heap.size + 3, 0, none⟩) 0 f.length] 42)
    rw [show (w.alloc (.cells #[.int .i64 m.bod, .int .i64 m.hou, .int .i64 m.cha] 32)).heap.size + 3 = w.heap.size + 4 from by simp] at h
    exact ((Below.refl _ _).alloc (Nat.le_refl _) _).block _ (lt_of_heap h) |>.trans h
  have e5 : u.heap[w.heap.size + 5]? = some (.cells #[(.func (.func 75) #[] #[(.pointer (some ⟨w.heap.size + 2, 0, none⟩)), (.pointer (some ⟨w.heap.size + 4, 0, none⟩)), (.pointer (some ⟨w.heap.size + 1, 0, none⟩)), (.pointer (some ⟨w.heap.size + 5, 0, none⟩))])] 84 (0, 0)) := by
    rw [hu]
    have h := heap_alloc4_new ((w.alloc (.cells #[.int .i64 m.bod, .int .i64 m.hou, .int .i64 m.cha] 32)).alloc (.cells #[.slice A f.length c] 25)) (.cells #[(.func (.func 60) #[] #[(.pointer (some ⟨pf, 0, none⟩)), (.pointer (some ⟨pl, 0, none⟩)), (.pointer (some ⟨pb, 0, none⟩)), (.pointer (some ⟨pt, 0, none⟩))])] 73) (.cells cs0 3) (.cells #[.slice (some ⟨w.heap.size + 3, 0, none⟩) 0 f.length] 42) (.cells #[(.func (.func 75) #[] #[(.pointer (some ⟨w.heap.size + 2, 0, none⟩)), (.pointer (some ⟨w.heap.size + 4, 0, none⟩)), (.pointer (some ⟨w.heap.size + 1, 0, none⟩)), (.pointer (some ⟨w.heap.size + 5, 0, none⟩))])] 84)
    rw [show ((w.alloc (.cells #[.int .i64 m.bod, .int .i64 m.hou, .int .i64 m.cha] 32)).alloc (.cells #[.slice A f.length c] 25)).heap.size + 3 = w.heap.size + 5 from by simp] at h
    exact h
  have husz : w.heap.size + 6 ≤ u.heap.size := by rw [hu]; simp
  have HSS : Hid (SsB u wE P0 w.heap.size pf pl pb pt A f c) := Lib.hid ⟨e1, e2, e5, hpb.kep hkN (fun h => h), hE.trans (hkN.below (by omega) (fun _ h => h.elim)), husz⟩
  have HOR : Hid (OrI u w.heap.size f.length []) := Lib.hid ⟨e4, rfl, .inr ⟨w.heap.size + 3, f.length, cs0, rfl, Nat.le_refl _, e3, Nat.zero_le _, by unfold maxLen; omega, by omega, rfl⟩⟩
  have HVB : Hid (VB u pf pl pt (w.heap.size + 6) none) := Lib.hid ⟨hpf.kep hkN (fun h => h), hpl.kep hkN (fun h => h), _, hpt.kep hkN (fun h => h), own_nil _ _ _ _⟩
  have HK := Lib.hid hk
  have HC := Lib.hid (searchB_any m f A c wE P0 w.heap.size pf pl pb pt hm hL hA hn dp d1 d2 d3 (f.length + 1) [] none u (okO_nil _) (by simp) HSS.out HOR.out HVB.out)
  have HU := Lib.hid hu
  clear hu hk hkN e1 e2 e3 e4 e5 husz hE hA hm hL hpb hpf hpl hpt hsz0 HSS HOR HVB
  have hst : ∀ (W : World) (a : Addr) (fn : Fn) ts (cs : Array Value), (store a (Value.func fn ts cs)).run Try.prog W = stored Try.prog W a (Value.func fn ts cs) .plain := fun W a fn ts cs => run_store Try.prog W a _ .plain rfl
  go_enter Try.func59, Try.ntmps59
  go_wp2_with fail
  rw [← HU.out]
  refine HC.out.mono ?_
  rintro e w1 ⟨rfl, _, hv, hk1⟩
  have HV1 := Lib.hid hv
  have HK1 := Lib.hid (HK.out.trans hk1)
  clear hv hk1 HK HC HU
  go_wp2
  go_end0
  exact ⟨rfl, HV1.out, HK1.out⟩

def askS (m : Mc) (f : List Ca) : Bool := goodMc m && goodL f
noncomputable def bcS (m : Mc) (f : List Ca) : Option (List Int × Int) := rc (visB f.length) (tmO m f) f.length (f.length + 1) [] none
noncomputable def bcL (m : Mc) (f : List Ca) : List Int := if askS m f then blS (bcS m f) else []
noncomputable def bcV (m : Mc) (f : List Ca) : Int := if askS m f then blT (bcS m f) else 0
theorem bc_no {m : Mc} {f : List Ca} (h : askS m f = false) : bcL m f = [] ∧ bcV m f = 0 := by unfold bcL bcV; rw [h]; exact ⟨rfl, rfl⟩
theorem bc_yes {m : Mc} {f : List Ca} (h : askS m f = true) : bcL m f = blS (bcS m f) ∧ bcV m f = blT (bcS m f) := by unfold bcL bcV; rw [h]; exact ⟨rfl, rfl⟩
set_option maxRecDepth 100000 in
set_option maxHeartbeats 4000000 in
theorem implBest_any (m : Mc) (f : List Ca) (A : Option Addr) (c : Nat) (w : World) (hf : CasIn w A f) (hn : f.length ≤ 1048576) :
    Calls Try.prog 32 #[.agg #[.int .i64 m.bod, .int .i64 m.hou, .int .i64 m.cha], .slice A f.length c] w fun e w' => ShTo w w' e (bcL m f) (bcV m f) (askS m f) := by
  have HF := Lib.hid hf; clear hf
  have HA : Hid (Below w.heap.size w ((w.alloc (.cells #[.int .i64 m.bod, .int .i64 m.hou, .int .i64 m.cha] 32)).alloc (.cells #[.slice A f.length c] 25))) := Lib.hid (((Below.refl _ _).alloc (Nat.le_refl _) _).alloc (by simp) _)
  have HM : Hid (McAt ((w.alloc (.cells #[.int .i64 m.bod, .int .i64 m.hou, .int .i64 m.cha] 32)).alloc (.cells #[.slice A f.length c] 25)) w.heap.size 32 m) := Lib.hid ((McAt.new _ _ _).alloc _)
  have HX : Hid (Box1 ((w.alloc (.cells #[.int .i64 m.bod, .int .i64 m.hou, .int .i64 m.cha] 32)).alloc (.cells #[.slice A f.length c] 25)) (w.heap.size + 1) 25 (.slice A f.length c)) := Lib.hid (heap_alloc2_new _ _ _)
  go_enter Try.func32, Try.ntmps32
  go_wp2_with fail
  refine (implIsMachine_any m _).mono ?_
  rintro e w1 ⟨rfl, hb⟩
  have HB1 := Lib.hid (HA.out.trans (hb.mono HA.out.size)); have HM1 := Lib.hid (HM.out.next hb); have HX1 := Lib.hid (HX.out.next hb)
  clear hb HA HM HX
  cases hg : goodMc m
  · have HV : Hid (askS m f = false) := Lib.hid (by unfold askS; rw [hg]; rfl)
    clear hg
    go_wp2
    refine bodyPost_ret (v := .tuple #[.slice none 0 0, .int .i64 (0), .bool false]) (by simp [results, Try.results32, go_sem]) rfl ?_
    exact ShTo.no (bc_no HV.out).1 (bc_no HV.out).2 HV.out HB1.out
  have HG := Lib.hid hg; clear hg
  have x0 := HX1.out.cell
  go_wp2_with fail
  refine (implAreCastings_any f A c _ (HF.out.below HB1.out (Nat.le_refl _)) hn).mono ?_
  rintro e w2 ⟨rfl, hb⟩
  have HB2 := Lib.hid (HB1.out.trans (hb.mono HB1.out.size)); have HM2 := Lib.hid (HM1.out.next hb); have HX2 := Lib.hid (HX1.out.next hb)
  clear hb HB1 HM1 HX1 x0
  cases hg : goodL f
  · have HV : Hid (askS m f = false) := Lib.hid (by unfold askS; rw [hg]; simp)
    clear hg
    go_wp2
    refine bodyPost_ret (v := .tuple #[.slice none 0 0, .int .i64 (0), .bool false]) (by simp [results, Try.results32, go_sem]) rfl ?_
    exact ShTo.no (bc_no HV.out).1 (bc_no HV.out).2 HV.out HB2.out
  have HL := Lib.hid hg
  have HAS : Hid (askS m f = true) := Lib.hid (by unfold askS; rw [HG.out, hg]; rfl)
  clear hg
  have hml := HM2.out.lt; have hxl := HX2.out.lt
  obtain ⟨u, hu⟩ : ∃ u : World, u = ((w2.alloc (.cells #[.slice none 0 0] 42)).alloc (.cells #[.int .i64 0] 3)).alloc (.cells #[.bool false] 4) := ⟨_, rfl⟩
  have hbu : Below w2.heap.size w2 u := by rw [hu]; exact (((Below.refl _ _).alloc (Nat.le_refl _) _).alloc (by simp) _).alloc (by simp; omega) _
  have t1 : Box1 u w2.heap.size 42 (.slice none 0 0) := by rw [hu]; exact (show Box1 (w2.alloc _) _ _ _ from heap_new _ _).alloc _ |>.alloc _
  have t2 : Box1 u (w2.heap.size + 1) 3 (.int .i64 0) := by rw [hu]; exact (show Box1 ((w2.alloc _).alloc _) _ _ _ from heap_alloc2_new _ _ _).alloc _
  have t3 : Box1 u (w2.heap.size + 2) 4 (.bool false) := by rw [hu]; exact heap_alloc3_new _ _ _ _
  have husz : u.heap.size = w2.heap.size + 3 := by rw [hu]; simp
  have HBu := Lib.hid (HB2.out.trans (hbu.mono HB2.out.size))
  have HC := Lib.hid (searchCastB_any m f A c w u w.heap.size (w2.heap.size + 2) (w2.heap.size + 1) (w.heap.size + 1) w2.heap.size HG.out HL.out (CasE.of HF.out rfl) HBu.out
    ⟨by omega, by omega, by omega, by omega⟩ ⟨by omega, by omega, by omega⟩ (by omega) (by omega) (by omega) (HX2.out.next hbu) t3 t2 t1)
  have HU := Lib.hid hu
  have x0 := HX2.out.cell
  obtain ⟨m0, m1, m2⟩ := HM2.out.cells
  have hml1 : w.heap.size < w2.heap.size + 1 := by omega
  have hml2 : w.heap.size < w2.heap.size + 1 + 1 := by omega
  have hxl1 : w.heap.size + 1 < w2.heap.size + 1 := by omega
  have hxl2 : w.heap.size + 1 < w2.heap.size + 1 + 1 := by omega
  clear hbu t1 t2 t3 hu HX2 HM2
  go_wp2_with fail
  rw [← HU.out]
  refine HC.out.mono ?_
  rintro e w4 ⟨rfl, hv, hk⟩
  have HB4 := Lib.hid (HBu.out.trans ((hk.below (B := w.heap.size) (by omega) (fun q h => by unfold ExB at h; omega)).mono (Nat.le_refl _)))
  have hS : bcS m f = rc (visB f.length) (tmO m f) f.length (f.length + 1) [] none := rfl
  rw [← hS] at hv
  have HVV := Lib.hid (bc_yes HAS.out)
  obtain ⟨S, hS2⟩ : ∃ S, S = bcS m f := ⟨_, rfl⟩
  rw [← hS2] at hv HVV
  obtain ⟨_, hl, v, ht, hown⟩ := hv
  have HO := Lib.hid (Joins.ownsRow_le (base' := w.heap.size) hown (by omega))
  have kl := KeptW.cell (B := w4.heap.size) hl.cell hl.lt
  have kt := KeptW.cell (B := w4.heap.size) ht.cell ht.lt
  obtain ⟨A5, c5, rfl⟩ := own_form hown
  clear hk hS hS2 hl ht hown x0 m0 m1 m2 HC HU HBu HB2
  generalize blT S = q at *
  go_wp2_with fail
  refine region_kept w4.heap.size (by kernel_rfl) (by kernel_rfl) ?_
  repeat (go_big_quiet_step (fail))
  refine wpQuiet_nil ?_
  intro w5 hb5
  have HB5 := Lib.hid (HB4.out.trans (hb5.mono HB4.out.size))
  have HO5 := Lib.hid (own_below HO.out hb5)
  clear kl kt hb5 HO HB4
  go_wp2
  refine bodyPost_ret (v := .tuple #[.slice A5 (blS S).length c5, .int .i64 (q), .bool true]) (by simp [results, Try.results32, go_sem]) rfl ?_
  exact ShTo.yes HVV.out.1 HVV.out.2 HAS.out HB5.out HO5.out
end Go.Proofs.Ytpocghcdfpcedaa

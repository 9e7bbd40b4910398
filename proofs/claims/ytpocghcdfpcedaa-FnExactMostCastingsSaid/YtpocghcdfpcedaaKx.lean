/-
  The contracts of impl.searchCastOrders, with the visit of impl.MostCastings, and of impl.MostCastings.
-/
import Derived.Test.YtpocghcdfpcedaaKw
namespace Go.Proofs.Ytpocghcdfpcedaa
open Go.RowKit
set_option linter.unusedVariables false

set_option maxRecDepth 100000 in
set_option maxHeartbeats 4000000 in
theorem searchCastM_any (m : Mc) (f : List Ca) (A : Option Addr) (c : Nat) (wE w : World) (P0 pm pb pt : Nat) (a : Int) (hm : goodMc m = true) (hL : goodL f = true) (hA : CasE wE P0 A f) (hE : Below P0 wE w)
    (hn : (P0 ≤ pm ∧ pm < w.heap.size) ∧ (P0 ≤ pb ∧ pb < w.heap.size) ∧ (P0 ≤ pt ∧ pt < w.heap.size)) (dp : pm ≠ pt ∧ pb ≠ pt)
    (hpb : Box1 w pb 25 (.slice A f.length c)) (hpm : Box1 w pm 3 (.int .i64 a)) (hpt : Box1 w pt 42 (.slice none 0 0)) :
    Calls Try.prog 59 #[.agg #[.int .i64 m.bod, .int .i64 m.hou, .int .i64 m.cha], .slice A f.length c, (.func (.func 66) #[] #[(.pointer (some ⟨pm, 0, none⟩)), (.pointer (some ⟨pt, 0, none⟩)), (.pointer (some ⟨pb, 0, none⟩))])] w fun e w' => e = .returned (.tuple #[]) ∧ VM w' pt (w.heap.size + 6) (rc (visM f.length a) (tmO m f) f.length (f.length + 1) [] []) ∧ Kep (ExM w.heap.size pt) w w' := by
  have h8 := (goodL_all hL).2
  have hmk := run_makeRoom f.length (by omega)
  have hsz0 := toList_made f.length
  generalize madeCells #[.int .i64 0] (f.length * 1) = cs0 at *
  obtain ⟨u, hu⟩ : ∃ u : World, u = (((((w.alloc (.cells #[.int .i64 m.bod, .int .i64 m.hou, .int .i64 m.cha] 32)).alloc (.cells #[.slice A f.length c] 25)).alloc (.cells #[(.func (.func 66) #[] #[(.pointer (some ⟨pm, 0, none⟩)), (.pointer (some ⟨pt, 0, none⟩)), (.pointer (some ⟨pb, 0, none⟩))])] 73)).alloc (.cells cs0 3)).alloc (.cells #[.slice (some ⟨w.heap.size + 1 + 1 + 1, 0, none⟩) 0 f.length] 42)).alloc (.cells #[(.func (.func 75) #[] #[(.pointer (some ⟨w.heap.size + 1 + 1, 0, none⟩)), (.pointer (some ⟨w.heap.size + 1 + 1 + 1 + 1, 0, none⟩)), (.pointer (some ⟨w.heap.size + 1, 0, none⟩)), (.pointer (some ⟨w.heap.size + 1 + 1 + 1 + 1 + 1, 0, none⟩))])] 84) := ⟨_, rfl⟩
  have hk : Kep (ExM w.heap.size pt) w u := by rw [hu]; exact ((((((Kep.refl _ _).alloc _).alloc _).alloc _).alloc _).alloc _).alloc _
  have hkN : Kep (fun _ => False) w u := by rw [hu]; exact ((((((Kep.refl _ _).alloc _).alloc _).alloc _).alloc _).alloc _).alloc _
  have e1 : u.heap[w.heap.size + 1]? = some (.cells #[.slice A f.length c] 25 (0, 0)) := by
    rw [hu]
    have h := heap_alloc2_new w (.cells #[.int .i64 m.bod, .int .i64 m.hou, .int .i64 m.cha] 32) (.cells #[.slice A f.length c] 25)
    exact (((((Below.refl _ _).alloc (Nat.le_refl _) _).alloc (by first | (simp; done) | (simp; omega)) _).alloc (by first | (simp; done) | (simp; omega)) _).alloc (by first | (simp; done) | (simp; omega)) _).block _ (lt_of_heap h) |>.trans h
  have e2 : u.heap[w.heap.size + 2]? = some (.cells #[(.func (.func 66) #[] #[(.pointer (some ⟨pm, 0, none⟩)), (.pointer (some ⟨pt, 0, none⟩)), (.pointer (some ⟨pb, 0, none⟩))])] 73 (0, 0)) := by
    rw [hu]
    have h := heap_alloc3_new w (.cells #[.int .i64 m.bod, .int .i64 m.hou, .int .i64 m.cha] 32) (.cells #[.slice A f.length c] 25) (.cells #[(.func (.func 66) #[] #[(.pointer (some ⟨pm, 0, none⟩)), (.pointer (some ⟨pt, 0, none⟩)), (.pointer (some ⟨pb, 0, none⟩))])] 73)
    exact ((((Below.refl _ _).alloc (Nat.le_refl _) _).alloc (by first | (simp; done) | (simp; omega)) _).alloc (by first | (simp; done) | (simp; omega)) _).block _ (lt_of_heap h) |>.trans h
  have e3 : u.heap[w.heap.size + 3]? = some (.cells cs0 3 (0, 0)) := by
    rw [hu]
    have h := heap_alloc4_new w (.cells #[.int .i64 m.bod, .int .i64 m.hou, .int .i64 m.cha] 32) (.cells #[.slice A f.length c] 25) (.cells #[(.func (.func 66) #[] #[(.pointer (some ⟨pm, 0, none⟩)), (.pointer (some ⟨pt, 0, none⟩)), (.pointer (some ⟨pb, 0, none⟩))])] 73) (.cells cs0 3)
    exact (((Below.refl _ _).alloc (Nat.le_refl _) _).alloc (by first | (simp; done) | (simp; omega)) _).block _ (lt_of_heap h) |>.trans h
  have e4 : u.heap[w.heap.size + 4]? = some (.cells #[.slice (some ⟨w.heap.size + 3, 0, none⟩) 0 f.length] 42 (0, 0)) := by
    rw [hu]
    have h := heap_alloc4_new (w.alloc (.cells #[.int .i64 m.bod, .int .i64 m.hou, .int .i64 m.cha] 32)) (.cells #[.slice A f.length c] 25) (.cells #[(.func (.func 66) #[] #[(.pointer (some ⟨pm, 0, none⟩)), (.pointer (some ⟨pt, 0, none⟩)), (.pointer (some ⟨pb, 0, none⟩))])] 73) (.cells cs0 3) (.cells #[.slice (some ⟨w.heap.size + 3, 0, none⟩) 0 f.length] 42)
    rw [show (w.alloc (.cells #[.int .i64 m.bod, .int .i64 m.hou, .int .i64 m.cha] 32)).heap.size + 3 = w.heap.size + 4 from by simp] at h
    exact ((Below.refl _ _).alloc (Nat.le_refl _) _).block _ (lt_of_heap h) |>.trans h
  have e5 : u.heap[w.heap.size + 5]? = some (.cells #[(.func (.func 75) #[] #[(.pointer (some ⟨w.heap.size + 2, 0, none⟩)), (.pointer (some ⟨w.heap.size + 4, 0, none⟩)), (.pointer (some ⟨w.heap.size + 1, 0, none⟩)), (.pointer (some ⟨w.heap.size + 5, 0, none⟩))])] 84 (0, 0)) := by
    rw [hu]
    have h := heap_alloc4_new ((w.alloc (.cells #[.int .i64 m.bod, .int .i64 m.hou, .int .i64 m.cha] 32)).alloc (.cells #[.slice A f.length c] 25)) (.cells #[(.func (.func 66) #[] #[(.pointer (some ⟨pm, 0, none⟩)), (.pointer (some ⟨pt, 0, none⟩)), (.pointer (some ⟨pb, 0, none⟩))])] 73) (.cells cs0 3) (.cells #[.slice (some ⟨w.heap.size + 3, 0, none⟩) 0 f.length] 42) (.cells #[(.func (.func 75) #[] #[(.pointer (some ⟨w.heap.size + 2, 0, none⟩)), (.pointer (some ⟨w.heap.size + 4, 0, none⟩)), (.pointer (some ⟨w.heap.size + 1, 0, none⟩)), (.pointer (some ⟨w.heap.size + 5, 0, none⟩))])] 84)
    rw [show ((w.alloc (.cells #[.int .i64 m.bod, .int .i64 m.hou, .int .i64 m.cha] 32)).alloc (.cells #[.slice A f.length c] 25)).heap.size + 3 = w.heap.size + 5 from by simp] at h
    exact h
  have husz : w.heap.size + 6 ≤ u.heap.size := by rw [hu]; simp
  have HSS : Hid (SsM u wE P0 w.heap.size pm pb pt a A f c) := Lib.hid ⟨e1, e2, e5, ⟨hpb.kep hkN (fun h => h), hpm.kep hkN (fun h => h)⟩, hE.trans (hkN.below (by omega) (fun _ h => h.elim)), husz⟩
  have HOR : Hid (OrI u w.heap.size f.length []) := Lib.hid ⟨e4, rfl, .inr ⟨w.heap.size + 3, f.length, cs0, rfl, Nat.le_refl _, e3, Nat.zero_le _, by unfold maxLen; omega, by omega, rfl⟩⟩
  have HVB : Hid (VM u pt (w.heap.size + 6) []) := Lib.hid ⟨_, hpt.kep hkN (fun h => h), own_nil _ _ _ _⟩
  have HK := Lib.hid hk
  have HC := Lib.hid (searchM_any m f A c wE P0 w.heap.size pm pb pt a hm hL hA hn dp (f.length + 1) [] [] u (okO_nil _) (by simp) HSS.out HOR.out HVB.out)
  have HU := Lib.hid hu
  clear hu hk hkN e1 e2 e3 e4 e5 husz hE hA hm hL hpb hpm hpt hsz0 HSS HOR HVB
  have hst : ∀ (W : World) (b : Addr) (fn : Fn) ts (cs : Array Value), (store b (Value.func fn ts cs)).run Try.prog W = stored Try.prog W b (Value.func fn ts cs) .plain := fun W b fn ts cs => run_store Try.prog W b _ .plain rfl
  go_enter Try.func59, Try.ntmps59
  go_wp2_with fail
  rw [← HU.out]
  refine HC.out.mono ?_
  rintro e w1 ⟨rfl, _, hv, hk1⟩
  have HV1 := Lib.hid hv
  have HK1 := Lib.hid (HK.out.trans hk1)
  clear hv hk1 HK HC HU
  go_wp2
  go_end0
  exact ⟨rfl, HV1.out, HK1.out⟩

def askT (m : Mc) (f : List Ca) (a : Int) : Bool := goodMc m && goodL f && inB 0 100000 a
noncomputable def moS (m : Mc) (f : List Ca) (a : Int) : List Int := rc (visM f.length a) (tmO m f) f.length (f.length + 1) [] []
noncomputable def moL (m : Mc) (f : List Ca) (a : Int) : List Int := if askT m f a then moS m f a else []
theorem mo_no {m : Mc} {f : List Ca} {a : Int} (h : askT m f a = false) : moL m f a = [] := by unfold moL; rw [h]; rfl
theorem mo_yes {m : Mc} {f : List Ca} {a : Int} (h : askT m f a = true) : moL m f a = moS m f a := by unfold moL; rw [h]; rfl
set_option maxRecDepth 100000 in
set_option maxHeartbeats 4000000 in
theorem implMost_any (m : Mc) (f : List Ca) (A : Option Addr) (c : Nat) (a : Int) (w : World) (hf : CasIn w A f) (hn : f.length ≤ 1048576) :
    Calls Try.prog 41 #[.agg #[.int .i64 m.bod, .int .i64 m.hou, .int .i64 m.cha], .slice A f.length c, .int .i64 a] w fun e w' => EnTo w w' e (moL m f a) (askT m f a) := by
  have HF := Lib.hid hf; clear hf
  have HA : Hid (Below w.heap.size w (((w.alloc (.cells #[.int .i64 m.bod, .int .i64 m.hou, .int .i64 m.cha] 32)).alloc (.cells #[.slice A f.length c] 25)).alloc (.cells #[.int .i64 a] 3))) := Lib.hid ((((Below.refl _ _).alloc (Nat.le_refl _) _).alloc (by simp) _).alloc (by simp; omega) _)
  have HM : Hid (McAt (((w.alloc (.cells #[.int .i64 m.bod, .int .i64 m.hou, .int .i64 m.cha] 32)).alloc (.cells #[.slice A f.length c] 25)).alloc (.cells #[.int .i64 a] 3)) w.heap.size 32 m) := Lib.hid (((McAt.new _ _ _).alloc _).alloc _)
  have HX : Hid (Box1 (((w.alloc (.cells #[.int .i64 m.bod, .int .i64 m.hou, .int .i64 m.cha] 32)).alloc (.cells #[.slice A f.length c] 25)).alloc (.cells #[.int .i64 a] 3)) (w.heap.size + 1) 25 (.slice A f.length c)) := Lib.hid ((show Box1 ((w.alloc _).alloc _) _ _ _ from heap_alloc2_new _ _ _).alloc _)
  have HY : Hid (Box1 (((w.alloc (.cells #[.int .i64 m.bod, .int .i64 m.hou, .int .i64 m.cha] 32)).alloc (.cells #[.slice A f.length c] 25)).alloc (.cells #[.int .i64 a] 3)) (w.heap.size + 2) 3 (.int .i64 a)) := Lib.hid (heap_alloc3_new _ _ _ _)
  go_enter Try.func41, Try.ntmps41
  go_wp2_with fail
  refine (implIsMachine_any m _).mono ?_
  rintro e w1 ⟨rfl, hb⟩
  have HB1 := Lib.hid (HA.out.trans (hb.mono HA.out.size)); have HM1 := Lib.hid (HM.out.next hb); have HX1 := Lib.hid (HX.out.next hb); have HY1 := Lib.hid (HY.out.next hb)
  clear hb HA HM HX HY
  cases hg : goodMc m
  · have HV : Hid (askT m f a = false) := Lib.hid (by unfold askT; rw [hg]; rfl)
    clear hg
    go_wp2
    refine bodyPost_ret (v := .tuple #[.slice none 0 0, .bool false]) (by simp [results, Try.results41, go_sem]) rfl ?_
    exact EnTo.no (mo_no HV.out) HV.out HB1.out
  have HG := Lib.hid hg; clear hg
  have x0 := HX1.out.cell
  go_wp2_with fail
  refine (implAreCastings_any f A c _ (HF.out.below HB1.out (Nat.le_refl _)) hn).mono ?_
  rintro e w2 ⟨rfl, hb⟩
  have HB2 := Lib.hid (HB1.out.trans (hb.mono HB1.out.size)); have HM2 := Lib.hid (HM1.out.next hb); have HX2 := Lib.hid (HX1.out.next hb); have HY2 := Lib.hid (HY1.out.next hb)
  clear hb HB1 HM1 HX1 HY1 x0
  cases hg : goodL f
  · have HV : Hid (askT m f a = false) := Lib.hid (by unfold askT; rw [hg]; simp)
    clear hg
    go_wp2
    refine bodyPost_ret (v := .tuple #[.slice none 0 0, .bool false]) (by simp [results, Try.results41, go_sem]) rfl ?_
    exact EnTo.no (mo_no HV.out) HV.out HB2.out
  have HL := Lib.hid hg; clear hg
  have y0 := HY2.out.cell
  go_wp2_with fail
  refine (areCastMinutes_any a _).mono ?_
  rintro e w' ⟨rfl, rfl⟩
  cases hg : inB 0 100000 a
  · have HV : Hid (askT m f a = false) := Lib.hid (by unfold askT; rw [hg]; simp)
    clear hg
    go_wp2
    refine bodyPost_ret (v := .tuple #[.slice none 0 0, .bool false]) (by simp [results, Try.results41, go_sem]) rfl ?_
    exact EnTo.no (mo_no HV.out) HV.out HB2.out
  have HAS : Hid (askT m f a = true) := Lib.hid (by unfold askT; rw [HG.out, HL.out, hg]; rfl)
  clear hg
  have hml := HM2.out.lt; have hxl := HX2.out.lt; have hyl := HY2.out.lt
  obtain ⟨u, hu⟩ : ∃ u : World, u = w2.alloc (.cells #[.slice none 0 0] 42) := ⟨_, rfl⟩
  have hbu : Below w2.heap.size w2 u := by rw [hu]; exact (Below.refl _ _).alloc (Nat.le_refl _) _
  have t1 : Box1 u w2.heap.size 42 (.slice none 0 0) := by rw [hu]; exact heap_new _ _
  have husz : u.heap.size = w2.heap.size + 1 := by rw [hu]; simp
  have HBu := Lib.hid (HB2.out.trans (hbu.mono HB2.out.size))
  have HC := Lib.hid (searchCastM_any m f A c w u w.heap.size (w.heap.size + 2) (w.heap.size + 1) w2.heap.size a HG.out HL.out (CasE.of HF.out rfl) HBu.out
    ⟨by omega, by omega, by omega⟩ ⟨by omega, by omega⟩ (HX2.out.next hbu) (HY2.out.next hbu) t1)
  have HU := Lib.hid hu
  have x0 := HX2.out.cell
  obtain ⟨m0, m1, m2⟩ := HM2.out.cells
  clear hbu t1 hu HX2 HM2 HY2 y0
  go_wp2_with fail
  rw [← HU.out]
  refine HC.out.mono ?_
  rintro e w4 ⟨rfl, hv, hk⟩
  have HB4 := Lib.hid (HBu.out.trans ((hk.below (B := w.heap.size) (by omega) (fun q h => by unfold ExM at h; omega)).mono (Nat.le_refl _)))
  have hS : moS m f a = rc (visM f.length a) (tmO m f) f.length (f.length + 1) [] [] := rfl
  rw [← hS] at hv
  have HVV := Lib.hid (mo_yes HAS.out)
  obtain ⟨S, hS2⟩ : ∃ S, S = moS m f a := ⟨_, rfl⟩
  rw [← hS2] at hv HVV
  obtain ⟨v, ht, hown⟩ := hv
  have HO := Lib.hid (Joins.ownsRow_le (base' := w.heap.size) hown (by omega))
  have kt := ht.cell
  obtain ⟨A5, c5, rfl⟩ := own_form hown
  clear hk hS hS2 ht hown x0 m0 m1 m2 HC HU HBu HB2
  go_wp2
  refine bodyPost_ret (v := .tuple #[.slice A5 S.length c5, .bool true]) (by simp [results, Try.results41, go_sem]) rfl ?_
  exact EnTo.yes HVV.out HAS.out HB4.out HO.out
end Go.Proofs.Ytpocghcdfpcedaa

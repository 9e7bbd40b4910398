/-
  The contract of spec.MostCastings.
-/
import Derived.Test.YtpocghcdfpcedaaKy
namespace Go.Proofs.Ytpocghcdfpcedaa
open Go.RowKit
set_option linter.unusedVariables false

theorem moL_len (m : Mc) (f : List Ca) (a : Int) : (moL m f a).length ≤ 1048576 := by
  unfold moL; split
  · rename_i h
    unfold askT at h
    simp only [Bool.and_eq_true] at h
    have h8 := (goodL_all h.1.2).2
    have := rcM_len (a := a) (tm := tmO m f) (n := f.length) (f.length + 1) [] [] (by simp) (Nat.zero_le _)
    unfold moS; omega
  · exact Nat.zero_le _
set_option maxRecDepth 100000 in
theorem specMost_any (m : Mc) (f : List Ca) (A : Option Addr) (c : Nat) (a : Int) (w : World) (hf : CasIn w A f) (hn : f.length ≤ 1048576) :
    Calls Try.prog 40 #[.agg #[.int .i64 m.bod, .int .i64 m.hou, .int .i64 m.cha], .slice A f.length c, .int .i64 a] w fun e w' => EnTo w w' e (moL m f a) (askT m f a) := by
  have HF := Lib.hid hf; clear hf
  have HA : Hid (Below w.heap.size w (w.alloc (.cells #[.int .i64 m.bod, .int .i64 m.hou, .int .i64 m.cha] 32))) := Lib.hid ((Below.refl _ _).alloc (Nat.le_refl _) _)
  have HM : Hid (McAt (w.alloc (.cells #[.int .i64 m.bod, .int .i64 m.hou, .int .i64 m.cha] 32)) w.heap.size 32 m) := Lib.hid (McAt.new _ _ _)
  go_enter Try.func40, Try.ntmps40
  go_wp2_with fail
  refine (csMachine_any m _).mono ?_
  rintro e w1 ⟨rfl, hb⟩
  have HB1 := Lib.hid (HA.out.trans (hb.mono HA.out.size)); have HM1 := Lib.hid (HM.out.next hb)
  clear hb HA HM
  cases hg : goodMc m
  · have HV : Hid (askT m f a = false) := Lib.hid (by unfold askT; rw [hg]; rfl)
    clear hg
    go_wp2
    refine bodyPost_ret (v := .tuple #[.slice none 0 0, .bool false]) (by simp [results, Try.results40, go_sem]) rfl ?_
    exact EnTo.no (mo_no HV.out) HV.out HB1.out
  have HG := Lib.hid hg; clear hg
  go_wp2_with fail
  refine (csGood_any f A c _ (HF.out.below HB1.out (Nat.le_refl _)) hn).mono ?_
  rintro e w2 ⟨rfl, hb⟩
  have HB2 := Lib.hid (HB1.out.trans (hb.mono HB1.out.size)); have HM2 := Lib.hid (HM1.out.next hb)
  clear hb HB1 HM1
  cases hg : goodL f
  · have HV : Hid (askT m f a = false) := Lib.hid (by unfold askT; rw [hg]; simp)
    clear hg
    go_wp2
    refine bodyPost_ret (v := .tuple #[.slice none 0 0, .bool false]) (by simp [results, Try.results40, go_sem]) rfl ?_
    exact EnTo.no (mo_no HV.out) HV.out HB2.out
  have HL := Lib.hid hg; clear hg
  go_wp2_with fail
  refine (csMinutes_any a _).mono ?_
  rintro e w' ⟨rfl, rfl⟩
  cases hg : inB 0 100000 a
  · have HV : Hid (askT m f a = false) := Lib.hid (by unfold askT; rw [hg]; simp)
    clear hg
    go_wp2
    refine bodyPost_ret (v := .tuple #[.slice none 0 0, .bool false]) (by simp [results, Try.results40, go_sem]) rfl ?_
    exact EnTo.no (mo_no HV.out) HV.out HB2.out
  have HAS : Hid (askT m f a = true) := Lib.hid (by unfold askT; rw [HG.out, HL.out, hg]; rfl)
  have h0 : tmO m f [] ≤ a := by
    have : 0 ≤ a := by simp [inB] at hg; omega
    exact this
  have HC := Lib.hid (csMost_any m f A c a w.heap.size HG.out HL.out (f.length + 1) [] [] (.slice none 0 0) (.slice none 0 0) w2 (HF.out.below HB2.out (Nat.le_refl _)) (okO_nil _) (by simp) h0 (Nat.zero_le _) HB2.out.size (own_nil _ _ _ _) (own_nil _ _ _ _))
  obtain ⟨m0, m1, m2⟩ := HM2.out.cells
  have ml := HM2.out.lt
  have HVV := Lib.hid (mo_yes HAS.out)
  clear hg h0
  go_wp2_with fail
  refine HC.out.mono ?_
  intro e w3 hto
  obtain ⟨v, rfl, hb, hown⟩ := hto
  have HB3 := Lib.hid (HB2.out.trans (hb.mono HB2.out.size))
  have HO := Lib.hid hown
  clear hb hown HC m0 m1 m2 ml HM2 HB2
  go_wp2
  refine bodyPost_ret (v := .tuple #[v, .bool true]) (by simp [results, Try.results40, go_sem]) rfl ?_
  exact EnTo.yes HVV.out HAS.out HB3.out HO.out
end Go.Proofs.Ytpocghcdfpcedaa

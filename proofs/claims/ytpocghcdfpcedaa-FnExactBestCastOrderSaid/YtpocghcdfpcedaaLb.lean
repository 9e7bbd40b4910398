/-
  The contract of spec.BestCastOrder.
-/
import Derived.Test.YtpocghcdfpcedaaLa
namespace Go.Proofs.Ytpocghcdfpcedaa
open Go.RowKit
set_option linter.unusedVariables false

theorem bcL_len (m : Mc) (f : List Ca) : (bcL m f).length ≤ 1048576 := by
  unfold bcL; split
  · rename_i h
    unfold askS at h
    simp only [Bool.and_eq_true] at h
    have h8 := (goodL_all h.2).2
    have hF := rcB_len (n := f.length) (tm := tmO m f) (f.length + 1) [] none (fun p e => by cases e)
    have e : bcS m f = rc (visB f.length) (tmO m f) f.length (f.length + 1) [] none := rfl
    rw [← e] at hF
    cases hS : bcS m f with
    | none => exact Nat.zero_le _
    | some p =>
      have := hF p hS
      show p.1.length ≤ _
      omega
  · exact Nat.zero_le _
theorem bc_none {m : Mc} {f : List Ca} (h0 : f.length = 0) : blS (bcS m f) = [] ∧ blT (bcS m f) = 0 := by
  have e : bcS m f = rc (visB f.length) (tmO m f) f.length (f.length + 1) [] none := rfl
  have h := rcB_new (n := f.length) (tm := tmO m f) (o := []) (S := none) (fun h => by cases h.1) (by simp [h0])
  rw [show f.length + 1 = 0 + 1 from by omega] at e
  rw [e, h]
  exact ⟨rfl, rfl⟩
set_option maxRecDepth 100000 in
theorem specBest_any (m : Mc) (f : List Ca) (A : Option Addr) (c : Nat) (w : World) (hf : CasIn w A f) (hn : f.length ≤ 1048576) :
    Calls Try.prog 31 #[.agg #[.int .i64 m.bod, .int .i64 m.hou, .int .i64 m.cha], .slice A f.length c] w fun e w' => ShTo w w' e (bcL m f) (bcV m f) (askS m f) := by
  have HF := Lib.hid hf; clear hf
  have HA : Hid (Below w.heap.size w (w.alloc (.cells #[.int .i64 m.bod, .int .i64 m.hou, .int .i64 m.cha] 32))) := Lib.hid ((Below.refl _ _).alloc (Nat.le_refl _) _)
  have HM : Hid (McAt (w.alloc (.cells #[.int .i64 m.bod, .int .i64 m.hou, .int .i64 m.cha] 32)) w.heap.size 32 m) := Lib.hid (McAt.new _ _ _)
  go_enter Try.func31, Try.ntmps31
  go_wp2_with fail
  refine (csMachine_any m _).mono ?_
  rintro e w1 ⟨rfl, hb⟩
  have HB1 := Lib.hid (HA.out.trans (hb.mono HA.out.size)); have HM1 := Lib.hid (HM.out.next hb)
  clear hb HA HM
  cases hg : goodMc m
  · have HV : Hid (askS m f = false) := Lib.hid (by unfold askS; rw [hg]; rfl)
    clear hg
    go_wp2
    refine bodyPost_ret (v := .tuple #[.slice none 0 0, .int .i64 (0), .bool false]) (by simp [results, Try.results31, go_sem]) rfl ?_
    exact ShTo.no (bc_no HV.out).1 (bc_no HV.out).2 HV.out HB1.out
  have HG := Lib.hid hg; clear hg
  go_wp2_with fail
  refine (csGood_any f A c _ (HF.out.below HB1.out (Nat.le_refl _)) hn).mono ?_
  rintro e w2 ⟨rfl, hb⟩
  have HB2 := Lib.hid (HB1.out.trans (hb.mono HB1.out.size)); have HM2 := Lib.hid (HM1.out.next hb)
  clear hb HB1 HM1
  cases hg : goodL f
  · have HV : Hid (askS m f = false) := Lib.hid (by unfold askS; rw [hg]; simp)
    clear hg
    go_wp2
    refine bodyPost_ret (v := .tuple #[.slice none 0 0, .int .i64 (0), .bool false]) (by simp [results, Try.results31, go_sem]) rfl ?_
    exact ShTo.no (bc_no HV.out).1 (bc_no HV.out).2 HV.out HB2.out
  have HL := Lib.hid hg
  have HAS : Hid (askS m f = true) := Lib.hid (by unfold askS; rw [HG.out, hg]; rfl)
  clear hg
  by_cases h0 : f.length = 0
  · have HZ := Lib.hid (bc_none (m := m) h0)
    have HY := Lib.hid (bc_yes HAS.out)
    have hz : ((f.length : Int) == 0) = true := by rw [beq_iff_eq]; omega
    clear h0
    go_wp2
    refine bodyPost_ret (v := .tuple #[.slice none 0 0, .int .i64 (0), .bool true]) (by simp [results, Try.results31, go_sem]) rfl ?_
    exact ShTo.yes (l' := []) (n := 0) (T := 3) (HY.out.1.trans HZ.out.1) (HY.out.2.trans HZ.out.2) HAS.out HB2.out (own_nil _ _ _ _)
  · have hz : ((f.length : Int) == 0) = false := by rw [beq_eq_false_iff_ne]; omega
    have HC := Lib.hid (csBest_any m f A c w.heap.size HG.out HL.out (by omega) (f.length + 1) [] none (.slice none 0 0) (.slice none 0 0) w2 (HF.out.below HB2.out (Nat.le_refl _)) (okO_nil _) (by simp) (fun p e => by cases e) (fun _ => rfl) HB2.out.size (own_nil _ _ _ _) (own_nil _ _ _ _))
    obtain ⟨m0, m1, m2⟩ := HM2.out.cells
    have ml := HM2.out.lt
    have HVV := Lib.hid (bc_yes HAS.out)
    clear h0
    go_wp2_with fail
    refine HC.out.mono ?_
    intro e w3 hto
    obtain ⟨v, rfl, hb, hown⟩ := hto
    have e1 : bcS m f = rc (visB f.length) (tmO m f) f.length (f.length + 1) [] none := rfl
    rw [← e1] at hown ⊢
    obtain ⟨S, hS⟩ : ∃ S, S = bcS m f := ⟨_, rfl⟩
    rw [← hS] at hown HVV ⊢
    have HB3 := Lib.hid (HB2.out.trans (hb.mono HB2.out.size))
    have HO := Lib.hid hown
    clear hb hown HC m0 m1 m2 ml HM2 HB2 e1 hS
    obtain ⟨q, hq⟩ : ∃ q, q = blT S := ⟨_, rfl⟩
    rw [← hq] at HVV ⊢
    clear hq
    go_wp2
    refine bodyPost_ret (v := .tuple #[v, .int .i64 (q), .bool true]) (by simp [results, Try.results31, go_sem]) rfl ?_
    exact ShTo.yes HVV.out.1 HVV.out.2 HAS.out HB3.out HO.out
end Go.Proofs.Ytpocghcdfpcedaa

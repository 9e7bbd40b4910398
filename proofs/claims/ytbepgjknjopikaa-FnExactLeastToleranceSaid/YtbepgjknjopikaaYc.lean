/-
  The contracts of IsAccepted, WithoutOutside, gaSums, SumsOff and FirstAlarm, in spec and in impl.
-/
import Derived.Test.YtbepgjknjopikaaYb
import Derived.Test.YtbepgjknjopikaaVr
namespace Go.Proofs.Ytbepgjknjopikaa
open Go.RowKit
set_option linter.unusedVariables false

theorem Marked.owns {w : World} {g n base : Nat} {e : TypeId} {l : List Value} (h : Marked w g e n l) (hl : l.length = n) (hb : base ≤ g) (hn : n ≤ maxLen) : w.ownsRow base e 1 (.slice (some ⟨g, 0, none⟩) n n) n l := by
  obtain ⟨cur, h1, h2, h3⟩ := h
  exact ⟨by omega, .inr ⟨g, n, cur, rfl, hb, h1, Nat.le_refl _, hn, by omega, by rw [Nat.mul_one, ← hl]; exact h3⟩⟩
def askA (l : List Int) (m a : Int) : Bool := askO l m && inB 0 40 a
def accV (l : List Int) (m a : Int) : Bool := askA l m a && decide (((outT l m l.length).length : Int) ≤ a)
theorem accV_no {l : List Int} {m a : Int} (h : askA l m a = false) : accV l m a = false := by unfold accV; rw [h]; rfl
theorem accV_yes {l : List Int} {m a : Int} (h : askA l m a = true) : accV l m a = decide (((outT l m l.length).length : Int) ≤ a) := by unfold accV; rw [h]; rfl
theorem ret_bb {a b c d : Bool} (h1 : a = b) (h2 : c = d) : Ending.returned (.tuple #[.bool a, .bool c]) = .returned (.tuple #[.bool b, .bool d]) := by rw [h1, h2]
def alB (l : List Int) (a m : Int) : Bool := askS l a && inB 0 20000 m
def alF (l : List Int) (a m : Int) : Option Nat := (smT l a l.length).findIdx? fun x => outB x m
def falB (l : List Int) (a m : Int) : Bool := alB l a m && (alF l a m).isSome
def falV (l : List Int) (a m : Int) : Int := if alB l a m = true then (((alF l a m).getD 0 : Nat) : Int) else 0
theorem fal_no {l : List Int} {a m : Int} (h : alB l a m = false) : falV l a m = 0 ∧ falB l a m = false := by unfold falV falB; rw [h]; simp
theorem fal_none {l : List Int} {a m : Int} (h : ∀ j, j < l.length → outB (smS l a (j + 1)) m = false) : falV l a m = 0 ∧ falB l a m = false := by
  have e : alF l a m = none := by
    unfold alF
    rw [List.findIdx?_eq_none_iff]
    intro x hx
    obtain ⟨j, hj, rfl⟩ := List.mem_iff_getElem.1 hx
    rw [smT_get]
    exact h j (by rw [smT_len] at hj; exact hj)
  unfold falV falB; rw [e]; simp
theorem fal_some {l : List Int} {a m : Int} {k : Nat} (h0 : alB l a m = true) (hk : k < l.length) (h : ∀ j, j < k → outB (smS l a (j + 1)) m = false) (ho : outB (smS l a (k + 1)) m = true) : falV l a m = (k : Int) ∧ falB l a m = true := by
  have e : alF l a m = some k := by
    unfold alF
    rw [List.findIdx?_eq_some_iff_getElem]
    refine ⟨by rw [smT_len]; exact hk, by rw [smT_get]; exact ho, fun j hj => ?_⟩
    rw [smT_get, h j hj]; decide
  unfold falV falB; rw [e, h0]; simp
set_option maxRecDepth 100000 in
theorem specIsAccepted_any (l : List Int) (A : Option Addr) (c : Nat) (m a : Int) (w : World) (hf : IntsIn w A l) (hn : l.length ≤ 1048576) :
    Calls Try.prog 30 #[.slice A l.length c, .int .i64 m, .int .i64 a] w fun e w' => e = .returned (.tuple #[.bool (accV l m a), .bool (askA l m a)]) ∧ Below w.heap.size w w' := by
  have HF := Lib.hid hf; clear hf
  go_enter Try.func30, Try.ntmps30
  go_wp2_with fail
  refine (gaGood_any l A c _ HF.out hn).mono ?_
  rintro e w' ⟨rfl, rfl⟩
  cases hg : gaB l
  · have HK : Hid (askA l m a = false) := Lib.hid (by simp only [askA, alB, askO, askS, hg, Bool.false_and])
    clear hg
    go_wp2
    go_ret2
    exact ⟨ret_bb (accV_no HK.out).symm HK.out.symm, Below.refl _ _⟩
  have HGB := Lib.hid hg; clear hg
  go_wp2_with fail
  refine (gaTolerance_any _ _).mono ?_
  rintro e w' ⟨rfl, rfl⟩
  cases hg : inB 0 500 m
  · have HK : Hid (askA l m a = false) := Lib.hid (by simp only [askA, alB, askO, askS, hg, Bool.false_and, Bool.and_false])
    clear hg
    go_wp2
    go_ret2
    exact ⟨ret_bb (accV_no HK.out).symm HK.out.symm, Below.refl _ _⟩
  have HO : Hid (askO l m = true) := Lib.hid (by unfold askO; rw [HGB.out, hg]; rfl)
  clear hg
  go_wp2_with fail
  refine (l1In_any _ _ _ _).mono ?_
  rintro e w' ⟨rfl, rfl⟩
  cases hg : inB 0 40 a
  · have HK : Hid (askA l m a = false) := Lib.hid (by unfold askA; rw [hg]; simp)
    clear hg
    go_wp2
    go_ret2
    exact ⟨ret_bb (accV_no HK.out).symm HK.out.symm, Below.refl _ _⟩
  have HK : Hid (askA l m a = true) := Lib.hid (by unfold askA; rw [hg, HO.out]; rfl)
  have HV := Lib.hid (accV_yes HK.out)
  clear hg
  go_wp2_with fail
  refine (gaOutside_any l A c m _ HF.out (gaB_iff.1 HGB.out)).mono ?_
  rintro e w' ⟨v, rfl, hb, ho⟩
  obtain ⟨A1, c1, rfl⟩ := own_form ho
  have HB := Lib.hid hb; clear hb ho
  generalize (outT l m l.length).length = q at *
  go_wp2
  go_ret2
  exact ⟨ret_bb HV.out.symm HK.out.symm, HB.out⟩
set_option maxRecDepth 100000 in
theorem implIsAccepted_any (l : List Int) (A : Option Addr) (c : Nat) (m a : Int) (w : World) (hf : IntsIn w A l) (hn : l.length ≤ 1048576) :
    Calls Try.prog 31 #[.slice A l.length c, .int .i64 m, .int .i64 a] w fun e w' => e = .returned (.tuple #[.bool (accV l m a), .bool (askA l m a)]) ∧ Below w.heap.size w w' := by
  have HF := Lib.hid hf; clear hf
  go_enter Try.func31, Try.ntmps31
  go_wp2_with fail
  refine (implOutsideOff_any l A c m _ HF.out hn).mono ?_
  rintro e w' ⟨v, T, rfl, hb, ho⟩
  obtain ⟨A1, c1, rfl⟩ := own_form ho
  have HB := Lib.hid hb; clear hb ho
  cases hg : askO l m
  · have HK : Hid (askA l m a = false) := Lib.hid (by unfold askA; rw [hg]; simp)
    clear hg
    generalize (outV l m).length = q at *
    go_wp2
    go_ret2
    exact ⟨ret_bb (accV_no HK.out).symm HK.out.symm, HB.out⟩
  have HO := Lib.hid hg; have HOV := Lib.hid (outV_yes hg); clear hg
  rw [HOV.out]
  generalize hq : (outT l m l.length).length = q at *
  go_wp2_with fail
  refine (isAllowedNumber_any _ _).mono ?_
  rintro e w2 ⟨rfl, rfl⟩
  cases hg : inB 0 40 a
  · have HK : Hid (askA l m a = false) := Lib.hid (by unfold askA; rw [hg]; simp)
    clear hg
    go_wp2
    go_ret2
    exact ⟨ret_bb (accV_no HK.out).symm HK.out.symm, HB.out⟩
  have HK : Hid (askA l m a = true) := Lib.hid (by unfold askA; rw [hg, HO.out]; rfl)
  have HV : Hid (accV l m a = decide ((q : Int) ≤ a)) := Lib.hid (by rw [accV_yes HK.out, hq])
  clear hg hq
  go_wp2
  go_ret2
  exact ⟨ret_bb HV.out.symm HK.out.symm, HB.out⟩

set_option maxRecDepth 100000 in
theorem specWithoutOutside_any (l : List Int) (A : Option Addr) (c : Nat) (m : Int) (w : World) (hf : IntsIn w A l) (hn : l.length ≤ 1048576) :
    Calls Try.prog 40 #[.slice A l.length c, .int .i64 m] w fun e w' => EnTo w w' e (lefV l m) (lefB l m) := by
  have HF := Lib.hid hf; clear hf
  obtain ⟨i0, hi, hz0, hz1, hz2⟩ := info_parts info_int
  have HI := Lib.hid hi; have HZ0 := Lib.hid hz0; have HZ1 := Lib.hid hz1; have HZ2 := Lib.hid hz2
  clear hi hz0 hz1 hz2
  go_enter Try.func40, Try.ntmps40
  go_wp2_with fail
  refine (gaGood_any l A c _ HF.out hn).mono ?_
  rintro e w' ⟨rfl, rfl⟩
  cases hg : gaB l
  · have HK : Hid (askO l m = false) := Lib.hid (by simp only [askA, alB, askO, askS, hg, Bool.false_and])
    clear hg
    go_wp2
    refine bodyPost_ret (v := .tuple #[.slice none 0 0, .bool false]) (by simp [results, Try.results40, go_sem]) rfl ?_
    exact EnTo.no (lefV_no (by unfold lefB; rw [HK.out]; rfl)) (by unfold lefB; rw [HK.out]; rfl) (Below.refl _ _)
  have HGB := Lib.hid hg; clear hg
  go_wp2_with fail
  refine (gaTolerance_any _ _).mono ?_
  rintro e w' ⟨rfl, rfl⟩
  cases hg : inB 0 500 m
  · have HK : Hid (askO l m = false) := Lib.hid (by simp only [askA, alB, askO, askS, hg, Bool.false_and, Bool.and_false])
    clear hg
    go_wp2
    refine bodyPost_ret (v := .tuple #[.slice none 0 0, .bool false]) (by simp [results, Try.results40, go_sem]) rfl ?_
    exact EnTo.no (lefV_no (by unfold lefB; rw [HK.out]; rfl)) (by unfold lefB; rw [HK.out]; rfl) (Below.refl _ _)
  have HK : Hid (askO l m = true) := Lib.hid (by unfold askO; rw [hg, HGB.out]; rfl)
  clear hg
  have HG := Lib.hid (gaB_iff.1 HGB.out)
  have hlm := HG.out.most
  go_wp2
  go_loopw [6, 19] (fun v i wr => ∃ k : Nat, k ≤ l.length ∧ i = .int .i64 (k : Int) ∧ wr.ownsRow w.heap.size 3 1 v (insT l m k).length (intsZ (insT l m k)) ∧ Below w.heap.size w wr) (fun _ i _ => l.length - (intOf i).toNat)
  case atStart => exact ⟨0, by omega, rfl, own_nil _ _ _ _, Below.refl _ _⟩
  case round =>
    obtain ⟨k, hk, rfl, hv, hb⟩ := hrel
    by_cases hlt : k < l.length
    · skip
      obtain ⟨b, off, rfl, hbl, hc⟩ := HF.out (by omega)
      have hc0 := hc k hlt
      rw [← hb.cell (p := ⟨b, off + k, none⟩) hbl] at hc0
      have hlt2 : (k : Int) < (l.length : Int) := by omega
      have hk0 : (0 : Int) ≤ (k : Int) := by omega
      clear hc
      have hxr := HG.out.all k hlt
      have hmx : (insT l m k).length + 1 ≤ maxLen := by have := insT_len l m k; unfold maxLen; omega
      have hmx2 : (insT l m k).length ≤ 40 := by have := insT_len l m k; omega
      have HY := Lib.hid (insT_yes (m := m) hlt); have HN := Lib.hid (insT_no (m := m) hlt)
      generalize l[k] = x at *
      have HVV := Lib.hid hv; have HBB := Lib.hid hb
      clear hv hb
      have HQ := Lib.hid (outB_yes (x := x) (m := m)); have HQ' := Lib.hid (outB_no (x := x) (m := m))
      go_wp2_with fail
      refine (l1Abs_any _ _ (by omega) (by omega)).mono ?_
      rintro e w' ⟨rfl, rfl⟩
      generalize absI x = q at *
      by_cases hq : q ≤ m
      · have HE := Lib.hid (HN.out (HQ'.out.2 hq))
        have hwz := HBB.out.size
        go_wp2_with (at_builtin; refine wpList_append_own_at _ rfl _ _ 22 rfl w.heap.size 3 i0 (.int .i64 0) 1 8 Try.underlying22 HI.out HZ0.out HZ1.out HZ2.out rfl (by decide) _ _ _ rfl (HVV.out.alloc _) ⟨wr.heap.size, 0, none⟩ 1 1 [.int .i64 (x)] rfl rfl (cell_one_new _ _ _) (by simp [Value.oneCell']) hmx (by omega) (by first | (simp; done) | (simp; omega) | omega) ?_)
        intro v' w5 hown' hgrow _ hat
        have HB5 := Lib.hid ((HBB.out.alloc HBB.out.size (.cells #[.int .i64 (x)] 3)).grown hgrow (by simp; omega) (fun q hq => by have := own_lt HVV.out q hq; omega))
        have HO5 : Hid (w5.ownsRow w.heap.size 3 1 v' (insT l m (k + 1)).length (intsZ (insT l m (k + 1)))) := by
          show World.ownsRow _ _ _ _ _ _ _
          rw [HE.out, List.length_append, intsZ_snoc]; exact hown'
        clear hown' hgrow hat
        go_wp2
        go_roundw
        case rel => exact ⟨k + 1, by omega, by go_num, HO5.out, HB5.out⟩
        case measure => simp [intOf]; omega
      · have HE := Lib.hid (HY.out (HQ.out.2 (by omega)))
        go_wp2
        go_roundw
        case rel => exact ⟨k + 1, by omega, by go_num, by rw [HE.out]; exact HVV.out, HBB.out⟩
        case measure => simp [intOf]; omega
    · obtain rfl : k = l.length := by omega
      obtain ⟨A1, c1, rfl⟩ := own_form hv
      have HV := Lib.hid hv; have HB := Lib.hid hb
      clear hv hb
      have HLB : Hid (lefB l m = decide (0 < (insT l m l.length).length)) := Lib.hid (by unfold lefB; rw [HK.out]; rfl)
      generalize hQ : insT l m l.length = Q at *
      have HQ := Lib.hid hQ; clear hQ
      by_cases h0 : Q.length = 0
      · have HL : Hid (lefB l m = false) := Lib.hid (by rw [HLB.out]; simp [h0])
        have h0' : (Q.length : Int) = 0 := by omega
        go_wp2
        refine bodyPost_ret (v := .tuple #[.slice none 0 0, .bool false]) (by simp [results, Try.results40, go_sem]) rfl ?_
        exact EnTo.no (lefV_no HL.out) HL.out HB.out
      · have HL : Hid (lefB l m = true) := Lib.hid (by rw [HLB.out]; simp; omega)
        have h0' : ¬ (Q.length : Int) = 0 := by omega
        go_wp2
        refine bodyPost_ret (v := .tuple #[.slice A1 Q.length c1, .bool true]) (by simp [results, Try.results40, go_sem]) rfl ?_
        exact EnTo.yes ((lefV_yes HL.out).trans HQ.out) HL.out HB.out HV.out
set_option maxRecDepth 100000 in
theorem implWithoutOutside_any (l : List Int) (A : Option Addr) (c : Nat) (m : Int) (w : World) (hf : IntsIn w A l) (hn : l.length ≤ 1048576) :
    Calls Try.prog 41 #[.slice A l.length c, .int .i64 m] w fun e w' => EnTo w w' e (lefV l m) (lefB l m) := by
  have HF := Lib.hid hf; clear hf
  obtain ⟨i0, hi, hz0, hz1, hz2⟩ := info_parts info_int
  have HI := Lib.hid hi; have HZ0 := Lib.hid hz0; have HZ1 := Lib.hid hz1; have HZ2 := Lib.hid hz2
  clear hi hz0 hz1 hz2
  go_enter Try.func41, Try.ntmps41
  go_wp2_with fail
  refine (implIsTrial_any l A c _ HF.out hn).mono ?_
  rintro e w' ⟨rfl, rfl⟩
  cases hg : gaB l
  · have HK : Hid (askO l m = false) := Lib.hid (by simp only [askA, alB, askO, askS, hg, Bool.false_and])
    clear hg
    go_wp2
    refine bodyPost_ret (v := .tuple #[.slice none 0 0, .bool false]) (by simp [results, Try.results41, go_sem]) rfl ?_
    exact EnTo.no (lefV_no (by unfold lefB; rw [HK.out]; rfl)) (by unfold lefB; rw [HK.out]; rfl) (Below.refl _ _)
  have HGB := Lib.hid hg; clear hg
  go_wp2_with fail
  refine (isOffTolerance_any _ _).mono ?_
  rintro e w' ⟨rfl, rfl⟩
  cases hg : inB 0 500 m
  · have HK : Hid (askO l m = false) := Lib.hid (by simp only [askA, alB, askO, askS, hg, Bool.false_and, Bool.and_false])
    clear hg
    go_wp2
    refine bodyPost_ret (v := .tuple #[.slice none 0 0, .bool false]) (by simp [results, Try.results41, go_sem]) rfl ?_
    exact EnTo.no (lefV_no (by unfold lefB; rw [HK.out]; rfl)) (by unfold lefB; rw [HK.out]; rfl) (Below.refl _ _)
  have HK : Hid (askO l m = true) := Lib.hid (by unfold askO; rw [hg, HGB.out]; rfl)
  clear hg
  have HG := Lib.hid (gaB_iff.1 HGB.out)
  have hlm := HG.out.most
  go_wp2
  go_loopw [6, 19] (fun v i wr => ∃ k : Nat, k ≤ l.length ∧ i = .int .i64 (k : Int) ∧ wr.ownsRow w.heap.size 3 1 v (insT l m k).length (intsZ (insT l m k)) ∧ Below w.heap.size w wr) (fun _ i _ => l.length - (intOf i).toNat)
  case atStart => exact ⟨0, by omega, rfl, own_nil _ _ _ _, Below.refl _ _⟩
  case round =>
    obtain ⟨k, hk, rfl, hv, hb⟩ := hrel
    by_cases hlt : k < l.length
    · skip
      obtain ⟨b, off, rfl, hbl, hc⟩ := HF.out (by omega)
      have hc0 := hc k hlt
      rw [← hb.cell (p := ⟨b, off + k, none⟩) hbl] at hc0
      have hlt2 : (k : Int) < (l.length : Int) := by omega
      have hk0 : (0 : Int) ≤ (k : Int) := by omega
      clear hc
      have hxr := HG.out.all k hlt
      have hmx : (insT l m k).length + 1 ≤ maxLen := by have := insT_len l m k; unfold maxLen; omega
      have hmx2 : (insT l m k).length ≤ 40 := by have := insT_len l m k; omega
      have HY := Lib.hid (insT_yes (m := m) hlt); have HN := Lib.hid (insT_no (m := m) hlt)
      generalize l[k] = x at *
      have HVV := Lib.hid hv; have HBB := Lib.hid hb
      clear hv hb
      go_wp2_with fail
      refine (isOutside_any _ _ _ (by omega) (by omega)).mono ?_
      rintro e w' ⟨rfl, rfl⟩
      cases ho : outB x m
      · have HE := Lib.hid (HN.out ho)
        clear ho
        have hwz := HBB.out.size
        go_wp2_with (at_builtin; refine wpList_append_own_at _ rfl _ _ 22 rfl w.heap.size 3 i0 (.int .i64 0) 1 8 Try.underlying22 HI.out HZ0.out HZ1.out HZ2.out rfl (by decide) _ _ _ rfl (HVV.out.alloc _) ⟨wr.heap.size, 0, none⟩ 1 1 [.int .i64 (x)] rfl rfl (cell_one_new _ _ _) (by simp [Value.oneCell']) hmx (by omega) (by first | (simp; done) | (simp; omega) | omega) ?_)
        intro v' w5 hown' hgrow _ hat
        have HB5 := Lib.hid ((HBB.out.alloc HBB.out.size (.cells #[.int .i64 (x)] 3)).grown hgrow (by simp; omega) (fun q hq => by have := own_lt HVV.out q hq; omega))
        have HO5 : Hid (w5.ownsRow w.heap.size 3 1 v' (insT l m (k + 1)).length (intsZ (insT l m (k + 1)))) := by
          show World.ownsRow _ _ _ _ _ _ _
          rw [HE.out, List.length_append, intsZ_snoc]; exact hown'
        clear hown' hgrow hat
        go_wp2
        go_roundw
        case rel => exact ⟨k + 1, by omega, by go_num, HO5.out, HB5.out⟩
        case measure => simp [intOf]; omega
      · have HE := Lib.hid (HY.out ho)
        clear ho
        go_wp2
        go_roundw
        case rel => exact ⟨k + 1, by omega, by go_num, by rw [HE.out]; exact HVV.out, HBB.out⟩
        case measure => simp [intOf]; omega
    · obtain rfl : k = l.length := by omega
      obtain ⟨A1, c1, rfl⟩ := own_form hv
      have HV := Lib.hid hv; have HB := Lib.hid hb
      clear hv hb
      have HLB : Hid (lefB l m = decide (0 < (insT l m l.length).length)) := Lib.hid (by unfold lefB; rw [HK.out]; rfl)
      generalize hQ : insT l m l.length = Q at *
      have HQ := Lib.hid hQ; clear hQ
      have HD : Hid (decide (0 < (Q.length : Int)) = lefB l m) := Lib.hid (by rw [HLB.out]; by_cases h : 0 < Q.length <;> simp [h])
      have HE : Hid (lefV l m = Q) := Lib.hid (by
        cases h : lefB l m
        · rw [HLB.out] at h
          rw [lefV_no (by rw [HLB.out]; exact h)]
          have h2 : ¬ 0 < Q.length := of_decide_eq_false h
          exact (List.length_eq_zero_iff.1 (by omega)).symm
        · rw [lefV_yes h, HQ.out])
      go_wp2
      refine bodyPost_ret (v := .tuple #[.slice A1 Q.length c1, .bool (decide (0 < (Q.length : Int)))]) (by simp [results, Try.results41, go_sem]) rfl ?_
      refine ⟨.slice A1 Q.length c1, 3, by rw [HD.out], HB.out, ?_⟩
      rw [HE.out]; exact HV.out
end Go.Proofs.Ytbepgjknjopikaa

/-
  The contracts of WordsThatFit, in spec and in impl.
-/
import Derived.Test.YtpbkeagpipipmaaUf
namespace Go.Proofs.Ytpbkeagpipipmaa
open Go.RowKit
set_option linter.unusedVariables false

/-- The first k words have room. -/
def fitB (l : List Int) (r : Ru) (m : Int) (k : Nat) : Bool := decide (widV (l.take k) r.lst ≤ m)
/-- How many more words, from k on, have room one after the other. -/
def fitF (l : List Int) (r : Ru) (m : Int) : Nat → Nat → Nat
  | 0, k => k
  | f + 1, k => if fitB l r m (k + 1) then fitF l r m f (k + 1) else k
def fitN (l : List Int) (r : Ru) (m : Int) : Nat := fitF l r m l.length 0
def wfV (l : List Int) (r : Ru) (m : Int) : Int := if askB l r m then (fitN l r m : Int) else 0
theorem wf_no {l : List Int} {r : Ru} {m : Int} (h : askB l r m = false) : wfV l r m = 0 := by unfold wfV; rw [h]; rfl
theorem wf_yes {l : List Int} {r : Ru} {m : Int} (h : askB l r m = true) : wfV l r m = (fitN l r m : Int) := by unfold wfV; rw [h]; rfl
theorem fitF_of {l : List Int} {r : Ru} {m : Int} : ∀ (f k j : Nat), k ≤ j → j ≤ k + f → (∀ i, k ≤ i → i < j → fitB l r m (i + 1) = true) → (j < k + f → fitB l r m (j + 1) = false) → fitF l r m f k = j
  | 0, k, j, h1, h2, _, _ => by show k = j; omega
  | f + 1, k, j, h1, h2, h3, h4 => by
    unfold fitF
    rcases Nat.eq_or_lt_of_le h1 with rfl | h
    · rw [h4 (by omega)]; simp
    · rw [h3 k (Nat.le_refl _) h, if_pos rfl]
      exact fitF_of f (k + 1) j h (by omega) (fun i a b => h3 i (by omega) b) (fun a => h4 (by omega))
theorem fitN_of {l : List Int} {r : Ru} {m : Int} {j : Nat} (h1 : j ≤ l.length) (h2 : ∀ i, i < j → fitB l r m (i + 1) = true) (h3 : j < l.length → fitB l r m (j + 1) = false) : fitN l r m = j :=
  fitF_of l.length 0 j (Nat.zero_le _) (by omega) (fun i _ h => h2 i h) (fun h => h3 (by omega))
theorem fitB_yes {l : List Int} {r : Ru} {m : Int} {k : Nat} : fitB l r m k = true ↔ widV (l.take k) r.lst ≤ m := by unfold fitB; rw [decide_eq_true_eq]
theorem fitB_no {l : List Int} {r : Ru} {m : Int} {k : Nat} : fitB l r m k = false ↔ ¬ widV (l.take k) r.lst ≤ m := by unfold fitB; rw [decide_eq_false_iff_not]
theorem all_more {P : Nat → Prop} {k : Nat} (h : ∀ j, j < k → P (j + 1)) (h2 : P (k + 1)) : ∀ j, j < k + 1 → P (j + 1) := fun j hj => by
  rcases Nat.lt_or_ge j k with h3 | h3
  · exact h j h3
  · obtain rfl : j = k := by omega
    exact h2
theorem IntsIn.take {w : World} {A : Option Addr} {l : List Int} (h : IntsIn w A l) (k : Nat) : IntsIn w A (l.take k) := by
  intro hn
  rw [List.length_take] at hn
  obtain ⟨b, off, h1, h2, h3⟩ := h (by omega)
  refine ⟨b, off, h1, h2, fun j hj => ?_⟩
  rw [List.getElem_take]
  exact h3 j (by rw [List.length_take] at hj; omega)

theorem elemI : Try.prog.elem 23 = 3 := by kernel_rfl
theorem sizeI (W : World) : (sizeOf (Try.prog.elem 23)).run Try.prog W = .ok 1 W := by
  obtain ⟨i0, hi, hz0, hz1, hz2⟩ := info_parts info3
  rw [elemI]
  simp [sizeOf, typeInfo, hi, hz1]
theorem underI : Try.prog.underlying 23 = some (.slice (Try.prog.elem 23)) := by rw [elemI]; exact Try.underlying23
theorem slice_headI (b off n cap k : Nat) (hk : k ≤ n) (hn : n ≤ cap) (W : World) :
    (Instr.slice 23 (.slice (some ⟨b, off, none⟩) n cap) none (some (.int .i64 (k : Int))) none).run Try.prog W = .ok (.slice (some ⟨b, off, none⟩) k cap) W := by
  rw [run_slice_h W _ _ _ _ underI .i64 (k : Int) (by omega) (by omega), sizeI]
  by_cases hc : cap = 0 <;> simp [sliced, Result.andThen, Addr.add, hc]
set_option maxRecDepth 100000 in
set_option maxHeartbeats 1000000 in
theorem implWordsThatFit_any (l : List Int) (A : Option Addr) (c : Nat) (r : Ru) (m : Int) (w : World) (hf : IntsIn w A l) (hn : l.length ≤ 1048576) (hcap : l.length ≤ c) : Calls Try.prog 31 #[.slice A l.length c, .agg #[.int .i64 r.lst, .int .i64 r.nrm, .int .i64 r.mst], .int .i64 m] w fun e w' => e = .returned (.tuple #[.int .i64 (wfV l r m), .bool (askB l r m)]) ∧ Below w.heap.size w w' := by
  have HF := Lib.hid hf; clear hf
  have HA : Hid (Below w.heap.size w (w.alloc (.cells #[.int .i64 r.lst, .int .i64 r.nrm, .int .i64 r.mst] 25))) := Lib.hid ((Below.refl _ _).alloc (Nat.le_refl _) _)
  have HR : Hid (RuAt (w.alloc (.cells #[.int .i64 r.lst, .int .i64 r.nrm, .int .i64 r.mst] 25)) w.heap.size 25 r) := Lib.hid (RuAt.new _ _ _)
  go_enter Try.func31, Try.ntmps31
  go_wp2_with fail
  refine (isLine_any l A c _ (HF.out.below HA.out (Nat.le_refl _)) hn).mono ?_
  rintro e w' ⟨rfl, rfl⟩
  cases hg1 : juL l
  · have H := Lib.hid (ask_not1 (r := r) (m := m) hg1); clear hg1
    go_wp2
    (refine bodyPost_ret (v := .tuple #[.int .i64 0, .bool false]) (by simp [results, Try.results31, go_sem]) rfl ?_; exact ⟨ret_ib (wf_no H.out).symm H.out.symm, HA.out⟩)
  have HG1 := Lib.hid hg1; clear hg1
  go_wp2_with fail
  refine (implIsRule_any r _).mono ?_
  rintro e w1 ⟨rfl, hb1⟩
  have HB1 := Lib.hid (HA.out.trans (hb1.mono HA.out.size))
  have HR1 := Lib.hid (HR.out.next hb1)
  have HF1 := Lib.hid (HF.out.below HB1.out (Nat.le_refl _))
  clear hb1
  cases hg2 : juB r
  · have H := Lib.hid (ask_not2 (l := l) (m := m) hg2); clear hg2
    go_wp2
    (refine bodyPost_ret (v := .tuple #[.int .i64 0, .bool false]) (by simp [results, Try.results31, go_sem]) rfl ?_; exact ⟨ret_ib (wf_no H.out).symm H.out.symm, HB1.out⟩)
  have HG2 := Lib.hid hg2; clear hg2
  go_wp2_with fail
  refine (isMeasure_any m _).mono ?_
  rintro e w' ⟨rfl, rfl⟩
  cases hg3 : inB 1 2000 m
  · have H := Lib.hid (ask_not3 (l := l) (r := r) hg3); clear hg3
    go_wp2
    (refine bodyPost_ret (v := .tuple #[.int .i64 0, .bool false]) (by simp [results, Try.results31, go_sem]) rfl ?_; exact ⟨ret_ib (wf_no H.out).symm H.out.symm, HB1.out⟩)
  have hg : askB l r m = true := by unfold askB lrB; rw [HG1.out, HG2.out, hg3]; rfl
  clear hg3
  have HK := Lib.hid hg
  obtain ⟨gl, gr, hm1, hm2⟩ := askB_iff.1 hg
  have HGL := Lib.hid gl; have HGR := Lib.hid gr
  clear hg gl gr
  have h20 := HGL.out.most; have h01 := HGL.out.one
  have r1 := HGR.out.a; have r2 := HGR.out.b; have r3 := HGR.out.c; have r4 := HGR.out.d
  obtain ⟨b, off, rfl, -, -⟩ := HF.out (by omega)
  go_wp2
  go_loopw [8] (fun i wr => ∃ k : Nat, k ≤ l.length ∧ i = .int .i64 (k : Int) ∧ (∀ j, j < k → fitB l r m (j + 1) = true) ∧ RuAt wr w.heap.size 25 r ∧ Below w.heap.size w wr) (fun i _ => l.length - (intOf i).toNat)
  case atStart => exact ⟨0, by omega, rfl, fun j h => absurd h (by omega), HR1.out, HB1.out⟩
  case round =>
    obtain ⟨k, hk, rfl, hall, hr, hb⟩ := hrel
    have HALL := Lib.hid hall; have HRR := Lib.hid hr; have HBB := Lib.hid hb
    clear hall hr hb
    by_cases hlt : k < l.length
    · have hlt2 : (k : Int) < (l.length : Int) := by omega
      have hk0 : (0 : Int) ≤ (k : Int) := by omega
      have hs : ∀ W, (Instr.slice 23 (.slice (some ⟨b, off, none⟩) l.length c) none (some (.int .i64 ((k : Int) + 1))) none).run Try.prog W = .ok (.slice (some ⟨b, off, none⟩) (k + 1) c) W := fun W => slice_headI b off l.length c (k + 1) (by omega) hcap W
      have hlen : (l.take (k + 1)).length = k + 1 := by rw [List.length_take]; omega
      have HGT := Lib.hid (HGL.out.take (k := k + 1) (by omega) (by omega))
      have hj : ∀ x : KeptW wr.heap.size wr, Calls Try.prog 63 #[.slice (some ⟨b, off, none⟩) (k + 1) c, .int .i64 r.lst] x.at_ fun e w' => e = .returned (.int .i64 (widV (l.take (k + 1)) r.lst)) ∧ ∃ y : KeptW wr.heap.size wr, w' = y.at_ := fun x => by
        have h := widthOfLine_any (l.take (k + 1)) (some ⟨b, off, none⟩) c r.lst x.at_ ((HF.out.take (k + 1)).below (HBB.out.trans (x.below.mono HBB.out.size)) (Nat.le_refl _)) HGT.out (by omega) (by omega)
        rw [hlen] at h
        exact kept_same x h
      skip
      obtain ⟨k0, -, -⟩ := HRR.out.kept HRR.out.lt
      have HY := Lib.hid (fitB_yes (l := l) (r := r) (m := m) (k := k + 1)); have HN := Lib.hid (fitB_no (l := l) (r := r) (m := m) (k := k + 1))
      clear hlen
      generalize widV (l.take (k + 1)) r.lst = V at *
      by_cases hv : V ≤ m
      · have H := Lib.hid (HY.out.2 (hv)); clear HY HN
        go_wp2_with fail
        refine region_kept wr.heap.size (by kernel_rfl) (by kernel_rfl) ?_
        repeat (go_big_quiet_step ((go_at_call 63; exact hj _)))
        refine wpQuiet_nil ?_
        intro w2 hb2
        have HB2 := Lib.hid (HBB.out.trans (hb2.mono HBB.out.size))
        have HR2 := Lib.hid (HRR.out.next hb2)
        clear hb2 hj k0 hs
        go_wp2
        go_roundw
        case rel => exact ⟨k + 1, by omega, by go_num, all_more (P := fun i => fitB l r m i = true) HALL.out H.out, HR2.out, HB2.out⟩
        case measure => simp [intOf]; omega
      · have H := Lib.hid (HN.out.2 (hv)); clear HY HN
        have HV : Hid (wfV l r m = (k : Int)) := Lib.hid (by rw [wf_yes HK.out, fitN_of (by omega) HALL.out (fun _ => H.out)])
        go_wp2_with fail
        refine region_kept wr.heap.size (by kernel_rfl) (by kernel_rfl) ?_
        repeat (go_big_quiet_step ((go_at_call 63; exact hj _)))
        refine wpQuiet_nil ?_
        intro w2 hb2
        have HB2 := Lib.hid (HBB.out.trans (hb2.mono HBB.out.size))
        clear hb2 hj k0 hs
        go_wp2
        refine bodyPost_ret (v := .tuple #[.int .i64 (k : Int), .bool true]) (by simp [results, Try.results31, go_sem]) rfl ?_
        exact ⟨ret_ib HV.out.symm HK.out.symm, HB2.out⟩
    · obtain rfl : k = l.length := by omega
      have HV : Hid (wfV l r m = (l.length : Int)) := Lib.hid (by rw [wf_yes HK.out, fitN_of (Nat.le_refl _) HALL.out (fun h => absurd h (by omega))])
      have hnlt : ¬ (l.length : Int) < (l.length : Int) := by omega
      go_wp2_with fail
      refine region_kept wr.heap.size (by kernel_rfl) (by kernel_rfl) ?_
      repeat (go_big_quiet_step (fail))
      refine wpQuiet_nil ?_
      intro w2 hb2
      have HB2 := Lib.hid (HBB.out.trans (hb2.mono HBB.out.size))
      clear hb2
      go_wp2
      refine bodyPost_ret (v := .tuple #[.int .i64 (l.length : Int), .bool true]) (by simp [results, Try.results31, go_sem]) rfl ?_
      exact ⟨ret_ib HV.out.symm HK.out.symm, HB2.out⟩
set_option maxRecDepth 100000 in
set_option maxHeartbeats 1000000 in
theorem specWordsThatFit_any (l : List Int) (A : Option Addr) (c : Nat) (r : Ru) (m : Int) (w : World) (hf : IntsIn w A l) (hn : l.length ≤ 1048576) (hcap : l.length ≤ c) : Calls Try.prog 32 #[.slice A l.length c, .agg #[.int .i64 r.lst, .int .i64 r.nrm, .int .i64 r.mst], .int .i64 m] w fun e w' => e = .returned (.tuple #[.int .i64 (wfV l r m), .bool (askB l r m)]) ∧ Below w.heap.size w w' := by
  have HF := Lib.hid hf; clear hf
  have HA : Hid (Below w.heap.size w (w.alloc (.cells #[.int .i64 r.lst, .int .i64 r.nrm, .int .i64 r.mst] 25))) := Lib.hid ((Below.refl _ _).alloc (Nat.le_refl _) _)
  have HR : Hid (RuAt (w.alloc (.cells #[.int .i64 r.lst, .int .i64 r.nrm, .int .i64 r.mst] 25)) w.heap.size 25 r) := Lib.hid (RuAt.new _ _ _)
  go_enter Try.func32, Try.ntmps32
  go_wp2_with fail
  refine (juAsked_any l A c r m _ (HF.out.below HA.out (Nat.le_refl _)) hn).mono ?_
  rintro e w1 ⟨rfl, hb1⟩
  have HB1 := Lib.hid (HA.out.trans (hb1.mono HA.out.size))
  have HR1 := Lib.hid (HR.out.next hb1)
  have HF1 := Lib.hid (HF.out.below HB1.out (Nat.le_refl _))
  clear hb1
  cases hg : askB l r m
  · have H := Lib.hid hg; clear hg
    go_wp2
    (refine bodyPost_ret (v := .tuple #[.int .i64 0, .bool false]) (by simp [results, Try.results32, go_sem]) rfl ?_; exact ⟨ret_ib (wf_no H.out).symm H.out.symm, HB1.out⟩)
  have HK := Lib.hid hg
  obtain ⟨gl, gr, hm1, hm2⟩ := askB_iff.1 hg
  have HGL := Lib.hid gl; have HGR := Lib.hid gr
  clear hg gl gr
  have h20 := HGL.out.most; have h01 := HGL.out.one
  have r1 := HGR.out.a; have r2 := HGR.out.b; have r3 := HGR.out.c; have r4 := HGR.out.d
  obtain ⟨b, off, rfl, -, -⟩ := HF.out (by omega)
  go_wp2
  go_loopw [8] (fun i wr => ∃ k : Nat, k ≤ l.length ∧ i = .int .i64 (k : Int) ∧ (∀ j, j < k → fitB l r m (j + 1) = true) ∧ RuAt wr w.heap.size 25 r ∧ Below w.heap.size w wr) (fun i _ => l.length - (intOf i).toNat)
  case atStart => exact ⟨0, by omega, rfl, fun j h => absurd h (by omega), HR1.out, HB1.out⟩
  case round =>
    obtain ⟨k, hk, rfl, hall, hr, hb⟩ := hrel
    have HALL := Lib.hid hall; have HRR := Lib.hid hr; have HBB := Lib.hid hb
    clear hall hr hb
    by_cases hlt : k < l.length
    · have hlt2 : (k : Int) < (l.length : Int) := by omega
      have hk0 : (0 : Int) ≤ (k : Int) := by omega
      have hs : ∀ W, (Instr.slice 23 (.slice (some ⟨b, off, none⟩) l.length c) none (some (.int .i64 ((k : Int) + 1))) none).run Try.prog W = .ok (.slice (some ⟨b, off, none⟩) (k + 1) c) W := fun W => slice_headI b off l.length c (k + 1) (by omega) hcap W
      have hlen : (l.take (k + 1)).length = k + 1 := by rw [List.length_take]; omega
      have HGT := Lib.hid (HGL.out.take (k := k + 1) (by omega) (by omega))
      have hsum := HGT.out.sum
      have hw := widV_comm (l.take (k + 1)) r.lst
      rw [hlen, show ((k + 1 : Nat) : Int) - 1 = (k : Int) from by omega] at hw
      have HW := Lib.hid hw; clear hw
      have hj : ∀ x : KeptW wr.heap.size wr, Calls Try.prog 66 #[.slice (some ⟨b, off, none⟩) (k + 1) c] x.at_ fun e w' => e = .returned (.int .i64 (l.take (k + 1)).sum) ∧ ∃ y : KeptW wr.heap.size wr, w' = y.at_ := fun x => by
        have h := juSum_any (l.take (k + 1)) (some ⟨b, off, none⟩) c x.at_ ((HF.out.take (k + 1)).below (HBB.out.trans (x.below.mono HBB.out.size)) (Nat.le_refl _)) HGT.out
        rw [hlen] at h
        exact kept_same x h
      have hp := gaps_mul (s := r.lst) (g := (k : Int)) (by omega) (by omega) (by omega) (by omega)
      rw [Int.mul_comm] at hp
      obtain ⟨k0, -, -⟩ := HRR.out.kept HRR.out.lt
      have HY := Lib.hid (fitB_yes (l := l) (r := r) (m := m) (k := k + 1)); have HN := Lib.hid (fitB_no (l := l) (r := r) (m := m) (k := k + 1))
      clear hlen
      generalize hS : (l.take (k + 1)).sum = S at *
      by_cases hv : S + (k : Int) * r.lst ≤ m
      · have H := Lib.hid (HY.out.2 (by have := HW.out; omega)); clear HY HN
        go_wp2_with fail
        refine region_kept wr.heap.size (by kernel_rfl) (by kernel_rfl) ?_
        repeat (go_big_quiet_step ((go_at_call 66; exact hj _)))
        refine wpQuiet_nil ?_
        intro w2 hb2
        have HB2 := Lib.hid (HBB.out.trans (hb2.mono HBB.out.size))
        have HR2 := Lib.hid (HRR.out.next hb2)
        clear hb2 hj k0 hs
        go_wp2
        go_roundw
        case rel => exact ⟨k + 1, by omega, by go_num, all_more (P := fun i => fitB l r m i = true) HALL.out H.out, HR2.out, HB2.out⟩
        case measure => simp [intOf]; omega
      · have H := Lib.hid (HN.out.2 (by have := HW.out; omega)); clear HY HN
        have HV : Hid (wfV l r m = (k : Int)) := Lib.hid (by rw [wf_yes HK.out, fitN_of (by omega) HALL.out (fun _ => H.out)])
        go_wp2_with fail
        refine region_kept wr.heap.size (by kernel_rfl) (by kernel_rfl) ?_
        repeat (go_big_quiet_step ((go_at_call 66; exact hj _)))
        refine wpQuiet_nil ?_
        intro w2 hb2
        have HB2 := Lib.hid (HBB.out.trans (hb2.mono HBB.out.size))
        clear hb2 hj k0 hs
        go_wp2
        refine bodyPost_ret (v := .tuple #[.int .i64 (k : Int), .bool true]) (by simp [results, Try.results32, go_sem]) rfl ?_
        exact ⟨ret_ib HV.out.symm HK.out.symm, HB2.out⟩
    · obtain rfl : k = l.length := by omega
      have HV : Hid (wfV l r m = (l.length : Int)) := Lib.hid (by rw [wf_yes HK.out, fitN_of (Nat.le_refl _) HALL.out (fun h => absurd h (by omega))])
      have hnlt : ¬ (l.length : Int) < (l.length : Int) := by omega
      go_wp2_with fail
      refine region_kept wr.heap.size (by kernel_rfl) (by kernel_rfl) ?_
      repeat (go_big_quiet_step (fail))
      refine wpQuiet_nil ?_
      intro w2 hb2
      have HB2 := Lib.hid (HBB.out.trans (hb2.mono HBB.out.size))
      clear hb2
      go_wp2
      refine bodyPost_ret (v := .tuple #[.int .i64 (l.length : Int), .bool true]) (by simp [results, Try.results32, go_sem]) rfl ?_
      exact ⟨ret_ib HV.out.symm HK.out.symm, HB2.out⟩
end Go.Proofs.Ytpbkeagpipipmaa

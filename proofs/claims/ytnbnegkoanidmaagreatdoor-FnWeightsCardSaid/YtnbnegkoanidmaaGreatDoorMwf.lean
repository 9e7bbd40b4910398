import Derived.Test.YtnbnegkoanidmaaGreatDoorMwd
import Derived.Test.YtnbnegkoanidmaaGreatDoorMva
import Derived.BigRegion
import Derived.OwnWalk
import Derived.Maps.AppendAt
/-
  The contract of spec.DivideByWeights.
-/
namespace Go.Proofs.YtnbnegkoanidmaaGreatDoor
open Go.RowKit
set_option linter.unusedVariables false

theorem own_setW {w : World} {base n cap g i : Nat} {e : TypeId} {xs : List Value} (h : w.ownsRow base e 1 (.slice (some ⟨g, 0, none⟩) n cap) n xs) (hi : i < xs.length) (u : Value) :
    (w.setCell ⟨g, i, none⟩ u).ownsRow base e 1 (.slice (some ⟨g, 0, none⟩) n cap) n (xs.set i u) := by
  refine ⟨by rw [List.length_set]; exact h.1, ?_⟩
  rcases h.2 with ⟨hv, _⟩ | ⟨g', cap', cur, hv, hg, hh, h1, h2, h3, h4⟩
  · cases hv
  · injection hv with e1 e2 e3
    injection e1 with e1
    injection e1 with e1
    subst e1
    refine .inr ⟨g, cap', _, by rw [e3], hg, heap_set hh u, h1, h2, by simpa using h3, ?_⟩
    rw [Array.toList_setIfInBounds, List.take_set, h4]
theorem own_rowW {w : World} {base n : Nat} {e : TypeId} {v : Value} {xs : List Value} (h : w.ownsRow base e 1 v n xs) (hn : 1 ≤ n) : ∃ g cap, v = .slice (some ⟨g, 0, none⟩) n cap ∧ base ≤ g ∧ g < w.heap.size ∧ (∀ i (hi : i < xs.length), w.cell? ⟨g, i, none⟩ = some xs[i]) ∧ ∀ i, w.frozen? ⟨g, i, none⟩ = false := by
  have hx := h.1
  rcases h.2 with ⟨rfl, hz⟩ | ⟨g, cap, cur, rfl, hg, hh, h1, h2, h3, h4⟩
  · omega
  · refine ⟨g, cap, rfl, hg, lt_of_heap hh, fun i hi => ?_, fun i => free_of_heap hh i⟩
    rw [cell_of_heap hh]
    have : (cur.toList.take (n * 1))[i]? = xs[i]? := by rw [h4]
    rw [List.getElem?_take_of_lt (by omega), List.getElem?_eq_getElem hi] at this
    rw [← Array.getElem?_toList]; exact this
theorem run_makeBW (n : Nat) (hn : n ≤ 1048576) (w : World) :
    (Instr.makeSlice 59 (.int .i64 (n : Int)) (.int .i64 (n : Int))).run Tryz.prog w = .ok (.slice (some ⟨w.heap.size, 0, none⟩) n n) (w.alloc (.cells (madeCells #[.bool false] (n * 1)) 4)) := by
  obtain ⟨i0, hi, hz0, hz1, hz2⟩ := info_parts info_bool
  have h := run_make (P := Tryz.prog) w 59 4 i0 _ Tryz.underlying59 hi hz0 .i64 .i64 (n : Int) (n : Int) (by omega) (Int.le_refl _) (by rw [hz2]; omega) (by omega)
  rw [hz1, Int.toNat_natCast] at h
  exact h
def qL (l : List Int) (T S : Int) (k : Nat) : List Int := (List.range k).map (dq l T S)
theorem qL_len (l : List Int) (T S : Int) (k : Nat) : (qL l T S k).length = k := by simp [qL]
theorem qL_succ (l : List Int) (T S : Int) (k : Nat) : qL l T S (k + 1) = qL l T S k ++ [dq l T S k] := by simp [qL, List.range_succ]
theorem qL_all (l : List Int) (T S : Int) : qL l T S l.length = outL l T S 0 := by
  unfold qL outL
  congr 1; funext i; rw [out_zero]
open Classical in
noncomputable def gvB (R : List Int) (t j : Nat) : Bool := decide (Gvn R t j)
theorem gvB_iff {R : List Int} {t j : Nat} : gvB R t j = true ↔ Gvn R t j := by unfold gvB; exact @decide_eq_true_iff _ (Classical.propDecidable _)
noncomputable def gvF (R : List Int) (t : Nat) : Nat → Value := fun j => .bool (gvB R t j)
theorem gvF_step {R : List Int} {t b : Nat} (h : topF R t = rowI R b) : (fun j => if j = b then Value.bool true else gvF R t j) = gvF R (t + 1) := by
  funext j
  unfold gvF
  by_cases e : j = b
  · rw [if_pos e, show gvB R (t + 1) j = true from gvB_iff.2 ((gvn_succ h j).2 (.inr e))]
  · rw [if_neg e]
    congr 1
    cases hg : gvB R t j with
    | true => exact (gvB_iff.2 ((gvn_succ h j).2 (.inl (gvB_iff.1 hg)))).symm
    | false =>
      cases hg2 : gvB R (t + 1) j with
      | false => rfl
      | true =>
        rcases (gvn_succ h j).1 (gvB_iff.1 hg2) with c | c
        · rw [gvB_iff.2 c] at hg; cases hg
        · exact absurd c e
theorem outL_set {l : List Int} {T S : Int} {t b : Nat} (hb : b < l.length) (h : topF (remL l T S) t = rowI (remL l T S) b) (hf : ¬ Gvn (remL l T S) t b) : (intsZ (outL l T S t)).set b (.int .i64 (outF l T S t b + 1)) = intsZ (outL l T S (t + 1)) := by
  apply List.ext_getElem
  · simp [intsZ, outL]
  · intro i h1 h2
    simp only [intsZ, outL, List.getElem_set, List.getElem_map, List.getElem_range]
    by_cases e : b = i
    · subst e; rw [if_pos rfl, out_here h hf]
    · rw [if_neg e, out_else h (fun x => e x.symm)]
/-- The best of those below k that are not given. -/
def BestTo (R : List Int) (t k : Nat) (v : Int) : Prop :=
  (v = -1 ∧ ∀ j, j < k → Gvn R t j) ∨ ∃ b : Nat, v = (b : Int) ∧ b < k ∧ ¬ Gvn R t b ∧ ∀ j, j < k → ¬ Gvn R t j → j = b ∨ Ah (rowI R b) (rowI R j)
theorem BestTo.given {R : List Int} {t k : Nat} {v : Int} (h : BestTo R t k v) (hg : Gvn R t k) : BestTo R t (k + 1) v := by
  have sp : ∀ j, j < k + 1 → j < k ∨ j = k := fun j h => by omega
  rcases h with ⟨h1, h2⟩ | ⟨b, h1, h2, h3, h4⟩
  · exact .inl ⟨h1, fun j hj => by rcases sp j hj with c | c; exact h2 j c; rw [c]; exact hg⟩
  · exact .inr ⟨b, h1, by omega, h3, fun j hj hn => by rcases sp j hj with c | c; exact h4 j c hn; rw [c] at hn; exact absurd hg hn⟩
theorem BestTo.first {R : List Int} {t k : Nat} {v : Int} (h : BestTo R t k v) (hv : v < 0) (hg : ¬ Gvn R t k) : BestTo R t (k + 1) k := by
  have sp : ∀ j, j < k + 1 → j < k ∨ j = k := fun j h => by omega
  rcases h with ⟨h1, h2⟩ | ⟨b, h1, h2, h3, h4⟩
  · exact .inr ⟨k, rfl, by omega, hg, fun j hj hn => by rcases sp j hj with c | c; exact absurd (h2 j c) hn; exact .inl c⟩
  · omega
theorem BestTo.more {R : List Int} {t k b : Nat} (h : BestTo R t k (b : Int)) (hg : ¬ Gvn R t k) (hr : R.getD b 0 < R.getD k 0) : BestTo R t (k + 1) k := by
  have sp : ∀ j, j < k + 1 → j < k ∨ j = k := fun j h => by omega
  rcases h with ⟨h1, h2⟩ | ⟨b', h1, h2, h3, h4⟩
  · omega
  · obtain rfl : b = b' := by omega
    refine .inr ⟨k, rfl, by omega, hg, fun j hj hn => ?_⟩
    rcases sp j hj with c | c
    · right
      have hkb : Ah (rowI R k) (rowI R b) := .inl hr
      rcases h4 j c hn with d | d
      · rw [d]; exact hkb
      · exact hkb.trans d
    · exact .inl c
theorem BestTo.stay {R : List Int} {t k b : Nat} (h : BestTo R t k (b : Int)) (hr : ¬ R.getD b 0 < R.getD k 0) : BestTo R t (k + 1) b := by
  have sp : ∀ j, j < k + 1 → j < k ∨ j = k := fun j h => by omega
  rcases h with ⟨h1, h2⟩ | ⟨b', h1, h2, h3, h4⟩
  · omega
  · obtain rfl : b = b' := by omega
    refine .inr ⟨b, rfl, by omega, h3, fun j hj hn => ?_⟩
    rcases sp j hj with c | c
    · exact h4 j c hn
    · right
      rw [c]
      unfold Ah rowI
      simp only
      omega
end Go.Proofs.YtnbnegkoanidmaaGreatDoor

/-
  The contract of spec.DivideByWeights: the walk.
-/
namespace Go.Proofs.YtnbnegkoanidmaaGreatDoor
open Go.RowKit
set_option linter.unusedVariables false

theorem divB_F {l : List Int} {T : Int} (h : inB 1 32 (l.length : Int) = false ∨ allB 0 1000000 l = false ∨ inB 0 100000 T = false ∨ ¬ 0 < sumW l l.length) : divB l T = false := by
  unfold divB
  rcases h with h | h | h | h
  · rw [h]; rfl
  · rw [h]; simp
  · rw [h]; simp
  · rw [decide_eq_false h]; simp
/-- What the division answers. -/
def DivTo (w w' : World) (e : Ending) (l : List Int) (T : Int) : Prop := ∃ v t, e = .returned (.tuple #[v, .bool (divB l T)]) ∧ Below w.heap.size w w' ∧ w'.ownsRow w.heap.size t 1 v (divL l T).length (intsZ (divL l T))
theorem DivTo.no {w w' : World} {l : List Int} {T : Int} (h : divB l T = false) (hb : Below w.heap.size w w') : DivTo w w' (.returned (.tuple #[.slice none 0 0, .bool false])) l T :=
  ⟨.slice none 0 0, 3, by rw [h], hb, by rw [divL_no h]; exact own_nil _ _ _ _⟩
set_option maxRecDepth 100000 in
set_option maxHeartbeats 8000000 in
theorem specDivide_any (l : List Int) (A : Option Addr) (c : Nat) (T : Int) (w : World) (hf : IntsIn w A l) (hlen : l.length ≤ 1048576) :
    Calls Tryz.prog 6 #[.slice A l.length c, .int .i64 T] w fun e w' => DivTo w w' e l T := by
  have HF := Lib.hid hf; clear hf
  obtain ⟨i0, hi, hz0, hz1, hz2⟩ := info_parts info_int
  have HI := Lib.hid hi; have HZ0 := Lib.hid hz0; have HZ1 := Lib.hid hz1; have HZ2 := Lib.hid hz2
  clear hi hz0 hz1 hz2
  go_enter Tryz.func6, Tryz.ntmps6
  go_wp2_with fail
  refine (l1In_any _ _ _ _).mono ?_
  rintro e w' ⟨rfl, rfl⟩
  cases h1 : inB 1 32 (l.length : Int) with
  | false =>
    have HV : Hid (divB l T = false) := Lib.hid (divB_F (.inl h1))
    go_wp2
    go_ret2
    exact DivTo.no HV.out (Below.refl _ _)
  | true =>
    go_wp2_with fail
    refine (l1All_any l A c 0 1000000 _ HF.out (by unfold maxLen; omega)).mono ?_
    rintro e w' ⟨rfl, rfl⟩
    cases h2 : allB 0 1000000 l with
    | false =>
      have HV : Hid (divB l T = false) := Lib.hid (divB_F (.inr (.inl h2)))
      go_wp2
      go_ret2
      exact DivTo.no HV.out (Below.refl _ _)
    | true =>
      go_wp2_with fail
      refine (l1In_any _ _ _ _).mono ?_
      rintro e w' ⟨rfl, rfl⟩
      cases h3 : inB 0 100000 T with
      | false =>
        have HV : Hid (divB l T = false) := Lib.hid (divB_F (.inr (.inr (.inl h3))))
        go_wp2
        go_ret2
        exact DivTo.no HV.out (Below.refl _ _)
      | true =>
        have hT := inB_iffW.1 h3
        have hl := inB_iffW.1 h1
        have hl32 : l.length ≤ 32 := by omega
        have HALL : Hid (∀ j (h : j < l.length), 0 ≤ l[j] ∧ l[j] ≤ 1000000) := Lib.hid (fun j hj => by
          have h := h2
          unfold allB at h
          rw [List.all_eq_true] at h
          exact inB_iffW.1 (h _ (List.getElem_mem hj)))
        have H123 := Lib.hid (show inB 1 32 (l.length : Int) = true ∧ allB 0 1000000 l = true ∧ inB 0 100000 T = true from ⟨h1, h2, h3⟩)
        clear h1 h2 h3
        go_wp2
        go_loop [6, 33] (fun sv i => ∃ k : Nat, k ≤ l.length ∧ i = .int .i64 (k : Int) ∧ sv = .int .i64 (sumW l k)) (fun _ i => l.length - (intOf i).toNat)
        case atStart => exact ⟨0, Nat.zero_le _, rfl, rfl⟩
        case round =>
          obtain ⟨k, hk, rfl, rfl⟩ := hrel
          have hsr := sumW_range HALL.out k hk
          by_cases hlt : k < l.length
          · obtain ⟨b, off, rfl, hbl, hc⟩ := HF.out (by omega)
            have hc0 := hc k hlt
            clear hc
            have HST : Hid (sumW l (k + 1) = sumW l k + l[k]) := Lib.hid (by show sumW l k + l.getD k 0 = _; rw [getI_of hlt])
            have hx := HALL.out k hlt
            generalize l[k]'hlt = x at *
            generalize sumW l k = s at *
            go_wp2
            go_round
            case rel => exact ⟨k + 1, by omega, by go_num, by rw [HST.out]⟩
            case measure => simp [intOf]; omega
          · obtain rfl : k = l.length := by omega
            clear hlt hk
            obtain ⟨S, hS⟩ : ∃ S, S = sumW l l.length := ⟨_, rfl⟩
            rw [← hS] at hsr ⊢
            have HS := Lib.hid hS; clear hS
            by_cases hs0 : S = 0
            · have hsz : (S == 0) = true := by simp [hs0]
              have HNP : Hid (¬ 0 < sumW l l.length) := Lib.hid (by rw [← HS.out]; omega)
              clear hs0
              have HV : Hid (divB l T = false) := Lib.hid (divB_F (.inr (.inr (.inr HNP.out))))
              go_wp2
              go_ret2
              exact DivTo.no HV.out (Below.refl _ _)
            · have hsz : (S == 0) = false := by simp [hs0]
              have hpos : 0 < S := by omega
              have HV : Hid (divB l T = true) := Lib.hid (by
                unfold divB
                rw [H123.out.1, H123.out.2.1, H123.out.2.2, decide_eq_true (show 0 < sumW l l.length by rw [← HS.out]; exact hpos)]; rfl)
              have HG : Hid (GoodW l T S) := Lib.hid (by rw [HS.out]; exact divB_iff.1 HV.out)
              clear H123 HALL hs0
              have hSmax : S ≤ 32000000 := by omega
              go_wp2
              go_loopw [9, 10, 46] (fun v lv i wr => ∃ k : Nat, k ≤ l.length ∧ i = .int .i64 (k : Int) ∧ lv = .int .i64 (lefT l T S k) ∧ wr.ownsRow w.heap.size 3 1 v k (intsZ (qL l T S k)) ∧ Below w.heap.size w wr) (fun _ _ i _ => l.length - (intOf i).toNat)
              case atStart => exact ⟨0, Nat.zero_le _, rfl, rfl, own_nil _ _ _ _, Below.refl _ _⟩
              case round =>
                obtain ⟨k, hk, rfl, rfl, ho, hb⟩ := hrel
                have HO := Lib.hid ho; have HB := Lib.hid hb
                by_cases hlt : k < l.length
                · obtain ⟨bb, off, rfl, hbl, hc⟩ := HF.out (by omega)
                  have hc0 := (hb.cell (p := ⟨bb, off + k, none⟩) hbl).trans (hc k hlt)
                  have hbw := hb.size
                  clear hc hb ho
                  obtain ⟨hp1, ⟨hr0, hr1⟩, hq0, hq1⟩ := HG.out.parts hlt
                  obtain ⟨hm0, hm1⟩ := HG.out.mul hlt
                  have hlr := HG.out.leftR k hk
                  have HLS : Hid (lefT l T S (k + 1) = lefT l T S k - dq l T S k) := Lib.hid rfl
                  have HQS : Hid (qL l T S (k + 1) = qL l T S k ++ [dq l T S k]) := Lib.hid (qL_succ l T S k)
                  obtain ⟨d, hd⟩ : ∃ d, d = dq l T S k := ⟨_, rfl⟩
                  have hd2 : (T * l[k]).tdiv S = d := by rw [hd, dq, getI_of hlt]
                  rw [getI_of hlt] at hm0 hm1
                  rw [← hd] at hq0 hq1 HLS HQS
                  clear hp1 hd hr0 hr1
                  generalize l[k]'hlt = x at *
                  generalize lefT l T S k = L at *
                  obtain ⟨p, hp⟩ : ∃ p, T * x = p := ⟨_, rfl⟩
                  rw [hp] at hd2 hm0 hm1
                  have hmx : k + 1 ≤ maxLen := by unfold maxLen; omega
                  go_wp2_with (at_builtin; refine wpList_append_own_at _ rfl _ _ 23 rfl w.heap.size 3 i0 (.int .i64 0) 1 8 Tryz.underlying23 HI.out HZ0.out HZ1.out HZ2.out rfl (by decide) _ _ _ rfl (HO.out.alloc _) ⟨wr.heap.size, 0, none⟩ 1 1 [.int .i64 d] rfl rfl (cell_one_new _ _ _) (by simp [Value.oneCell']) hmx (by first | omega | decide) (by first | (simp; done) | (simp; omega) | skip) ?_)
                  intro v' w5 hown' hgrow _ hat
                  have HB5 : Hid (Below w.heap.size w w5) := Lib.hid ((HB.out.alloc HB.out.size _).grown hgrow (by simp; omega) (own_lt HO.out))
                  have HO5 : Hid (w5.ownsRow w.heap.size 3 1 v' (k + 1) (intsZ (qL l T S (k + 1)))) := Lib.hid (by rw [HQS.out, intsZ_snoc]; exact hown')
                  clear hown' hgrow hat hc0
                  go_wp2
                  go_roundw
                  case rel => exact ⟨k + 1, by omega, by go_num, by rw [HLS.out], HO5.out, HB5.out⟩
                  case measure => simp [intOf]; omega
                · obtain rfl : k = l.length := by omega
                  have HC := Lib.hid HG.out.cnt
                  obtain ⟨R, hR⟩ : ∃ R, R = remL l T S := ⟨_, rfl⟩
                  have HRE := Lib.hid hR
                  have HRL : Hid (R.length = l.length) := Lib.hid (by rw [hR]; exact remL_len l T S)
                  have HNN : Hid (∀ j, j < l.length → R.getD j 0 = dr l T S j) := Lib.hid (fun j hj => by rw [hR]; exact remL_get hj)
                  clear hR
                  obtain ⟨L, hL⟩ : ∃ L : Nat, lefT l T S l.length = (L : Int) := ⟨(lefT l T S l.length).toNat, by have := HC.out; omega⟩
                  have HLC : Hid (L ≤ (gtT R R.length).length ∧ L ≤ 32) := Lib.hid (by
                    have h1 := HC.out
                    rw [hL, ← HRE.out] at h1
                    have h2 := gtT_len R l.length
                    rw [HRL.out]
                    omega)
                  have hL32 := HLC.out.2
                  rw [hL]
                  have HL := Lib.hid hL
                  clear hL HC ho hb hlt hk
                  obtain ⟨g, cap, rfl, hg1, hg2, hcell, hfree⟩ := own_rowW HO.out (by omega)
                  clear hcell hfree
                  obtain ⟨w1, hw1⟩ : ∃ x : World, x = wr.alloc (.cells (madeCells #[.bool false] (l.length * 1)) 4) := ⟨_, rfl⟩
                  have hmk : (Instr.makeSlice 59 (.int .i64 (l.length : Int)) (.int .i64 (l.length : Int))).run Tryz.prog wr = .ok (.slice (some ⟨wr.heap.size, 0, none⟩) l.length l.length) w1 := by rw [hw1]; exact run_makeBW l.length (by omega) wr
                  have HTB : Hid (Tb w1 wr.heap.size 4 l.length (gvF R 0)) := Lib.hid (by
                    rw [hw1]
                    exact (made_bool _ _ _).cong (fun j _ => by
                      unfold gvF
                      cases hgv : gvB R 0 j with
                      | false => rfl
                      | true => exact absurd (gvB_iff.1 hgv) (gvn_zero R j)))
                  have HO1 : Hid (w1.ownsRow w.heap.size 3 1 (.slice (some ⟨g, 0, none⟩) l.length cap) l.length (intsZ (outL l T S 0))) := Lib.hid (by
                    rw [hw1, ← qL_all]
                    exact own_below HO.out ((Below.refl _ _).alloc (Nat.le_refl _) _))
                  have HB1 : Hid (Below w.heap.size w w1) := Lib.hid (by rw [hw1]; exact HB.out.alloc HB.out.size _)
                  obtain ⟨gb, hgb⟩ : ∃ x, x = wr.heap.size := ⟨_, rfl⟩
                  rw [← hgb] at hmk HTB hg2
                  have hbw := HB.out.size
                  rw [← hgb] at hbw
                  clear hw1 hgb HO HB
                  go_wp2
                  clear hmk
                  go_loopw [10] (fun lv w2 => ∃ t : Nat, t ≤ L ∧ lv = .int .i64 ((L : Int) - (t : Int)) ∧ Tb w2 gb 4 l.length (gvF R t) ∧ w2.ownsRow w.heap.size 3 1 (.slice (some ⟨g, 0, none⟩) l.length cap) l.length (intsZ (outL l T S t)) ∧ Below w.heap.size w w2) (fun lv _ => (intOf lv).toNat)
                  case atStart => exact ⟨0, Nat.zero_le _, by simp, HTB.out, HO1.out, HB1.out⟩
                  case round =>
                    obtain ⟨t, ht, rfl, htb, ho, hb⟩ := hrel
                    have KT := Lib.hid htb; have KO := Lib.hid ho; have KB := Lib.hid hb
                    clear htb ho hb HTB HO1 HB1
                    by_cases hlt : t < L
                    · have hgt : (0 : Int) < (L : Int) - (t : Int) := by omega
                      have htc : t < (gtT R R.length).length := by have := HLC.out.1; omega
                      have HTC := Lib.hid htc
                      clear htc
                      generalize hww : wr = w2 at *
                      clear hww
                      have hgw2 : gb < w2.heap.size := KT.out.lt
                      have hww2 := KB.out.size
                      go_wp2
                      go_loopw [14, 75] (fun bv i w3 => ∃ (k : Nat) (v : Int), k ≤ l.length ∧ i = .int .i64 (k : Int) ∧ bv = .int .i64 v ∧ BestTo R t k v ∧ Below w2.heap.size w2 w3) (fun _ i _ => l.length - (intOf i).toNat)
                      case atStart => exact ⟨0, -1, Nat.zero_le _, rfl, rfl, .inl ⟨rfl, fun j h => by omega⟩, Below.refl _ _⟩
                      case round =>
                        obtain ⟨k, v, hk, rfl, rfl, hbt, hb3⟩ := hrel
                        have HBT := Lib.hid hbt; have HB3 := Lib.hid hb3
                        have hs3 := hb3.size
                        clear hbt
                        by_cases hkl : k < l.length
                        · obtain ⟨bb, off, rfl, hbl, hc⟩ := HF.out (by omega)
                          have hcc : ∀ j (h : j < l.length), wr.cell? ⟨bb, off + j, none⟩ = some (.int .i64 l[j]) := fun j h => (hb3.cell (p := ⟨bb, off + j, none⟩) (by show bb < _; omega)).trans ((KB.out.cell (p := ⟨bb, off + j, none⟩) hbl).trans (hc j h))
                          have hc0 := hcc k hkl
                          have c1 : wr.cell? ⟨gb, k, none⟩ = some (.bool (gvB R t k)) := (hb3.cell (p := ⟨gb, k, none⟩) hgw2).trans (KT.out.cell hkl)
                          have k0 := KeptW.cell c1 (show gb < wr.heap.size by omega)
                          have hki : (k : Int) < (l.length : Int) := by omega
                          have hk0 : (0 : Int) ≤ (k : Int) := by omega
                          have hbl3 : bb < wr.heap.size := by omega
                          clear hc hb3 c1
                          cases hgv : gvB R t k with
                          | true =>
                            have HN := Lib.hid (HBT.out.given (gvB_iff.1 hgv))
                            rw [hgv] at k0
                            clear hcc
                            go_wp2_with fail
                            refine region_kept wr.heap.size (by kernel_rfl) (by kernel_rfl) ?_
                            repeat (go_big_quiet_step (fail))
                            refine wpQuiet_nil ?_
                            intro w4 hb4
                            have HB4 := Lib.hid (HB3.out.trans (hb4.mono HB3.out.size))
                            clear hb4 k0
                            go_wp2
                            go_roundw
                            case rel => exact ⟨k + 1, v, by omega, by go_num, rfl, HN.out, HB4.out⟩
                            case measure => simp [intOf]; omega
                          | false =>
                            have hng : ¬ Gvn R t k := fun h => by rw [gvB_iff.2 h] at hgv; cases hgv
                            have HNG := Lib.hid hng
                            rw [hgv] at k0
                            clear hng
                            by_cases hv : v < 0
                            · have HN := Lib.hid (HBT.out.first hv HNG.out)
                              have hvd : decide (v < 0) = true := decide_eq_true hv
                              clear hcc
                              go_wp2_with fail
                              refine region_kept wr.heap.size (by kernel_rfl) (by kernel_rfl) ?_
                              repeat (go_big_quiet_step (fail))
                              refine wpQuiet_nil ?_
                              intro w4 hb4
                              have HB4 := Lib.hid (HB3.out.trans (hb4.mono HB3.out.size))
                              clear hb4 k0
                              go_wp2
                              go_roundw
                              case rel => exact ⟨k + 1, k, by omega, by go_num, rfl, HN.out, HB4.out⟩
                              case measure => simp [intOf]; omega
                            · have hvd : decide (v < 0) = false := decide_eq_false hv
                              obtain ⟨b, hvb, hbk⟩ : ∃ b : Nat, v = (b : Int) ∧ b < k := by
                                rcases HBT.out with ⟨h1, _⟩ | ⟨b, h1, h2, _⟩
                                · omega
                                · exact ⟨b, h1, h2⟩
                              subst hvb
                              have hbl' : b < l.length := by omega
                              have k1 := KeptW.cell (hcc b hbl') hbl3
                              clear hcc
                              obtain ⟨m0, m1⟩ := HG.out.mul hkl
                              obtain ⟨m2, m3⟩ := HG.out.mul hbl'
                              obtain ⟨_, ⟨r0, r1⟩, _⟩ := HG.out.parts hkl
                              obtain ⟨_, ⟨r2, r3⟩, _⟩ := HG.out.parts hbl'
                              obtain ⟨ra, hra⟩ : ∃ r, r = dr l T S k := ⟨_, rfl⟩
                              obtain ⟨rb, hrb⟩ : ∃ r, r = dr l T S b := ⟨_, rfl⟩
                              have hra2 : (T * l[k]).tmod S = ra := by rw [hra, dr, getI_of hkl]
                              have hrb2 : (T * l[b]).tmod S = rb := by rw [hrb, dr, getI_of hbl']
                              rw [getI_of hkl] at m0 m1
                              rw [getI_of hbl'] at m2 m3
                              have HRA : Hid (R.getD k 0 = ra) := Lib.hid (by rw [HNN.out k hkl, hra])
                              have HRB : Hid (R.getD b 0 = rb) := Lib.hid (by rw [HNN.out b hbl', hrb])
                              rw [← hra] at r0 r1
                              rw [← hrb] at r2 r3
                              clear hra hrb
                              generalize l[k]'hkl = x at *
                              generalize l[b]'hbl' = y at *
                              obtain ⟨p1, hp1⟩ : ∃ p, T * x = p := ⟨_, rfl⟩
                              obtain ⟨p2, hp2⟩ : ∃ p, T * y = p := ⟨_, rfl⟩
                              rw [hp1] at hra2 m0 m1
                              rw [hp2] at hrb2 m2 m3
                              have hbi : (b : Int) < (l.length : Int) := by omega
                              have hb0 : (0 : Int) ≤ (b : Int) := by omega
                              have hSz : ¬ S = 0 := by omega
                              have q1 : IntKind.i64.wrap p1 = p1 := by rw [IntKind.wrap_i64]; omega
                              have q2 : IntKind.i64.wrap p2 = p2 := by rw [IntKind.wrap_i64]; omega
                              have q3 : IntKind.i64.wrap ra = ra := by rw [IntKind.wrap_i64]; omega
                              have q4 : IntKind.i64.wrap rb = rb := by rw [IntKind.wrap_i64]; omega
                              by_cases hr : rb < ra
                              · have hrd : decide (rb < ra) = true := decide_eq_true hr
                                have HN := Lib.hid (HBT.out.more HNG.out (by rw [HRA.out, HRB.out]; exact hr))
                                go_wp2_with fail
                                refine region_kept wr.heap.size (by kernel_rfl) (by kernel_rfl) ?_
                                repeat (go_big_quiet_step (fail))
                                refine wpQuiet_nil ?_
                                intro w4 hb4
                                have HB4 := Lib.hid (HB3.out.trans (hb4.mono HB3.out.size))
                                clear hb4 k0
                                go_wp2
                                go_roundw
                                case rel => exact ⟨k + 1, k, by omega, by go_num, rfl, HN.out, HB4.out⟩
                                case measure => simp [intOf]; omega
                              · have hrd : decide (rb < ra) = false := decide_eq_false hr
                                have HN := Lib.hid (HBT.out.stay (by rw [HRA.out, HRB.out]; exact hr))
                                go_wp2_with fail
                                refine region_kept wr.heap.size (by kernel_rfl) (by kernel_rfl) ?_
                                repeat (go_big_quiet_step (fail))
                                refine wpQuiet_nil ?_
                                intro w4 hb4
                                have HB4 := Lib.hid (HB3.out.trans (hb4.mono HB3.out.size))
                                clear hb4 k0
                                go_wp2
                                go_roundw
                                case rel => exact ⟨k + 1, b, by omega, by go_num, rfl, HN.out, HB4.out⟩
                                case measure => simp [intOf]; omega
                        · obtain rfl : k = l.length := by omega
                          have hex : ∃ b : Nat, v = (b : Int) ∧ b < l.length ∧ ¬ Gvn R t b ∧ topF R t = rowI R b := by
                            obtain ⟨i, hi1, hi2, he⟩ := top_mem HTC.out
                            rw [HRL.out] at hi1
                            rcases HBT.out with ⟨h1, h2⟩ | ⟨b, h1, h2, h3, h4⟩
                            · exact absurd (h2 i hi1) (gvn_fresh HTC.out he)
                            · refine ⟨b, h1, h2, h3, best_is HTC.out (by rw [HRL.out]; exact h2) h3 (fun j hj hn => h4 j (by rw [← HRL.out]; exact hj) hn) (fun j => ?_)⟩
                              by_cases hj : j < l.length
                              · rw [HNN.out j hj]; exact (HG.out.parts hj).2.1.1
                              · rw [List.getD_eq_getElem?_getD, List.getElem?_eq_none (by rw [HRL.out]; omega)]; exact Int.le_refl _
                          obtain ⟨b, rfl, hbl, hng, he⟩ := hex
                          have KT3 := Lib.hid (KT.out.below hb3 hgw2)
                          have KO3 := Lib.hid (own_below KO.out hb3)
                          have KB3 := Lib.hid (KB.out.trans (hb3.mono KB.out.size))
                          have HTS : Hid (∀ W, Tb W gb 4 l.length (gvF R t) → Tb (W.setCell ⟨gb, b, none⟩ (.bool true)) gb 4 l.length (gvF R (t + 1))) := Lib.hid (fun W h => by
                            have h2 := h.set b (.bool true)
                            rw [gvF_step he] at h2
                            exact h2)
                          have HOS : Hid (∀ W : World, W.ownsRow w.heap.size 3 1 (.slice (some ⟨g, 0, none⟩) l.length cap) l.length (intsZ (outL l T S t)) → (W.setCell ⟨g, b, none⟩ (.int .i64 (outF l T S t b + 1))).ownsRow w.heap.size 3 1 (.slice (some ⟨g, 0, none⟩) l.length cap) l.length (intsZ (outL l T S (t + 1)))) := Lib.hid (fun W h => by
                            have h2 := own_setW h (i := b) (by rw [intsZ_len, outL_len]; exact hbl) (.int .i64 (outF l T S t b + 1))
                            rw [outL_set hbl (by rw [← HRE.out]; exact he) (by rw [← HRE.out]; exact hng)] at h2
                            exact h2)
                          have hor := out_range HG.out t hbl
                          obtain ⟨g', cap', hv, _, hgl, hcell, hfree⟩ := own_rowW KO3.out (by omega)
                          injection hv with hv1 hv2 hv3
                          injection hv1 with hv1
                          injection hv1 with hv1
                          subst hv1 hv3
                          have c1 := hcell b (by rw [intsZ_len, outL_len]; exact hbl)
                          rw [show (intsZ (outL l T S t))[b]'(by rw [intsZ_len, outL_len]; exact hbl) = .int .i64 (outF l T S t b) from by simp [intsZ, outL]] at c1
                          have f1 := hfree b
                          have c2 : wr.cell? ⟨gb, b, none⟩ = some (.bool (gvB R t b)) := KT3.out.cell hbl
                          have f2 := KT3.out.free b
                          have hne1 : ¬ g = gb := by omega
                          have hne2 : ¬ gb = g := by omega
                          clear hcell hfree hb3 HBT hng he hv2
                          generalize outF l T S t b = o at *
                          have hbi : (b : Int) < (l.length : Int) := by omega
                          have hb0 : (0 : Int) ≤ (b : Int) := by omega
                          go_wp2
                          go_roundw
                          case rel =>
                            exact ⟨t + 1, by omega, by first | go_num | (congr 1; omega), (HTS.out wr KT3.out).other (c := g) (i := b) (.int .i64 (o + 1)) hne2,
                              HOS.out _ (own_grown KO3.out (grown_set (World.grownBy.refl wr (some gb)) b (.bool true)) (fun q hq e => by have h9 : g = q := Option.some.inj hq; have := Option.some.inj e; omega)),
                              Below.setCell (Below.setCell KB3.out (by first | exact hbw | omega) _) (by first | exact hg1 | omega) _⟩
                          case measure => simp [intOf]; omega
                    · obtain rfl : t = L := by omega
                      have hgt : ¬ (0 : Int) < (t : Int) - (t : Int) := by omega
                      have HVL : Hid (divL l T = outL l T S t) := Lib.hid (by rw [divL_yes HV.out, ← HS.out, HL.out, Int.toNat_natCast])
                      go_wp2
                      go_ret2
                      exact ⟨.slice (some ⟨g, 0, none⟩) l.length cap, 3, by rw [HV.out]; rfl, KB.out, by rw [HVL.out, outL_len]; exact KO.out⟩
end Go.Proofs.YtnbnegkoanidmaaGreatDoor

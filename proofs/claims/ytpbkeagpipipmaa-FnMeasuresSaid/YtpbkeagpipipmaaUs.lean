/-
  The contracts of SpacesFor, in spec and in impl.
-/
import Derived.Test.YtpbkeagpipipmaaWide
import Derived.Test.YtpbkeagpipipmaaWds
import Derived.Test.YtpbkeagpipipmaaUf
import Derived.OwnWalk
import Derived.Maps.AppendAt
namespace Go.Proofs.Ytpbkeagpipipmaa
open Go.RowKit
set_option linter.unusedVariables false

abbrev Fnt := List (ByteArray × Int)
/-- A word can be set, and its width. -/
noncomputable def okS (f : Fnt) (s : ByteArray) : Bool := (S1.sowF f s).isSome
noncomputable def wdF (f : Fnt) (s : ByteArray) : Int := S1.wideF f ((S1.sowF f s).getD [])
noncomputable def wdL (f : Fnt) (l : List ByteArray) : List Int := l.map (wdF f)
theorem wdL_len (f : Fnt) (l : List ByteArray) : (wdL f l).length = l.length := by simp [wdL]
theorem wdL_take (f : Fnt) (l : List ByteArray) {k : Nat} (h : k < l.length) : (wdL f l).take (k + 1) = (wdL f l).take k ++ [wdF f l[k]] := by
  have h' : k < (wdL f l).length := by rw [wdL_len]; exact h
  rw [List.take_succ_eq_append_getElem h']; simp [wdL]
noncomputable def allS (f : Fnt) (l : List ByteArray) : Bool := l.all (okS f)
theorem allS_step {f : Fnt} {l : List ByteArray} {k : Nat} (h : k < l.length) (hs : (l.take k).all (okS f) = true) (hk : okS f l[k] = true) : (l.take (k + 1)).all (okS f) = true := by
  rw [List.take_succ_eq_append_getElem h, List.all_append, hs, Bool.true_and, List.all_cons, hk]; rfl
theorem allS_no {f : Fnt} {l : List ByteArray} {k : Nat} (h : k < l.length) (hk : okS f l[k] = false) : allS f l = false := by
  unfold allS
  rw [List.all_eq_false]
  exact ⟨l[k], List.getElem_mem h, by simp [hk]⟩
noncomputable def wwL (f : Fnt) (l : List ByteArray) : List Int := if allS f l then wdL f l else []
theorem ww_no {f : Fnt} {l : List ByteArray} (h : allS f l = false) : wwL f l = [] := by unfold wwL; rw [h]; rfl
theorem ww_yes {f : Fnt} {l : List ByteArray} (h : allS f l = true) : wwL f l = wdL f l := by unfold wwL; rw [h]; rfl
noncomputable def sfB (f : Fnt) (l : List ByteArray) (r : Ru) (m : Int) : Bool := decide (l.length ≤ 20) && allS f l && jsB (wdL f l) r m
noncomputable def sfL (f : Fnt) (l : List ByteArray) (r : Ru) (m : Int) : List Int := if sfB f l r m then jsL (wdL f l) r m else []
theorem sf_no {f : Fnt} {l : List ByteArray} {r : Ru} {m : Int} (h : sfB f l r m = false) : sfL f l r m = [] := by unfold sfL; rw [h]; rfl
theorem sf_out {f : Fnt} {l : List ByteArray} {r : Ru} {m : Int} (h : ¬ l.length ≤ 20 ∨ allS f l = false) : sfB f l r m = false := by
  unfold sfB
  rcases h with h | h
  · rw [decide_eq_false h]; rfl
  · rw [h, Bool.and_false]; rfl
theorem sf_in {f : Fnt} {l : List ByteArray} (r : Ru) (m : Int) (h1 : l.length ≤ 20) (h2 : allS f l = true) : sfB f l r m = jsB (wdL f l) r m ∧ sfL f l r m = jsL (wdL f l) r m := by
  have e : sfB f l r m = jsB (wdL f l) r m := by unfold sfB; rw [decide_eq_true h1, h2]; rfl
  refine ⟨e, ?_⟩
  unfold sfL
  rw [e]
  cases h : jsB (wdL f l) r m
  · rw [js_no h]; rfl
  · rfl
theorem sfL_len (f : Fnt) (l : List ByteArray) (r : Ru) (m : Int) : (sfL f l r m).length ≤ 1048576 := by
  cases h : sfB f l r m
  · rw [sf_no h]; simp
  · unfold sfL; rw [h]; exact jsL_len _ _ _
theorem js_nil (r : Ru) (m : Int) : jsB [] r m = false := js_not1 (ask_not1 rfl)
theorem sf_nil (f : Fnt) (r : Ru) (m : Int) : sfB f [] r m = false := by unfold sfB; rw [show wdL f [] = [] from rfl, js_nil, Bool.and_false]
theorem okS_font {f : Fnt} {s : ByteArray} (h : S1.fontB f = false) : okS f s = false := by unfold okS; rw [S1.sow_of_no (by rw [h]; rfl)]; rfl
theorem okS_word {f : Fnt} {s : ByteArray} (h : S1.isWordF s = false) : okS f s = false := by unfold okS; rw [S1.sow_of_no (by rw [h, Bool.and_false])]; rfl
theorem sf_font {f : Fnt} {l : List ByteArray} {r : Ru} {m : Int} (h : S1.fontB f = false) : sfB f l r m = false := by
  cases l with
  | nil => exact sf_nil f r m
  | cons x t => exact sf_out (.inr (allS_no (k := 0) (by simp) (okS_font h)))
theorem sf_words {f : Fnt} {l : List ByteArray} {r : Ru} {m : Int} (h : S1.wordsB l = false) : sfB f l r m = false := by
  unfold S1.wordsB at h
  rw [Bool.and_eq_false_iff] at h
  rcases h with h | h
  · exact sf_out (.inl (by have := of_decide_eq_false h; omega))
  · obtain ⟨x, hx, hn⟩ := List.all_eq_false.1 h
    obtain ⟨k, hk, rfl⟩ := List.mem_iff_getElem.1 hx
    exact sf_out (.inr (allS_no hk (okS_word (by simpa using hn))))

set_option maxRecDepth 100000 in
set_option maxHeartbeats 1000000 in
theorem widthsOfWords_any (f : Fnt) (A : Option Addr) (c : Nat) (l : List ByteArray) (B : Option Addr) (d : Nat) (w : World) (hf : S1.SortsIn w 0 A f) (hn : f.length ≤ 1048576) (ho : S1.CodesOk f) (hg : S1.StrsIn w B l) (hw : S1.StrsOk l) (hm : l.length ≤ 1048576) :
    Calls Try.prog 72 #[.slice A f.length c, .slice B l.length d] w fun e w' => EnTo w w' e (wwL f l) (allS f l) := by
  have HF := Lib.hid hf; have HO := Lib.hid ho; have HG := Lib.hid hg; have HW := Lib.hid hw
  clear hf ho hg hw
  have hmk := run_makeInt l.length hm
  have hst : Marked (w.alloc (.cells (madeCells #[.int .i64 0] (l.length * 1)) 3)) w.heap.size 3 l.length (intsZ ((wdL f l).take 0)) := ⟨_, heap_new _ _, by rw [size_madeCells]; omega, by simp [intsZ]⟩
  generalize hz : madeCells #[.int .i64 0] (l.length * 1) = cs0 at *
  have HST := Lib.hid hst; clear hst hz
  go_enter Try.func72, Try.ntmps72
  go_wp2
  go_loopw [16] (fun i wr => ∃ k : Nat, k ≤ l.length ∧ i = .int .i64 (k : Int) ∧ (l.take k).all (okS f) = true ∧ Marked wr w.heap.size 3 l.length (intsZ ((wdL f l).take k)) ∧ Below w.heap.size w wr) (fun i _ => l.length - (intOf i).toNat)
  case atStart => exact ⟨0, Nat.zero_le _, rfl, rfl, HST.out, (Below.refl _ _).alloc (Nat.le_refl _) _⟩
  case round =>
    obtain ⟨k, hk, rfl, hs, hmd, hb⟩ := hrel
    have HS := Lib.hid hs; have HMD := Lib.hid hmd; have HB := Lib.hid hb
    clear hs hmd hmk
    by_cases hlt : k < l.length
    · obtain ⟨b, off, rfl, hbl, hc⟩ := HG.out (by omega)
      have hc0 := hc k hlt
      rw [← hb.cell (p := ⟨b, off + k, none⟩) hbl] at hc0
      clear hc hb
      have hok := HW.out k hlt
      have HTK := Lib.hid (wdL_take f l hlt)
      have HSTEP := Lib.hid (allS_step (f := f) hlt HS.out)
      have HNO := Lib.hid (allS_no (f := f) hlt)
      have hkl1 : (k : Int) < (l.length : Int) := by omega
      have hkl0 : (0 : Int) ≤ (k : Int) := by omega
      have KC : Hid (∀ W, S1.SortsIn W 0 A f → Calls Try.prog 39 #[.slice A f.length c, .string l[k]] W fun e w' => e = .returned (.tuple #[.int .i64 (wdF f l[k]), .bool (okS f l[k])]) ∧ Below W.heap.size W w') := Lib.hid (fun W h => S1.implWidth_any f A c l[k] 0 W h hn HO.out hok)
      generalize l[k]'hlt = x at *
      go_wp2_with fail
      refine (KC.out _ (HF.out.below HB.out (Nat.le_refl _))).mono ?_
      rintro e w1 ⟨rfl, hb1⟩
      have HB1 := Lib.hid (HB.out.trans (hb1.mono HB.out.size))
      have HM1 := Lib.hid (HMD.out.below hb1)
      clear hb1 hc0 HB HMD KC
      generalize wdF f x = q at *
      cases hox : okS f x
      · have HX := Lib.hid (HNO.out hox)
        clear hox
        go_wp2
        refine bodyPost_ret (v := .tuple #[.slice none 0 0, .bool false]) (by simp [results, Try.results72, go_sem]) rfl ?_
        exact EnTo.no (ww_no HX.out) HX.out HB1.out
      · have HX := Lib.hid (HSTEP.out hox)
        clear hox
        obtain ⟨⟨u0, hu0⟩, hfu⟩ := HM1.out.at_ hlt
        have hl : (intsZ ((wdL f l).take k)).length = k := by rw [intsZ_len, List.length_take, wdL_len]; omega
        have HD1 := Lib.hid (HM1.out.stepAt k hl hlt (.int .i64 q))
        have HBZ := Lib.hid (HB1.out.setCell (p := ⟨w.heap.size, k, none⟩) (Nat.le_refl _) (.int .i64 q))
        have hgl := HM1.out.lt
        clear hl
        go_wp2
        go_roundw
        case rel => exact ⟨k + 1, by omega, by go_num, HX.out, by rw [HTK.out, intsZ_snoc]; exact HD1.out, HBZ.out⟩
        case measure => simp [intOf]; omega
    · obtain rfl : k = l.length := by omega
      have HA : Hid (allS f l = true) := Lib.hid (by have := HS.out; rw [List.take_length] at this; exact this)
      have hd := HMD.out
      rw [show (wdL f l).take l.length = wdL f l from List.take_of_length_le (by rw [wdL_len]; exact Nat.le_refl _)] at hd
      have HO2 := Lib.hid (hd.owns (base := w.heap.size) (by rw [intsZ_len, wdL_len]) (Nat.le_refl _) (by unfold maxLen; omega))
      clear hd
      go_wp2
      refine bodyPost_ret (v := .tuple #[.slice (some ⟨w.heap.size, 0, none⟩) l.length l.length, .bool true]) (by simp [results, Try.results72, go_sem]) rfl ?_
      exact EnTo.yes (ww_yes HA.out) HA.out HB.out HO2.out
set_option maxRecDepth 100000 in
set_option maxHeartbeats 1000000 in
theorem juWidths_any (f : Fnt) (A : Option Addr) (c : Nat) (l : List ByteArray) (B : Option Addr) (d : Nat) (w : World) (hf : S1.SortsIn w 0 A f) (hF : S1.fontB f = true) (hg : S1.StrsIn w B l) (hw : S1.wordsB l = true) :
    Calls Try.prog 71 #[.slice A f.length c, .slice B l.length d] w fun e w' => EnTo w w' e (wwL f l) (allS f l) := by
  have HF := Lib.hid hf; have HFF := Lib.hid hF; have HG := Lib.hid hg; have HW := Lib.hid hw
  have hm : l.length ≤ 40 := by
    unfold S1.wordsB at hw
    have := of_decide_eq_true (Bool.and_eq_true_iff.1 hw).1
    omega
  clear hf hF hg hw
  obtain ⟨i0, hi, hz0, hz1, hz2⟩ := info_parts info3
  have HI := Lib.hid hi; have HZ0 := Lib.hid hz0; have HZ1 := Lib.hid hz1; have HZ2 := Lib.hid hz2
  clear hi hz0 hz1 hz2
  go_enter Try.func71, Try.ntmps71
  go_wp2
  go_loopw [6, 13] (fun v i wr => ∃ k : Nat, k ≤ l.length ∧ i = .int .i64 (k : Int) ∧ (l.take k).all (okS f) = true ∧ wr.ownsRow w.heap.size 3 1 v k (intsZ ((wdL f l).take k)) ∧ Below w.heap.size w wr) (fun _ i _ => l.length - (intOf i).toNat)
  case atStart => exact ⟨0, Nat.zero_le _, rfl, rfl, own_nil _ _ _ _, Below.refl _ _⟩
  case round =>
    obtain ⟨k, hk, rfl, hs, hv, hb⟩ := hrel
    have HS := Lib.hid hs; have HV := Lib.hid hv; have HB := Lib.hid hb
    clear hs hv
    by_cases hlt : k < l.length
    · obtain ⟨b, off, rfl, hbl, hc⟩ := HG.out (by omega)
      have hc0 := hc k hlt
      rw [← hb.cell (p := ⟨b, off + k, none⟩) hbl] at hc0
      clear hc hb
      have hiw : S1.isWordF l[k] = true := by
        have := HW.out
        unfold S1.wordsB at this
        exact List.all_eq_true.1 (Bool.and_eq_true_iff.1 this).2 _ (List.getElem_mem hlt)
      have HTK := Lib.hid (wdL_take f l hlt)
      have HSTEP := Lib.hid (allS_step (f := f) hlt HS.out)
      have HNO := Lib.hid (allS_no (f := f) hlt)
      have hkl1 : (k : Int) < (l.length : Int) := by omega
      have hkl0 : (0 : Int) ≤ (k : Int) := by omega
      have hmx : k + 1 ≤ maxLen := by unfold maxLen; omega
      have KC : Hid (∀ W, S1.SortsIn W 0 A f → Calls Try.prog 89 #[.slice A f.length c, .string l[k]] W fun e w' => e = .returned (.tuple #[.int .i64 (wdF f l[k]), .bool (okS f l[k])]) ∧ Below W.heap.size W w') := Lib.hid (fun W h => by
        have h2 := S1.tyWidth_any f A c l[k] 0 W h (S1.fontB_iff.1 HFF.out) (S1.isWord_len hiw).2
        unfold wdF okS
        rw [S1.sow_of_font (by rw [HFF.out, hiw]; rfl)]
        exact h2)
      clear hiw
      generalize l[k]'hlt = x at *
      go_wp2_with fail
      refine (KC.out _ (HF.out.below HB.out (Nat.le_refl _))).mono ?_
      rintro e w1 ⟨rfl, hb1⟩
      have HB1 := Lib.hid (HB.out.trans (hb1.mono HB.out.size))
      have HV1 := Lib.hid (own_below HV.out hb1)
      clear hb1 hc0 HB HV KC
      generalize wdF f x = q at *
      cases hox : okS f x
      · have HX := Lib.hid (HNO.out hox)
        clear hox
        go_wp2
        refine bodyPost_ret (v := .tuple #[.slice none 0 0, .bool false]) (by simp [results, Try.results71, go_sem]) rfl ?_
        exact EnTo.no (ww_no HX.out) HX.out HB1.out
      · have HX := Lib.hid (HSTEP.out hox)
        clear hox
        have hwz := HB1.out.size
        go_wp2_with (at_builtin; refine wpList_append_own_at _ rfl _ _ 23 rfl w.heap.size 3 i0 (.int .i64 0) 1 8 Try.underlying23 HI.out HZ0.out HZ1.out HZ2.out rfl (by decide) _ _ _ rfl (HV1.out.alloc _) ⟨w1.heap.size, 0, none⟩ 1 1 [.int .i64 q] rfl rfl (cell_one_new _ _ _) (by simp [Value.oneCell']) hmx (by omega) (by first | (simp; done) | (simp; omega) | omega) ?_)
        intro v' w5 hown' hgrow _ hat
        have HB5 := Lib.hid ((HB1.out.alloc HB1.out.size (.cells #[.int .i64 q] 3)).grown hgrow (by simp; omega) (fun p hp => by have := own_lt HV1.out p hp; omega))
        have HO5 : Hid (w5.ownsRow w.heap.size 3 1 v' (k + 1) (intsZ ((wdL f l).take (k + 1)))) := by
          show World.ownsRow _ _ _ _ _ _ _
          rw [HTK.out, intsZ_snoc]; exact hown'
        clear hown' hgrow hat
        go_wp2
        go_roundw
        case rel => exact ⟨k + 1, by omega, by go_num, HX.out, HO5.out, HB5.out⟩
        case measure => simp [intOf]; omega
    · obtain rfl : k = l.length := by omega
      have HA : Hid (allS f l = true) := Lib.hid (by have := HS.out; rw [List.take_length] at this; exact this)
      have HO2 := Lib.hid (show World.ownsRow _ _ _ _ _ _ _ from by have h := HV.out; rw [show (wdL f l).take l.length = wdL f l from List.take_of_length_le (by rw [wdL_len]; exact Nat.le_refl _)] at h; exact h)
      go_wp2
      go_ret2
      exact EnTo.yes (ww_yes HA.out) HA.out HB.out HO2.out
end Go.Proofs.Ytpbkeagpipipmaa

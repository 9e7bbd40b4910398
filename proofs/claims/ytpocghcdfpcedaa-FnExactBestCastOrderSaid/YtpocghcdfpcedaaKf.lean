/-
  The contracts of spec.l1Has, csLast, csAsked and impl.isCastOrder: each answers what the plain words here say and changes nothing that was there.
-/
import Derived.Test.YtpocghcdfpcedaaKe
namespace Go.Proofs.Ytpocghcdfpcedaa
open Go.RowKit
set_option linter.unusedVariables false

/-- a is among l. -/
def hasB (l : List Int) (a : Int) : Bool := l.any fun x => x == a
theorem hasB_snoc (l : List Int) (x a : Int) : hasB (l ++ [x]) a = (hasB l a || (x == a)) := by simp only [hasB, List.any_append, List.any_cons, List.any_nil, Bool.or_false]
theorem hasB_take {l : List Int} {k : Nat} (h : k < l.length) (a : Int) : hasB (l.take (k + 1)) a = (hasB (l.take k) a || (l[k] == a)) := by
  rw [List.take_succ_eq_append_getElem h, hasB_snoc]
theorem hasB_yes {l : List Int} {k : Nat} (h : k < l.length) {a : Int} (e : l[k] = a) : hasB l a = true := by
  unfold hasB; rw [List.any_eq_true]; exact ⟨l[k], List.getElem_mem h, by simp [e]⟩
theorem l1Has_any (l : List Int) (A : Option Addr) (c : Nat) (a : Int) (w : World) (hf : IntsIn w A l) (hn : l.length ≤ 1048576) :
    Calls Try.prog 73 #[.slice A l.length c, .int .i64 a] w fun e w' => e = .returned (.bool (hasB l a)) ∧ w = w' := by
  have HF := Lib.hid hf; clear hf
  go_enter Try.func73, Try.ntmps73
  go_wp2
  go_loop [9] (fun i => ∃ (k : Nat), k ≤ l.length ∧ i = .int .i64 k ∧ hasB (l.take k) a = false) (fun i => l.length - (intOf i).toNat)
  case atStart => exact ⟨0, Nat.zero_le _, rfl, rfl⟩
  case round =>
    obtain ⟨k, hk, rfl, hs⟩ := hrel
    have HS := Lib.hid hs; clear hs
    by_cases hlt : k < l.length
    · obtain ⟨b, off, rfl, hbl, hc⟩ := HF.out (by omega)
      have hc0 := hc k hlt
      clear hc
      have HST := Lib.hid (hasB_take hlt a)
      have HYES := Lib.hid (fun e : l[k] = a => hasB_yes hlt e)
      generalize l[k] = x at *
      by_cases hx : x = a
      · have hb : (x == a) = true := by simp [hx]
        have HX := Lib.hid hx; clear hx
        go_wp2
        go_ret
        exact ⟨ret_bool (HYES.out HX.out).symm, rfl⟩
      · have hb : (x == a) = false := by simp [hx]
        have HX := Lib.hid hb
        clear hx
        go_wp2
        go_round
        case rel => exact ⟨k + 1, by omega, by go_num, by rw [HST.out, HS.out, HX.out]; rfl⟩
        case measure => simp [intOf]; omega
    · obtain rfl : k = l.length := by omega
      go_wp2
      go_ret
      exact ⟨ret_bool (by have e := HS.out; rw [List.take_length] at e; exact e.symm), rfl⟩

set_option maxRecDepth 100000 in
theorem csLast_any (m : Mc) (f : List Ca) (A : Option Addr) (c : Nat) (o : List Int) (B : Option Addr) (d : Nat) (w : World) (hf : CasIn w A f) (hn : f.length ≤ 1048576) (hs : IntsIn w B o) (hk : o.length ≤ 1048576) (hm : goodMc m = true) (hL : goodL f = true) (ho : InO f o) :
    Calls Try.prog 55 #[.agg #[.int .i64 m.bod, .int .i64 m.hou, .int .i64 m.cha], .slice A f.length c, .slice B o.length d] w fun e w' => e = .returned (.int .i64 (run m f o).t) ∧ Below w.heap.size w w' := by
  have HF := Lib.hid hf; have HS := Lib.hid hs; have HO := Lib.hid ho; clear hf hs ho
  have HA : Hid (Below w.heap.size w (w.alloc (.cells #[.int .i64 m.bod, .int .i64 m.hou, .int .i64 m.cha] 32))) := Lib.hid ((Below.refl _ _).alloc (Nat.le_refl _) _)
  go_enter Try.func55, Try.ntmps55
  go_wp2_with fail
  refine (csEnds_any m f A c o B d _ (HF.out.below HA.out (Nat.le_refl _)) hn (HS.out.below HA.out (Nat.le_refl _)) hk hm hL HO.out).mono ?_
  intro e w1 hto
  obtain ⟨v, rfl, hb1, hown⟩ := hto
  have hin := own_ints hown
  have HB1 := Lib.hid (HA.out.trans (hb1.mono HA.out.size))
  obtain ⟨A1, c1, rfl, _, hin⟩ := hin
  have HIN := Lib.hid hin
  have hel := endsL_len m f o
  clear hown hb1 hin
  by_cases h0 : o.length = 0
  · have HR : Hid ((run m f o).t = 0) := Lib.hid (by rw [List.length_eq_zero_iff.1 h0]; rfl)
    rw [hel, h0]
    clear h0 hel
    go_wp2
    go_ret
    exact ⟨ret_int HR.out.symm, HB1.out⟩
  · obtain ⟨k, hk1⟩ : ∃ k, k + 1 = o.length := ⟨o.length - 1, by omega⟩
    have HR := Lib.hid (endsL_last m f o (k := k) (by omega) hk1)
    obtain ⟨b, off, rfl, hbl, hc⟩ := HIN.out (by omega)
    have hc0 := hc k (by omega)
    rw [HR.out] at hc0
    rw [hel, ← hk1]
    have h0' : ¬ ((k + 1 : Nat) : Int) = 0 := by omega
    have h0'' : (((k + 1 : Nat) : Int) == 0) = false := by simp; omega
    have hix : ((k + 1 : Nat) : Int) - 1 = (k : Int) := by omega
    have hkk : k ≤ 1048576 := by omega
    have HC := Lib.hid hc0
    clear hc h0 hel hk1 hc0 HR
    have hc0 := HC.out
    obtain ⟨T, hT⟩ : ∃ T, T = (run m f o).t := ⟨_, rfl⟩
    rw [← hT] at hc0
    have HT := Lib.hid hT; clear hT
    go_wp2
    go_ret
    exact ⟨ret_int HT.out, HB1.out⟩

/-- No index twice. -/
def distTo (o : List Int) (k : Nat) : Bool := (List.range k).all fun i => !(hasB (o.take i) (o.getD i 0))
def distB (o : List Int) : Bool := distTo o o.length
theorem distTo_succ {o : List Int} {k : Nat} (h : k < o.length) : distTo o (k + 1) = (distTo o k && !(hasB (o.take k) o[k])) := by
  unfold distTo
  rw [List.range_succ, List.all_append]
  simp [h]
theorem distTo_no {o : List Int} {k : Nat} (h : k < o.length) (hc : hasB (o.take k) o[k] = true) : distB o = false := by
  unfold distB distTo
  rw [List.all_eq_false]
  exact ⟨k, List.mem_range.2 h, by simp [h]; exact hc⟩
def ordB (f : List Ca) (o : List Int) : Bool := allB 0 ((f.length : Int) - 1) o && distB o
def askB (m : Mc) (f : List Ca) (o : List Int) : Bool := goodMc m && goodL f && ordB f o
theorem ordB_in {f : List Ca} {o : List Int} (h : allB 0 ((f.length : Int) - 1) o = true) : InO f o := by
  intro k hk
  unfold allB at h
  rw [List.all_eq_true] at h
  have := h _ (List.getElem_mem hk)
  simp [inB] at this
  exact ⟨o[k].toNat, by omega, by omega⟩
theorem askB_all {m : Mc} {f : List Ca} {o : List Int} (h : askB m f o = true) : goodMc m = true ∧ goodL f = true ∧ InO f o := by
  unfold askB ordB at h
  simp only [Bool.and_eq_true] at h
  exact ⟨h.1.1, h.1.2, ordB_in h.2.1⟩

set_option maxRecDepth 100000 in
set_option maxHeartbeats 1000000 in
theorem csAsked_any (m : Mc) (f : List Ca) (A : Option Addr) (c : Nat) (o : List Int) (B : Option Addr) (d : Nat) (w : World) (hf : CasIn w A f) (hn : f.length ≤ 1048576) (hs : IntsIn w B o) (hk : o.length ≤ 1048576) (hcap : o.length ≤ d) :
    Calls Try.prog 54 #[.agg #[.int .i64 m.bod, .int .i64 m.hou, .int .i64 m.cha], .slice A f.length c, .slice B o.length d] w fun e w' => e = .returned (.bool (askB m f o)) ∧ Below w.heap.size w w' := by
  have HF := Lib.hid hf; have HS := Lib.hid hs; clear hf hs
  have HA : Hid (Below w.heap.size w (w.alloc (.cells #[.int .i64 m.bod, .int .i64 m.hou, .int .i64 m.cha] 32))) := Lib.hid ((Below.refl _ _).alloc (Nat.le_refl _) _)
  go_enter Try.func54, Try.ntmps54
  go_wp2_with fail
  refine (csMachine_any m _).mono ?_
  rintro e w1 ⟨rfl, hb1⟩
  have HB1 := Lib.hid (HA.out.trans (hb1.mono HA.out.size))
  clear hb1 HA
  cases hg : goodMc m
  · have HV : Hid (askB m f o = false) := Lib.hid (by unfold askB; rw [hg]; rfl)
    clear hg
    go_wp2
    go_ret
    exact ⟨ret_bool HV.out.symm, HB1.out⟩
  have HG := Lib.hid hg; clear hg
  go_wp2_with fail
  refine (csGood_any f A c _ (HF.out.below HB1.out (Nat.le_refl _)) hn).mono ?_
  rintro e w2 ⟨rfl, hb2⟩
  have HB2 := Lib.hid (HB1.out.trans (hb2.mono HB1.out.size))
  clear hb2 HB1
  cases hg : goodL f
  · have HV : Hid (askB m f o = false) := Lib.hid (by unfold askB; rw [hg]; simp)
    clear hg
    go_wp2
    go_ret
    exact ⟨ret_bool HV.out.symm, HB2.out⟩
  have HL := Lib.hid hg; clear hg
  go_wp2_with fail
  refine (l1All_any o B d 0 ((f.length : Int) - 1) _ (HS.out.below HB2.out (Nat.le_refl _)) (by unfold maxLen; omega)).mono ?_
  rintro e w3 ⟨rfl, rfl⟩
  cases hg : allB 0 ((f.length : Int) - 1) o
  · have HV : Hid (askB m f o = false) := Lib.hid (by unfold askB ordB; rw [hg]; simp)
    clear hg
    go_wp2
    go_ret
    exact ⟨ret_bool HV.out.symm, HB2.out⟩
  have HV : Hid (askB m f o = distB o) := Lib.hid (by unfold askB ordB; rw [HG.out, HL.out, hg]; rfl)
  clear hg
  have HS2 := Lib.hid (HS.out.below HB2.out (Nat.le_refl _))
  go_wp2
  go_loop [27] (fun i => ∃ k : Nat, k ≤ o.length ∧ i = .int .i64 k ∧ distTo o k = true) (fun i => o.length - (intOf i).toNat)
  case atStart => exact ⟨0, Nat.zero_le _, rfl, rfl⟩
  case round =>
    obtain ⟨k, hkk, rfl, hd⟩ := hrel
    have HD := Lib.hid hd; clear hd
    by_cases hlt : k < o.length
    · have HST := Lib.hid (distTo_succ hlt)
      have HNO := Lib.hid (fun h => distTo_no (o := o) (k := k) hlt h)
      obtain ⟨b, off, rfl, hbl, hc⟩ := HS2.out (by omega)
      have hc0 := hc k hlt
      have HTK : Hid (IntsIn w2 (some ⟨b, off, none⟩) (o.take k)) := Lib.hid (fun _ => ⟨b, off, rfl, hbl, fun q hq => by
        have hq' : q < o.length := by simp at hq; omega
        rw [List.getElem_take]; exact hc q hq'⟩)
      have htl : (o.take k).length = k := by simp; omega
      have HH := l1Has_any (o.take k) (some ⟨b, off, none⟩) d o[k] w2 HTK.out (by rw [htl]; omega)
      rw [htl] at HH
      have HHH := Lib.hid HH
      have hkd : k ≤ d := by omega
      clear hc htl HH
      generalize o[k] = x at *
      generalize hasB (o.take k) x = h at *
      go_wp2_with fail
      refine HHH.out.mono ?_
      rintro e w4 ⟨rfl, rfl⟩
      cases h
      · go_wp2
        go_round
        case rel => exact ⟨k + 1, by omega, by go_num, by rw [HST.out, HD.out]; rfl⟩
        case measure => simp [intOf]; omega
      · go_wp2
        go_ret
        exact ⟨ret_bool (by rw [HV.out]; exact (HNO.out (by first | rfl | trivial)).symm), HB2.out⟩
    · obtain rfl : k = o.length := by omega
      go_wp2
      go_ret
      exact ⟨ret_bool (by rw [HV.out]; exact HD.out.symm), HB2.out⟩
end Go.Proofs.Ytpocghcdfpcedaa

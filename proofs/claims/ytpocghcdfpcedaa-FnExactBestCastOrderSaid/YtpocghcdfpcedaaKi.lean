/-
  The contracts of OrderTime, ChangesIn, DoneBy and MeanEnd, in spec and in impl: each answers what the plain words here say and changes nothing that was there.
-/
import Derived.Test.YtpocghcdfpcedaaKh
namespace Go.Proofs.Ytpocghcdfpcedaa
open Go.RowKit
set_option linter.unusedVariables false

def otV (m : Mc) (f : List Ca) (o : List Int) : Int := if askB m f o then (run m f o).t else 0
def chV (m : Mc) (f : List Ca) (o : List Int) : Int := if askB m f o then (run m f o).n else 0
theorem ot_no {m : Mc} {f : List Ca} {o : List Int} (h : askB m f o = false) : otV m f o = 0 ∧ chV m f o = 0 := by unfold otV chV; rw [h]; exact ⟨rfl, rfl⟩
theorem ot_yes {m : Mc} {f : List Ca} {o : List Int} (h : askB m f o = true) : otV m f o = (run m f o).t ∧ chV m f o = (run m f o).n := by unfold otV chV; rw [h]; exact ⟨rfl, rfl⟩
/-- How many of the first k are at most a. -/
def cntLe (l : List Int) (a : Int) (k : Nat) : Int := ((l.take k).countP fun x => decide (x ≤ a) : Nat)
theorem cntLe_succ {l : List Int} {k : Nat} (h : k < l.length) (a : Int) : cntLe l a (k + 1) = cntLe l a k + if l[k] ≤ a then 1 else 0 := by
  unfold cntLe
  rw [List.take_succ_eq_append_getElem h, List.countP_append, List.countP_singleton]
  split <;> rename_i h1 <;> simp at h1 <;> simp [h1] <;> omega
theorem cntLe_range (l : List Int) (a : Int) (k : Nat) : 0 ≤ cntLe l a k ∧ cntLe l a k ≤ (k : Int) := by
  unfold cntLe
  have h := List.countP_le_length (p := fun x => decide (x ≤ a)) (l := l.take k)
  simp at h
  omega
def sumTo (l : List Int) (k : Nat) : Int := (l.take k).sum
theorem sumTo_succ {l : List Int} {k : Nat} (h : k < l.length) : sumTo l (k + 1) = sumTo l k + l[k] := by
  unfold sumTo; rw [List.take_succ_eq_append_getElem h, List.sum_append]; simp only [List.sum_cons, List.sum_nil, Int.add_zero]
def dnB (m : Mc) (f : List Ca) (o : List Int) (a : Int) : Bool := askB m f o && inB 0 100000 a
def dnV (m : Mc) (f : List Ca) (o : List Int) (a : Int) : Int := if dnB m f o a then cntLe (endsL m f o) a o.length else 0
def meB (m : Mc) (f : List Ca) (o : List Int) : Bool := askB m f o && decide (0 < o.length)
def meV (m : Mc) (f : List Ca) (o : List Int) : Int := if meB m f o then sumTo (endsL m f o) o.length else 0
def meN (m : Mc) (f : List Ca) (o : List Int) : Int := if meB m f o then (o.length : Int) else 0
theorem dn_no {m : Mc} {f : List Ca} {o : List Int} {a : Int} (h : dnB m f o a = false) : dnV m f o a = 0 := by unfold dnV; rw [h]; rfl
theorem dn_yes {m : Mc} {f : List Ca} {o : List Int} {a : Int} (h : dnB m f o a = true) : dnV m f o a = cntLe (endsL m f o) a o.length := by unfold dnV; rw [h]; rfl
theorem me_no {m : Mc} {f : List Ca} {o : List Int} (h : meB m f o = false) : meV m f o = 0 ∧ meN m f o = 0 := by unfold meV meN; rw [h]; exact ⟨rfl, rfl⟩
theorem me_yes {m : Mc} {f : List Ca} {o : List Int} (h : meB m f o = true) : meV m f o = sumTo (endsL m f o) o.length ∧ meN m f o = (o.length : Int) := by unfold meV meN; rw [h]; exact ⟨rfl, rfl⟩
theorem ret_iib {a a' b b' : Int} {c c' : Bool} (h1 : a = a') (h2 : b = b') (h3 : c = c') : Ending.returned (.tuple #[.int .i64 a, .int .i64 b, .bool c]) = .returned (.tuple #[.int .i64 a', .int .i64 b', .bool c']) := by rw [h1, h2, h3]
/-- Each end is far from the ints' bounds. -/
theorem ends_range {m : Mc} {f : List Ca} {o : List Int} (hm : goodMc m = true) (hL : goodL f = true) (ho : InO f o) (hk : o.length ≤ 1048576) {k : Nat} (h : k < (endsL m f o).length) : 0 ≤ (endsL m f o)[k] ∧ (endsL m f o)[k] ≤ 6400000000000 := by
  rw [endsL_at]
  have h' : k < o.length := by rwa [endsL_len] at h
  have := (run_ok hm hL ho (k + 1) h').2.1
  omega

set_option maxRecDepth 100000 in
theorem specOrderTime_any (m : Mc) (f : List Ca) (A : Option Addr) (c : Nat) (o : List Int) (B : Option Addr) (d : Nat) (w : World) (hf : CasIn w A f) (hn : f.length ≤ 1048576) (hs : IntsIn w B o) (hk : o.length ≤ 1048576) (hcap : o.length ≤ d) :
    Calls Try.prog 25 #[.agg #[.int .i64 m.bod, .int .i64 m.hou, .int .i64 m.cha], .slice A f.length c, .slice B o.length d] w fun e w' => e = .returned (.tuple #[.int .i64 (otV m f o), .bool (askB m f o)]) ∧ Below w.heap.size w w' := by
  have HF := Lib.hid hf; have HS := Lib.hid hs; clear hf hs
  have HA : Hid (Below w.heap.size w (w.alloc (.cells #[.int .i64 m.bod, .int .i64 m.hou, .int .i64 m.cha] 32))) := Lib.hid ((Below.refl _ _).alloc (Nat.le_refl _) _)
  have HM : Hid (McAt (w.alloc (.cells #[.int .i64 m.bod, .int .i64 m.hou, .int .i64 m.cha] 32)) w.heap.size 32 m) := Lib.hid (McAt.new _ _ _)
  go_enter Try.func25, Try.ntmps25
  go_wp2_with fail
  refine (csAsked_any m f A c o B d _ (HF.out.below HA.out (Nat.le_refl _)) hn (HS.out.below HA.out (Nat.le_refl _)) hk hcap).mono ?_
  rintro e w1 ⟨rfl, hb1⟩
  have HB1 := Lib.hid (HA.out.trans (hb1.mono HA.out.size))
  have HM1 := Lib.hid (HM.out.next hb1)
  clear hb1 HA HM
  cases hg : askB m f o
  · have HV := Lib.hid (ot_no hg)
    have HG := Lib.hid hg; clear hg
    go_wp2
    refine bodyPost_ret (v := .tuple #[.int .i64 (0), .bool false]) (by simp [results, Try.results25, go_sem]) rfl ?_
    exact ⟨ret_ib HV.out.1.symm HG.out.symm, HB1.out⟩
  have HV := Lib.hid (ot_yes hg)
  obtain ⟨h1, h2, h3⟩ := askB_all hg
  have HO := Lib.hid h3; have HG := Lib.hid hg
  clear hg h3
  obtain ⟨m0, m1, m2⟩ := HM1.out.cells
  have ml := HM1.out.lt
  go_wp2_with fail
  refine (csLast_any m f A c o B d _ (HF.out.below HB1.out (Nat.le_refl _)) hn (HS.out.below HB1.out (Nat.le_refl _)) hk h1 h2 HO.out).mono ?_
  rintro e w2 ⟨rfl, hb2⟩
  have HB2 := Lib.hid (HB1.out.trans (hb2.mono HB1.out.size))
  clear hb2 m0 m1 m2 ml HM1 HB1
  generalize (run m f o).t = T at *
  go_wp2
  refine bodyPost_ret (v := .tuple #[.int .i64 (T), .bool true]) (by simp [results, Try.results25, go_sem]) rfl ?_
  exact ⟨ret_ib HV.out.1.symm HG.out.symm, HB2.out⟩
set_option maxRecDepth 100000 in
theorem specChangesIn_any (m : Mc) (f : List Ca) (A : Option Addr) (c : Nat) (o : List Int) (B : Option Addr) (d : Nat) (w : World) (hf : CasIn w A f) (hn : f.length ≤ 1048576) (hs : IntsIn w B o) (hk : o.length ≤ 1048576) (hcap : o.length ≤ d) :
    Calls Try.prog 29 #[.agg #[.int .i64 m.bod, .int .i64 m.hou, .int .i64 m.cha], .slice A f.length c, .slice B o.length d] w fun e w' => e = .returned (.tuple #[.int .i64 (chV m f o), .bool (askB m f o)]) ∧ Below w.heap.size w w' := by
  have HF := Lib.hid hf; have HS := Lib.hid hs; clear hf hs
  have HA : Hid (Below w.heap.size w (w.alloc (.cells #[.int .i64 m.bod, .int .i64 m.hou, .int .i64 m.cha] 32))) := Lib.hid ((Below.refl _ _).alloc (Nat.le_refl _) _)
  have HM : Hid (McAt (w.alloc (.cells #[.int .i64 m.bod, .int .i64 m.hou, .int .i64 m.cha] 32)) w.heap.size 32 m) := Lib.hid (McAt.new _ _ _)
  go_enter Try.func29, Try.ntmps29
  go_wp2_with fail
  refine (csAsked_any m f A c o B d _ (HF.out.below HA.out (Nat.le_refl _)) hn (HS.out.below HA.out (Nat.le_refl _)) hk hcap).mono ?_
  rintro e w1 ⟨rfl, hb1⟩
  have HB1 := Lib.hid (HA.out.trans (hb1.mono HA.out.size))
  have HM1 := Lib.hid (HM.out.next hb1)
  clear hb1 HA HM
  cases hg : askB m f o
  · have HV := Lib.hid (ot_no hg)
    have HG := Lib.hid hg; clear hg
    go_wp2
    refine bodyPost_ret (v := .tuple #[.int .i64 (0), .bool false]) (by simp [results, Try.results29, go_sem]) rfl ?_
    exact ⟨ret_ib HV.out.2.symm HG.out.symm, HB1.out⟩
  have HV := Lib.hid (ot_yes hg)
  obtain ⟨h1, h2, h3⟩ := askB_all hg
  have HO := Lib.hid h3; have HG := Lib.hid hg
  clear hg h3
  obtain ⟨m0, m1, m2⟩ := HM1.out.cells
  have ml := HM1.out.lt
  go_wp2_with fail
  refine (csEnds_any m f A c o B d _ (HF.out.below HB1.out (Nat.le_refl _)) hn (HS.out.below HB1.out (Nat.le_refl _)) hk h1 h2 HO.out).mono ?_
  intro e w2 hto
  obtain ⟨v, rfl, hb2, hown⟩ := hto
  have HB2 := Lib.hid (HB1.out.trans (hb2.mono HB1.out.size))
  obtain ⟨A1, c1, rfl, -, hin⟩ := own_ints hown
  have HIN := Lib.hid hin
  have HEL := Lib.hid (endsL_len m f o)
  clear hb2 hown hin m0 m1 m2 ml HM1 HB1
  generalize (run m f o).n = T at *
  go_wp2
  refine bodyPost_ret (v := .tuple #[.int .i64 (T), .bool true]) (by simp [results, Try.results29, go_sem]) rfl ?_
  exact ⟨ret_ib HV.out.2.symm HG.out.symm, HB2.out⟩

set_option maxRecDepth 100000 in
set_option maxHeartbeats 1000000 in
theorem specDoneBy_any (m : Mc) (f : List Ca) (A : Option Addr) (c : Nat) (o : List Int) (B : Option Addr) (d : Nat) (a : Int) (w : World) (hf : CasIn w A f) (hn : f.length ≤ 1048576) (hs : IntsIn w B o) (hk : o.length ≤ 1048576) (hcap : o.length ≤ d) :
    Calls Try.prog 36 #[.agg #[.int .i64 m.bod, .int .i64 m.hou, .int .i64 m.cha], .slice A f.length c, .slice B o.length d, .int .i64 a] w fun e w' => e = .returned (.tuple #[.int .i64 (dnV m f o a), .bool (dnB m f o a)]) ∧ Below w.heap.size w w' := by
  have HF := Lib.hid hf; have HS := Lib.hid hs; clear hf hs
  have HA : Hid (Below w.heap.size w (w.alloc (.cells #[.int .i64 m.bod, .int .i64 m.hou, .int .i64 m.cha] 32))) := Lib.hid ((Below.refl _ _).alloc (Nat.le_refl _) _)
  have HM : Hid (McAt (w.alloc (.cells #[.int .i64 m.bod, .int .i64 m.hou, .int .i64 m.cha] 32)) w.heap.size 32 m) := Lib.hid (McAt.new _ _ _)
  go_enter Try.func36, Try.ntmps36
  go_wp2_with fail
  refine (csAsked_any m f A c o B d _ (HF.out.below HA.out (Nat.le_refl _)) hn (HS.out.below HA.out (Nat.le_refl _)) hk hcap).mono ?_
  rintro e w1 ⟨rfl, hb1⟩
  have HB1 := Lib.hid (HA.out.trans (hb1.mono HA.out.size))
  have HM1 := Lib.hid (HM.out.next hb1)
  clear hb1 HA HM
  cases hg : askB m f o
  · have HG : Hid (dnB m f o a = false) := Lib.hid (by unfold dnB; rw [hg]; rfl)
    clear hg
    go_wp2
    refine bodyPost_ret (v := .tuple #[.int .i64 (0), .bool false]) (by simp [results, Try.results36, go_sem]) rfl ?_
    exact ⟨ret_ib (dn_no HG.out).symm HG.out.symm, HB1.out⟩
  obtain ⟨h1, h2, h3⟩ := askB_all hg
  have HO := Lib.hid h3; have HG := Lib.hid hg
  clear hg h3
  go_wp2_with fail
  refine (csMinutes_any a _).mono ?_
  rintro e w' ⟨rfl, rfl⟩
  cases hi : inB 0 100000 a
  · have HG2 : Hid (dnB m f o a = false) := Lib.hid (by unfold dnB; rw [hi]; simp)
    clear hi
    go_wp2
    refine bodyPost_ret (v := .tuple #[.int .i64 (0), .bool false]) (by simp [results, Try.results36, go_sem]) rfl ?_
    exact ⟨ret_ib (dn_no HG2.out).symm HG2.out.symm, HB1.out⟩
  have HG2 : Hid (dnB m f o a = true) := Lib.hid (by unfold dnB; rw [hi, HG.out]; rfl)
  clear hi
  obtain ⟨m0, m1, m2⟩ := HM1.out.cells
  have ml := HM1.out.lt
  go_wp2_with fail
  refine (csEnds_any m f A c o B d _ (HF.out.below HB1.out (Nat.le_refl _)) hn (HS.out.below HB1.out (Nat.le_refl _)) hk h1 h2 HO.out).mono ?_
  intro e w2 hto
  obtain ⟨v, rfl, hb2, hown⟩ := hto
  have HB2 := Lib.hid (HB1.out.trans (hb2.mono HB1.out.size))
  obtain ⟨A1, c1, rfl, -, hin⟩ := own_ints hown
  have HIN := Lib.hid hin
  have HEL := Lib.hid (endsL_len m f o)
  clear hb2 hown hin m0 m1 m2 ml HM1 HB1
  rw [HEL.out]
  go_wp2
  go_loop [10, 34] (fun n i => ∃ k : Nat, k ≤ o.length ∧ i = .int .i64 k ∧ n = .int .i64 (cntLe (endsL m f o) a k)) (fun _ i => o.length - (intOf i).toNat)
  case atStart => exact ⟨0, Nat.zero_le _, rfl, rfl⟩
  case round =>
    obtain ⟨k, hkk, rfl, rfl⟩ := hrel
    by_cases hlt : k < o.length
    · have hle : k < (endsL m f o).length := by rw [HEL.out]; exact hlt
      obtain ⟨b, off, rfl, hbl, hc⟩ := HIN.out (by omega)
      have hc0 := hc k hle
      have HST := Lib.hid (cntLe_succ hle a)
      have hcr := cntLe_range (endsL m f o) a k
      clear hc
      generalize (endsL m f o)[k] = x at *
      generalize hcq : cntLe (endsL m f o) a k = q at *
      clear hcq
      have hkl1 : (k : Int) < (o.length : Int) := by omega
      have hkl0 : (0 : Int) ≤ (k : Int) := by omega
      by_cases hx : x ≤ a
      · have HX : Hid (cntLe (endsL m f o) a (k + 1) = q + 1) := Lib.hid (by rw [HST.out, if_pos hx])
        clear HST hle
        go_wp2
        go_round
        case rel => exact ⟨k + 1, by omega, by go_num, by rw [HX.out]⟩
        case measure => simp [intOf]; omega
      · have HX : Hid (cntLe (endsL m f o) a (k + 1) = q) := Lib.hid (by rw [HST.out, if_neg hx, Int.add_zero])
        clear HST hle
        go_wp2
        go_round
        case rel => exact ⟨k + 1, by omega, by go_num, by rw [HX.out]⟩
        case measure => simp [intOf]; omega
    · obtain rfl : k = o.length := by omega
      have HV := Lib.hid (dn_yes HG2.out)
      generalize cntLe (endsL m f o) a o.length = T at *
      go_wp2
      refine bodyPost_ret (v := .tuple #[.int .i64 (T), .bool true]) (by simp [results, Try.results36, go_sem]) rfl ?_
      exact ⟨ret_ib HV.out.symm HG2.out.symm, HB2.out⟩

set_option maxRecDepth 100000 in
set_option maxHeartbeats 1000000 in
theorem specMeanEnd_any (m : Mc) (f : List Ca) (A : Option Addr) (c : Nat) (o : List Int) (B : Option Addr) (d : Nat) (w : World) (hf : CasIn w A f) (hn : f.length ≤ 1048576) (hs : IntsIn w B o) (hk : o.length ≤ 1048576) (hcap : o.length ≤ d) :
    Calls Try.prog 44 #[.agg #[.int .i64 m.bod, .int .i64 m.hou, .int .i64 m.cha], .slice A f.length c, .slice B o.length d] w fun e w' => e = .returned (.tuple #[.int .i64 (meV m f o), .int .i64 (meN m f o), .bool (meB m f o)]) ∧ Below w.heap.size w w' := by
  have HF := Lib.hid hf; have HS := Lib.hid hs; clear hf hs
  have HA : Hid (Below w.heap.size w (w.alloc (.cells #[.int .i64 m.bod, .int .i64 m.hou, .int .i64 m.cha] 32))) := Lib.hid ((Below.refl _ _).alloc (Nat.le_refl _) _)
  have HM : Hid (McAt (w.alloc (.cells #[.int .i64 m.bod, .int .i64 m.hou, .int .i64 m.cha] 32)) w.heap.size 32 m) := Lib.hid (McAt.new _ _ _)
  go_enter Try.func44, Try.ntmps44
  go_wp2_with fail
  refine (csAsked_any m f A c o B d _ (HF.out.below HA.out (Nat.le_refl _)) hn (HS.out.below HA.out (Nat.le_refl _)) hk hcap).mono ?_
  rintro e w1 ⟨rfl, hb1⟩
  have HB1 := Lib.hid (HA.out.trans (hb1.mono HA.out.size))
  have HM1 := Lib.hid (HM.out.next hb1)
  clear hb1 HA HM
  cases hg : askB m f o
  · have HG : Hid (meB m f o = false) := Lib.hid (by unfold meB; rw [hg]; rfl)
    clear hg
    go_wp2
    refine bodyPost_ret (v := .tuple #[.int .i64 (0), .int .i64 (0), .bool false]) (by simp [results, Try.results44, go_sem]) rfl ?_
    exact ⟨ret_iib (me_no HG.out).1.symm (me_no HG.out).2.symm HG.out.symm, HB1.out⟩
  obtain ⟨h1, h2, h3⟩ := askB_all hg
  have HO := Lib.hid h3; have HG := Lib.hid hg
  clear hg h3
  by_cases h0 : o.length = 0
  · have HG2 : Hid (meB m f o = false) := Lib.hid (by unfold meB; simp [h0])
    have h0' : ((o.length : Int) == 0) = true := by rw [beq_iff_eq]; omega
    clear h0
    go_wp2
    refine bodyPost_ret (v := .tuple #[.int .i64 (0), .int .i64 (0), .bool false]) (by simp [results, Try.results44, go_sem]) rfl ?_
    exact ⟨ret_iib (me_no HG2.out).1.symm (me_no HG2.out).2.symm HG2.out.symm, HB1.out⟩
  have HG2 : Hid (meB m f o = true) := Lib.hid (by unfold meB; rw [HG.out, decide_eq_true (by omega)]; rfl)
  have h0' : ((o.length : Int) == 0) = false := by rw [beq_eq_false_iff_ne]; omega
  have HRG := Lib.hid (fun k hle => ends_range h1 h2 HO.out hk (k := k) hle)
  obtain ⟨m0, m1, m2⟩ := HM1.out.cells
  have ml := HM1.out.lt
  clear h0
  go_wp2_with fail
  refine (csEnds_any m f A c o B d _ (HF.out.below HB1.out (Nat.le_refl _)) hn (HS.out.below HB1.out (Nat.le_refl _)) hk h1 h2 HO.out).mono ?_
  intro e w2 hto
  obtain ⟨v, rfl, hb2, hown⟩ := hto
  have HB2 := Lib.hid (HB1.out.trans (hb2.mono HB1.out.size))
  obtain ⟨A1, c1, rfl, -, hin⟩ := own_ints hown
  have HIN := Lib.hid hin
  have HEL := Lib.hid (endsL_len m f o)
  clear hb2 hown hin m0 m1 m2 ml HM1 HB1
  rw [HEL.out]
  go_wp2
  go_loop [9, 33] (fun n i => ∃ (k : Nat) (T : Int), k ≤ o.length ∧ i = .int .i64 k ∧ n = .int .i64 T ∧ T = sumTo (endsL m f o) k ∧ 0 ≤ T ∧ T ≤ 6400000000000 * (k : Int)) (fun _ i => o.length - (intOf i).toNat)
  case atStart => exact ⟨0, 0, Nat.zero_le _, rfl, rfl, rfl, Int.le_refl _, by simp⟩
  case round =>
    obtain ⟨k, T, hkk, rfl, rfl, hT, hr0, hr1⟩ := hrel
    have HT := Lib.hid hT; clear hT
    by_cases hlt : k < o.length
    · have hle : k < (endsL m f o).length := by rw [HEL.out]; exact hlt
      obtain ⟨b, off, rfl, hbl, hc⟩ := HIN.out (by omega)
      have hc0 := hc k hle
      have HST := Lib.hid (sumTo_succ hle)
      have hxr := HRG.out k hle
      clear hc
      generalize (endsL m f o)[k] = x at *
      have hkl1 : (k : Int) < (o.length : Int) := by omega
      have hkl0 : (0 : Int) ≤ (k : Int) := by omega
      clear hle
      go_wp2
      go_round
      case rel => exact ⟨k + 1, _, by omega, by go_num, rfl, by rw [HST.out, HT.out], by omega, by rw [show ((k + 1 : Nat) : Int) = (k : Int) + 1 from by omega]; omega⟩
      case measure => simp [intOf]; omega
    · obtain rfl : k = o.length := by omega
      have HV := Lib.hid (me_yes HG2.out)
      go_wp2
      refine bodyPost_ret (v := .tuple #[.int .i64 (T), .int .i64 ((o.length : Int)), .bool true]) (by simp [results, Try.results44, go_sem]) rfl ?_
      exact ⟨ret_iib (HT.out.trans HV.out.1.symm) HV.out.2.symm HG2.out.symm, HB2.out⟩

set_option maxRecDepth 100000 in
set_option maxHeartbeats 1000000 in
theorem implOrderTime_any (m : Mc) (f : List Ca) (A : Option Addr) (c : Nat) (o : List Int) (B : Option Addr) (d : Nat) (w : World) (hf : CasIn w A f) (hn : f.length ≤ 1048576) (hs : IntsIn w B o) (hk : o.length ≤ 1048576) :
    Calls Try.prog 27 #[.agg #[.int .i64 m.bod, .int .i64 m.hou, .int .i64 m.cha], .slice A f.length c, .slice B o.length d] w fun e w' => e = .returned (.tuple #[.int .i64 (otV m f o), .bool (askB m f o)]) ∧ Below w.heap.size w w' := by
  have HF := Lib.hid hf; have HS := Lib.hid hs; clear hf hs
  have HA : Hid (Below w.heap.size w (w.alloc (.cells #[.int .i64 m.bod, .int .i64 m.hou, .int .i64 m.cha] 32))) := Lib.hid ((Below.refl _ _).alloc (Nat.le_refl _) _)
  have HM : Hid (McAt (w.alloc (.cells #[.int .i64 m.bod, .int .i64 m.hou, .int .i64 m.cha] 32)) w.heap.size 32 m) := Lib.hid (McAt.new _ _ _)
  go_enter Try.func27, Try.ntmps27
  go_wp2_with fail
  refine (implEndsOf_any m f A c o B d _ (HF.out.below HA.out (Nat.le_refl _)) hn (HS.out.below HA.out (Nat.le_refl _)) hk).mono ?_
  intro e w2 hto
  obtain ⟨v, T0, rfl, hb2, hown⟩ := hto
  have HB2 := Lib.hid (HA.out.trans (hb2.mono HA.out.size))
  obtain ⟨A1, c1, rfl, -, hin⟩ := own_ints hown
  have HIN0 := Lib.hid hin
  clear hb2 hown hin HM HA
  cases hg : askB m f o
  · have HV := Lib.hid (ot_no hg)
    have HG := Lib.hid hg
    rw [en_no hg]
    clear hg
    go_wp2
    refine bodyPost_ret (v := .tuple #[.int .i64 (0), .bool false]) (by simp [results, Try.results27, go_sem]) rfl ?_
    exact ⟨ret_ib HV.out.1.symm HG.out.symm, HB2.out⟩
  have HV := Lib.hid (ot_yes hg)
  have HIN : Hid (IntsIn w2 A1 (endsL m f o)) := Lib.hid (by rw [← en_yes hg]; exact HIN0.out)
  have HEL := Lib.hid (endsL_len m f o)
  have hel : (enV m f o).length = o.length := by rw [en_yes hg, endsL_len]
  rw [hel]
  obtain ⟨h1, h2, h3⟩ := askB_all hg
  have HO := Lib.hid h3; have HG := Lib.hid hg
  clear hg h3 hel HIN0
  by_cases h0 : o.length = 0
  · have HR : Hid ((run m f o).t = 0) := Lib.hid (by rw [List.length_eq_zero_iff.1 h0]; rfl)
    have h0' : ((o.length : Int) == 0) = true := by rw [beq_iff_eq]; omega
    clear h0
    go_wp2
    refine bodyPost_ret (v := .tuple #[.int .i64 (0), .bool true]) (by simp [results, Try.results27, go_sem]) rfl ?_
    exact ⟨ret_ib (by rw [HV.out.1, HR.out]) HG.out.symm, HB2.out⟩
  · obtain ⟨k, hk1⟩ : ∃ k, k + 1 = o.length := ⟨o.length - 1, by omega⟩
    have hle : k < (endsL m f o).length := by rw [HEL.out]; omega
    have HR := Lib.hid (endsL_last m f o hle hk1)
    obtain ⟨b, off, rfl, hbl, hc⟩ := HIN.out (by omega)
    have hc0 := hc k hle
    rw [HR.out] at hc0
    rw [← hk1]
    have h0' : (((k + 1 : Nat) : Int) == 0) = false := by rw [beq_eq_false_iff_ne]; omega
    have hix : ((k + 1 : Nat) : Int) - 1 = (k : Int) := by omega
    have hkk : k ≤ 1048576 := by omega
    obtain ⟨T, hT⟩ : ∃ T, T = (run m f o).t := ⟨_, rfl⟩
    rw [← hT] at hc0
    have HT := Lib.hid hT
    clear hc h0 hk1 HR hT hle
    go_wp2
    refine bodyPost_ret (v := .tuple #[.int .i64 (T), .bool true]) (by simp [results, Try.results27, go_sem]) rfl ?_
    exact ⟨ret_ib (by rw [HV.out.1, HT.out]) HG.out.symm, HB2.out⟩
set_option maxRecDepth 100000 in
set_option maxHeartbeats 1000000 in
theorem implDoneBy_any (m : Mc) (f : List Ca) (A : Option Addr) (c : Nat) (o : List Int) (B : Option Addr) (d : Nat) (a : Int) (w : World) (hf : CasIn w A f) (hn : f.length ≤ 1048576) (hs : IntsIn w B o) (hk : o.length ≤ 1048576) :
    Calls Try.prog 37 #[.agg #[.int .i64 m.bod, .int .i64 m.hou, .int .i64 m.cha], .slice A f.length c, .slice B o.length d, .int .i64 a] w fun e w' => e = .returned (.tuple #[.int .i64 (dnV m f o a), .bool (dnB m f o a)]) ∧ Below w.heap.size w w' := by
  have HF := Lib.hid hf; have HS := Lib.hid hs; clear hf hs
  have HA : Hid (Below w.heap.size w (w.alloc (.cells #[.int .i64 m.bod, .int .i64 m.hou, .int .i64 m.cha] 32))) := Lib.hid ((Below.refl _ _).alloc (Nat.le_refl _) _)
  have HM : Hid (McAt (w.alloc (.cells #[.int .i64 m.bod, .int .i64 m.hou, .int .i64 m.cha] 32)) w.heap.size 32 m) := Lib.hid (McAt.new _ _ _)
  go_enter Try.func37, Try.ntmps37
  go_wp2_with fail
  refine (implEndsOf_any m f A c o B d _ (HF.out.below HA.out (Nat.le_refl _)) hn (HS.out.below HA.out (Nat.le_refl _)) hk).mono ?_
  intro e w2 hto
  obtain ⟨v, T0, rfl, hb2, hown⟩ := hto
  have HB2 := Lib.hid (HA.out.trans (hb2.mono HA.out.size))
  obtain ⟨A1, c1, rfl, -, hin⟩ := own_ints hown
  have HIN0 := Lib.hid hin
  clear hb2 hown hin HM HA
  cases hg : askB m f o
  · have HG : Hid (dnB m f o a = false) := Lib.hid (by unfold dnB; rw [hg]; rfl)
    rw [en_no hg]
    clear hg
    go_wp2
    refine bodyPost_ret (v := .tuple #[.int .i64 (0), .bool false]) (by simp [results, Try.results37, go_sem]) rfl ?_
    exact ⟨ret_ib (dn_no HG.out).symm HG.out.symm, HB2.out⟩
  have HIN : Hid (IntsIn w2 A1 (endsL m f o)) := Lib.hid (by rw [← en_yes hg]; exact HIN0.out)
  have HEL := Lib.hid (endsL_len m f o)
  have hel : (enV m f o).length = o.length := by rw [en_yes hg, endsL_len]
  rw [hel]
  obtain ⟨h1, h2, h3⟩ := askB_all hg
  have HO := Lib.hid h3; have HG := Lib.hid hg
  clear hg h3 hel HIN0
  go_wp2_with fail
  refine (areCastMinutes_any a _).mono ?_
  rintro e w' ⟨rfl, rfl⟩
  cases hi : inB 0 100000 a
  · have HG2 : Hid (dnB m f o a = false) := Lib.hid (by unfold dnB; rw [hi]; simp)
    clear hi
    go_wp2
    refine bodyPost_ret (v := .tuple #[.int .i64 (0), .bool false]) (by simp [results, Try.results37, go_sem]) rfl ?_
    exact ⟨ret_ib (dn_no HG2.out).symm HG2.out.symm, HB2.out⟩
  have HG2 : Hid (dnB m f o a = true) := Lib.hid (by unfold dnB; rw [hi, HG.out]; rfl)
  clear hi
  go_wp2
  go_loop [12, 31] (fun n i => ∃ k : Nat, k ≤ o.length ∧ i = .int .i64 k ∧ n = .int .i64 (cntLe (endsL m f o) a k)) (fun _ i => o.length - (intOf i).toNat)
  case atStart => exact ⟨0, Nat.zero_le _, rfl, rfl⟩
  case round =>
    obtain ⟨k, hkk, rfl, rfl⟩ := hrel
    by_cases hlt : k < o.length
    · have hle : k < (endsL m f o).length := by rw [HEL.out]; exact hlt
      obtain ⟨b, off, rfl, hbl, hc⟩ := HIN.out (by omega)
      have hc0 := hc k hle
      have HST := Lib.hid (cntLe_succ hle a)
      have hcr := cntLe_range (endsL m f o) a k
      clear hc
      generalize (endsL m f o)[k] = x at *
      generalize hcq : cntLe (endsL m f o) a k = q at *
      clear hcq
      have hkl1 : (k : Int) < (o.length : Int) := by omega
      have hkl0 : (0 : Int) ≤ (k : Int) := by omega
      by_cases hx : x ≤ a
      · have HX : Hid (cntLe (endsL m f o) a (k + 1) = q + 1) := Lib.hid (by rw [HST.out, if_pos hx])
        clear HST hle
        go_wp2
        go_round
        case rel => exact ⟨k + 1, by omega, by go_num, by rw [HX.out]⟩
        case measure => simp [intOf]; omega
      · have HX : Hid (cntLe (endsL m f o) a (k + 1) = q) := Lib.hid (by rw [HST.out, if_neg hx, Int.add_zero])
        clear HST hle
        go_wp2
        go_round
        case rel => exact ⟨k + 1, by omega, by go_num, by rw [HX.out]⟩
        case measure => simp [intOf]; omega
    · obtain rfl : k = o.length := by omega
      have HV := Lib.hid (dn_yes HG2.out)
      generalize cntLe (endsL m f o) a o.length = T at *
      go_wp2
      refine bodyPost_ret (v := .tuple #[.int .i64 (T), .bool true]) (by simp [results, Try.results37, go_sem]) rfl ?_
      exact ⟨ret_ib HV.out.symm HG2.out.symm, HB2.out⟩
set_option maxRecDepth 100000 in
set_option maxHeartbeats 1000000 in
theorem implMeanEnd_any (m : Mc) (f : List Ca) (A : Option Addr) (c : Nat) (o : List Int) (B : Option Addr) (d : Nat) (w : World) (hf : CasIn w A f) (hn : f.length ≤ 1048576) (hs : IntsIn w B o) (hk : o.length ≤ 1048576) :
    Calls Try.prog 45 #[.agg #[.int .i64 m.bod, .int .i64 m.hou, .int .i64 m.cha], .slice A f.length c, .slice B o.length d] w fun e w' => e = .returned (.tuple #[.int .i64 (meV m f o), .int .i64 (meN m f o), .bool (meB m f o)]) ∧ Below w.heap.size w w' := by
  have HF := Lib.hid hf; have HS := Lib.hid hs; clear hf hs
  have HA : Hid (Below w.heap.size w (w.alloc (.cells #[.int .i64 m.bod, .int .i64 m.hou, .int .i64 m.cha] 32))) := Lib.hid ((Below.refl _ _).alloc (Nat.le_refl _) _)
  have HM : Hid (McAt (w.alloc (.cells #[.int .i64 m.bod, .int .i64 m.hou, .int .i64 m.cha] 32)) w.heap.size 32 m) := Lib.hid (McAt.new _ _ _)
  go_enter Try.func45, Try.ntmps45
  go_wp2_with fail
  refine (implEndsOf_any m f A c o B d _ (HF.out.below HA.out (Nat.le_refl _)) hn (HS.out.below HA.out (Nat.le_refl _)) hk).mono ?_
  intro e w2 hto
  obtain ⟨v, T0, rfl, hb2, hown⟩ := hto
  have HB2 := Lib.hid (HA.out.trans (hb2.mono HA.out.size))
  obtain ⟨A1, c1, rfl, -, hin⟩ := own_ints hown
  have HIN0 := Lib.hid hin
  clear hb2 hown hin HM HA
  cases hg : askB m f o
  · have HG : Hid (meB m f o = false) := Lib.hid (by unfold meB; rw [hg]; rfl)
    rw [en_no hg]
    clear hg
    go_wp2
    refine bodyPost_ret (v := .tuple #[.int .i64 (0), .int .i64 (0), .bool false]) (by simp [results, Try.results45, go_sem]) rfl ?_
    exact ⟨ret_iib (me_no HG.out).1.symm (me_no HG.out).2.symm HG.out.symm, HB2.out⟩
  have HIN : Hid (IntsIn w2 A1 (endsL m f o)) := Lib.hid (by rw [← en_yes hg]; exact HIN0.out)
  have HEL := Lib.hid (endsL_len m f o)
  have hel : (enV m f o).length = o.length := by rw [en_yes hg, endsL_len]
  rw [hel]
  obtain ⟨h1, h2, h3⟩ := askB_all hg
  have HO := Lib.hid h3; have HG := Lib.hid hg
  clear hg h3 hel HIN0
  by_cases h0 : o.length = 0
  · have HG2 : Hid (meB m f o = false) := Lib.hid (by unfold meB; simp [h0])
    have h0' : ((o.length : Int) == 0) = true := by rw [beq_iff_eq]; omega
    clear h0
    go_wp2
    refine bodyPost_ret (v := .tuple #[.int .i64 (0), .int .i64 (0), .bool false]) (by simp [results, Try.results45, go_sem]) rfl ?_
    exact ⟨ret_iib (me_no HG2.out).1.symm (me_no HG2.out).2.symm HG2.out.symm, HB2.out⟩
  have HG2 : Hid (meB m f o = true) := Lib.hid (by unfold meB; rw [HG.out, decide_eq_true (by omega)]; rfl)
  have h0' : ((o.length : Int) == 0) = false := by rw [beq_eq_false_iff_ne]; omega
  have HRG := Lib.hid (fun k hle => ends_range h1 h2 HO.out hk (k := k) hle)
  clear h0
  go_wp2
  go_loop [11, 30] (fun n i => ∃ (k : Nat) (T : Int), k ≤ o.length ∧ i = .int .i64 k ∧ n = .int .i64 T ∧ T = sumTo (endsL m f o) k ∧ 0 ≤ T ∧ T ≤ 6400000000000 * (k : Int)) (fun _ i => o.length - (intOf i).toNat)
  case atStart => exact ⟨0, 0, Nat.zero_le _, rfl, rfl, rfl, Int.le_refl _, by simp⟩
  case round =>
    obtain ⟨k, T, hkk, rfl, rfl, hT, hr0, hr1⟩ := hrel
    have HT := Lib.hid hT; clear hT
    by_cases hlt : k < o.length
    · have hle : k < (endsL m f o).length := by rw [HEL.out]; exact hlt
      obtain ⟨b, off, rfl, hbl, hc⟩ := HIN.out (by omega)
      have hc0 := hc k hle
      have HST := Lib.hid (sumTo_succ hle)
      have hxr := HRG.out k hle
      clear hc
      generalize (endsL m f o)[k] = x at *
      have hkl1 : (k : Int) < (o.length : Int) := by omega
      have hkl0 : (0 : Int) ≤ (k : Int) := by omega
      clear hle
      go_wp2
      go_round
      case rel => exact ⟨k + 1, _, by omega, by go_num, rfl, by rw [HST.out, HT.out], by omega, by rw [show ((k + 1 : Nat) : Int) = (k : Int) + 1 from by omega]; omega⟩
      case measure => simp [intOf]; omega
    · obtain rfl : k = o.length := by omega
      have HV := Lib.hid (me_yes HG2.out)
      go_wp2
      refine bodyPost_ret (v := .tuple #[.int .i64 (T), .int .i64 ((o.length : Int)), .bool true]) (by simp [results, Try.results45, go_sem]) rfl ?_
      exact ⟨ret_iib (HT.out.trans HV.out.1.symm) HV.out.2.symm HG2.out.symm, HB2.out⟩
end Go.Proofs.Ytpocghcdfpcedaa

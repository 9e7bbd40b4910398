/-
  The contracts of IsEnough, in spec and in impl: each answers what the plain words here say and changes nothing that was there.
-/
import Derived.Test.YtdomccamkiplcaaCop
namespace Go.Proofs.Ytdomccamkiplcaa
open Go.RowKit
set_option linter.unusedVariables false

/-- No need is greater than the stock. -/
def enB (need st : List Int) : Bool := (List.range need.length).all fun i => decide (need.getD i 0 ≤ st.getD i 0)
def enTo (need st : List Int) (k : Nat) : Prop := ∀ j, j < k → need.getD j 0 ≤ st.getD j 0
theorem getD_of {l : List Int} {k : Nat} (h : k < l.length) : l.getD k 0 = l[k] := by rw [List.getD_eq_getElem?_getD, List.getElem?_eq_getElem h]; rfl
theorem enTo_succ {need st : List Int} {k : Nat} (h : enTo need st k) (h1 : k < need.length) (h2 : k < st.length) (hk : need[k] ≤ st[k]) : enTo need st (k + 1) := by
  intro j hj
  rcases Nat.lt_or_ge j k with h3 | h3
  · exact h j h3
  · obtain rfl : j = k := by omega
    rw [getD_of h1, getD_of h2]; exact hk
theorem enB_yes {need st : List Int} (h : enTo need st need.length) : enB need st = true := by
  unfold enB; rw [List.all_eq_true]; intro i hi; exact decide_eq_true (h i (List.mem_range.1 hi))
theorem enB_no {need st : List Int} {k : Nat} (h1 : k < need.length) (h2 : k < st.length) (hk : st[k] < need[k]) : enB need st = false := by
  unfold enB; rw [List.all_eq_false]; exact ⟨k, List.mem_range.2 h1, by rw [getD_of h1, getD_of h2]; simpa using hk⟩
noncomputable def askB (f : List (ByteArray × Int)) (st : List Int) (ws : List ByteArray) : Bool := copyB f ws && stockB f st
theorem askB_no {f : List (ByteArray × Int)} {st : List Int} {ws : List ByteArray} (h : copyB f ws = false ∨ stockB f st = false) : askB f st ws = false := by
  unfold askB; rcases h with h | h <;> simp [h]
theorem askB_parts {f : List (ByteArray × Int)} {st : List Int} {ws : List ByteArray} (h : askB f st ws = true) : copyB f ws = true ∧ stockB f st = true := by
  unfold askB at h; simpa using h
theorem biAsk_any (f : List (ByteArray × Int)) (A : Option Addr) (c : Nat) (st : List Int) (C : Option Addr) (q : Nat) (ws : List ByteArray) (B : Option Addr) (d : Nat) (lo : Nat) (w : World) (hf : SortsIn w lo A f) (hn : f.length ≤ 1048576) (ho : CodesOk f) (hi : IntsIn w C st) (hq : st.length ≤ 1048576) (hg : StrsIn w B ws) (ho' : StrsOk ws) (hm : ws.length ≤ 1048576) :
    Calls Try.prog 50 #[.slice A f.length c, .slice C st.length q, .slice B ws.length d] w fun e w' => e = .returned (.bool (askB f st ws)) ∧ Below w.heap.size w w' := biAsked_any f A c st C q ws B d lo w hf hn ho hi hq hg ho' hm
theorem IntsTo.some {w w' : World} {e : Ending} {r : Option (List Int)} {l : List Int} (h : IntsTo w w' e r) (hr : r = some l) : ∃ A c, e = .returned (.tuple #[.slice A l.length c, .bool true]) ∧ Below w.heap.size w w' ∧ w'.ownsRow w.heap.size 3 1 (.slice A l.length c) l.length (intsZ l) := by
  subst hr
  obtain ⟨v, he, hb, ho⟩ := h
  obtain ⟨A, c, rfl⟩ := own_form ho
  exact ⟨A, c, he, hb, ho⟩
theorem IntsTo.none {w w' : World} {e : Ending} {r : Option (List Int)} (h : IntsTo w w' e r) (hr : r = none) : ∃ v, e = .returned (.tuple #[v, .bool false]) ∧ Below w.heap.size w w' := by
  subst hr
  obtain ⟨v, he, hb, ho⟩ := h
  exact ⟨v, he, hb⟩
theorem need_stock {f : List (ByteArray × Int)} {st : List Int} {ws : List ByteArray} (h : askB f st ws = true) : (needF f ws).length = f.length ∧ st.length = f.length ∧ f.length ≤ 32 ∧ 1 ≤ f.length ∧ (∀ i (h : i < (needF f ws).length), 0 ≤ (needF f ws)[i] ∧ (needF f ws)[i] ≤ 640) ∧ allB 0 100000 st = true := by
  obtain ⟨h1, h2⟩ := askB_parts h
  obtain ⟨hF, hw, _⟩ := copy_parts h1
  exact ⟨needF_len f ws, (stock_parts h2).1, hF.2.2, hF.2.1, fun i hi => needF_bound hw hi, (stock_parts h2).2⟩
def ret2b (a b : Bool) : Ending := .returned (.tuple #[.bool a, .bool b])
theorem ret2b_eq {a a' b b' : Bool} (h1 : a = a') (h2 : b = b') : Ending.returned (.tuple #[.bool a, .bool b]) = ret2b a' b' := by rw [h1, h2]; rfl

set_option maxRecDepth 100000 in
theorem specEnough_any (f : List (ByteArray × Int)) (A : Option Addr) (c : Nat) (st : List Int) (C : Option Addr) (q : Nat) (ws : List ByteArray) (B : Option Addr) (d : Nat) (lo : Nat) (w : World) (hf : SortsIn w lo A f) (hn : f.length ≤ 1048576) (ho : CodesOk f) (hi : IntsIn w C st) (hq : st.length ≤ 1048576) (hg : StrsIn w B ws) (ho' : StrsOk ws) (hm : ws.length ≤ 1048576) :
    Calls Try.prog 16 #[.slice A f.length c, .slice C st.length q, .slice B ws.length d] w fun e w' => e = ret2b (askB f st ws && enB (needF f ws) st) (askB f st ws) ∧ Below w.heap.size w w' := by
  have HF := Lib.hid hf; have HG := Lib.hid hg; have HII := Lib.hid hi
  clear hf hg hi
  go_enter Try.func16, Try.ntmps16
  go_wp2_with fail
  refine (biAsk_any f A c st C q ws B d lo _ HF.out hn ho HII.out hq HG.out ho' hm).mono ?_
  rintro e w1 ⟨rfl, hb1⟩
  clear ho ho'
  cases hv : askB f st ws
  · have HV := Lib.hid hv; clear hv
    go_wp2
    go_ret2
    exact ⟨ret2b_eq (by rw [HV.out]; rfl) HV.out.symm, hb1⟩
  have HV := Lib.hid hv; clear hv
  obtain ⟨hcp, hsk⟩ := askB_parts HV.out
  have HCP := Lib.hid (copy_parts hcp)
  have HCR := Lib.hid (canR_yes HCP.out.2.2)
  have HG1 := Lib.hid (HG.out.below hb1 (Nat.le_refl _))
  have HF1 := Lib.hid (HF.out.below hb1 (Nat.le_refl _))
  have HB1 := Lib.hid hb1
  clear hcp hsk hb1
  go_wp2_with fail
  refine (biNeed_any f A c ws B d lo _ HF1.out HCP.out.1 HG1.out HCP.out.2.1).mono ?_
  intro e w2 hto
  obtain ⟨A2, c2, rfl, hb2, ho2⟩ := hto.some HCR.out
  have HI := Lib.hid (own_in ho2)
  have HB := Lib.hid (HB1.out.trans (hb2.mono HB1.out.size))
  have HC := Lib.hid (HII.out.below HB.out (Nat.le_refl _))
  clear hto hb2 ho2 HB1 HG1 HF1
  obtain ⟨hNl, hSl, h32, h1l, hNb, hSb⟩ := need_stock HV.out
  have HNB := Lib.hid hNb; have HSB := Lib.hid hSb
  clear hNb hSb
  obtain ⟨N, hN⟩ : ∃ N, N = needF f ws := ⟨_, rfl⟩
  rw [← hN] at HI hNl HNB ⊢
  have HNN := Lib.hid hN; clear hN
  go_wp2
  go_loop [25] (fun i => ∃ (k : Nat), k ≤ N.length ∧ i = .int .i64 k ∧ enTo N st k) (fun i => N.length - (intOf i).toNat)
  case atStart => exact ⟨0, Nat.zero_le _, rfl, fun _ h => absurd h (by omega)⟩
  case round =>
    obtain ⟨k, hk, rfl, hs⟩ := hrel
    have HS := Lib.hid hs; clear hs
    by_cases hlt : k < N.length
    · obtain ⟨b, off, rfl, hbl, hc⟩ := HI.out (by omega)
      have hc0 := hc k hlt
      clear hc
      have hlt2 : k < st.length := by omega
      obtain ⟨b', off', rfl, hbl', hd⟩ := HC.out (by omega)
      have hd0 := hd k hlt2
      clear hd
      have hST := enTo_succ HS.out hlt hlt2
      have hNO := enB_no hlt hlt2
      have HST := Lib.hid hST; have HNO := Lib.hid hNO
      clear hST hNO
      generalize N[k] = x at *
      generalize st[k] = y at *
      by_cases hxy : y < x
      · have HE := Lib.hid (HNO.out hxy)
        go_wp2
        go_ret2
        exact ⟨ret2b_eq (by rw [HV.out, ← HNN.out, HE.out]; rfl) HV.out.symm, HB.out⟩
      · have HE := Lib.hid (HST.out (by omega))
        go_wp2
        go_round
        case rel => exact ⟨k + 1, by omega, by go_num, HE.out⟩
        case measure => simp [intOf]; omega
    · obtain rfl : k = N.length := by omega
      have HE := Lib.hid (enB_yes HS.out)
      go_wp2
      go_ret2
      exact ⟨ret2b_eq (by rw [HV.out, ← HNN.out, HE.out]; rfl) HV.out.symm, HB.out⟩

set_option maxRecDepth 100000 in
theorem implEnough_any (f : List (ByteArray × Int)) (A : Option Addr) (c : Nat) (st : List Int) (C : Option Addr) (q : Nat) (ws : List ByteArray) (B : Option Addr) (d : Nat) (lo : Nat) (w : World) (hf : SortsIn w lo A f) (hn : f.length ≤ 1048576) (ho : CodesOk f) (hi : IntsIn w C st) (hq : st.length ≤ 1048576) (hg : StrsIn w B ws) (ho' : StrsOk ws) (hm : ws.length ≤ 1048576) :
    Calls Try.prog 15 #[.slice A f.length c, .slice C st.length q, .slice B ws.length d] w fun e w' => e = ret2b (askB f st ws && enB (needF f ws) st) (askB f st ws) ∧ Below w.heap.size w w' := by
  have HII := Lib.hid hi
  clear hi
  go_enter Try.func15, Try.ntmps15
  go_wp2_with fail
  refine (implCount_any f A c ws B d lo _ hf hn ho hg ho' hm).mono ?_
  intro e w1 hto
  clear hf ho hg ho'
  cases hcp : copyB f ws
  · obtain ⟨v, rfl, hb1⟩ := hto.none (need_no hcp)
    have HV := Lib.hid (askB_no (st := st) (.inl hcp))
    clear hcp hto
    go_wp2
    go_ret2
    exact ⟨ret2b_eq (by rw [HV.out]; rfl) HV.out.symm, hb1⟩
  obtain ⟨A2, c2, rfl, hb1, ho2⟩ := hto.some (need_yes hcp)
  have HB := Lib.hid hb1
  have HC := Lib.hid (HII.out.below hb1 (Nat.le_refl _))
  have HI := Lib.hid (own_in ho2)
  have HCPY := Lib.hid hcp
  clear hto hb1 ho2 hcp
  cases hsk : stockB f st
  · have HV := Lib.hid (askB_no (ws := ws) (.inr hsk))
    have HK := Lib.hid hsk; clear hsk
    go_wp2_with fail
    refine (implStock_is f A c st C q false _ HC.out hn hq HK).mono ?_
    rintro e w2 ⟨rfl, rfl⟩
    go_wp2
    go_ret2
    exact ⟨ret2b_eq (by rw [HV.out]; rfl) HV.out.symm, HB.out⟩
  have HV : Hid (askB f st ws = true) := Lib.hid (by unfold askB; rw [HCPY.out, hsk]; rfl)
  have HK := Lib.hid hsk; clear hsk
  go_wp2_with fail
  refine (implStock_is f A c st C q true _ HC.out hn hq HK).mono ?_
  rintro e w2 ⟨rfl, rfl⟩
  obtain ⟨hNl, hSl, h32, h1l, hNb, hSb⟩ := need_stock HV.out
  have HNB := Lib.hid hNb; have HSB := Lib.hid hSb
  clear hNb hSb
  obtain ⟨N, hN⟩ : ∃ N, N = needF f ws := ⟨_, rfl⟩
  rw [← hN] at HI hNl HNB ⊢
  have HNN := Lib.hid hN; clear hN
  go_wp2
  go_loop [28] (fun i => ∃ (k : Nat), k ≤ N.length ∧ i = .int .i64 k ∧ enTo N st k) (fun i => N.length - (intOf i).toNat)
  case atStart => exact ⟨0, Nat.zero_le _, rfl, fun _ h => absurd h (by omega)⟩
  case round =>
    obtain ⟨k, hk, rfl, hs⟩ := hrel
    have HS := Lib.hid hs; clear hs
    by_cases hlt : k < N.length
    · obtain ⟨b, off, rfl, hbl, hc⟩ := HI.out (by omega)
      have hc0 := hc k hlt
      clear hc
      have hlt2 : k < st.length := by omega
      obtain ⟨b', off', rfl, hbl', hd⟩ := HC.out (by omega)
      have hd0 := hd k hlt2
      clear hd
      have hST := enTo_succ HS.out hlt hlt2
      have hNO := enB_no hlt hlt2
      have HST := Lib.hid hST; have HNO := Lib.hid hNO
      clear hST hNO
      generalize N[k] = x at *
      generalize st[k] = y at *
      by_cases hxy : y < x
      · have HE := Lib.hid (HNO.out hxy)
        go_wp2
        go_ret2
        exact ⟨ret2b_eq (by rw [HV.out, ← HNN.out, HE.out]; rfl) HV.out.symm, HB.out⟩
      · have HE := Lib.hid (HST.out (by omega))
        go_wp2
        go_round
        case rel => exact ⟨k + 1, by omega, by go_num, HE.out⟩
        case measure => simp [intOf]; omega
    · obtain rfl : k = N.length := by omega
      have HE := Lib.hid (enB_yes HS.out)
      go_wp2
      go_ret2
      exact ⟨ret2b_eq (by rw [HV.out, ← HNN.out, HE.out]; rfl) HV.out.symm, HB.out⟩
theorem specEnough_is (f : List (ByteArray × Int)) (A : Option Addr) (c : Nat) (st : List Int) (C : Option Addr) (q : Nat) (ws : List ByteArray) (B : Option Addr) (d : Nat) (lo : Nat) (w : World) (hf : SortsIn w lo A f) (hn : f.length ≤ 1048576) (ho : CodesOk f) (hi : IntsIn w C st) (hq : st.length ≤ 1048576) (hg : StrsIn w B ws) (ho' : StrsOk ws) (hm : ws.length ≤ 1048576) :
    Calls Try.prog 16 #[.slice A f.length c, .slice C st.length q, .slice B ws.length d] w fun e w' => e = .returned (.tuple #[.bool (askB f st ws && enB (needF f ws) st), .bool (askB f st ws)]) ∧ Below w.heap.size w w' :=
  specEnough_any f A c st C q ws B d lo w hf hn ho hi hq hg ho' hm
theorem implEnough_is (f : List (ByteArray × Int)) (A : Option Addr) (c : Nat) (st : List Int) (C : Option Addr) (q : Nat) (ws : List ByteArray) (B : Option Addr) (d : Nat) (lo : Nat) (w : World) (hf : SortsIn w lo A f) (hn : f.length ≤ 1048576) (ho : CodesOk f) (hi : IntsIn w C st) (hq : st.length ≤ 1048576) (hg : StrsIn w B ws) (ho' : StrsOk ws) (hm : ws.length ≤ 1048576) :
    Calls Try.prog 15 #[.slice A f.length c, .slice C st.length q, .slice B ws.length d] w fun e w' => e = .returned (.tuple #[.bool (askB f st ws && enB (needF f ws) st), .bool (askB f st ws)]) ∧ Below w.heap.size w w' :=
  implEnough_any f A c st C q ws B d lo w hf hn ho hi hq hg ho' hm
end Go.Proofs.Ytdomccamkiplcaa

/-
  The contracts of TimesToSet and ScarcestSort, in spec and in impl: each answers what the plain words here say and changes nothing that was there.
-/
import Derived.Test.YtnbnegkoanidmaaGreatDoorMsl
import Derived.Test.YtnbnegkoanidmaaGreatDoorWei
namespace Go.Proofs.YtnbnegkoanidmaaGreatDoor.S1
open Go.RowKit
set_option linter.unusedVariables false

noncomputable def timR (f : List (ByteArray × Int)) (st : List Int) (ws : List ByteArray) : Option Int := (scR f st ws).map fun m => m.s / m.n
noncomputable def scaR (f : List (ByteArray × Int)) (st : List Int) (ws : List ByteArray) : Option Int := (scR f st ws).map fun m => m.i
theorem retIB {a b : Int} {c d : Bool} (h1 : a = b) (h2 : c = d) : Ending.returned (.tuple #[.int .i64 a, .bool c]) = .returned (.tuple #[.int .i64 b, .bool d]) := by rw [h1, h2]

set_option maxRecDepth 100000 in
theorem implSca_any (f : List (ByteArray × Int)) (A : Option Addr) (c : Nat) (st : List Int) (C : Option Addr) (q : Nat) (ws : List ByteArray) (B : Option Addr) (d : Nat) (lo : Nat) (w : World) (hf : SortsIn w lo A f) (hn : f.length ≤ 1048576) (ho : CodesOk f) (hi : IntsIn w C st) (hq : st.length ≤ 1048576) (hg : StrsIn w B ws) (ho' : StrsOk ws) (hm : ws.length ≤ 1048576) :
    Calls Tryz.prog 10 #[.slice A f.length c, .slice C st.length q, .slice B ws.length d] w fun e w' => e = .returned (.tuple #[.int .i64 ((scaR f st ws).getD 0), .bool (scaR f st ws).isSome]) ∧ Below w.heap.size w w' := by
  go_enter Tryz.func10, Tryz.ntmps10
  go_wp2_with fail
  refine (scarcestRow_any f A c st C q ws B d lo _ hf hn ho hi hq hg ho' hm).mono ?_
  rintro e w1 ⟨rfl, hb1⟩
  clear hf ho hi hg ho'
  cases hr : scR f st ws with
  | none =>
    have HN : Hid (scaR f st ws = none) := Lib.hid (by unfold scaR; rw [hr]; rfl)
    have HB2 : Hid (Below w.heap.size w (w1.alloc (.cells #[.int .i64 r0.i, .int .i64 r0.s, .int .i64 r0.n] 63))) := Lib.hid (hb1.alloc hb1.size _)
    simp only [Option.getD_none, Option.isSome_none, r0] at *
    clear hr hb1
    go_wp2
    go_ret2
    exact ⟨by rw [HN.out]; rfl, HB2.out⟩
  | some m =>
    have HN : Hid (scaR f st ws = some m.i) := Lib.hid (by unfold scaR; rw [hr]; rfl)
    have HB2 : Hid (Below w.heap.size w (w1.alloc (.cells #[.int .i64 m.i, .int .i64 m.s, .int .i64 m.n] 63))) := Lib.hid (hb1.alloc hb1.size _)
    simp only [Option.getD_some, Option.isSome_some] at *
    clear hr hb1
    go_wp2
    go_ret2
    exact ⟨by rw [HN.out]; rfl, HB2.out⟩

theorem div_le_div {a b c d : Int} (hb : 0 < b) (hd : 0 < d) (ha : 0 ≤ a) (h : a * d ≤ c * b) : a / b ≤ c / d := by
  rw [Int.le_ediv_iff_mul_le hd]
  have h1 : a / b * b ≤ a := Int.ediv_mul_le a (by omega)
  have h2 : a / b * b * d ≤ a * d := Int.mul_le_mul_of_nonneg_right h1 (by omega)
  have h3 : a / b * d * b ≤ c * b := by
    rw [Int.mul_right_comm]; omega
  exact Int.le_of_mul_le_mul_right h3 hb
/-- The index of the first least row so far; how often it can be set. -/
def bestI : Option Rw → Int | none => -1 | some m => m.i
def timI : Option Rw → Int | none => 100000 | some m => m.s / m.n
theorem tim_step {o : Option Rw} {x : Rw} (hx : (0 ≤ x.s ∧ x.s ≤ 100000) ∧ 0 < x.n) (hm : ∀ m, o = some m → 0 ≤ m.s ∧ 0 < m.n) : (if timI o < x.s / x.n then timI o else x.s / x.n) = timI (some (newM o x)) := by
  have hq : x.s / x.n ≤ 100000 := by
    have h1 : x.s / x.n ≤ x.s := Int.ediv_le_self _ hx.1.1
    omega
  cases o with
  | none =>
    change (if (100000 : Int) < x.s / x.n then (100000 : Int) else x.s / x.n) = x.s / x.n
    rw [if_neg (by omega)]
  | some m =>
    obtain ⟨h0, h1⟩ := hm m rfl
    change (if m.s / m.n < x.s / x.n then m.s / m.n else x.s / x.n) = (pickR x m).s / (pickR x m).n
    unfold pickR
    by_cases h : x.s * m.n < m.s * x.n
    · rw [if_pos h]
      have := div_le_div (a := x.s) (b := x.n) (c := m.s) (d := m.n) hx.2 h1 hx.1.1 (by omega)
      rw [if_neg (by omega)]
    · rw [if_neg h]
      have := div_le_div (a := m.s) (b := m.n) (c := x.s) (d := x.n) h1 hx.2 h0 (by omega)
      by_cases hlt : m.s / m.n < x.s / x.n
      · rw [if_pos hlt]
      · rw [if_neg hlt]; omega

set_option maxRecDepth 100000 in
set_option maxHeartbeats 1000000 in
theorem specSca_any (f : List (ByteArray × Int)) (A : Option Addr) (c : Nat) (st : List Int) (C : Option Addr) (q : Nat) (ws : List ByteArray) (B : Option Addr) (d : Nat) (lo : Nat) (w : World) (hf : SortsIn w lo A f) (hn : f.length ≤ 1048576) (ho : CodesOk f) (hi : IntsIn w C st) (hq : st.length ≤ 1048576) (hg : StrsIn w B ws) (ho' : StrsOk ws) (hm : ws.length ≤ 1048576) :
    Calls Tryz.prog 11 #[.slice A f.length c, .slice C st.length q, .slice B ws.length d] w fun e w' => e = .returned (.tuple #[.int .i64 ((scaR f st ws).getD 0), .bool (scaR f st ws).isSome]) ∧ Below w.heap.size w w' := by
  have HF := Lib.hid hf; have HG := Lib.hid hg; have HII := Lib.hid hi
  clear hf hg hi
  go_enter Tryz.func11, Tryz.ntmps11
  go_wp2_with fail
  refine (biAsk_any f A c st C q ws B d lo _ HF.out hn ho HII.out hq HG.out ho' hm).mono ?_
  rintro e w1 ⟨rfl, hb1⟩
  clear ho ho'
  cases hv : askB f st ws
  · have HN : Hid (scaR f st ws = none) := Lib.hid (by unfold scaR; rw [sc_no (.inl hv)]; rfl)
    clear hv
    go_wp2
    go_ret2
    exact ⟨by rw [HN.out]; rfl, hb1⟩
  have HV := Lib.hid hv; clear hv
  obtain ⟨hcp, hsk⟩ := askB_parts HV.out
  have HCP := Lib.hid (copy_parts hcp)
  have HCPY := Lib.hid hcp
  have HCR := Lib.hid (canR_yes HCP.out.2.2)
  have HG1 := Lib.hid (HG.out.below hb1 (Nat.le_refl _))
  have HF1 := Lib.hid (HF.out.below hb1 (Nat.le_refl _))
  have HB1 := Lib.hid hb1
  clear hcp hsk hb1
  have HSC : Hid (scaR f st ws = (lastMin (supTo (needF f ws) st (needF f ws).length)).map fun m => m.i) := Lib.hid (by
    by_cases h0 : 0 < ws.length
    · unfold scaR; rw [sc_yes HV.out h0]
    · unfold scaR; rw [sc_no (.inr h0), need_none h0])
  go_wp2_with fail
  refine (biNeed_any f A c ws B d lo _ HF1.out HCP.out.1 HG1.out HCP.out.2.1).mono ?_
  intro e w2 hto
  obtain ⟨A2, c2, rfl, hb2, ho2⟩ := hto.some HCR.out
  have HI := Lib.hid (own_in ho2)
  have HB := Lib.hid (HB1.out.trans (hb2.mono HB1.out.size))
  have HC := Lib.hid (HII.out.below HB.out (Nat.le_refl _))
  clear hto hb2 ho2 HB1 HG1 HF1
  obtain ⟨hNl, hSl, h32, h1l, hNb, hSb⟩ := need_stock HV.out
  have HNB := Lib.hid hNb; have HSB := Lib.hid hSb
  have hNs : (needF f ws).length ≤ st.length := by omega
  have hs32 : st.length ≤ 32 := by omega
  have hN32 : (needF f ws).length ≤ 32 := by omega
  clear hNb hSb hNl hSl
  obtain ⟨N, hN⟩ : ∃ N, N = needF f ws := ⟨_, rfl⟩
  rw [← hN] at HI HNB hNs hN32 HSC ⊢
  clear hN
  go_wp2
  go_loopw [10, 26] (fun t i wr => ∃ (k : Nat) (T : Int), k ≤ N.length ∧ i = .int .i64 k ∧ t = .int .i64 T ∧ T = bestI (lastMin (supTo N st k)) ∧ Below w2.heap.size w2 wr) (fun _ i _ => N.length - (intOf i).toNat)
  case atStart => exact ⟨0, -1, Nat.zero_le _, rfl, rfl, rfl, Below.refl _ _⟩
  case round =>
    obtain ⟨k, T, hk, rfl, rfl, ht, hbw⟩ := hrel
    have HT := Lib.hid ht; have HBW := Lib.hid hbw; clear ht hbw
    by_cases hlt : k < N.length
    · skip
      obtain ⟨b, off, rfl, hbl, hc⟩ := HI.out (by omega)
      have hc0 := hc k hlt
      clear hc
      have hlt2 : k < st.length := by omega
      obtain ⟨b', off', rfl, hbl', hd⟩ := HC.out (by omega)
      have hd0 := hd k hlt2
      have hx := HNB.out k hlt
      have hy := allB_at hlt2 HSB.out
      have HST := Lib.hid (sup_step hlt hlt2)
      have HMEM : Hid (∀ m, lastMin (supTo N st k) = some m → ∃ i : Nat, i < k ∧ m.i = (i : Int) ∧ m.s = st.getD i 0 ∧ m.n = N.getD i 0 ∧ N.getD i 0 ≠ 0) := Lib.hid fun m h => supTo_mem k (lastMin_mem h)
      have HMB : Hid (∀ m, lastMin (supTo N st k) = some m → (0 ≤ m.s ∧ m.s ≤ 100000) ∧ (0 < m.n ∧ m.n ≤ 640)) := Lib.hid fun m h => by
        obtain ⟨i, h1, _, e1, e2, hne⟩ := HMEM.out m h
        have hi1 : i < N.length := by omega
        have hi2 : i < st.length := by omega
        rw [getD_of hi1] at e2 hne
        rw [getD_of hi2] at e1
        have b1 := HNB.out i hi1
        have b2 := allB_at hi2 HSB.out
        rw [e1, e2]
        omega
      have e0 := (HBW.out.cell (p := ⟨b, off + k, none⟩) hbl).trans hc0
      have e1 := (HBW.out.cell (p := ⟨b', off' + k, none⟩) hbl').trans hd0
      have hbw1 : b < wr.heap.size := Nat.lt_of_lt_of_le hbl HBW.out.size
      have hbw2 : b' < wr.heap.size := Nat.lt_of_lt_of_le hbl' HBW.out.size
      have HRD : Hid (∀ i, i < k → ∀ W, Below wr.heap.size wr W → W.cell? ⟨b, off + i, none⟩ = some (.int .i64 (N.getD i 0)) ∧ W.cell? ⟨b', off' + i, none⟩ = some (.int .i64 (st.getD i 0))) := Lib.hid fun i hi W hW => by
        rw [hW.cell hbw1, hW.cell hbw2, HBW.out.cell (p := ⟨b, off + i, none⟩) hbl, HBW.out.cell (p := ⟨b', off' + i, none⟩) hbl', getD_of (by omega), getD_of (by omega)]
        obtain ⟨b2, o2, hA2, _, hc2⟩ := HI.out (by omega)
        obtain ⟨b3, o3, hA3, _, hc3⟩ := HC.out (by omega)
        cases hA2; cases hA3
        exact ⟨hc2 i (by omega), hc3 i (by omega)⟩
      have x0 := KeptW.cell e0 hbw1
      have x1 := KeptW.cell e1 hbw2
      clear hd hc0 hd0 e1
      generalize N[k] = x at *
      generalize st[k] = y at *
      have hk1 : (k : Int) < (N.length : Int) := by omega
      have hk2 : (k : Int) < (st.length : Int) := by omega
      have hk0 : (0 : Int) ≤ (k : Int) := by omega
      by_cases hx0 : 0 < x
      rotate_left
      · have hxa : decide (0 < x) = false := decide_eq_false hx0
        have HE : Hid (lastMin (supTo N st (k + 1)) = lastMin (supTo N st k)) := Lib.hid (by rw [HST.out, if_pos (by omega)])
        clear HST HMEM HMB HRD
        go_wp2_with fail
        refine region_kept wr.heap.size (by kernel_rfl) (by kernel_rfl) ?_
        repeat (go_big_quiet_step (fail))
        refine wpQuiet_nil ?_
        intro w3 hb3
        have HB3 := Lib.hid (HBW.out.trans (hb3.mono HBW.out.size))
        clear hb3 x0 x1 e0
        go_wp2
        go_roundw
        case rel => exact ⟨k + 1, T, by omega, by go_num, rfl, by rw [HE.out]; exact HT.out, HB3.out⟩
        case measure => simp [intOf]; omega
      have hxa : decide (0 < x) = true := decide_eq_true hx0
      cases hr : lastMin (supTo N st k) with
      | none =>
        have HE : Hid ((k : Int) = bestI (lastMin (supTo N st (k + 1)))) := Lib.hid (by rw [HST.out, if_neg (show ¬ x = 0 by omega), hr]; rfl)
        have hT : T = -1 := by rw [HT.out, hr]; rfl
        subst hT
        clear hr HST HMEM HMB HRD
        go_wp2_with fail
        refine region_kept wr.heap.size (by kernel_rfl) (by kernel_rfl) ?_
        repeat (go_big_quiet_step (fail))
        refine wpQuiet_nil ?_
        intro w3 hb3
        have HB3 := Lib.hid (HBW.out.trans (hb3.mono HBW.out.size))
        clear hb3 x0 x1 e0
        go_wp2
        go_roundw
        case rel => exact ⟨k + 1, (k : Int), by omega, by go_num, rfl, HE.out, HB3.out⟩
        case measure => simp [intOf]; omega
      | some m =>
        obtain ⟨i, hik, hmi, hms, hmn, _⟩ := HMEM.out m hr
        obtain ⟨⟨ms0, ms1⟩, ⟨mn0, mn1⟩⟩ := HMB.out m hr
        have hT : T = (i : Int) := by rw [HT.out, hr]; exact hmi
        subst hT
        have hTa : decide ((i : Int) < 0) = false := decide_eq_false (by omega)
        have y0 : ∀ X : KeptW wr.heap.size wr, X.at_.cell? ⟨b, off + i, none⟩ = some (.int .i64 m.n) := fun X => by rw [hmn]; exact (HRD.out i hik _ X.below).1
        have y1 : ∀ X : KeptW wr.heap.size wr, X.at_.cell? ⟨b', off' + i, none⟩ = some (.int .i64 m.s) := fun X => by rw [hms]; exact (HRD.out i hik _ X.below).2
        have HEY : Hid (y * m.n < m.s * x → (k : Int) = bestI (lastMin (supTo N st (k + 1)))) := Lib.hid fun h => by rw [HST.out, if_neg (show ¬ x = 0 by omega), hr]; show _ = (pickR _ m).i; unfold pickR; rw [if_pos h]
        have HEN : Hid (¬ y * m.n < m.s * x → (i : Int) = bestI (lastMin (supTo N st (k + 1)))) := Lib.hid fun h => by rw [HST.out, if_neg (show ¬ x = 0 by omega), hr]; show _ = (pickR _ m).i; unfold pickR; rw [if_neg h]; exact hmi.symm
        obtain ⟨p0, p1⟩ := mul_bd hy.1 hy.2 (by omega : (0 : Int) ≤ m.n) mn1
        obtain ⟨q0, q1⟩ := mul_bd ms0 ms1 (by omega : (0 : Int) ≤ x) hx.2
        simp only [Int.reduceMul] at p1 q1
        have hi1 : (i : Int) < (N.length : Int) := by omega
        have hi2 : (i : Int) < (st.length : Int) := by omega
        have hi0 : (0 : Int) ≤ (i : Int) := by omega
        clear hr HST HMEM HMB HRD hmi hms hmn HT
        generalize m.n = u at *
        generalize m.s = v at *
        by_cases hls : y * u < v * x
        · have HE := Lib.hid (HEY.out hls)
          have hla : decide (y * u < v * x) = true := decide_eq_true hls
          clear HEY HEN
          go_wp2_with fail
          refine region_kept wr.heap.size (by kernel_rfl) (by kernel_rfl) ?_
          repeat (go_big_quiet_step (fail))
          refine wpQuiet_nil ?_
          intro w3 hb3
          have HB3 := Lib.hid (HBW.out.trans (hb3.mono HBW.out.size))
          clear hb3 x0 x1 y0 y1 e0
          go_wp2
          go_roundw
          case rel => exact ⟨k + 1, (k : Int), by omega, by go_num, rfl, HE.out, HB3.out⟩
          case measure => simp [intOf]; omega
        · have HE := Lib.hid (HEN.out hls)
          have hla : decide (y * u < v * x) = false := decide_eq_false hls
          clear HEY HEN
          go_wp2_with fail
          refine region_kept wr.heap.size (by kernel_rfl) (by kernel_rfl) ?_
          repeat (go_big_quiet_step (fail))
          refine wpQuiet_nil ?_
          intro w3 hb3
          have HB3 := Lib.hid (HBW.out.trans (hb3.mono HBW.out.size))
          clear hb3 x0 x1 y0 y1 e0
          go_wp2
          go_roundw
          case rel => exact ⟨k + 1, (i : Int), by omega, by go_num, rfl, HE.out, HB3.out⟩
          case measure => simp [intOf]; omega
    · obtain rfl : k = N.length := by omega
      have HBB := Lib.hid (HB.out.trans (HBW.out.mono HB.out.size))
      have HMEM : Hid (∀ m, lastMin (supTo N st N.length) = some m → ∃ i : Nat, i < N.length ∧ m.i = (i : Int) ∧ m.s = st.getD i 0 ∧ m.n = N.getD i 0 ∧ N.getD i 0 ≠ 0) := Lib.hid fun m h => supTo_mem _ (lastMin_mem h)
      cases hr : lastMin (supTo N st N.length) with
      | none =>
        have HN : Hid (scaR f st ws = none) := Lib.hid (by rw [HSC.out, hr]; rfl)
        have hT : T = -1 := by rw [HT.out, hr]; rfl
        subst hT
        clear hr
        go_wp2
        go_ret2
        exact ⟨by rw [HN.out]; rfl, HBB.out⟩
      | some m =>
        have HN : Hid (scaR f st ws = some T) := Lib.hid (by rw [HSC.out, HT.out, hr]; rfl)
        obtain ⟨i, _, hi, _⟩ := HMEM.out m hr
        have hT : ¬ T < 0 := by rw [HT.out, hr]; show ¬ m.i < 0; omega
        clear hr hi
        go_wp2
        go_ret2
        exact ⟨by rw [HN.out]; rfl, HBB.out⟩
end Go.Proofs.YtnbnegkoanidmaaGreatDoor.S1

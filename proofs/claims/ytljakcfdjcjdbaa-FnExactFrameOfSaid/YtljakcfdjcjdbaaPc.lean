/-
  Counts of a stock, and the contracts of spec.ruCounts, PiecesOf, StockLength, ruRest, RestOfStock and impl.areSlipCounts, PiecesOf, numbersOfSlips, StockLength, RestOfStock, slices.Clone at slips.
-/
import Derived.Test.YtljakcfdjcjdbaaPb
import Derived.Test.YtljakcfdjcjdbaaVb
import Derived.BigRegion
namespace Go.Proofs.Ytljakcfdjcjdbaa
open Go.RowKit
set_option linter.unusedVariables false

/-- The first k are counts. -/
def CUp (f : List Sl) (cs : List Int) (k : Nat) : Prop := ∀ j (h : j < cs.length) (h2 : j < f.length), j < k → 0 ≤ cs[j] ∧ cs[j] ≤ f[j].cnt
structure GoodC (f : List Sl) (cs : List Int) : Prop where
  s : GoodS f
  len : cs.length = f.length
  at_ : CUp f cs f.length
open Classical in
noncomputable def cntsB (f : List Sl) (cs : List Int) : Bool := decide (GoodC f cs)
theorem cntsB_iff {f : List Sl} {cs : List Int} : cntsB f cs = true ↔ GoodC f cs := by unfold cntsB; exact @decide_eq_true_iff _ (Classical.propDecidable _)
theorem cntsB_no {f : List Sl} {cs : List Int} (h : ¬ GoodC f cs) : cntsB f cs = false := by cases hb : cntsB f cs with | false => rfl | true => exact absurd (cntsB_iff.1 hb) h
theorem CUp.start (f : List Sl) (cs : List Int) : CUp f cs 0 := fun _ _ _ h => absurd h (by omega)
theorem CUp.succ {f : List Sl} {cs : List Int} {k : Nat} (h : CUp f cs k) (h1 : k < cs.length) (h2 : k < f.length) (hk : 0 ≤ cs[k] ∧ cs[k] ≤ f[k].cnt) : CUp f cs (k + 1) := fun j hj hj2 hjk => by
  rcases Nat.lt_or_ge j k with h3 | h3
  · exact h j hj hj2 h3
  · obtain rfl : j = k := by omega
    exact hk
theorem cntsB_noK {f : List Sl} {cs : List Int} {k : Nat} (h1 : k < cs.length) (h2 : k < f.length) (h : ¬ (0 ≤ cs[k] ∧ cs[k] ≤ f[k].cnt)) : cntsB f cs = false := cntsB_no fun g => h (g.at_ k h1 h2 h2)
/-- The sums of the counts, and of their Lengths, up to k. -/
def pcS (cs : List Int) : Nat → Int | 0 => 0 | k + 1 => pcS cs k + cs.getD k 0
def lnS (f : List Sl) (cs : List Int) : Nat → Int | 0 => 0 | k + 1 => lnS f cs k + cs.getD k 0 * (f.getD k ⟨0, 0⟩).len
theorem getI {l : List Int} {k : Nat} (h : k < l.length) : l.getD k 0 = l[k] := by rw [List.getD_eq_getElem?_getD, List.getElem?_eq_getElem h]; rfl
theorem getS {f : List Sl} {k : Nat} (h : k < f.length) : f.getD k ⟨0, 0⟩ = f[k] := by rw [List.getD_eq_getElem?_getD, List.getElem?_eq_getElem h]; rfl
theorem pcS_succ {cs : List Int} {k : Nat} (h : k < cs.length) : pcS cs (k + 1) = pcS cs k + cs[k] := by show pcS cs k + cs.getD k 0 = _; rw [getI h]
theorem lnS_succ {f : List Sl} {cs : List Int} {k : Nat} (h : k < cs.length) (h2 : k < f.length) : lnS f cs (k + 1) = lnS f cs k + cs[k] * f[k].len := by
  show lnS f cs k + cs.getD k 0 * (f.getD k ⟨0, 0⟩).len = _; rw [getI h, getS h2]
theorem mul_4000 {c l : Int} (h1 : 0 ≤ c) (h2 : c ≤ 20) (h3 : 1 ≤ l) (h4 : l ≤ 200) : 0 ≤ c * l ∧ c * l ≤ 4000 := by
  refine ⟨Int.mul_nonneg h1 (by omega), ?_⟩
  have := Int.mul_le_mul h2 h4 (by omega) (by omega)
  omega
theorem GoodC.c20 {f : List Sl} {cs : List Int} (h : GoodC f cs) {k : Nat} (hk : k < cs.length) (h2 : k < f.length) : 0 ≤ cs[k] ∧ cs[k] ≤ 20 := by
  have h1 := h.at_ k hk h2 h2
  have h3 := h.s.bd h2
  omega
theorem GoodC.sums {f : List Sl} {cs : List Int} (h : GoodC f cs) : ∀ k, k ≤ f.length → (0 ≤ pcS cs k ∧ pcS cs k ≤ 20 * (k : Int)) ∧ 0 ≤ lnS f cs k ∧ lnS f cs k ≤ 4000 * (k : Int)
  | 0, _ => ⟨⟨Int.le_refl _, by show (0 : Int) ≤ _; omega⟩, Int.le_refl _, by show (0 : Int) ≤ _; omega⟩
  | k + 1, hk => by
    have ih := h.sums k (by omega)
    have hl := h.len
    have h1 := h.c20 (k := k) (by omega) (by omega)
    have h2 := (h.s.bd (j := k) (by omega)).1
    have h3 := mul_4000 h1.1 h1.2 h2.1 h2.2
    rw [pcS_succ (by omega), lnS_succ (by omega) (by omega)]
    omega
noncomputable def pcV (f : List Sl) (cs : List Int) : Int := if cntsB f cs then pcS cs f.length else 0
noncomputable def lnV (f : List Sl) (cs : List Int) : Int := if cntsB f cs then lnS f cs f.length else 0
theorem pcV_no {f : List Sl} {cs : List Int} (h : cntsB f cs = false) : pcV f cs = 0 ∧ lnV f cs = 0 := by unfold pcV lnV; rw [h]; exact ⟨rfl, rfl⟩
theorem pcV_yes {f : List Sl} {cs : List Int} (h : cntsB f cs = true) : pcV f cs = pcS cs f.length ∧ lnV f cs = lnS f cs f.length := by unfold pcV lnV; rw [h]; exact ⟨rfl, rfl⟩

set_option maxRecDepth 100000 in
set_option maxHeartbeats 1000000 in
theorem areSlipCounts_any (f : List Sl) (A : Option Addr) (c : Nat) (cs : List Int) (B : Option Addr) (d : Nat) (w : World) (hf : SlsIn w A f) (hc : IntsIn w B cs) (hn : f.length ≤ 1048576) (hm : cs.length ≤ 1048576) :
    Calls Try.prog 55 #[.slice A f.length c, .slice B cs.length d] w fun e w' => e = .returned (.bool (cntsB f cs)) ∧ Below w.heap.size w w' := by
  have HF := Lib.hid hf; have HC := Lib.hid hc; clear hf hc
  go_enter Try.func55, Try.ntmps55
  go_wp2_with fail
  refine (implIsStock_any f A c _ HF.out hn).mono ?_
  rintro e w1 ⟨rfl, hb1⟩
  have HB1 := Lib.hid hb1
  clear hb1
  cases hg : stkB f
  · skip
    have HV : Hid (cntsB f cs = false) := Lib.hid (cntsB_no fun g => by rw [stkB_iff.2 g.s] at hg; cases hg)
    clear hg
    go_wp2
    go_ret
    exact ⟨ret_bool HV.out.symm, HB1.out⟩
  · have HG := Lib.hid (stkB_iff.1 hg)
    clear hg
    by_cases he : ¬ cs.length = f.length
    · have HV : Hid (cntsB f cs = false) := Lib.hid (cntsB_no fun g => he g.len)
      have hd : ((cs.length : Int) != (f.length : Int)) = true := by simp; omega
      clear he
      go_wp2
      go_ret
      exact ⟨ret_bool HV.out.symm, HB1.out⟩
    have he := Classical.not_not.1 he
    have hd : ((cs.length : Int) != (f.length : Int)) = false := by simp [he]
    have HE := Lib.hid he
    clear he
    go_wp2
    go_loopw [19] (fun i wr => ∃ k : Nat, k ≤ cs.length ∧ i = .int .i64 (k : Int) ∧ CUp f cs k ∧ Below w.heap.size w wr) (fun i _ => cs.length - (intOf i).toNat)
    case atStart => exact ⟨0, Nat.zero_le _, rfl, CUp.start _ _, HB1.out⟩
    case round =>
      obtain ⟨k, hk, rfl, hs, hb⟩ := hrel
      have HS := Lib.hid hs; clear hs
      by_cases hlt : k < cs.length
      · have hlf : k < f.length := by have := HE.out; omega
        obtain ⟨b, off, rfl, hbl, hc⟩ := HF.out (by omega)
        obtain ⟨b', off', rfl, hbl', hc'⟩ := HC.out (by omega)
        have hc1 := (hc k hlf).2
        have hc0 := hc' k hlt
        clear hc hc'
        rw [← hb.cell (p := ⟨b, off + k * 2 + 1, none⟩) hbl] at hc1
        rw [← hb.cell (p := ⟨b', off' + k, none⟩) hbl'] at hc0
        have HNX := Lib.hid (HS.out.succ hlt hlf)
        have HNO := Lib.hid (cntsB_noK (f := f) (cs := cs) hlt hlf)
        generalize f[k].cnt = y at *
        generalize cs[k] = x at *
        have HB := Lib.hid hb
        clear hb
        rcases (by omega : (0 ≤ x ∧ x ≤ y) ∨ x < 0 ∨ (0 ≤ x ∧ y < x)) with ⟨h1, h2⟩ | h1 | ⟨h1, h2⟩
        · have HR := Lib.hid (HNX.out ⟨h1, h2⟩)
          go_wp2
          go_roundw
          case rel => exact ⟨k + 1, by omega, by go_num, HR.out, HB.out⟩
          case measure => simp [intOf]; omega
        · have HR := Lib.hid (HNO.out (by omega))
          go_wp2
          go_ret
          exact ⟨ret_bool HR.out.symm, HB.out⟩
        · have HR := Lib.hid (HNO.out (by omega))
          go_wp2
          go_ret
          exact ⟨ret_bool HR.out.symm, HB.out⟩
      · obtain rfl : k = cs.length := by omega
        have HR : Hid (cntsB f cs = true) := Lib.hid (cntsB_iff.2 ⟨HG.out, HE.out, HE.out ▸ HS.out⟩)
        go_wp2
        go_ret
        exact ⟨ret_bool HR.out.symm, hb⟩
set_option maxRecDepth 100000 in
set_option maxHeartbeats 1000000 in
theorem ruCounts_any (f : List Sl) (A : Option Addr) (c : Nat) (cs : List Int) (B : Option Addr) (d : Nat) (w : World) (hf : SlsIn w A f) (hc : IntsIn w B cs) (hn : f.length ≤ 1048576) (hm : cs.length ≤ 1048576) :
    Calls Try.prog 54 #[.slice A f.length c, .slice B cs.length d] w fun e w' => e = .returned (.bool (cntsB f cs)) ∧ Below w.heap.size w w' := by
  have HF := Lib.hid hf; have HC := Lib.hid hc; clear hf hc
  go_enter Try.func54, Try.ntmps54
  go_wp2_with fail
  refine (ruGood_any f A c _ HF.out hn).mono ?_
  rintro e w1 ⟨rfl, hb1⟩
  have HB1 := Lib.hid hb1
  clear hb1
  cases hg : stkB f
  · skip
    have HV : Hid (cntsB f cs = false) := Lib.hid (cntsB_no fun g => by rw [stkB_iff.2 g.s] at hg; cases hg)
    clear hg
    go_wp2
    go_ret
    exact ⟨ret_bool HV.out.symm, HB1.out⟩
  · have HG := Lib.hid (stkB_iff.1 hg)
    clear hg
    by_cases he : ¬ cs.length = f.length
    · have HV : Hid (cntsB f cs = false) := Lib.hid (cntsB_no fun g => he g.len)
      have hd : ((cs.length : Int) != (f.length : Int)) = true := by simp; omega
      clear he
      go_wp2
      go_ret
      exact ⟨ret_bool HV.out.symm, HB1.out⟩
    have he := Classical.not_not.1 he
    have hd : ((cs.length : Int) != (f.length : Int)) = false := by simp [he]
    have HE := Lib.hid he
    clear he
    go_wp2
    go_loopw [19] (fun i wr => ∃ k : Nat, k ≤ cs.length ∧ i = .int .i64 (k : Int) ∧ CUp f cs k ∧ Below w.heap.size w wr) (fun i _ => cs.length - (intOf i).toNat)
    case atStart => exact ⟨0, Nat.zero_le _, rfl, CUp.start _ _, HB1.out⟩
    case round =>
      obtain ⟨k, hk, rfl, hs, hb⟩ := hrel
      have HS := Lib.hid hs; clear hs
      by_cases hlt : k < cs.length
      · have hlf : k < f.length := by have := HE.out; omega
        obtain ⟨b, off, rfl, hbl, hc⟩ := HF.out (by omega)
        obtain ⟨b', off', rfl, hbl', hc'⟩ := HC.out (by omega)
        have hc1 := (hc k hlf).2
        have hc0 := hc' k hlt
        clear hc hc'
        rw [← hb.cell (p := ⟨b, off + k * 2 + 1, none⟩) hbl] at hc1
        rw [← hb.cell (p := ⟨b', off' + k, none⟩) hbl'] at hc0
        have HNX := Lib.hid (HS.out.succ hlt hlf)
        have HNO := Lib.hid (cntsB_noK (f := f) (cs := cs) hlt hlf)
        generalize f[k].cnt = y at *
        generalize cs[k] = x at *
        have HB := Lib.hid hb
        clear hb
        go_wp2_with fail
        refine (l1In_any _ _ _ _).mono ?_
        rintro e w' ⟨rfl, rfl⟩
        cases hin : inB 0 y x
        · have HR := Lib.hid (HNO.out (fun h => by rw [inBs_iff.2 h] at hin; cases hin))
          clear hin
          go_wp2
          go_ret
          exact ⟨ret_bool HR.out.symm, HB.out⟩
        · have HR := Lib.hid (HNX.out (inBs_iff.1 hin))
          clear hin
          go_wp2
          go_roundw
          case rel => exact ⟨k + 1, by omega, by go_num, HR.out, HB.out⟩
          case measure => simp [intOf]; omega
      · obtain rfl : k = cs.length := by omega
        have HR : Hid (cntsB f cs = true) := Lib.hid (cntsB_iff.2 ⟨HG.out, HE.out, HE.out ▸ HS.out⟩)
        go_wp2
        go_ret
        exact ⟨ret_bool HR.out.symm, hb⟩

theorem ret_iib {a a' b b' : Int} {c c' : Bool} (h1 : a = a') (h2 : b = b') (h3 : c = c') : Ending.returned (.tuple #[.int .i64 a, .int .i64 b, .bool c]) = .returned (.tuple #[.int .i64 a', .int .i64 b', .bool c']) := by rw [h1, h2, h3]
set_option maxRecDepth 100000 in
set_option maxHeartbeats 1000000 in
theorem implPiecesOf_any (f : List Sl) (A : Option Addr) (c : Nat) (cs : List Int) (B : Option Addr) (d : Nat) (w : World) (hf : SlsIn w A f) (hn : f.length ≤ 1048576) (hc : IntsIn w B cs) (hm : cs.length ≤ 1048576) :
    Calls Try.prog 29 #[.slice A f.length c, .slice B cs.length d] w fun e w' => e = .returned (.tuple #[.int .i64 (pcV f cs), .int .i64 (lnV f cs), .bool (cntsB f cs)]) ∧ Below w.heap.size w w' := by
  have HF := Lib.hid hf; have HC := Lib.hid hc; clear hf hc
  go_enter Try.func29, Try.ntmps29
  go_wp2_with fail
  refine (areSlipCounts_any f A c cs B d _ HF.out HC.out hn hm).mono ?_
  rintro e w1 ⟨rfl, hb1⟩
  have HB1 := Lib.hid hb1
  clear hb1
  cases hg : cntsB f cs
  · have HV := Lib.hid (pcV_no hg)
    have HQ := Lib.hid hg
    clear hg
    go_wp2
    refine bodyPost_ret (v := .tuple #[.int .i64 (0), .int .i64 (0), .bool false]) (by simp [results, Try.results29, go_sem]) rfl ?_
    exact ⟨ret_iib HV.out.1.symm HV.out.2.symm HQ.out.symm, HB1.out⟩
  have HV := Lib.hid (pcV_yes hg)
  have HQ := Lib.hid hg
  have HG := Lib.hid (cntsB_iff.1 hg)
  clear hg
  have hn8 := HG.out.s.eight
  have HLE := Lib.hid HG.out.len
  go_wp2
  go_loopw [7, 8, 17] (fun p q i wr => ∃ k : Nat, k ≤ cs.length ∧ i = .int .i64 (k : Int) ∧ p = .int .i64 (pcS cs k) ∧ q = .int .i64 (lnS f cs k) ∧ Below w.heap.size w wr) (fun _ _ i _ => cs.length - (intOf i).toNat)
  case atStart => exact ⟨0, Nat.zero_le _, rfl, rfl, rfl, HB1.out⟩
  case round =>
    obtain ⟨k, hk, rfl, rfl, rfl, hb⟩ := hrel
    by_cases hlt : k < cs.length
    · have hlf : k < f.length := by have := HLE.out; omega
      obtain ⟨b, off, rfl, hbl, hc⟩ := HF.out (by omega)
      obtain ⟨b', off', rfl, hbl', hc'⟩ := HC.out (by omega)
      have hc1 := (hc k hlf).1
      have hc0 := hc' k hlt
      clear hc hc'
      rw [← hb.cell (p := ⟨b, off + k * 2, none⟩) hbl] at hc1
      rw [← hb.cell (p := ⟨b', off' + k, none⟩) hbl'] at hc0
      have h1 := HG.out.c20 hlt hlf
      have h2 := (HG.out.s.bd hlf).1
      have h3 := mul_4000 h1.1 h1.2 h2.1 h2.2
      have h4 := HG.out.sums k (by omega)
      have HP := Lib.hid (pcS_succ hlt); have HL := Lib.hid (lnS_succ hlt hlf)
      have hk8 : (k : Int) ≤ 8 := by omega
      generalize f[k].len = y at *
      generalize cs[k] = x at *
      generalize pcS cs k = p at *
      generalize lnS f cs k = q at *
      have HB := Lib.hid hb
      clear hb
      go_wp2
      go_roundw
      case rel => exact ⟨k + 1, by omega, by go_num, by rw [HP.out], by rw [HL.out], HB.out⟩
      case measure => simp [intOf]; omega
    · obtain rfl : k = cs.length := by omega
      go_wp2
      refine bodyPost_ret (v := .tuple #[.int .i64 (pcS cs cs.length), .int .i64 (lnS f cs cs.length), .bool true]) (by simp [results, Try.results29, go_sem]) rfl ?_
      exact ⟨ret_iib (by rw [HV.out.1, HLE.out]) (by rw [HV.out.2, HLE.out]) HQ.out.symm, hb⟩
set_option maxRecDepth 100000 in
set_option maxHeartbeats 1000000 in
theorem specPiecesOf_any (f : List Sl) (A : Option Addr) (c : Nat) (cs : List Int) (B : Option Addr) (d : Nat) (w : World) (hf : SlsIn w A f) (hn : f.length ≤ 1048576) (hc : IntsIn w B cs) (hm : cs.length ≤ 1048576) :
    Calls Try.prog 27 #[.slice A f.length c, .slice B cs.length d] w fun e w' => e = .returned (.tuple #[.int .i64 (pcV f cs), .int .i64 (lnV f cs), .bool (cntsB f cs)]) ∧ Below w.heap.size w w' := by
  have HF := Lib.hid hf; have HC := Lib.hid hc; clear hf hc
  go_enter Try.func27, Try.ntmps27
  go_wp2_with fail
  refine (ruCounts_any f A c cs B d _ HF.out HC.out hn hm).mono ?_
  rintro e w1 ⟨rfl, hb1⟩
  have HB1 := Lib.hid hb1
  clear hb1
  cases hg : cntsB f cs
  · have HV := Lib.hid (pcV_no hg)
    have HQ := Lib.hid hg
    clear hg
    go_wp2
    refine bodyPost_ret (v := .tuple #[.int .i64 (0), .int .i64 (0), .bool false]) (by simp [results, Try.results27, go_sem]) rfl ?_
    exact ⟨ret_iib HV.out.1.symm HV.out.2.symm HQ.out.symm, HB1.out⟩
  have HV := Lib.hid (pcV_yes hg)
  have HQ := Lib.hid hg
  have HG := Lib.hid (cntsB_iff.1 hg)
  clear hg
  have hn8 := HG.out.s.eight
  have HLE := Lib.hid HG.out.len
  go_wp2
  go_loopw [7, 8, 17] (fun p q i wr => ∃ k : Nat, k ≤ cs.length ∧ i = .int .i64 (k : Int) ∧ p = .int .i64 (pcS cs k) ∧ q = .int .i64 (lnS f cs k) ∧ Below w.heap.size w wr) (fun _ _ i _ => cs.length - (intOf i).toNat)
  case atStart => exact ⟨0, Nat.zero_le _, rfl, rfl, rfl, HB1.out⟩
  case round =>
    obtain ⟨k, hk, rfl, rfl, rfl, hb⟩ := hrel
    by_cases hlt : k < cs.length
    · have hlf : k < f.length := by have := HLE.out; omega
      obtain ⟨b, off, rfl, hbl, hc⟩ := HF.out (by omega)
      obtain ⟨b', off', rfl, hbl', hc'⟩ := HC.out (by omega)
      have hc1 := (hc k hlf).1
      have hc0 := hc' k hlt
      clear hc hc'
      rw [← hb.cell (p := ⟨b, off + k * 2, none⟩) hbl] at hc1
      rw [← hb.cell (p := ⟨b', off' + k, none⟩) hbl'] at hc0
      have h1 := HG.out.c20 hlt hlf
      have h2 := (HG.out.s.bd hlf).1
      have h3 := mul_4000 h1.1 h1.2 h2.1 h2.2
      have h4 := HG.out.sums k (by omega)
      have HP := Lib.hid (pcS_succ hlt); have HL := Lib.hid (lnS_succ hlt hlf)
      have hk8 : (k : Int) ≤ 8 := by omega
      generalize f[k].len = y at *
      generalize cs[k] = x at *
      generalize pcS cs k = p at *
      generalize lnS f cs k = q at *
      have HB := Lib.hid hb
      clear hb
      go_wp2
      go_roundw
      case rel => exact ⟨k + 1, by omega, by go_num, by rw [HP.out], by rw [HL.out], HB.out⟩
      case measure => simp [intOf]; omega
    · obtain rfl : k = cs.length := by omega
      go_wp2
      refine bodyPost_ret (v := .tuple #[.int .i64 (pcS cs cs.length), .int .i64 (lnS f cs cs.length), .bool true]) (by simp [results, Try.results27, go_sem]) rfl ?_
      exact ⟨ret_iib (by rw [HV.out.1, HLE.out]) (by rw [HV.out.2, HLE.out]) HQ.out.symm, hb⟩
end Go.Proofs.Ytljakcfdjcjdbaa

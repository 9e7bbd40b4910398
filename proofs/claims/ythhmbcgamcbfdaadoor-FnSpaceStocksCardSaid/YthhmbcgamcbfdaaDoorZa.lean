/-
  The text of spaces: plain words, and the contract of spec.SpacesText.
-/
import Derived.Test.YthhmbcgamcbfdaaDoorVt
import Derived.Test.YthhmbcgamcbfdaaDoorNum4
import Derived.Lib.Join
namespace Go.Proofs.YthhmbcgamcbfdaaDoor
open Go.RowKit
set_option linter.unusedVariables false

theorem ba_ext {a b : ByteArray} (h : a.data.toList = b.data.toList) : a = b := ByteArray.ext (Array.ext' h)
def numB (z : Int) : ByteArray := baOf (Lib.decDigits z.toNat)
theorem numB_size {z : Int} (h : 0 ≤ z ∧ z ≤ 1000) : (numB z).size ≤ 1001 := by
  unfold numB; rw [baOf_size, Lib.decDigits_length]; exact Nat.le_trans (nDig_le _) (by omega)
theorem numB_itoa {z : Int} (h : 0 ≤ z) : baOf (Lib.itoa z) = numB z := by
  obtain ⟨n, rfl⟩ := Int.eq_ofNat_of_zero_le h
  rw [Lib.itoa_nonneg]; rfl
theorem num_any (z : Int) (D : ByteArray) (W : World) (h : 0 ≤ z ∧ z ≤ 1000) (hD : numB z = D) : Calls Tryd.prog 40 #[.int .i64 z] W fun e w' => e = .returned (.string D) ∧ Below W.heap.size W w' := by
  have := l1Num_any z.toNat z.toNat W (Nat.le_refl _) (by omega)
  rw [Int.toNat_of_nonneg (by omega)] at this
  rw [← hD]
  exact this
def cAt (l cs : List Int) (d : Nat) : Int := cs.getD (l.length - 1 - d) 0
def vAt (l : List Int) (d : Nat) : Int := l.getD (l.length - 1 - d) 0
/-- The parts of the d widest kinds. -/
def ptS (l cs : List Int) : Nat → List ByteArray
  | 0 => []
  | d + 1 => if 0 < cAt l cs d then ptS l cs d ++ [numB (cAt l cs d) ++ ⟨#[120]⟩ ++ numB (vAt l d)] else ptS l cs d
def txS (l cs : List Int) : Nat → ByteArray
  | 0 => ⟨#[]⟩
  | d + 1 => if 0 < cAt l cs d then txS l cs d ++ (⟨#[43]⟩ ++ numB (cAt l cs d) ++ ⟨#[120]⟩ ++ numB (vAt l d)) else txS l cs d
theorem ptS_yes {l cs : List Int} {d : Nat} (h : 0 < cAt l cs d) : ptS l cs (d + 1) = ptS l cs d ++ [numB (cAt l cs d) ++ ⟨#[120]⟩ ++ numB (vAt l d)] := if_pos h
theorem ptS_no {l cs : List Int} {d : Nat} (h : ¬ 0 < cAt l cs d) : ptS l cs (d + 1) = ptS l cs d := if_neg h
theorem txS_yes {l cs : List Int} {d : Nat} (h : 0 < cAt l cs d) : txS l cs (d + 1) = txS l cs d ++ (⟨#[43]⟩ ++ numB (cAt l cs d) ++ ⟨#[120]⟩ ++ numB (vAt l d)) := if_pos h
theorem txS_no {l cs : List Int} {d : Nat} (h : ¬ 0 < cAt l cs d) : txS l cs (d + 1) = txS l cs d := if_neg h
def frT (L : List ByteArray) : List UInt8 := L.flatMap fun x => 43 :: x.data.toList
theorem tx_all (l cs : List Int) (d : Nat) : (txS l cs d).data.toList = frT (ptS l cs d) := by
  induction d with
  | zero => rfl
  | succ d ih =>
    by_cases h : 0 < cAt l cs d
    · rw [txS_yes h, ptS_yes h]
      unfold frT at ih ⊢
      rw [List.flatMap_append, ← ih]
      simp
    · rw [txS_no h, ptS_no h]; exact ih
theorem fr_join : ∀ (L : List ByteArray), L ≠ [] → frT L = 43 :: Lib.join (L.map (·.data.toList)) [43]
  | [], h => absurd rfl h
  | [x], _ => by simp [frT, Lib.join_one]
  | x :: y :: r, _ => by
    have ih := fr_join (y :: r) (by simp)
    have e : frT (x :: y :: r) = (43 :: x.data.toList) ++ frT (y :: r) := rfl
    rw [e, ih]
    simp [Lib.join, List.intercalate]
def joinP (L : List ByteArray) : ByteArray := ⟨(Lib.join (L.map (·.data.toList)) [43]).toArray⟩
theorem cut_first {t : ByteArray} {l : List UInt8} (h : t.data.toList = 43 :: l) : t.extract 1 t.size = ⟨l.toArray⟩ ∧ 1 ≤ t.size := by
  have hs : t.size = l.length + 1 := by
    have : t.data.toList.length = t.size := Array.length_toList
    rw [← this, h]; simp
  refine ⟨?_, by omega⟩
  apply ba_ext
  rw [Lib.extract_data, h, hs]
  simp
theorem tx_some {l cs : List Int} {d : Nat} (h : ptS l cs d ≠ []) : (txS l cs d).extract 1 (txS l cs d).size = joinP (ptS l cs d) ∧ 1 ≤ (txS l cs d).size :=
  cut_first (by rw [tx_all, fr_join _ h])
theorem tx_none {l cs : List Int} {d : Nat} (h : ptS l cs d = []) : txS l cs d = ⟨#[]⟩ := ba_ext (by rw [tx_all, h]; rfl)
def spcB (l cs : List Int) : Prop := True
noncomputable def spcAsk (l cs : List Int) : Bool := kindsB l && cntB l cs
noncomputable def spcT (l cs : List Int) : ByteArray := if spcAsk l cs = true then (if ptS l cs l.length = [] then ⟨#[48]⟩ else joinP (ptS l cs l.length)) else ⟨#[]⟩
theorem spcT_no {l cs : List Int} (h : spcAsk l cs = false) : spcT l cs = ⟨#[]⟩ := by unfold spcT; rw [h]; simp
theorem spcT_zero {l cs : List Int} (h : spcAsk l cs = true) (hp : ptS l cs l.length = []) : spcT l cs = ⟨#[48]⟩ := by unfold spcT; rw [if_pos h, if_pos hp]
theorem spcT_some {l cs : List Int} (h : spcAsk l cs = true) (hp : ptS l cs l.length ≠ []) : spcT l cs = joinP (ptS l cs l.length) := by unfold spcT; rw [if_pos h, if_neg hp]
theorem spcAsk_iff {l cs : List Int} : spcAsk l cs = true ↔ GoodK l ∧ cs.length = l.length ∧ ∀ j (h : j < cs.length), 0 ≤ cs[j] ∧ cs[j] ≤ 400 := by
  unfold spcAsk; rw [Bool.and_eq_true, kindsB_iff, cntB_iff]
theorem at_range {l cs : List Int} (hg : GoodK l) (hl : cs.length = l.length) (hc : ∀ j (h : j < cs.length), 0 ≤ cs[j] ∧ cs[j] ≤ 400) {d : Nat} (hd : d < l.length) : (0 ≤ cAt l cs d ∧ cAt l cs d ≤ 1000) ∧ 0 ≤ vAt l d ∧ vAt l d ≤ 1000 := by
  unfold cAt vAt
  rw [getD_of (show l.length - 1 - d < cs.length by omega), getD_of (show l.length - 1 - d < l.length by omega)]
  have h1 := hc (l.length - 1 - d) (by omega)
  have h2 := hg.le (j := l.length - 1 - d) (by omega)
  have h3 := hg.rise.pos (l.length - 1 - d) (by omega) (by omega)
  omega
theorem tx_size {l cs : List Int} (hg : GoodK l) (hl : cs.length = l.length) (hc : ∀ j (h : j < cs.length), 0 ≤ cs[j] ∧ cs[j] ≤ 400) : ∀ d, d ≤ l.length → (txS l cs d).size ≤ 2004 * d
  | 0, _ => Nat.le_refl _
  | d + 1, hd => by
    have ih := tx_size hg hl hc d (by omega)
    obtain ⟨h1, h2⟩ := at_range hg hl hc (show d < l.length by omega)
    have n1 := numB_size h1; have n2 := numB_size h2
    by_cases h : 0 < cAt l cs d
    · rw [txS_yes h]
      simp only [ByteArray.size_append]
      have e1 : (⟨#[43]⟩ : ByteArray).size = 1 := rfl
      have e2 : (⟨#[120]⟩ : ByteArray).size = 1 := rfl
      omega
    · rw [txS_no h]; omega
theorem ret_strb {a a' : ByteArray} {b b' : Bool} (h1 : a = a') (h2 : b = b') : Ending.returned (.tuple #[.string a, .bool b]) = .returned (.tuple #[.string a', .bool b']) := by rw [h1, h2]

set_option maxRecDepth 100000 in
set_option maxHeartbeats 2000000 in
theorem specSpacesText_any (l : List Int) (A : Option Addr) (c : Nat) (cs : List Int) (B : Option Addr) (e : Nat) (w : World) (hf : IntsIn w A l) (hn : l.length ≤ 1048576) (hg : IntsIn w B cs) (hm : cs.length ≤ 1048576) :
    Calls Tryd.prog 14 #[.slice A l.length c, .slice B cs.length e] w fun e w' => e = .returned (.tuple #[.string (spcT l cs), .bool (spcAsk l cs)]) ∧ Below w.heap.size w w' := by
  have HF := Lib.hid hf; have HC := Lib.hid hg; clear hf hg
  go_enter Tryd.func14, Tryd.ntmps14
  go_wp2_with fail
  refine (wsKinds_any l A c _ HF.out hn).mono ?_
  rintro e w' ⟨rfl, rfl⟩
  cases hk : kindsB l
  · have HK : Hid (spcAsk l cs = false) := Lib.hid (by unfold spcAsk; rw [hk]; rfl)
    clear hk
    go_wp2
    go_ret2
    exact ⟨ret_strb (spcT_no HK.out).symm HK.out.symm, Below.refl _ _⟩
  have HKB := Lib.hid hk; clear hk
  go_wp2_with fail
  refine (wsCounts_any l A c cs B _ _ HC.out hn hm).mono ?_
  rintro e w' ⟨rfl, rfl⟩
  cases hk : cntB l cs
  · have HK : Hid (spcAsk l cs = false) := Lib.hid (by unfold spcAsk; rw [hk]; simp)
    clear hk
    go_wp2
    go_ret2
    exact ⟨ret_strb (spcT_no HK.out).symm HK.out.symm, Below.refl _ _⟩
  have HK : Hid (spcAsk l cs = true) := Lib.hid (by unfold spcAsk; rw [hk, HKB.out]; rfl)
  clear hk
  obtain ⟨hgk, hlen, hcs⟩ := spcAsk_iff.1 HK.out
  have HG := Lib.hid hgk; have HL := Lib.hid hlen; have HCS := Lib.hid hcs
  have hl6 := hgk.six; have hl1 := hgk.one
  clear hgk hlen hcs
  have HT0 : Hid (txS l cs 0 = ⟨#[]⟩) := Lib.hid rfl
  go_wp2
  rw [← HT0.out]
  go_loopw [6, 7] (fun t i wr => ∃ d : Nat, d ≤ l.length ∧ i = .int .i64 ((l.length : Int) - 1 - (d : Int)) ∧ t = .string (txS l cs d) ∧ Below w.heap.size w wr) (fun _ i _ => (intOf i + 1).toNat)
  case atStart => exact ⟨0, Nat.zero_le _, by simp, rfl, Below.refl _ _⟩
  case round =>
    obtain ⟨d, hd, rfl, rfl, hb⟩ := hrel
    have HB := Lib.hid hb; clear hb
    by_cases hlt : d < l.length
    · obtain ⟨j, hj⟩ : ∃ j : Nat, j = l.length - 1 - d := ⟨_, rfl⟩
      have hij : (l.length : Int) - 1 - (d : Int) = (j : Int) := by omega
      have hjl : j < l.length := by omega
      have hjc : j < cs.length := by have := HL.out; omega
      obtain ⟨b, off, rfl, hbl, hc⟩ := HF.out (by omega)
      obtain ⟨b', off', rfl, hbl', hc'⟩ := HC.out (by omega)
      have x0 := (HB.out.cell (p := ⟨b, off + j, none⟩) hbl).trans (hc j hjl)
      have x1 := (HB.out.cell (p := ⟨b', off' + j, none⟩) hbl').trans (hc' j hjc)
      have hbw : b < wr.heap.size := Nat.lt_of_lt_of_le hbl HB.out.size
      have hbw' : b' < wr.heap.size := Nat.lt_of_lt_of_le hbl' HB.out.size
      have HC1 : Hid (cAt l cs d = cs[j]) := Lib.hid (by unfold cAt; rw [← hj, getD_of hjc])
      have HV1 : Hid (vAt l d = l[j]) := Lib.hid (by unfold vAt; rw [← hj, getD_of hjl])
      obtain ⟨r1, r2⟩ := at_range HG.out HL.out HCS.out hlt
      have hts := tx_size HG.out HL.out HCS.out d hd
      have HY := Lib.hid (fun h => txS_yes (l := l) (cs := cs) (d := d) h); have HN := Lib.hid (fun h => txS_no (l := l) (cs := cs) (d := d) h)
      rw [HC1.out] at r1 HY HN
      rw [HV1.out] at r2 HY
      rw [hij]
      have hjn : (j : Int) - 1 = (l.length : Int) - 1 - ((d + 1 : Nat) : Int) := by omega
      have HJN := Lib.hid hjn
      clear hc hc' hij hj HC1 HV1 hjn
      generalize cs[j] = z at *
      generalize l[j] = v at *
      have hj0 : (0 : Int) ≤ (j : Int) := by omega
      have hj1 : (j : Int) < (l.length : Int) := by omega
      have hj2 : (j : Int) < (cs.length : Int) := by omega
      by_cases hz : 0 < z
      · have HE := Lib.hid (HY.out hz)
        have n1 := numB_size r1; have n2 := numB_size r2
        obtain ⟨D1, hD1⟩ : ∃ D, numB z = D := ⟨_, rfl⟩
        obtain ⟨D2, hD2⟩ : ∃ D, numB v = D := ⟨_, rfl⟩
        rw [hD1] at n1 HE
        rw [hD2] at n2 HE
        have HD1 := Lib.hid hD1; have HD2 := Lib.hid hD2
        have C1 := Lib.hid (fun W => num_any z D1 W r1 HD1.out)
        have C2 := Lib.hid (fun W => num_any v D2 W r2 HD2.out)
        clear hD1 hD2 HY HN
        generalize txS l cs d = T at *
        have k0 := KeptW.cell x0 hbw
        have k1 := KeptW.cell x1 hbw'
        have hs1 : ¬ (9223372036854775807 : Nat) < 1 + D1.size := by omega
        have hs2 : ¬ (9223372036854775807 : Nat) < 1 + D1.size + 1 := by omega
        have hs3 : ¬ (9223372036854775807 : Nat) < 1 + D1.size + 1 + D2.size := by omega
        have hs4 : ¬ (9223372036854775807 : Nat) < T.size + (1 + D1.size + 1 + D2.size) := by omega
        go_wp2_with fail
        refine region_kept wr.heap.size (by kernel_rfl) (by kernel_rfl) ?_
        repeat (go_big_quiet_step (fail))
        go_big_quiet_step ((go_at_call 40; exact kept_call _ (Nat.le_refl _) (C1.out _)))
        repeat (go_big_quiet_step (fail))
        go_big_quiet_step ((go_at_call 40; exact kept_call _ (Nat.le_refl _) (C2.out _)))
        repeat (go_big_quiet_step (fail))
        refine wpQuiet_nil ?_
        intro w1 hb1
        have HB1 := Lib.hid (HB.out.trans (hb1.mono HB.out.size))
        clear hb1 k0 k1 x0 x1 HB
        go_wp2
        go_roundw
        case rel => exact ⟨d + 1, by omega, by rw [HJN.out], by rw [HE.out], HB1.out⟩
        case measure => simp [intOf]
      · have HE := Lib.hid (HN.out hz)
        go_wp2
        go_roundw
        case rel => exact ⟨d + 1, by omega, by rw [HJN.out], by rw [HE.out], HB.out⟩
        case measure => simp [intOf]
    · obtain rfl : d = l.length := by omega
      have hm1 : (l.length : Int) - 1 - (l.length : Int) = -1 := by omega
      rw [hm1]
      by_cases hp : ptS l cs l.length = []
      · have HT := Lib.hid (spcT_zero HK.out hp)
        rw [tx_none hp]
        clear hp
        go_wp2
        go_ret2
        exact ⟨ret_strb HT.out.symm HK.out.symm, HB.out⟩
      · obtain ⟨e1, e2⟩ := tx_some hp
        have HT := Lib.hid (spcT_some HK.out hp)
        have HE1 := Lib.hid e1
        have hts := tx_size HG.out HL.out HCS.out l.length (Nat.le_refl _)
        clear hp e1
        generalize txS l cs l.length = T at *
        have hne : T.toList.isEmpty = false := by
          rw [ByteArray.toList_eq]
          have : T.data.toList.length = T.size := Array.length_toList
          cases hl : T.data.toList with
          | nil => rw [hl] at this; simp at this; omega
          | cons _ _ => rfl
        go_wp2
        go_ret2
        exact ⟨ret_strb (by rw [HT.out, ← HE1.out]) HK.out.symm, HB.out⟩
end Go.Proofs.YthhmbcgamcbfdaaDoor

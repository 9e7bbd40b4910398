/-
  The walk of FnSpaces. (gen/spacegen.py)
-/
import Derived.Test.YthhmbcgamcbfdaaWe
import Derived.Test.YthhmbcgamcbfdaaVl
import Derived.Test.YthhmbcgamcbfdaaVq
import Derived.Test.YthhmbcgamcbfdaaVs
namespace Go.Proofs.Ythhmbcgamcbfdaa
open Go.RowKit
set_option linter.unusedVariables false

theorem BytesIn.under {w w' : World} {A : Option Addr} {l : List UInt8} {B : Nat} (h : BytesIn w A l) (hb : Below B w w') (hB : w.heap.size ≤ B) : BytesIn w' A l := fun hn => by
  obtain ⟨b, off, rfl, h2, h3⟩ := h hn
  exact ⟨b, off, rfl, Nat.lt_of_lt_of_le h2 hb.size, fun k hk => (hb.cell (by show b < B; omega)).trans (h3 k hk)⟩
theorem own_capI {w : World} {base n d : Nat} {e : TypeId} {B : Option Addr} {xs : List Value} (h : w.ownsRow base e 1 (.slice B n d) n xs) : n ≤ d := by
  rcases h.2 with ⟨hv, hz⟩ | ⟨g, cap, cur, hv, hg, hh, h1, _⟩
  · cases hv; omega
  · cases hv; exact h1
set_option maxRecDepth 100000 in
set_option maxHeartbeats 8000000 in
theorem spacesWalk (A : Option Addr) (xs : List UInt8) (c : Nat) (Ay : Option Addr) (ys : List UInt8) (cy : Nat) (w : World) (hx : BytesIn w A xs) (hxs : xs.length ≤ maxLen) (hy : BytesIn w Ay ys) (hys : ys.length ≤ maxLen) :
    Calls Try.prog 3 #[.slice A xs.length c, .slice Ay ys.length cy] w fun e w' => e = .returned (.bool true) ∧ Below w.heap.size w w' := by
  have HX := Lib.hid hx; have HY := Lib.hid hy; clear hx hy
  have hlongs : (1048576 : Int) < wrap64 ((xs.length : Int) + (ys.length : Int)) ∨ ¬ (1048576 : Int) < wrap64 ((xs.length : Int) + (ys.length : Int)) := by omega
  go_enter Try.func3, Try.ntmps3
  by_cases hlong : (1048576 : Int) < wrap64 ((xs.length : Int) + (ys.length : Int))
  · go_wp2
    go_ret
    exact ⟨rfl, Below.refl _ _⟩
  clear hlongs
  go_wp2_with fail
  refine (drawFewestSpaces_any A c xs w HX.out hxs).mono ?_
  rintro e w1 ⟨⟨l, B, d, n, rfl, hl, ho⟩, hb⟩
  have HL := Lib.hid (own_in ho); have hcap := own_capI ho
  have HA : Hid (Below w.heap.size w w1) := Lib.hid hb
  have hn : l.length ≤ 1048576 := by omega
  clear HX hlong hxs ho hb
  obtain ⟨F, hF⟩ : ∃ F, F = fewL l n := ⟨_, rfl⟩
  obtain ⟨S, hS⟩ : ∃ S, S = missV l n := ⟨_, rfl⟩
  obtain ⟨ok, hok⟩ : ∃ ok, ok = canV l n := ⟨_, rfl⟩
  obtain ⟨one, hone⟩ : ∃ one, one = wAsk l n := ⟨_, rfl⟩
  obtain ⟨wy, hwy⟩ : ∃ wy, wy = wayV l n := ⟨_, rfl⟩
  obtain ⟨nr, hnr⟩ : ∃ nr, nr = nearV l n := ⟨_, rfl⟩
  have hFl : F.length ≤ 1048576 := by rw [hF]; exact fewL_len l n
  have hSl : S.length ≤ 1048576 := by rw [hS]; exact missV_len l n
  have KFi := Lib.hid (fun (W : World) (h : IntsIn W B l) => (by have h2 := implFewestSpaces_any l B d n W h hn; rw [← hF, ← hok] at h2; exact h2 : Calls Try.prog 5 #[.slice B l.length d, .int .i64 n] W fun e w' => ∃ v T, e = .returned (.tuple #[v, .bool ok]) ∧ Below W.heap.size W w' ∧ w'.ownsRow W.heap.size T 1 v F.length (intsZ F)))
  have KFs := Lib.hid (fun (W : World) (h : IntsIn W B l) => (by have h2 := specFewestSpaces_any l B d n W h hn hcap; rw [← hF, ← hok] at h2; exact h2 : Calls Try.prog 6 #[.slice B l.length d, .int .i64 n] W fun e w' => ∃ v T, e = .returned (.tuple #[v, .bool ok]) ∧ Below W.heap.size W w' ∧ w'.ownsRow W.heap.size T 1 v F.length (intsZ F)))
  have KCi := Lib.hid (fun (W : World) (h : IntsIn W B l) => (by have h2 := implCanFill_any l B d n W h hn; rw [← hok, ← hone] at h2; exact h2 : Calls Try.prog 7 #[.slice B l.length d, .int .i64 n] W fun e w' => e = .returned (.tuple #[.bool ok, .bool one]) ∧ Below W.heap.size W w'))
  have KCs := Lib.hid (fun (W : World) (h : IntsIn W B l) => (by have h2 := specCanFill_any l B d n W h hn; rw [← hok, ← hone] at h2; exact h2 : Calls Try.prog 8 #[.slice B l.length d, .int .i64 n] W fun e w' => e = .returned (.tuple #[.bool ok, .bool one]) ∧ Below W.heap.size W w'))
  have KSi := Lib.hid (fun (W : World) (h : IntsIn W B l) => (by have h2 := implMissingSums_any l B d n W h hn; rw [← hS, ← hone] at h2; exact h2 : Calls Try.prog 9 #[.slice B l.length d, .int .i64 n] W fun e w' => ∃ v T, e = .returned (.tuple #[v, .bool one]) ∧ Below W.heap.size W w' ∧ w'.ownsRow W.heap.size T 1 v S.length (intsZ S)))
  have KSs := Lib.hid (fun (W : World) (h : IntsIn W B l) => (by have h2 := specMissingSums_any l B d n W h hn; rw [← hS, ← hone] at h2; exact h2 : Calls Try.prog 10 #[.slice B l.length d, .int .i64 n] W fun e w' => ∃ v T, e = .returned (.tuple #[v, .bool one]) ∧ Below W.heap.size W w' ∧ w'.ownsRow W.heap.size T 1 v S.length (intsZ S)))
  have KWi := Lib.hid (fun (W : World) (h : IntsIn W B l) => (by have h2 := implWaysToFill_any l B d n W h hn; rw [← hwy, ← hone] at h2; exact h2 : Calls Try.prog 11 #[.slice B l.length d, .int .i64 n] W fun e w' => e = .returned (.tuple #[.int .i64 wy, .bool one]) ∧ Below W.heap.size W w'))
  have KWs := Lib.hid (fun (W : World) (h : IntsIn W B l) => (by have h2 := specWaysToFill_any l B d n W h hn; rw [← hwy, ← hone] at h2; exact h2 : Calls Try.prog 12 #[.slice B l.length d, .int .i64 n] W fun e w' => e = .returned (.tuple #[.int .i64 wy, .bool one]) ∧ Below W.heap.size W w'))
  have KNi := Lib.hid (fun (W : World) (h : IntsIn W B l) => (by have h2 := implNearestFill_any l B d n W h hn; rw [← hnr, ← hone] at h2; exact h2 : Calls Try.prog 13 #[.slice B l.length d, .int .i64 n] W fun e w' => e = .returned (.tuple #[.int .i64 nr, .bool one]) ∧ Below W.heap.size W w'))
  have KNs := Lib.hid (fun (W : World) (h : IntsIn W B l) => (by have h2 := specNearestFill_any l B d n W h hn; rw [← hnr, ← hone] at h2; exact h2 : Calls Try.prog 14 #[.slice B l.length d, .int .i64 n] W fun e w' => e = .returned (.tuple #[.int .i64 nr, .bool one]) ∧ Below W.heap.size W w'))
  have HF := Lib.hid hF; have HS := Lib.hid hS; have HOK := Lib.hid hok; have HONE := Lib.hid hone; have HWY := Lib.hid hwy; have HNR := Lib.hid hnr
  clear hF hS hok hone hwy hnr
  cases hone2 : one with
  | false =>
    have hz : ok = false := by rw [HOK.out]; unfold canV; rw [← HONE.out, hone2]; rfl
    subst hone2 hz
    go_wp2_with fail
    refine (KFi.out _ HL.out).mono ?_
    rintro e w2 ⟨v, T, rfl, hb, ho⟩
    obtain ⟨BFi, dFi, rfl⟩ := own_formI ho
    have HFi := Lib.hid (own_in ho)
    clear ho
    replace HL := Lib.hid (HL.out.below hb (Nat.le_refl _))
    replace HA := Lib.hid (HA.out.trans (hb.mono HA.out.size))
    clear hb
    go_wp2_with fail
    refine (KFs.out _ HL.out).mono ?_
    rintro e w3 ⟨v, T, rfl, hb, ho⟩
    obtain ⟨BFs, dFs, rfl⟩ := own_formI ho
    have HFs := Lib.hid (own_in ho)
    clear ho
    replace HL := Lib.hid (HL.out.below hb (Nat.le_refl _))
    replace HA := Lib.hid (HA.out.trans (hb.mono HA.out.size))
    replace HFi := Lib.hid (HFi.out.below hb (Nat.le_refl _))
    clear hb
    go_wp2_with fail
    refine (KCi.out _ HL.out).mono ?_
    rintro e w4 ⟨rfl, hb⟩
    replace HL := Lib.hid (HL.out.below hb (Nat.le_refl _))
    replace HA := Lib.hid (HA.out.trans (hb.mono HA.out.size))
    replace HFi := Lib.hid (HFi.out.below hb (Nat.le_refl _))
    replace HFs := Lib.hid (HFs.out.below hb (Nat.le_refl _))
    clear hb
    go_wp2_with fail
    refine (KCs.out _ HL.out).mono ?_
    rintro e w5 ⟨rfl, hb⟩
    replace HL := Lib.hid (HL.out.below hb (Nat.le_refl _))
    replace HA := Lib.hid (HA.out.trans (hb.mono HA.out.size))
    replace HFi := Lib.hid (HFi.out.below hb (Nat.le_refl _))
    replace HFs := Lib.hid (HFs.out.below hb (Nat.le_refl _))
    clear hb
    go_wp2_with fail
    refine (KSi.out _ HL.out).mono ?_
    rintro e w6 ⟨v, T, rfl, hb, ho⟩
    obtain ⟨BSi, dSi, rfl⟩ := own_formI ho
    have HSi := Lib.hid (own_in ho)
    clear ho
    replace HL := Lib.hid (HL.out.below hb (Nat.le_refl _))
    replace HA := Lib.hid (HA.out.trans (hb.mono HA.out.size))
    replace HFi := Lib.hid (HFi.out.below hb (Nat.le_refl _))
    replace HFs := Lib.hid (HFs.out.below hb (Nat.le_refl _))
    clear hb
    go_wp2_with fail
    refine (KSs.out _ HL.out).mono ?_
    rintro e w7 ⟨v, T, rfl, hb, ho⟩
    obtain ⟨BSs, dSs, rfl⟩ := own_formI ho
    have HSs := Lib.hid (own_in ho)
    clear ho
    replace HL := Lib.hid (HL.out.below hb (Nat.le_refl _))
    replace HA := Lib.hid (HA.out.trans (hb.mono HA.out.size))
    replace HFi := Lib.hid (HFi.out.below hb (Nat.le_refl _))
    replace HFs := Lib.hid (HFs.out.below hb (Nat.le_refl _))
    replace HSi := Lib.hid (HSi.out.below hb (Nat.le_refl _))
    clear hb
    go_wp2_with fail
    refine (KWi.out _ HL.out).mono ?_
    rintro e w8 ⟨rfl, hb⟩
    replace HL := Lib.hid (HL.out.below hb (Nat.le_refl _))
    replace HA := Lib.hid (HA.out.trans (hb.mono HA.out.size))
    replace HFi := Lib.hid (HFi.out.below hb (Nat.le_refl _))
    replace HFs := Lib.hid (HFs.out.below hb (Nat.le_refl _))
    replace HSi := Lib.hid (HSi.out.below hb (Nat.le_refl _))
    replace HSs := Lib.hid (HSs.out.below hb (Nat.le_refl _))
    clear hb
    go_wp2_with fail
    refine (KWs.out _ HL.out).mono ?_
    rintro e w9 ⟨rfl, hb⟩
    replace HL := Lib.hid (HL.out.below hb (Nat.le_refl _))
    replace HA := Lib.hid (HA.out.trans (hb.mono HA.out.size))
    replace HFi := Lib.hid (HFi.out.below hb (Nat.le_refl _))
    replace HFs := Lib.hid (HFs.out.below hb (Nat.le_refl _))
    replace HSi := Lib.hid (HSi.out.below hb (Nat.le_refl _))
    replace HSs := Lib.hid (HSs.out.below hb (Nat.le_refl _))
    clear hb
    go_wp2_with fail
    refine (KNi.out _ HL.out).mono ?_
    rintro e w10 ⟨rfl, hb⟩
    replace HL := Lib.hid (HL.out.below hb (Nat.le_refl _))
    replace HA := Lib.hid (HA.out.trans (hb.mono HA.out.size))
    replace HFi := Lib.hid (HFi.out.below hb (Nat.le_refl _))
    replace HFs := Lib.hid (HFs.out.below hb (Nat.le_refl _))
    replace HSi := Lib.hid (HSi.out.below hb (Nat.le_refl _))
    replace HSs := Lib.hid (HSs.out.below hb (Nat.le_refl _))
    clear hb
    go_wp2_with fail
    refine (KNs.out _ HL.out).mono ?_
    rintro e w11 ⟨rfl, hb⟩
    replace HL := Lib.hid (HL.out.below hb (Nat.le_refl _))
    replace HA := Lib.hid (HA.out.trans (hb.mono HA.out.size))
    replace HFi := Lib.hid (HFi.out.below hb (Nat.le_refl _))
    replace HFs := Lib.hid (HFs.out.below hb (Nat.le_refl _))
    replace HSi := Lib.hid (HSi.out.below hb (Nat.le_refl _))
    replace HSs := Lib.hid (HSs.out.below hb (Nat.le_refl _))
    clear hb
    have hwe : (wy != wy) = false := by simp
    have hne : (nr != nr) = false := by simp
    go_wp2_with fail
    refine (qInts_any F BFi BFs dFi dFs _ HFi.out HFs.out hFl).mono ?_
    rintro e w12 ⟨rfl, hb⟩
    replace HL := Lib.hid (HL.out.below hb (Nat.le_refl _))
    replace HA := Lib.hid (HA.out.trans (hb.mono HA.out.size))
    replace HFi := Lib.hid (HFi.out.below hb (Nat.le_refl _))
    replace HFs := Lib.hid (HFs.out.below hb (Nat.le_refl _))
    replace HSi := Lib.hid (HSi.out.below hb (Nat.le_refl _))
    replace HSs := Lib.hid (HSs.out.below hb (Nat.le_refl _))
    clear hb
    go_wp2_with fail
    refine (qInts_any S BSi BSs dSi dSs _ HSi.out HSs.out hSl).mono ?_
    rintro e w13 ⟨rfl, hb⟩
    replace HL := Lib.hid (HL.out.below hb (Nat.le_refl _))
    replace HA := Lib.hid (HA.out.trans (hb.mono HA.out.size))
    replace HFi := Lib.hid (HFi.out.below hb (Nat.le_refl _))
    replace HFs := Lib.hid (HFs.out.below hb (Nat.le_refl _))
    replace HSi := Lib.hid (HSi.out.below hb (Nat.le_refl _))
    replace HSs := Lib.hid (HSs.out.below hb (Nat.le_refl _))
    clear hb
    go_wp2_with fail
    refine (drawAreSpaces_any Ay cy ys _ (HY.out.under HA.out (Nat.le_refl _)) hys).mono ?_
    rintro e w14 ⟨⟨u, U, dU, rfl, hul, ho⟩, hb⟩
    have HU := Lib.hid (own_in ho)
    have hun : u.length ≤ 1048576 := by omega
    replace HA := Lib.hid (HA.out.trans (hb.mono HA.out.size))
    clear ho hb
    go_wp2_with fail
    refine (implAreSpaces_any u U dU _ HU.out hun).mono ?_
    rintro e w9 ⟨rfl, rfl⟩
    go_wp2_with fail
    refine (specAreSpaces_any u U dU _ HU.out hun).mono ?_
    rintro e w9 ⟨rfl, rfl⟩
    cases kindsB u
    · go_wp2
      go_ret
      exact ⟨rfl, HA.out⟩
    · go_wp2
      go_ret
      exact ⟨rfl, HA.out⟩
  | true =>
    have hask : wAsk l n = true := by rw [← HONE.out, hone2]
    obtain ⟨hgd, h0, h4⟩ := wAsk_iff.1 hask
    subst hone2
    obtain ⟨N, rfl⟩ : ∃ N : Nat, n = (N : Int) := ⟨n.toNat, by omega⟩
    have hnrN : nr = (nearN l N : Int) := by rw [HNR.out]; exact nearV_yes hask
    have hnl := nearN_le l N
    have HKB : Hid (kindsB l = true) := Lib.hid (by have := hask; unfold wAsk at this; exact (Bool.and_eq_true_iff.1 this).1)
    have HGN : Hid (¬ (N : Int) < nr) := Lib.hid (by omega)
    have HLN : Hid (¬ nr < 0) := Lib.hid (by omega)
    have hask2 : wAsk l nr = true := wAsk_iff.2 ⟨hgd, by omega, by omega⟩
    have hcan2 : canV l nr = true := canV_iff.2 ⟨hask2, by rw [hnrN]; exact near_can l N⟩
    have KC2 := Lib.hid (fun (W : World) (h : IntsIn W B l) => (by have h2 := implCanFill_any l B d nr W h hn; rw [hask2, hcan2] at h2; exact h2 : Calls Try.prog 7 #[.slice B l.length d, .int .i64 nr] W fun e w' => e = .returned (.tuple #[.bool true, .bool true]) ∧ Below W.heap.size W w'))
    have hway := way_can hask
    rw [← HWY.out] at hway
    have hmis : ((N : Int) ∈ S ↔ ¬ Can l (N : Int)) := by
      rw [HS.out, missV_yes hask, miss_has (N + 1) N]
      exact ⟨fun h => h.2, fun h => ⟨by omega, h⟩⟩
    have hnq : nr = (N : Int) ↔ Can l (N : Int) := by
      rw [hnrN, ← near_eq]; omega
    have hcanV : ok = true ↔ Can l (N : Int) := by rw [HOK.out, canV_iff]; exact ⟨fun h => h.2, fun h => ⟨hask, h⟩⟩
    have H400 : Hid (0 ≤ (N : Int) ∧ (N : Int) ≤ 400) := Lib.hid ⟨h0, h4⟩
    cases ok with
    | false =>
      have hnc : ¬ Can l (N : Int) := fun h => by have := hcanV.2 h; cases this
      have HWP : Hid (¬ 0 < wy) := Lib.hid (fun h => hnc (hway.1 h))
      have HHAS : Hid ((N : Int) ∈ S) := Lib.hid (hmis.2 hnc)
      have HEQ : Hid ((nr == (N : Int)) = false) := Lib.hid (by rw [beq_eq_false_iff_ne]; exact fun h => hnc (hnq.1 h))
      clear hask hgd h0 h4 hnrN hnl hask2 hcan2 hway hmis hnq hcanV hnc
      go_wp2_with fail
      refine (KFi.out _ HL.out).mono ?_
      rintro e w2 ⟨v, T, rfl, hb, ho⟩
      obtain ⟨BFi, dFi, rfl⟩ := own_formI ho
      have HFi := Lib.hid (own_in ho)
      clear ho
      replace HL := Lib.hid (HL.out.below hb (Nat.le_refl _))
      replace HA := Lib.hid (HA.out.trans (hb.mono HA.out.size))
      clear hb
      go_wp2_with fail
      refine (KFs.out _ HL.out).mono ?_
      rintro e w3 ⟨v, T, rfl, hb, ho⟩
      obtain ⟨BFs, dFs, rfl⟩ := own_formI ho
      have HFs := Lib.hid (own_in ho)
      clear ho
      replace HL := Lib.hid (HL.out.below hb (Nat.le_refl _))
      replace HA := Lib.hid (HA.out.trans (hb.mono HA.out.size))
      replace HFi := Lib.hid (HFi.out.below hb (Nat.le_refl _))
      clear hb
      go_wp2_with fail
      refine (KCi.out _ HL.out).mono ?_
      rintro e w4 ⟨rfl, hb⟩
      replace HL := Lib.hid (HL.out.below hb (Nat.le_refl _))
      replace HA := Lib.hid (HA.out.trans (hb.mono HA.out.size))
      replace HFi := Lib.hid (HFi.out.below hb (Nat.le_refl _))
      replace HFs := Lib.hid (HFs.out.below hb (Nat.le_refl _))
      clear hb
      go_wp2_with fail
      refine (KCs.out _ HL.out).mono ?_
      rintro e w5 ⟨rfl, hb⟩
      replace HL := Lib.hid (HL.out.below hb (Nat.le_refl _))
      replace HA := Lib.hid (HA.out.trans (hb.mono HA.out.size))
      replace HFi := Lib.hid (HFi.out.below hb (Nat.le_refl _))
      replace HFs := Lib.hid (HFs.out.below hb (Nat.le_refl _))
      clear hb
      go_wp2_with fail
      refine (KSi.out _ HL.out).mono ?_
      rintro e w6 ⟨v, T, rfl, hb, ho⟩
      obtain ⟨BSi, dSi, rfl⟩ := own_formI ho
      have HSi := Lib.hid (own_in ho)
      clear ho
      replace HL := Lib.hid (HL.out.below hb (Nat.le_refl _))
      replace HA := Lib.hid (HA.out.trans (hb.mono HA.out.size))
      replace HFi := Lib.hid (HFi.out.below hb (Nat.le_refl _))
      replace HFs := Lib.hid (HFs.out.below hb (Nat.le_refl _))
      clear hb
      go_wp2_with fail
      refine (KSs.out _ HL.out).mono ?_
      rintro e w7 ⟨v, T, rfl, hb, ho⟩
      obtain ⟨BSs, dSs, rfl⟩ := own_formI ho
      have HSs := Lib.hid (own_in ho)
      clear ho
      replace HL := Lib.hid (HL.out.below hb (Nat.le_refl _))
      replace HA := Lib.hid (HA.out.trans (hb.mono HA.out.size))
      replace HFi := Lib.hid (HFi.out.below hb (Nat.le_refl _))
      replace HFs := Lib.hid (HFs.out.below hb (Nat.le_refl _))
      replace HSi := Lib.hid (HSi.out.below hb (Nat.le_refl _))
      clear hb
      go_wp2_with fail
      refine (KWi.out _ HL.out).mono ?_
      rintro e w8 ⟨rfl, hb⟩
      replace HL := Lib.hid (HL.out.below hb (Nat.le_refl _))
      replace HA := Lib.hid (HA.out.trans (hb.mono HA.out.size))
      replace HFi := Lib.hid (HFi.out.below hb (Nat.le_refl _))
      replace HFs := Lib.hid (HFs.out.below hb (Nat.le_refl _))
      replace HSi := Lib.hid (HSi.out.below hb (Nat.le_refl _))
      replace HSs := Lib.hid (HSs.out.below hb (Nat.le_refl _))
      clear hb
      go_wp2_with fail
      refine (KWs.out _ HL.out).mono ?_
      rintro e w9 ⟨rfl, hb⟩
      replace HL := Lib.hid (HL.out.below hb (Nat.le_refl _))
      replace HA := Lib.hid (HA.out.trans (hb.mono HA.out.size))
      replace HFi := Lib.hid (HFi.out.below hb (Nat.le_refl _))
      replace HFs := Lib.hid (HFs.out.below hb (Nat.le_refl _))
      replace HSi := Lib.hid (HSi.out.below hb (Nat.le_refl _))
      replace HSs := Lib.hid (HSs.out.below hb (Nat.le_refl _))
      clear hb
      go_wp2_with fail
      refine (KNi.out _ HL.out).mono ?_
      rintro e w10 ⟨rfl, hb⟩
      replace HL := Lib.hid (HL.out.below hb (Nat.le_refl _))
      replace HA := Lib.hid (HA.out.trans (hb.mono HA.out.size))
      replace HFi := Lib.hid (HFi.out.below hb (Nat.le_refl _))
      replace HFs := Lib.hid (HFs.out.below hb (Nat.le_refl _))
      replace HSi := Lib.hid (HSi.out.below hb (Nat.le_refl _))
      replace HSs := Lib.hid (HSs.out.below hb (Nat.le_refl _))
      clear hb
      go_wp2_with fail
      refine (KNs.out _ HL.out).mono ?_
      rintro e w11 ⟨rfl, hb⟩
      replace HL := Lib.hid (HL.out.below hb (Nat.le_refl _))
      replace HA := Lib.hid (HA.out.trans (hb.mono HA.out.size))
      replace HFi := Lib.hid (HFi.out.below hb (Nat.le_refl _))
      replace HFs := Lib.hid (HFs.out.below hb (Nat.le_refl _))
      replace HSi := Lib.hid (HSi.out.below hb (Nat.le_refl _))
      replace HSs := Lib.hid (HSs.out.below hb (Nat.le_refl _))
      clear hb
      have hwe : (wy != wy) = false := by simp
      have hne : (nr != nr) = false := by simp
      go_wp2_with fail
      refine (qInts_any F BFi BFs dFi dFs _ HFi.out HFs.out hFl).mono ?_
      rintro e w12 ⟨rfl, hb⟩
      replace HL := Lib.hid (HL.out.below hb (Nat.le_refl _))
      replace HA := Lib.hid (HA.out.trans (hb.mono HA.out.size))
      replace HFi := Lib.hid (HFi.out.below hb (Nat.le_refl _))
      replace HFs := Lib.hid (HFs.out.below hb (Nat.le_refl _))
      replace HSi := Lib.hid (HSi.out.below hb (Nat.le_refl _))
      replace HSs := Lib.hid (HSs.out.below hb (Nat.le_refl _))
      clear hb
      go_wp2_with fail
      refine (qInts_any S BSi BSs dSi dSs _ HSi.out HSs.out hSl).mono ?_
      rintro e w13 ⟨rfl, hb⟩
      replace HL := Lib.hid (HL.out.below hb (Nat.le_refl _))
      replace HA := Lib.hid (HA.out.trans (hb.mono HA.out.size))
      replace HFi := Lib.hid (HFi.out.below hb (Nat.le_refl _))
      replace HFs := Lib.hid (HFs.out.below hb (Nat.le_refl _))
      replace HSi := Lib.hid (HSi.out.below hb (Nat.le_refl _))
      replace HSs := Lib.hid (HSs.out.below hb (Nat.le_refl _))
      clear hb
      have hkb := HKB.out
      go_wp2_with fail
      refine (implAreSpaces_any l B d _ HL.out hn).mono ?_
      rintro e w9 ⟨rfl, rfl⟩
      rw [hkb]
      clear hkb
      have hgn := HGN.out; have hln := HLN.out; have hwp := HWP.out; have heq := HEQ.out
      go_wp2_with fail
      refine (qHas_any S BSs dSs (N : Int) true _ HSs.out hSl ⟨fun _ => HHAS.out, fun _ => rfl⟩).mono ?_
      rintro e w9 ⟨rfl, rfl⟩
      go_wp2_with fail
      refine (KC2.out _ HL.out).mono ?_
      rintro e w14 ⟨rfl, hb⟩
      replace HL := Lib.hid (HL.out.below hb (Nat.le_refl _))
      replace HA := Lib.hid (HA.out.trans (hb.mono HA.out.size))
      replace HFi := Lib.hid (HFi.out.below hb (Nat.le_refl _))
      replace HFs := Lib.hid (HFs.out.below hb (Nat.le_refl _))
      replace HSi := Lib.hid (HSi.out.below hb (Nat.le_refl _))
      replace HSs := Lib.hid (HSs.out.below hb (Nat.le_refl _))
      clear hb
      clear hgn hln hwp heq
      go_wp2_with fail
      refine (drawAreSpaces_any Ay cy ys _ (HY.out.under HA.out (Nat.le_refl _)) hys).mono ?_
      rintro e w15 ⟨⟨u, U, dU, rfl, hul, ho⟩, hb⟩
      have HU := Lib.hid (own_in ho)
      have hun : u.length ≤ 1048576 := by omega
      replace HA := Lib.hid (HA.out.trans (hb.mono HA.out.size))
      clear ho hb
      go_wp2_with fail
      refine (implAreSpaces_any u U dU _ HU.out hun).mono ?_
      rintro e w9 ⟨rfl, rfl⟩
      go_wp2_with fail
      refine (specAreSpaces_any u U dU _ HU.out hun).mono ?_
      rintro e w9 ⟨rfl, rfl⟩
      cases kindsB u
      · go_wp2
        go_ret
        exact ⟨rfl, HA.out⟩
      · go_wp2
        go_ret
        exact ⟨rfl, HA.out⟩
    | true =>
      have hnc : Can l (N : Int) := hcanV.1 rfl
      have HWP : Hid (0 < wy) := Lib.hid (hway.2 hnc)
      have HHAS : Hid (¬ (N : Int) ∈ S) := Lib.hid (fun h => hmis.1 h hnc)
      have HEQ : Hid ((nr == (N : Int)) = true) := Lib.hid (by rw [beq_iff_eq]; exact hnq.2 hnc)
      have hFe : F = (List.range l.length).map (fun i => (cntF l (N : Int) i : Int)) := by rw [HF.out]; exact fewL_yes (by rw [hask, canB_iff.2 hnc]; rfl)
      have HFLL : Hid (F.length = l.length) := Lib.hid (by rw [hFe]; simp)
      have HEND := Lib.hid (few_end hgd.pos hnc)
      have HRNG : Hid (∀ j, j ≤ l.length → 0 ≤ remF l (N : Int) j ∧ remF l (N : Int) j ≤ (N : Int)) := Lib.hid (fun j hj => ⟨few_nn hgd.pos hnc hj, few_le hgd.pos j hj⟩)
      have HSTEP : Hid (∀ k (hk : k < l.length) (hf : k < F.length), remF l (N : Int) (l.length - (k + 1)) = remF l (N : Int) (l.length - k) + F[k] * l[k]) := Lib.hid (fun k hk hf => by
        rw [few_step hk]; congr 2; simp [hFe])
      clear hask hgd h0 h4 hnrN hnl hask2 hcan2 hway hmis hnq hcanV hnc hFe
      go_wp2_with fail
      refine (KFi.out _ HL.out).mono ?_
      rintro e w2 ⟨v, T, rfl, hb, ho⟩
      obtain ⟨BFi, dFi, rfl⟩ := own_formI ho
      have HFi := Lib.hid (own_in ho)
      clear ho
      replace HL := Lib.hid (HL.out.below hb (Nat.le_refl _))
      replace HA := Lib.hid (HA.out.trans (hb.mono HA.out.size))
      clear hb
      go_wp2_with fail
      refine (KFs.out _ HL.out).mono ?_
      rintro e w3 ⟨v, T, rfl, hb, ho⟩
      obtain ⟨BFs, dFs, rfl⟩ := own_formI ho
      have HFs := Lib.hid (own_in ho)
      clear ho
      replace HL := Lib.hid (HL.out.below hb (Nat.le_refl _))
      replace HA := Lib.hid (HA.out.trans (hb.mono HA.out.size))
      replace HFi := Lib.hid (HFi.out.below hb (Nat.le_refl _))
      clear hb
      go_wp2_with fail
      refine (KCi.out _ HL.out).mono ?_
      rintro e w4 ⟨rfl, hb⟩
      replace HL := Lib.hid (HL.out.below hb (Nat.le_refl _))
      replace HA := Lib.hid (HA.out.trans (hb.mono HA.out.size))
      replace HFi := Lib.hid (HFi.out.below hb (Nat.le_refl _))
      replace HFs := Lib.hid (HFs.out.below hb (Nat.le_refl _))
      clear hb
      go_wp2_with fail
      refine (KCs.out _ HL.out).mono ?_
      rintro e w5 ⟨rfl, hb⟩
      replace HL := Lib.hid (HL.out.below hb (Nat.le_refl _))
      replace HA := Lib.hid (HA.out.trans (hb.mono HA.out.size))
      replace HFi := Lib.hid (HFi.out.below hb (Nat.le_refl _))
      replace HFs := Lib.hid (HFs.out.below hb (Nat.le_refl _))
      clear hb
      go_wp2_with fail
      refine (KSi.out _ HL.out).mono ?_
      rintro e w6 ⟨v, T, rfl, hb, ho⟩
      obtain ⟨BSi, dSi, rfl⟩ := own_formI ho
      have HSi := Lib.hid (own_in ho)
      clear ho
      replace HL := Lib.hid (HL.out.below hb (Nat.le_refl _))
      replace HA := Lib.hid (HA.out.trans (hb.mono HA.out.size))
      replace HFi := Lib.hid (HFi.out.below hb (Nat.le_refl _))
      replace HFs := Lib.hid (HFs.out.below hb (Nat.le_refl _))
      clear hb
      go_wp2_with fail
      refine (KSs.out _ HL.out).mono ?_
      rintro e w7 ⟨v, T, rfl, hb, ho⟩
      obtain ⟨BSs, dSs, rfl⟩ := own_formI ho
      have HSs := Lib.hid (own_in ho)
      clear ho
      replace HL := Lib.hid (HL.out.below hb (Nat.le_refl _))
      replace HA := Lib.hid (HA.out.trans (hb.mono HA.out.size))
      replace HFi := Lib.hid (HFi.out.below hb (Nat.le_refl _))
      replace HFs := Lib.hid (HFs.out.below hb (Nat.le_refl _))
      replace HSi := Lib.hid (HSi.out.below hb (Nat.le_refl _))
      clear hb
      go_wp2_with fail
      refine (KWi.out _ HL.out).mono ?_
      rintro e w8 ⟨rfl, hb⟩
      replace HL := Lib.hid (HL.out.below hb (Nat.le_refl _))
      replace HA := Lib.hid (HA.out.trans (hb.mono HA.out.size))
      replace HFi := Lib.hid (HFi.out.below hb (Nat.le_refl _))
      replace HFs := Lib.hid (HFs.out.below hb (Nat.le_refl _))
      replace HSi := Lib.hid (HSi.out.below hb (Nat.le_refl _))
      replace HSs := Lib.hid (HSs.out.below hb (Nat.le_refl _))
      clear hb
      go_wp2_with fail
      refine (KWs.out _ HL.out).mono ?_
      rintro e w9 ⟨rfl, hb⟩
      replace HL := Lib.hid (HL.out.below hb (Nat.le_refl _))
      replace HA := Lib.hid (HA.out.trans (hb.mono HA.out.size))
      replace HFi := Lib.hid (HFi.out.below hb (Nat.le_refl _))
      replace HFs := Lib.hid (HFs.out.below hb (Nat.le_refl _))
      replace HSi := Lib.hid (HSi.out.below hb (Nat.le_refl _))
      replace HSs := Lib.hid (HSs.out.below hb (Nat.le_refl _))
      clear hb
      go_wp2_with fail
      refine (KNi.out _ HL.out).mono ?_
      rintro e w10 ⟨rfl, hb⟩
      replace HL := Lib.hid (HL.out.below hb (Nat.le_refl _))
      replace HA := Lib.hid (HA.out.trans (hb.mono HA.out.size))
      replace HFi := Lib.hid (HFi.out.below hb (Nat.le_refl _))
      replace HFs := Lib.hid (HFs.out.below hb (Nat.le_refl _))
      replace HSi := Lib.hid (HSi.out.below hb (Nat.le_refl _))
      replace HSs := Lib.hid (HSs.out.below hb (Nat.le_refl _))
      clear hb
      go_wp2_with fail
      refine (KNs.out _ HL.out).mono ?_
      rintro e w11 ⟨rfl, hb⟩
      replace HL := Lib.hid (HL.out.below hb (Nat.le_refl _))
      replace HA := Lib.hid (HA.out.trans (hb.mono HA.out.size))
      replace HFi := Lib.hid (HFi.out.below hb (Nat.le_refl _))
      replace HFs := Lib.hid (HFs.out.below hb (Nat.le_refl _))
      replace HSi := Lib.hid (HSi.out.below hb (Nat.le_refl _))
      replace HSs := Lib.hid (HSs.out.below hb (Nat.le_refl _))
      clear hb
      have hwe : (wy != wy) = false := by simp
      have hne : (nr != nr) = false := by simp
      go_wp2_with fail
      refine (qInts_any F BFi BFs dFi dFs _ HFi.out HFs.out hFl).mono ?_
      rintro e w12 ⟨rfl, hb⟩
      replace HL := Lib.hid (HL.out.below hb (Nat.le_refl _))
      replace HA := Lib.hid (HA.out.trans (hb.mono HA.out.size))
      replace HFi := Lib.hid (HFi.out.below hb (Nat.le_refl _))
      replace HFs := Lib.hid (HFs.out.below hb (Nat.le_refl _))
      replace HSi := Lib.hid (HSi.out.below hb (Nat.le_refl _))
      replace HSs := Lib.hid (HSs.out.below hb (Nat.le_refl _))
      clear hb
      go_wp2_with fail
      refine (qInts_any S BSi BSs dSi dSs _ HSi.out HSs.out hSl).mono ?_
      rintro e w13 ⟨rfl, hb⟩
      replace HL := Lib.hid (HL.out.below hb (Nat.le_refl _))
      replace HA := Lib.hid (HA.out.trans (hb.mono HA.out.size))
      replace HFi := Lib.hid (HFi.out.below hb (Nat.le_refl _))
      replace HFs := Lib.hid (HFs.out.below hb (Nat.le_refl _))
      replace HSi := Lib.hid (HSi.out.below hb (Nat.le_refl _))
      replace HSs := Lib.hid (HSs.out.below hb (Nat.le_refl _))
      clear hb
      have hkb := HKB.out
      go_wp2_with fail
      refine (implAreSpaces_any l B d _ HL.out hn).mono ?_
      rintro e w9 ⟨rfl, rfl⟩
      rw [hkb]
      clear hkb
      have hgn := HGN.out; have hln := HLN.out; have hwp := HWP.out; have heq := HEQ.out
      go_wp2_with fail
      refine (qHas_any S BSs dSs (N : Int) false _ HSs.out hSl ⟨fun h => absurd h (by decide), fun h => absurd h HHAS.out⟩).mono ?_
      rintro e w9 ⟨rfl, rfl⟩
      go_wp2_with fail
      refine (KC2.out _ HL.out).mono ?_
      rintro e w14 ⟨rfl, hb⟩
      replace HL := Lib.hid (HL.out.below hb (Nat.le_refl _))
      replace HA := Lib.hid (HA.out.trans (hb.mono HA.out.size))
      replace HFi := Lib.hid (HFi.out.below hb (Nat.le_refl _))
      replace HFs := Lib.hid (HFs.out.below hb (Nat.le_refl _))
      replace HSi := Lib.hid (HSi.out.below hb (Nat.le_refl _))
      replace HSs := Lib.hid (HSs.out.below hb (Nat.le_refl _))
      clear hb
      clear hgn hln hwp heq
      go_wp2
      generalize hwx : w14 = wx at *
      clear hwx
      go_loopw [29, 228] (fun sv i wr => ∃ k : Nat, k ≤ F.length ∧ i = .int .i64 (k : Int) ∧ sv = .int .i64 (remF l (N : Int) (l.length - k)) ∧ Below wx.heap.size wx wr) (fun _ i _ => F.length - (intOf i).toNat)
      case atStart => exact ⟨0, Nat.zero_le _, rfl, by rw [Nat.sub_zero, HEND.out], Below.refl _ _⟩
      case round =>
        obtain ⟨k, hk, rfl, rfl, hb⟩ := hrel
        by_cases hlt : k < F.length
        · have hkl : k < l.length := by rw [← HFLL.out]; exact hlt
          obtain ⟨b0, off, rfl, hbl, hc⟩ := HFs.out (by omega)
          obtain ⟨b1, off1, rfl, hbl1, hc1⟩ := HL.out (by omega)
          have e0 := (hb.cell (p := ⟨b0, off + k, none⟩) hbl).trans (hc k hlt)
          have e1 := (hb.cell (p := ⟨b1, off1 + k, none⟩) hbl1).trans (hc1 k hkl)
          have hst := HSTEP.out k hkl hlt
          have hr1 := HRNG.out (l.length - (k + 1)) (by omega)
          have hr0 := HRNG.out (l.length - k) (by omega)
          have hb400 := H400.out
          have HB := Lib.hid hb
          have hk1 : (k : Int) < (F.length : Int) := by omega
          have hk2 : (k : Int) < (l.length : Int) := by omega
          have hk0 : (0 : Int) ≤ (k : Int) := by omega
          clear hc hc1 hb
          generalize F[k]'hlt = x at *
          generalize l[k]'hkl = y at *
          obtain ⟨p, hp⟩ : ∃ p : Int, x * y = p := ⟨_, rfl⟩
          rw [hp] at hst
          obtain ⟨g0, hg0⟩ : ∃ g, g = remF l (N : Int) (l.length - k) := ⟨_, rfl⟩
          obtain ⟨g1, hg1⟩ : ∃ g, g = remF l (N : Int) (l.length - (k + 1)) := ⟨_, rfl⟩
          rw [← hg0, ← hg1] at hst
          rw [← hg0] at hr0
          rw [← hg1] at hr1
          rw [← hg0]
          have hpr : -400 ≤ p ∧ p ≤ 400 := by omega
          have hsum : g0 + p = g1 := hst.symm
          have HG1 := Lib.hid hg1
          clear hst hg0 hg1
          go_wp2
          go_roundw
          case rel => exact ⟨k + 1, by omega, by go_num, by rw [← HG1.out], HB.out⟩
          case measure => simp [intOf]; omega
        · obtain rfl : k = F.length := by omega
          have hb' := hb
          have hen : remF l (N : Int) (l.length - F.length) = (N : Int) := by rw [HFLL.out, Nat.sub_self]; first | done | rfl
          rw [hen]
          have hnn : ((N : Int) != (N : Int)) = false := by simp
          generalize hwy2 : wr = wy2 at *
          clear hwy2 hen
          replace HA := Lib.hid (HA.out.trans (hb.mono HA.out.size))
          clear hb hb'
          go_wp2_with fail
          refine (drawAreSpaces_any Ay cy ys _ (HY.out.under HA.out (Nat.le_refl _)) hys).mono ?_
          rintro e w25 ⟨⟨u, U, dU, rfl, hul, ho⟩, hb⟩
          have HU := Lib.hid (own_in ho)
          have hun : u.length ≤ 1048576 := by omega
          replace HA := Lib.hid (HA.out.trans (hb.mono HA.out.size))
          clear ho hb
          go_wp2_with fail
          refine (implAreSpaces_any u U dU _ HU.out hun).mono ?_
          rintro e w9 ⟨rfl, rfl⟩
          go_wp2_with fail
          refine (specAreSpaces_any u U dU _ HU.out hun).mono ?_
          rintro e w9 ⟨rfl, rfl⟩
          cases kindsB u
          · go_wp2
            go_ret
            exact ⟨rfl, HA.out⟩
          · go_wp2
            go_ret
            exact ⟨rfl, HA.out⟩
end Go.Proofs.Ythhmbcgamcbfdaa

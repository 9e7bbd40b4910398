/-
  The walk of FnSpaceStocks.
-/
import Derived.Test.YthhmbcgamcbfdaaDoorZf
import Derived.Test.YthhmbcgamcbfdaaDoorZg
import Derived.Test.YthhmbcgamcbfdaaDoorVy
import Derived.Test.YthhmbcgamcbfdaaDoorVm
import Derived.Test.YthhmbcgamcbfdaaDoorVf
import Derived.Test.YthhmbcgamcbfdaaDoorVj
namespace Go.Proofs.YthhmbcgamcbfdaaDoor
open Go.RowKit
set_option linter.unusedVariables false

theorem BytesIn.under {w w' : World} {A : Option Addr} {l : List UInt8} {B : Nat} (h : BytesIn w A l) (hb : Below B w w') (hB : w.heap.size ≤ B) : BytesIn w' A l := fun hn => by
  obtain ⟨b, off, rfl, h2, h3⟩ := h hn
  exact ⟨b, off, rfl, Nat.lt_of_lt_of_le h2 hb.size, fun k hk => (hb.cell (by show b < B; omega)).trans (h3 k hk)⟩
theorem own_capI {w : World} {base n d : Nat} {e : TypeId} {B : Option Addr} {xs : List Value} (h : w.ownsRow base e 1 (.slice B n d) n xs) : n ≤ d := by
  rcases h.2 with ⟨hv, hz⟩ | ⟨g, cap, cur, hv, hg, hh, h1, _⟩
  · cases hv; omega
  · cases hv; exact h1
set_option maxRecDepth 100000 in
set_option maxHeartbeats 8000000 in
theorem stocksWalk (A : Option Addr) (xs : List UInt8) (c : Nat) (Ay : Option Addr) (ys : List UInt8) (cy : Nat) (w : World) (hx : BytesIn w A xs) (hxs : xs.length ≤ maxLen) (hy : BytesIn w Ay ys) (hys : ys.length ≤ maxLen) (ht : Tab w) :
    Calls Tryd.prog 3 #[.slice A xs.length c, .slice Ay ys.length cy] w fun e w' => e = .returned (.bool true) ∧ Below w.heap.size w w' := by
  have HX := Lib.hid hx; have HY := Lib.hid hy; have HT := Lib.hid ht; clear hx hy ht
  have hlongs : (1048576 : Int) < wrap64 ((xs.length : Int) + (ys.length : Int)) ∨ ¬ (1048576 : Int) < wrap64 ((xs.length : Int) + (ys.length : Int)) := by omega
  go_enter Tryd.func3, Tryd.ntmps3
  by_cases hlong : (1048576 : Int) < wrap64 ((xs.length : Int) + (ys.length : Int))
  · go_wp2
    go_ret
    exact ⟨rfl, Below.refl _ _⟩
  clear hlongs
  go_wp2_with fail
  refine (drawFillFromStock_any A c xs w HX.out hxs).mono ?_
  rintro e w1 ⟨⟨l, B, d, ss, D, f, n, rfl, hto⟩, hb⟩
  obtain ⟨⟨hl7, hs8⟩, ho, hos⟩ := hto
  have HL := Lib.hid (own_in ho); have hcap := own_capI ho; have HS := Lib.hid (own_in hos); have hcap2 := own_capI hos
  have HA : Hid (Below w.heap.size w w1) := Lib.hid hb
  have hn : l.length ≤ 1048576 := by omega
  have hsn : ss.length ≤ 1048576 := by omega
  clear HX hlong hxs ho hos hb hl7 hs8
  obtain ⟨F, hF⟩ : ∃ F, F = fillL l ss n := ⟨_, rfl⟩
  obtain ⟨ok, hok⟩ : ∃ ok, ok = fillB l ss n := ⟨_, rfl⟩
  obtain ⟨th, hth⟩ : ∃ th, th = thinV l n := ⟨_, rfl⟩
  obtain ⟨one, hone⟩ : ∃ one, one = canV l n := ⟨_, rfl⟩
  obtain ⟨ask, hask⟩ : ∃ ask, ask = wAsk l n := ⟨_, rfl⟩
  have hFl : F.length ≤ 1048576 := by rw [hF]; exact fillL_len l ss n
  have KFi := Lib.hid (fun (W : World) (h : IntsIn W B l) (h1 : IntsIn W D ss) => (by have h2 := implFillFromStock2_any l B d ss D f n W h hn h1 hsn hcap hcap2; rw [← hF, ← hok] at h2; exact h2 : Calls Tryd.prog 6 #[.slice B l.length d, .slice D ss.length f, .int .i64 n] W fun e w' => ∃ v T, e = .returned (.tuple #[v, .bool ok]) ∧ Below W.heap.size W w' ∧ w'.ownsRow W.heap.size T 1 v F.length (intsZ F)))
  have KFs := Lib.hid (fun (W : World) (h : IntsIn W B l) (h1 : IntsIn W D ss) => (by have h2 := specFillFromStock_any l B d ss D f n W h hn h1 hsn hcap hcap2; rw [← hF, ← hok] at h2; exact h2 : Calls Tryd.prog 7 #[.slice B l.length d, .slice D ss.length f, .int .i64 n] W fun e w' => ∃ v T, e = .returned (.tuple #[v, .bool ok]) ∧ Below W.heap.size W w' ∧ w'.ownsRow W.heap.size T 1 v F.length (intsZ F)))
  have KNi := Lib.hid (fun (W : World) (h : IntsIn W B l) => (by have h2 := implThinnestNeeded_any l B d n W h hn hcap; rw [← hth, ← hone] at h2; exact h2 : Calls Tryd.prog 8 #[.slice B l.length d, .int .i64 n] W fun e w' => e = .returned (.tuple #[.int .i64 th, .bool one]) ∧ Below W.heap.size W w'))
  have KNs := Lib.hid (fun (W : World) (h : IntsIn W B l) => (by have h2 := specThinnestNeeded_any l B d n W h hn hcap; rw [← hth, ← hone] at h2; exact h2 : Calls Tryd.prog 9 #[.slice B l.length d, .int .i64 n] W fun e w' => e = .returned (.tuple #[.int .i64 th, .bool one]) ∧ Below W.heap.size W w'))
  have KCi := Lib.hid (fun (W : World) (h : IntsIn W B l) => (by have h2 := implCanFill_any l B d n W h hn; rw [← hone, ← hask] at h2; exact h2 : Calls Tryd.prog 10 #[.slice B l.length d, .int .i64 n] W fun e w' => e = .returned (.tuple #[.bool one, .bool ask]) ∧ Below W.heap.size W w'))
  have KCs := Lib.hid (fun (W : World) (h : IntsIn W B l) => (by have h2 := specCanFill_any l B d n W h hn; rw [← hone, ← hask] at h2; exact h2 : Calls Tryd.prog 11 #[.slice B l.length d, .int .i64 n] W fun e w' => e = .returned (.tuple #[.bool one, .bool ask]) ∧ Below W.heap.size W w'))
  have HF := Lib.hid hF; have HOK := Lib.hid hok; have HTH := Lib.hid hth; have HONE := Lib.hid hone; have HASK := Lib.hid hask
  clear hF hok hth hone hask
  go_wp2_with fail
  refine (KFi.out _ HL.out HS.out).mono ?_
  rintro e w2 ⟨v, T, rfl, hb, ho⟩
  obtain ⟨BFi, dFi, rfl⟩ := own_formI ho
  have HFi := Lib.hid (own_in ho)
  clear ho
  replace HL := Lib.hid (HL.out.below hb (Nat.le_refl _)); replace HS := Lib.hid (HS.out.below hb (Nat.le_refl _))
  replace HA := Lib.hid (HA.out.trans (hb.mono HA.out.size))
  clear hb
  go_wp2_with fail
  refine (KFs.out _ HL.out HS.out).mono ?_
  rintro e w3 ⟨v, T, rfl, hb, ho⟩
  obtain ⟨BFs, dFs, rfl⟩ := own_formI ho
  have HFs := Lib.hid (own_in ho)
  clear ho
  replace HL := Lib.hid (HL.out.below hb (Nat.le_refl _)); replace HS := Lib.hid (HS.out.below hb (Nat.le_refl _)); replace HFi := Lib.hid (HFi.out.below hb (Nat.le_refl _))
  replace HA := Lib.hid (HA.out.trans (hb.mono HA.out.size))
  clear hb
  go_wp2_with fail
  refine (KNi.out _ HL.out).mono ?_
  rintro e w4 ⟨rfl, hb⟩
  replace HL := Lib.hid (HL.out.below hb (Nat.le_refl _)); replace HS := Lib.hid (HS.out.below hb (Nat.le_refl _)); replace HFi := Lib.hid (HFi.out.below hb (Nat.le_refl _)); replace HFs := Lib.hid (HFs.out.below hb (Nat.le_refl _))
  replace HA := Lib.hid (HA.out.trans (hb.mono HA.out.size))
  clear hb
  go_wp2_with fail
  refine (KNs.out _ HL.out).mono ?_
  rintro e w5 ⟨rfl, hb⟩
  replace HL := Lib.hid (HL.out.below hb (Nat.le_refl _)); replace HS := Lib.hid (HS.out.below hb (Nat.le_refl _)); replace HFi := Lib.hid (HFi.out.below hb (Nat.le_refl _)); replace HFs := Lib.hid (HFs.out.below hb (Nat.le_refl _))
  replace HA := Lib.hid (HA.out.trans (hb.mono HA.out.size))
  clear hb
  go_wp2_with fail
  refine (KCi.out _ HL.out).mono ?_
  rintro e w6 ⟨rfl, hb⟩
  replace HL := Lib.hid (HL.out.below hb (Nat.le_refl _)); replace HS := Lib.hid (HS.out.below hb (Nat.le_refl _)); replace HFi := Lib.hid (HFi.out.below hb (Nat.le_refl _)); replace HFs := Lib.hid (HFs.out.below hb (Nat.le_refl _))
  replace HA := Lib.hid (HA.out.trans (hb.mono HA.out.size))
  clear hb
  go_wp2_with fail
  refine (KCs.out _ HL.out).mono ?_
  rintro e w7 ⟨rfl, hb⟩
  replace HL := Lib.hid (HL.out.below hb (Nat.le_refl _)); replace HS := Lib.hid (HS.out.below hb (Nat.le_refl _)); replace HFi := Lib.hid (HFi.out.below hb (Nat.le_refl _)); replace HFs := Lib.hid (HFs.out.below hb (Nat.le_refl _))
  replace HA := Lib.hid (HA.out.trans (hb.mono HA.out.size))
  clear hb
  cases hok2 : ok with
  | false =>
    subst hok2
    have hz : one = true → ask = true := fun h => by rw [HONE.out, canV_iff] at h; rw [HASK.out]; exact h.1
    cases one with
    | false =>
      clear hz
      cases ask with
      | false =>
        have hne : (th != th) = false := by simp
        go_wp2_with fail
        refine (qInts_any F BFi BFs dFi dFs _ HFi.out HFs.out hFl).mono ?_
        rintro e w12 ⟨rfl, hb⟩
        replace HL := Lib.hid (HL.out.below hb (Nat.le_refl _)); replace HS := Lib.hid (HS.out.below hb (Nat.le_refl _)); replace HFi := Lib.hid (HFi.out.below hb (Nat.le_refl _)); replace HFs := Lib.hid (HFs.out.below hb (Nat.le_refl _))
        replace HA := Lib.hid (HA.out.trans (hb.mono HA.out.size))
        clear hb
        go_wp2_with fail
        refine (drawSpacesText_any Ay cy ys _ (HY.out.under HA.out (Nat.le_refl _)) hys).mono ?_
        rintro e w20 ⟨⟨u, U, dU, m, D2, f2, rfl, ⟨hul, hml⟩, ho, ho2⟩, hb⟩
        have HU := Lib.hid (own_in ho); have HM := Lib.hid (own_in ho2)
        have hun : u.length ≤ 1048576 := by omega
        have hmn : m.length ≤ 1048576 := by omega
        replace HA := Lib.hid (HA.out.trans (hb.mono HA.out.size))
        clear ho ho2 hb hul hml
        obtain ⟨V, hV⟩ : ∃ V, V = spcT u m := ⟨_, rfl⟩
        obtain ⟨q, hq⟩ : ∃ q, q = spcAsk u m := ⟨_, rfl⟩
        have KTi := Lib.hid (fun (W : World) (h : IntsIn W U u) (h1 : IntsIn W D2 m) (t : Tab W) => (by have h2 := implSpacesText_any u U dU m D2 f2 W h hun h1 hmn t; rw [← hV, ← hq] at h2; exact h2 : Calls Tryd.prog 13 #[.slice U u.length dU, .slice D2 m.length f2] W fun e w' => e = .returned (.tuple #[.string V, .bool q]) ∧ Below W.heap.size W w'))
        have KTs := Lib.hid (fun (W : World) (h : IntsIn W U u) (h1 : IntsIn W D2 m) => (by have h2 := specSpacesText_any u U dU m D2 f2 W h hun h1 hmn; rw [← hV, ← hq] at h2; exact h2 : Calls Tryd.prog 14 #[.slice U u.length dU, .slice D2 m.length f2] W fun e w' => e = .returned (.tuple #[.string V, .bool q]) ∧ Below W.heap.size W w'))
        clear hV hq
        go_wp2_with fail
        refine (KTi.out _ HU.out HM.out (HT.out.below HA.out)).mono ?_
        rintro e w21 ⟨rfl, hb⟩
        replace HU := Lib.hid (HU.out.below hb (Nat.le_refl _)); replace HM := Lib.hid (HM.out.below hb (Nat.le_refl _))
        replace HA := Lib.hid (HA.out.trans (hb.mono HA.out.size))
        clear hb
        go_wp2_with fail
        refine (KTs.out _ HU.out HM.out).mono ?_
        rintro e w22 ⟨rfl, hb⟩
        replace HA := Lib.hid (HA.out.trans (hb.mono HA.out.size))
        clear hb HU HM
        go_wp2_with fail
        refine (drawThinnestNeeded_any Ay cy ys _ (HY.out.under HA.out (Nat.le_refl _)) hys).mono ?_
        rintro e w23 ⟨⟨v, E, dE, m2, rfl, hvl, ho⟩, hb⟩
        have HE := Lib.hid (own_in ho); have hcE := own_capI ho
        have hvn : v.length ≤ 1048576 := by omega
        replace HA := Lib.hid (HA.out.trans (hb.mono HA.out.size))
        clear ho hb hvl
        obtain ⟨t2, ht2⟩ : ∃ V, V = thinV v m2 := ⟨_, rfl⟩
        obtain ⟨q2, hq2⟩ : ∃ q, q = canV v m2 := ⟨_, rfl⟩
        have KIi := Lib.hid (fun (W : World) (h : IntsIn W E v) => (by have h2 := implThinnestNeeded_any v E dE m2 W h hvn hcE; rw [← ht2, ← hq2] at h2; exact h2 : Calls Tryd.prog 8 #[.slice E v.length dE, .int .i64 m2] W fun e w' => e = .returned (.tuple #[.int .i64 t2, .bool q2]) ∧ Below W.heap.size W w'))
        have KIs := Lib.hid (fun (W : World) (h : IntsIn W E v) => (by have h2 := specThinnestNeeded_any v E dE m2 W h hvn hcE; rw [← ht2, ← hq2] at h2; exact h2 : Calls Tryd.prog 9 #[.slice E v.length dE, .int .i64 m2] W fun e w' => e = .returned (.tuple #[.int .i64 t2, .bool q2]) ∧ Below W.heap.size W w'))
        clear ht2 hq2
        go_wp2_with fail
        refine (KIi.out _ HE.out).mono ?_
        rintro e w24 ⟨rfl, hb⟩
        replace HE := Lib.hid (HE.out.below hb (Nat.le_refl _))
        replace HA := Lib.hid (HA.out.trans (hb.mono HA.out.size))
        clear hb
        go_wp2_with fail
        refine (KIs.out _ HE.out).mono ?_
        rintro e w25 ⟨rfl, hb⟩
        replace HA := Lib.hid (HA.out.trans (hb.mono HA.out.size))
        clear hb HE
        have hVV : (V.toList == V.toList) = true := by simp
        have htt : (t2 == t2) = true := by simp
        cases q <;> cases q2
        all_goals
          go_wp2
          go_ret
          exact ⟨rfl, HA.out⟩
      | true =>
        have hne : (th != th) = false := by simp
        go_wp2_with fail
        refine (qInts_any F BFi BFs dFi dFs _ HFi.out HFs.out hFl).mono ?_
        rintro e w12 ⟨rfl, hb⟩
        replace HL := Lib.hid (HL.out.below hb (Nat.le_refl _)); replace HS := Lib.hid (HS.out.below hb (Nat.le_refl _)); replace HFi := Lib.hid (HFi.out.below hb (Nat.le_refl _)); replace HFs := Lib.hid (HFs.out.below hb (Nat.le_refl _))
        replace HA := Lib.hid (HA.out.trans (hb.mono HA.out.size))
        clear hb
        go_wp2_with fail
        refine (drawSpacesText_any Ay cy ys _ (HY.out.under HA.out (Nat.le_refl _)) hys).mono ?_
        rintro e w20 ⟨⟨u, U, dU, m, D2, f2, rfl, ⟨hul, hml⟩, ho, ho2⟩, hb⟩
        have HU := Lib.hid (own_in ho); have HM := Lib.hid (own_in ho2)
        have hun : u.length ≤ 1048576 := by omega
        have hmn : m.length ≤ 1048576 := by omega
        replace HA := Lib.hid (HA.out.trans (hb.mono HA.out.size))
        clear ho ho2 hb hul hml
        obtain ⟨V, hV⟩ : ∃ V, V = spcT u m := ⟨_, rfl⟩
        obtain ⟨q, hq⟩ : ∃ q, q = spcAsk u m := ⟨_, rfl⟩
        have KTi := Lib.hid (fun (W : World) (h : IntsIn W U u) (h1 : IntsIn W D2 m) (t : Tab W) => (by have h2 := implSpacesText_any u U dU m D2 f2 W h hun h1 hmn t; rw [← hV, ← hq] at h2; exact h2 : Calls Tryd.prog 13 #[.slice U u.length dU, .slice D2 m.length f2] W fun e w' => e = .returned (.tuple #[.string V, .bool q]) ∧ Below W.heap.size W w'))
        have KTs := Lib.hid (fun (W : World) (h : IntsIn W U u) (h1 : IntsIn W D2 m) => (by have h2 := specSpacesText_any u U dU m D2 f2 W h hun h1 hmn; rw [← hV, ← hq] at h2; exact h2 : Calls Tryd.prog 14 #[.slice U u.length dU, .slice D2 m.length f2] W fun e w' => e = .returned (.tuple #[.string V, .bool q]) ∧ Below W.heap.size W w'))
        clear hV hq
        go_wp2_with fail
        refine (KTi.out _ HU.out HM.out (HT.out.below HA.out)).mono ?_
        rintro e w21 ⟨rfl, hb⟩
        replace HU := Lib.hid (HU.out.below hb (Nat.le_refl _)); replace HM := Lib.hid (HM.out.below hb (Nat.le_refl _))
        replace HA := Lib.hid (HA.out.trans (hb.mono HA.out.size))
        clear hb
        go_wp2_with fail
        refine (KTs.out _ HU.out HM.out).mono ?_
        rintro e w22 ⟨rfl, hb⟩
        replace HA := Lib.hid (HA.out.trans (hb.mono HA.out.size))
        clear hb HU HM
        go_wp2_with fail
        refine (drawThinnestNeeded_any Ay cy ys _ (HY.out.under HA.out (Nat.le_refl _)) hys).mono ?_
        rintro e w23 ⟨⟨v, E, dE, m2, rfl, hvl, ho⟩, hb⟩
        have HE := Lib.hid (own_in ho); have hcE := own_capI ho
        have hvn : v.length ≤ 1048576 := by omega
        replace HA := Lib.hid (HA.out.trans (hb.mono HA.out.size))
        clear ho hb hvl
        obtain ⟨t2, ht2⟩ : ∃ V, V = thinV v m2 := ⟨_, rfl⟩
        obtain ⟨q2, hq2⟩ : ∃ q, q = canV v m2 := ⟨_, rfl⟩
        have KIi := Lib.hid (fun (W : World) (h : IntsIn W E v) => (by have h2 := implThinnestNeeded_any v E dE m2 W h hvn hcE; rw [← ht2, ← hq2] at h2; exact h2 : Calls Tryd.prog 8 #[.slice E v.length dE, .int .i64 m2] W fun e w' => e = .returned (.tuple #[.int .i64 t2, .bool q2]) ∧ Below W.heap.size W w'))
        have KIs := Lib.hid (fun (W : World) (h : IntsIn W E v) => (by have h2 := specThinnestNeeded_any v E dE m2 W h hvn hcE; rw [← ht2, ← hq2] at h2; exact h2 : Calls Tryd.prog 9 #[.slice E v.length dE, .int .i64 m2] W fun e w' => e = .returned (.tuple #[.int .i64 t2, .bool q2]) ∧ Below W.heap.size W w'))
        clear ht2 hq2
        go_wp2_with fail
        refine (KIi.out _ HE.out).mono ?_
        rintro e w24 ⟨rfl, hb⟩
        replace HE := Lib.hid (HE.out.below hb (Nat.le_refl _))
        replace HA := Lib.hid (HA.out.trans (hb.mono HA.out.size))
        clear hb
        go_wp2_with fail
        refine (KIs.out _ HE.out).mono ?_
        rintro e w25 ⟨rfl, hb⟩
        replace HA := Lib.hid (HA.out.trans (hb.mono HA.out.size))
        clear hb HE
        have hVV : (V.toList == V.toList) = true := by simp
        have htt : (t2 == t2) = true := by simp
        cases q <;> cases q2
        all_goals
          go_wp2
          go_ret
          exact ⟨rfl, HA.out⟩
    | true =>
      obtain rfl := hz rfl
      clear hz
      have hne : (th != th) = false := by simp
      go_wp2_with fail
      refine (qInts_any F BFi BFs dFi dFs _ HFi.out HFs.out hFl).mono ?_
      rintro e w12 ⟨rfl, hb⟩
      replace HL := Lib.hid (HL.out.below hb (Nat.le_refl _)); replace HS := Lib.hid (HS.out.below hb (Nat.le_refl _)); replace HFi := Lib.hid (HFi.out.below hb (Nat.le_refl _)); replace HFs := Lib.hid (HFs.out.below hb (Nat.le_refl _))
      replace HA := Lib.hid (HA.out.trans (hb.mono HA.out.size))
      clear hb
      go_wp2_with fail
      refine (drawSpacesText_any Ay cy ys _ (HY.out.under HA.out (Nat.le_refl _)) hys).mono ?_
      rintro e w20 ⟨⟨u, U, dU, m, D2, f2, rfl, ⟨hul, hml⟩, ho, ho2⟩, hb⟩
      have HU := Lib.hid (own_in ho); have HM := Lib.hid (own_in ho2)
      have hun : u.length ≤ 1048576 := by omega
      have hmn : m.length ≤ 1048576 := by omega
      replace HA := Lib.hid (HA.out.trans (hb.mono HA.out.size))
      clear ho ho2 hb hul hml
      obtain ⟨V, hV⟩ : ∃ V, V = spcT u m := ⟨_, rfl⟩
      obtain ⟨q, hq⟩ : ∃ q, q = spcAsk u m := ⟨_, rfl⟩
      have KTi := Lib.hid (fun (W : World) (h : IntsIn W U u) (h1 : IntsIn W D2 m) (t : Tab W) => (by have h2 := implSpacesText_any u U dU m D2 f2 W h hun h1 hmn t; rw [← hV, ← hq] at h2; exact h2 : Calls Tryd.prog 13 #[.slice U u.length dU, .slice D2 m.length f2] W fun e w' => e = .returned (.tuple #[.string V, .bool q]) ∧ Below W.heap.size W w'))
      have KTs := Lib.hid (fun (W : World) (h : IntsIn W U u) (h1 : IntsIn W D2 m) => (by have h2 := specSpacesText_any u U dU m D2 f2 W h hun h1 hmn; rw [← hV, ← hq] at h2; exact h2 : Calls Tryd.prog 14 #[.slice U u.length dU, .slice D2 m.length f2] W fun e w' => e = .returned (.tuple #[.string V, .bool q]) ∧ Below W.heap.size W w'))
      clear hV hq
      go_wp2_with fail
      refine (KTi.out _ HU.out HM.out (HT.out.below HA.out)).mono ?_
      rintro e w21 ⟨rfl, hb⟩
      replace HU := Lib.hid (HU.out.below hb (Nat.le_refl _)); replace HM := Lib.hid (HM.out.below hb (Nat.le_refl _))
      replace HA := Lib.hid (HA.out.trans (hb.mono HA.out.size))
      clear hb
      go_wp2_with fail
      refine (KTs.out _ HU.out HM.out).mono ?_
      rintro e w22 ⟨rfl, hb⟩
      replace HA := Lib.hid (HA.out.trans (hb.mono HA.out.size))
      clear hb HU HM
      go_wp2_with fail
      refine (drawThinnestNeeded_any Ay cy ys _ (HY.out.under HA.out (Nat.le_refl _)) hys).mono ?_
      rintro e w23 ⟨⟨v, E, dE, m2, rfl, hvl, ho⟩, hb⟩
      have HE := Lib.hid (own_in ho); have hcE := own_capI ho
      have hvn : v.length ≤ 1048576 := by omega
      replace HA := Lib.hid (HA.out.trans (hb.mono HA.out.size))
      clear ho hb hvl
      obtain ⟨t2, ht2⟩ : ∃ V, V = thinV v m2 := ⟨_, rfl⟩
      obtain ⟨q2, hq2⟩ : ∃ q, q = canV v m2 := ⟨_, rfl⟩
      have KIi := Lib.hid (fun (W : World) (h : IntsIn W E v) => (by have h2 := implThinnestNeeded_any v E dE m2 W h hvn hcE; rw [← ht2, ← hq2] at h2; exact h2 : Calls Tryd.prog 8 #[.slice E v.length dE, .int .i64 m2] W fun e w' => e = .returned (.tuple #[.int .i64 t2, .bool q2]) ∧ Below W.heap.size W w'))
      have KIs := Lib.hid (fun (W : World) (h : IntsIn W E v) => (by have h2 := specThinnestNeeded_any v E dE m2 W h hvn hcE; rw [← ht2, ← hq2] at h2; exact h2 : Calls Tryd.prog 9 #[.slice E v.length dE, .int .i64 m2] W fun e w' => e = .returned (.tuple #[.int .i64 t2, .bool q2]) ∧ Below W.heap.size W w'))
      clear ht2 hq2
      go_wp2_with fail
      refine (KIi.out _ HE.out).mono ?_
      rintro e w24 ⟨rfl, hb⟩
      replace HE := Lib.hid (HE.out.below hb (Nat.le_refl _))
      replace HA := Lib.hid (HA.out.trans (hb.mono HA.out.size))
      clear hb
      go_wp2_with fail
      refine (KIs.out _ HE.out).mono ?_
      rintro e w25 ⟨rfl, hb⟩
      replace HA := Lib.hid (HA.out.trans (hb.mono HA.out.size))
      clear hb HE
      have hVV : (V.toList == V.toList) = true := by simp
      have htt : (t2 == t2) = true := by simp
      cases q <;> cases q2
      all_goals
        go_wp2
        go_ret
        exact ⟨rfl, HA.out⟩
  | true =>
    have hfo := fill_ok (l := l) (ss := ss) (n := n) (by rw [← HOK.out, hok2])
    rw [← HF.out] at hfo
    have h1 : one = true := by rw [HONE.out]; exact hfo.can
    have h2 : ask = true := by rw [HASK.out]; exact hfo.ask
    have HFO := Lib.hid hfo
    have HTF : Hid (∀ (h : 0 < F.length), th ≤ F[0]) := Lib.hid (by rw [HTH.out]; exact hfo.thin)
    clear hfo
    subst hok2 h1 h2
    have hne : (th != th) = false := by simp
    go_wp2_with fail
    refine (qInts_any F BFi BFs dFi dFs _ HFi.out HFs.out hFl).mono ?_
    rintro e w12 ⟨rfl, hb⟩
    replace HL := Lib.hid (HL.out.below hb (Nat.le_refl _)); replace HS := Lib.hid (HS.out.below hb (Nat.le_refl _)); replace HFi := Lib.hid (HFi.out.below hb (Nat.le_refl _)); replace HFs := Lib.hid (HFs.out.below hb (Nat.le_refl _))
    replace HA := Lib.hid (HA.out.trans (hb.mono HA.out.size))
    clear hb
    go_wp2
    generalize hwx : w12 = wx at *
    clear hwx
    go_loopw [20, 136] (fun sv i wr => ∃ k : Nat, k ≤ F.length ∧ i = .int .i64 (k : Int) ∧ sv = .int .i64 (remS l ss n (l.length - k)) ∧ Below wx.heap.size wx wr) (fun _ i _ => F.length - (intOf i).toNat)
    case atStart => exact ⟨0, Nat.zero_le _, rfl, by rw [Nat.sub_zero, HFO.out.done], Below.refl _ _⟩
    case round =>
      obtain ⟨k, hk, rfl, rfl, hb⟩ := hrel
      by_cases hlt : k < F.length
      · have hkl : k < l.length := by rw [← HFO.out.len]; exact hlt
        have hks : k < ss.length := by rw [HFO.out.stock]; exact hkl
        obtain ⟨b0, off, rfl, hbl, hc⟩ := HFs.out (by omega)
        obtain ⟨b1, off1, rfl, hbl1, hc1⟩ := HL.out (by omega)
        obtain ⟨b2, off2, rfl, hbl2, hc2⟩ := HS.out (by omega)
        have e0 := (hb.cell (p := ⟨b0, off + k, none⟩) hbl).trans (hc k hlt)
        have e1 := (hb.cell (p := ⟨b1, off1 + k, none⟩) hbl1).trans (hc1 k hkl)
        have e2 := (hb.cell (p := ⟨b2, off2 + k, none⟩) hbl2).trans (hc2 k hks)
        have hst := HFO.out.step k hkl hlt
        have hin := HFO.out.within k hlt hks
        have hr1 := HFO.out.range (l.length - (k + 1)) (by omega)
        have hr0 := HFO.out.range (l.length - k) (by omega)
        have hb400 := HFO.out.width
        have HB := Lib.hid hb
        have hk1 : (k : Int) < (F.length : Int) := by omega
        have hk2 : (k : Int) < (l.length : Int) := by omega
        have hk3 : (k : Int) < (ss.length : Int) := by omega
        have hk0 : (0 : Int) ≤ (k : Int) := by omega
        clear hc hc1 hc2 hb
        generalize F[k]'hlt = x at *
        generalize l[k]'hkl = y at *
        generalize ss[k]'hks = z at *
        have hx0 : ¬ x < 0 := by omega
        have hxz : ¬ z < x := by omega
        clear hin
        obtain ⟨p, hp⟩ : ∃ p : Int, x * y = p := ⟨_, rfl⟩
        rw [hp] at hst
        obtain ⟨g0, hg0⟩ : ∃ g, g = remS l ss n (l.length - k) := ⟨_, rfl⟩
        obtain ⟨g1, hg1⟩ : ∃ g, g = remS l ss n (l.length - (k + 1)) := ⟨_, rfl⟩
        rw [← hg0, ← hg1] at hst
        rw [← hg0] at hr0
        rw [← hg1] at hr1
        rw [← hg0]
        have hpr : -400 ≤ p ∧ p ≤ 400 := by omega
        have hsum : g0 + p = g1 := hst.symm
        have HG1 := Lib.hid hg1
        clear hst hg0 hg1
        go_wp2
        go_roundw
        case rel => exact ⟨k + 1, by omega, by go_num, by rw [← HG1.out], HB.out⟩
        case measure => simp [intOf]; omega
      · obtain rfl : k = F.length := by omega
        have hen : remS l ss n (l.length - F.length) = n := by rw [HFO.out.len, Nat.sub_self]; first | done | rfl
        rw [hen]
        have hnn : (n != n) = false := by simp
        generalize hwy2 : wr = wy2 at *
        clear hwy2 hen hlt hk
        have hone := HFO.out.good.one
        have hF0 : 0 < F.length := by rw [HFO.out.len]; omega
        have hF0i : (0 : Int) < (F.length : Int) := by omega
        have hthin := HTF.out hF0
        obtain ⟨b0, off, rfl, hbl, hc⟩ := HFs.out hF0
        have e0 := (hb.cell (p := ⟨b0, off + 0, none⟩) hbl).trans (hc 0 hF0)
        rw [Nat.add_zero] at e0
        replace HL := Lib.hid (HL.out.below hb (Nat.le_refl _)); replace HFi := Lib.hid (HFi.out.below hb (Nat.le_refl _)); replace HFs := Lib.hid (HFs.out.below hb (Nat.le_refl _))
        replace HA := Lib.hid (HA.out.trans (hb.mono HA.out.size))
        have hbt : Below wx.heap.size wx wy2 := hb
        clear hc hb hone
        generalize F[0]'hF0 = x0 at *
        have hth0 : ¬ x0 < th := by omega
        obtain ⟨V0, hV0⟩ : ∃ V, V = spcT l F := ⟨_, rfl⟩
        have KTi0 := Lib.hid (fun (W : World) (h : IntsIn W B l) (h1 : IntsIn W BFi F) (t : Tab W) => (by have h2 := implSpacesText_any l B d F BFi dFi W h hn h1 hFl t; rw [← hV0, HFO.out.text] at h2; exact h2 : Calls Tryd.prog 13 #[.slice B l.length d, .slice BFi F.length dFi] W fun e w' => e = .returned (.tuple #[.string V0, .bool true]) ∧ Below W.heap.size W w'))
        have KTs0 := Lib.hid (fun (W : World) (h : IntsIn W B l) (h1 : IntsIn W (some ⟨b0, off, none⟩) F) => (by have h2 := specSpacesText_any l B d F (some ⟨b0, off, none⟩) dFs W h hn h1 hFl; rw [← hV0, HFO.out.text] at h2; exact h2 : Calls Tryd.prog 14 #[.slice B l.length d, .slice (some ⟨b0, off, none⟩) F.length dFs] W fun e w' => e = .returned (.tuple #[.string V0, .bool true]) ∧ Below W.heap.size W w'))
        clear hV0 hbt
        go_wp2_with fail
        refine (KTi0.out _ HL.out HFi.out (HT.out.below HA.out)).mono ?_
        rintro e w13 ⟨rfl, hb⟩
        replace HL := Lib.hid (HL.out.below hb (Nat.le_refl _)); replace HFs := Lib.hid (HFs.out.below hb (Nat.le_refl _))
        replace HA := Lib.hid (HA.out.trans (hb.mono HA.out.size))
        clear hb e0
        go_wp2_with fail
        refine (KTs0.out _ HL.out HFs.out).mono ?_
        rintro e w14 ⟨rfl, hb⟩
        replace HA := Lib.hid (HA.out.trans (hb.mono HA.out.size))
        clear hb
        have hV00 : (!(V0.toList == V0.toList)) = false := by simp
        go_wp2_with fail
        refine (drawSpacesText_any Ay cy ys _ (HY.out.under HA.out (Nat.le_refl _)) hys).mono ?_
        rintro e w20 ⟨⟨u, U, dU, m, D2, f2, rfl, ⟨hul, hml⟩, ho, ho2⟩, hb⟩
        have HU := Lib.hid (own_in ho); have HM := Lib.hid (own_in ho2)
        have hun : u.length ≤ 1048576 := by omega
        have hmn : m.length ≤ 1048576 := by omega
        replace HA := Lib.hid (HA.out.trans (hb.mono HA.out.size))
        clear ho ho2 hb hul hml
        obtain ⟨V, hV⟩ : ∃ V, V = spcT u m := ⟨_, rfl⟩
        obtain ⟨q, hq⟩ : ∃ q, q = spcAsk u m := ⟨_, rfl⟩
        have KTi := Lib.hid (fun (W : World) (h : IntsIn W U u) (h1 : IntsIn W D2 m) (t : Tab W) => (by have h2 := implSpacesText_any u U dU m D2 f2 W h hun h1 hmn t; rw [← hV, ← hq] at h2; exact h2 : Calls Tryd.prog 13 #[.slice U u.length dU, .slice D2 m.length f2] W fun e w' => e = .returned (.tuple #[.string V, .bool q]) ∧ Below W.heap.size W w'))
        have KTs := Lib.hid (fun (W : World) (h : IntsIn W U u) (h1 : IntsIn W D2 m) => (by have h2 := specSpacesText_any u U dU m D2 f2 W h hun h1 hmn; rw [← hV, ← hq] at h2; exact h2 : Calls Tryd.prog 14 #[.slice U u.length dU, .slice D2 m.length f2] W fun e w' => e = .returned (.tuple #[.string V, .bool q]) ∧ Below W.heap.size W w'))
        clear hV hq
        go_wp2_with fail
        refine (KTi.out _ HU.out HM.out (HT.out.below HA.out)).mono ?_
        rintro e w21 ⟨rfl, hb⟩
        replace HU := Lib.hid (HU.out.below hb (Nat.le_refl _)); replace HM := Lib.hid (HM.out.below hb (Nat.le_refl _))
        replace HA := Lib.hid (HA.out.trans (hb.mono HA.out.size))
        clear hb
        go_wp2_with fail
        refine (KTs.out _ HU.out HM.out).mono ?_
        rintro e w22 ⟨rfl, hb⟩
        replace HA := Lib.hid (HA.out.trans (hb.mono HA.out.size))
        clear hb HU HM
        go_wp2_with fail
        refine (drawThinnestNeeded_any Ay cy ys _ (HY.out.under HA.out (Nat.le_refl _)) hys).mono ?_
        rintro e w23 ⟨⟨v, E, dE, m2, rfl, hvl, ho⟩, hb⟩
        have HE := Lib.hid (own_in ho); have hcE := own_capI ho
        have hvn : v.length ≤ 1048576 := by omega
        replace HA := Lib.hid (HA.out.trans (hb.mono HA.out.size))
        clear ho hb hvl
        obtain ⟨t2, ht2⟩ : ∃ V, V = thinV v m2 := ⟨_, rfl⟩
        obtain ⟨q2, hq2⟩ : ∃ q, q = canV v m2 := ⟨_, rfl⟩
        have KIi := Lib.hid (fun (W : World) (h : IntsIn W E v) => (by have h2 := implThinnestNeeded_any v E dE m2 W h hvn hcE; rw [← ht2, ← hq2] at h2; exact h2 : Calls Tryd.prog 8 #[.slice E v.length dE, .int .i64 m2] W fun e w' => e = .returned (.tuple #[.int .i64 t2, .bool q2]) ∧ Below W.heap.size W w'))
        have KIs := Lib.hid (fun (W : World) (h : IntsIn W E v) => (by have h2 := specThinnestNeeded_any v E dE m2 W h hvn hcE; rw [← ht2, ← hq2] at h2; exact h2 : Calls Tryd.prog 9 #[.slice E v.length dE, .int .i64 m2] W fun e w' => e = .returned (.tuple #[.int .i64 t2, .bool q2]) ∧ Below W.heap.size W w'))
        clear ht2 hq2
        go_wp2_with fail
        refine (KIi.out _ HE.out).mono ?_
        rintro e w24 ⟨rfl, hb⟩
        replace HE := Lib.hid (HE.out.below hb (Nat.le_refl _))
        replace HA := Lib.hid (HA.out.trans (hb.mono HA.out.size))
        clear hb
        go_wp2_with fail
        refine (KIs.out _ HE.out).mono ?_
        rintro e w25 ⟨rfl, hb⟩
        replace HA := Lib.hid (HA.out.trans (hb.mono HA.out.size))
        clear hb HE
        have hVV : (V.toList == V.toList) = true := by simp
        have htt : (t2 == t2) = true := by simp
        cases q <;> cases q2
        all_goals
          go_wp2
          go_ret
          exact ⟨rfl, HA.out⟩
end Go.Proofs.YthhmbcgamcbfdaaDoor

/-
  The draws of FnSpaceStocks: spec.DrawSpacesText, spec.DrawThinnestNeeded, spec.DrawFillFromStock.
-/
import Derived.Test.YthhmbcgamcbfdaaDoorZd
namespace Go.Proofs.YthhmbcgamcbfdaaDoor
open Go.RowKit
set_option linter.unusedVariables false

set_option maxRecDepth 100000 in
theorem drawThinnestNeeded_any (A : Option Addr) (c : Nat) (xs : List UInt8) (w : World) (hx : BytesIn w A xs) (hxs : xs.length ≤ maxLen) :
    Calls Tryd.prog 16 #[.slice A xs.length c] w fun e w' => (∃ (l : List Int) (B : Option Addr) (d : Nat) (n : Int), e = .returned (.tuple #[.slice B l.length d, .int .i64 n]) ∧ l.length ≤ 7 ∧ w'.ownsRow w.heap.size 3 1 (.slice B l.length d) l.length (intsZ l)) ∧ Below w.heap.size w w' := by
  go_enter Tryd.func16, Tryd.ntmps16
  go_wp2_with fail
  refine (drawCanFill_any A c xs w hx hxs).mono ?_
  rintro e w1 ⟨⟨l, B, d, n, rfl, hl, ho⟩, hb⟩
  have HO := Lib.hid ho; have HB := Lib.hid hb
  clear ho hb hx
  go_wp2
  go_ret2
  exact ⟨⟨l, B, d, n, rfl, hl, HO.out⟩, HB.out⟩

set_option maxRecDepth 100000 in
theorem drawSpacesText_any (A : Option Addr) (c : Nat) (xs : List UInt8) (w : World) (hx : BytesIn w A xs) (hxs : xs.length ≤ maxLen) :
    Calls Tryd.prog 15 #[.slice A xs.length c] w fun e w' => (∃ (l : List Int) (B : Option Addr) (d : Nat) (m : List Int) (D : Option Addr) (f : Nat), e = .returned (.tuple #[.slice B l.length d, .slice D m.length f]) ∧ (l.length ≤ 7 ∧ m.length ≤ 8) ∧ w'.ownsRow w.heap.size 3 1 (.slice B l.length d) l.length (intsZ l) ∧ w'.ownsRow w.heap.size 3 1 (.slice D m.length f) m.length (intsZ m)) ∧ Below w.heap.size w w' := by
  have HCUR := Lib.hid (cur_new (c := c) hx)
  have HB0 := Lib.hid ((Below.refl w.heap.size w).alloc (Nat.le_refl _) (.cells #[.slice A xs.length c, .int .i64 0, .int .u64 0] 44))
  clear hx
  go_enter Tryd.func15, Tryd.ntmps15
  go_wp2_with fail
  refine (kinds_any w.heap.size c 0 A xs _ HCUR.out (by omega) hxs).mono ?_
  rintro e w1 ⟨⟨l, B, d, rfl, hl, ho⟩, hc1, hg1⟩
  have HO := Lib.hid ho
  have HB := Lib.hid (HB0.out.grown hg1 HB0.out.size (fun k hk => by have := Option.some.inj hk; omega))
  have HC1 := Lib.hid hc1
  have hs1 := hg1.size
  simp only [World.size_alloc] at hs1
  clear ho hc1 hg1
  go_wp2_with fail
  refine (countsOf_any w.heap.size c 25 l.length A xs B d _ HC1.out (by omega) hxs hl).mono ?_
  rintro e w2 ⟨⟨m, D, f, rfl, hm, ho2⟩, hc2, hg2⟩
  have HO2 := Lib.hid (Joins.ownsRow_le (own_grown HO.out hg2 (fun q hq e => by have h1 := own_lt HO.out q hq; have h2 := Option.some.inj e; simp at h1; omega)) (by simp : w.heap.size ≤ _))
  have HD2 := Lib.hid (Joins.ownsRow_le ho2 (show w.heap.size ≤ w1.heap.size by omega))
  have HB2 := Lib.hid (HB.out.grown hg2 HB.out.size (fun k hk => by have := Option.some.inj hk; omega))
  clear ho2 hc2 hg2
  go_wp2
  go_ret2
  exact ⟨⟨l, B, d, m, D, f, rfl, ⟨hl, hm⟩, HO2.out, HD2.out⟩, HB2.out⟩

/-- What the draw answers. -/
def StockTo (w w' : World) (l : List Int) (B : Option Addr) (d : Nat) (m : List Int) (D : Option Addr) (f : Nat) : Prop :=
  (l.length ≤ 7 ∧ m.length ≤ 8) ∧ w'.ownsRow w.heap.size 3 1 (.slice B l.length d) l.length (intsZ l) ∧ w'.ownsRow w.heap.size 3 1 (.slice D m.length f) m.length (intsZ m)
theorem small_pick (y : Int) : ∃ q : Int, (0 ≤ q ∧ q ≤ 10) ∧ (if (if 0 < y then y else 0) < 10 then (if 0 < y then y else 0) else 10) = q := ⟨_, by split <;> split <;> omega, rfl⟩

set_option maxRecDepth 100000 in
set_option maxHeartbeats 4000000 in
theorem drawFillFromStock_any (A : Option Addr) (c : Nat) (xs : List UInt8) (w : World) (hx : BytesIn w A xs) (hxs : xs.length ≤ maxLen) :
    Calls Tryd.prog 5 #[.slice A xs.length c] w fun e w' => (∃ (l : List Int) (B : Option Addr) (d : Nat) (m : List Int) (D : Option Addr) (f : Nat) (n : Int), e = .returned (.tuple #[.slice B l.length d, .slice D m.length f, .int .i64 n]) ∧ StockTo w w' l B d m D f) ∧ Below w.heap.size w w' := by
  have HCUR := Lib.hid (cur_new (c := c) hx)
  have HB0 := Lib.hid ((Below.refl w.heap.size w).alloc (Nat.le_refl _) (.cells #[.slice A xs.length c, .int .i64 0, .int .u64 0] 44))
  clear hx
  go_enter Tryd.func5, Tryd.ntmps5
  go_wp2_with fail
  refine (kinds_any w.heap.size c 0 A xs _ HCUR.out (by omega) hxs).mono ?_
  rintro e w1 ⟨⟨l, B, d, rfl, hl, ho⟩, hc1, hg1⟩
  have HO := Lib.hid ho
  have HB := Lib.hid (HB0.out.grown hg1 HB0.out.size (fun k hk => by have := Option.some.inj hk; omega))
  have HC1 := Lib.hid hc1
  have hs1 := hg1.size
  simp only [World.size_alloc] at hs1
  clear ho hc1 hg1 HB0
  go_wp2_with fail
  refine (countsOf_any w.heap.size c 25 l.length A xs B d _ HC1.out (by omega) hxs hl).mono ?_
  rintro e w2 ⟨⟨m, D, f, rfl, hm, ho2⟩, hc2, hg2⟩
  have HO2 : Hid (w2.ownsRow (w.heap.size + 1) 3 1 (.slice B l.length d) l.length (intsZ l)) := Lib.hid (Joins.ownsRow_le (own_grown HO.out hg2 (fun q hq e => by have h1 := own_lt HO.out q hq; have h2 := Option.some.inj e; simp at h1; omega)) (by simp : w.heap.size + 1 ≤ _))
  have HD2 : Hid (w2.ownsRow (w.heap.size + 1) 3 1 (.slice D m.length f) m.length (intsZ m)) := Lib.hid (Joins.ownsRow_le ho2 (show w.heap.size + 1 ≤ w1.heap.size by omega))
  have HB2 := Lib.hid (HB.out.grown hg2 HB.out.size (fun k hk => by have := Option.some.inj hk; omega))
  have HC2 := Lib.hid hc2
  clear ho2 hc2 hg2 HB HC1 HO
  go_wp2_with fail
  refine (wsKinds_any l B d _ (own_in HO2.out) (by omega)).mono ?_
  rintro e w9 ⟨rfl, rfl⟩
  have other : ∀ (W : World), W.ownsRow (w.heap.size + 1) 3 1 (.slice B l.length d) l.length (intsZ l) → W.ownsRow (w.heap.size + 1) 3 1 (.slice D m.length f) m.length (intsZ m) → StockTo w W l B d m D f := fun W h1 h2 => ⟨⟨hl, hm⟩, Joins.ownsRow_le h1 (by omega), Joins.ownsRow_le h2 (by omega)⟩
  have OT := Lib.hid other; clear other
  cases kindsB l with
  | false =>
    go_wp2_with fail
    refine (fill_any w.heap.size c 37 A xs _ HC2.out (by omega) hxs).mono ?_
    rintro e w3 ⟨⟨n, rfl⟩, hc3, hg3⟩
    have HO3 := Lib.hid (own_grown HO2.out hg3 (fun q hq e => by have h1 := own_lt HO2.out q hq; have h2 := Option.some.inj e; omega))
    have HD3 := Lib.hid (own_grown HD2.out hg3 (fun q hq e => by have h1 := own_lt HD2.out q hq; have h2 := Option.some.inj e; omega))
    have HB3 := Lib.hid (HB2.out.grown hg3 HB2.out.size (fun k hk => by have := Option.some.inj hk; omega))
    clear hc3 hg3
    go_wp2
    go_ret3
    exact ⟨⟨l, B, d, m, D, f, n, rfl, OT.out _ HO3.out HD3.out⟩, HB3.out⟩
  | true =>
    by_cases he : m.length = l.length
    · have hd : ((m.length : Int) == (l.length : Int)) = true := by simp [he]
      have HE := Lib.hid he; clear he
      go_wp2_with fail
      refine (one_any 2 w.heap.size c 37 A xs _ HC2.out (by omega) hxs (by omega) (by omega)).mono ?_
      rintro e w4 ⟨⟨t, rfl⟩, hc4, hg4⟩
      have HO4 := Lib.hid (own_grown HO2.out hg4 (fun q hq e => by have h1 := own_lt HO2.out q hq; have h2 := Option.some.inj e; omega))
      have HD4 := Lib.hid (own_grown HD2.out hg4 (fun q hq e => by have h1 := own_lt HD2.out q hq; have h2 := Option.some.inj e; omega))
      have HB4 := Lib.hid (HB2.out.grown hg4 HB2.out.size (fun k hk => by have := Option.some.inj hk; omega))
      have HC4 := Lib.hid hc4
      clear hc4 hg4 HC2 HO2 HD2 HB2 hd
      cases t with
      | false =>
        go_wp2_with fail
        refine (fill_any w.heap.size c 38 A xs _ HC4.out (by omega) hxs).mono ?_
        rintro e w3 ⟨⟨n, rfl⟩, hc3, hg3⟩
        have HO3 := Lib.hid (own_grown HO4.out hg3 (fun q hq e => by have h1 := own_lt HO4.out q hq; have h2 := Option.some.inj e; omega))
        have HD3 := Lib.hid (own_grown HD4.out hg3 (fun q hq e => by have h1 := own_lt HD4.out q hq; have h2 := Option.some.inj e; omega))
        have HB3 := Lib.hid (HB4.out.grown hg3 HB4.out.size (fun k hk => by have := Option.some.inj hk; omega))
        clear hc3 hg3
        go_wp2
        go_ret3
        exact ⟨⟨l, B, d, m, D, f, n, rfl, OT.out _ HO3.out HD3.out⟩, HB3.out⟩
      | true =>
        go_wp2
        go_loopw [8, 34] (fun sv i wr => ∃ (k : Nat) (s : Int), k ≤ l.length ∧ i = .int .i64 (k : Int) ∧ sv = .int .i64 s ∧ wr.ownsRow (w.heap.size + 1) 3 1 (.slice B l.length d) l.length (intsZ l) ∧ wr.ownsRow (w.heap.size + 1) 3 1 (.slice D m.length f) m.length (intsZ m) ∧ CurLe wr w.heap.size A c (38 + k) xs ∧ Below w.heap.size w wr) (fun _ i _ => l.length - (intOf i).toNat)
        case atStart => exact ⟨0, 0, Nat.zero_le _, rfl, rfl, HO4.out, HD4.out, HC4.out, HB4.out⟩
        case round =>
          obtain ⟨k, s, hk, rfl, rfl, ho, hd, hc, hb⟩ := hrel
          have HO5 := Lib.hid ho; have HD5 := Lib.hid hd; have HC5 := Lib.hid hc; have HB5 := Lib.hid hb
          clear ho hd hc hb
          by_cases hlt : k < l.length
          · have hkm : k < m.length := by have := HE.out; omega
            obtain ⟨b0, off, rfl, hbl, hc⟩ := (own_in HO5.out) (by omega)
            obtain ⟨b1, off1, rfl, hbl1, hc1⟩ := (own_in HD5.out) (by omega)
            have e0 := hc k hlt
            have e1 := hc1 k hkm
            have hk1 : (k : Int) < (l.length : Int) := by omega
            have hk2 : (k : Int) < (m.length : Int) := by omega
            have hk0 : (0 : Int) ≤ (k : Int) := by omega
            clear hc hc1
            generalize l[k]'hlt = x at *
            generalize m[k]'hkm = y at *
            go_wp2_with fail
            refine (l1Most_any _ _ _).mono ?_
            rintro e w9 ⟨rfl, rfl⟩
            obtain ⟨g, hg⟩ : ∃ g : Int, (if 0 < y then y else 0) = g := ⟨_, rfl⟩
            have hg0 : 0 ≤ g := by rw [← hg]; split <;> omega
            first | rw [hg] | skip
            clear hg
            go_wp2_with fail
            refine (l1Least_any _ _ _).mono ?_
            rintro e w9 ⟨rfl, rfl⟩
            obtain ⟨q, hq⟩ : ∃ q : Int, (if g < 10 then g else 10) = q := ⟨_, rfl⟩
            have hq0 : 0 ≤ q ∧ q ≤ 10 := by rw [← hq]; split <;> omega
            rw [hq]
            clear hq
            go_wp2_with fail
            refine (pickI_any (q + 1) w.heap.size c (38 + k) A xs _ HC5.out (by omega) hxs (by omega) (by omega)).mono ?_
            rintro e w6 ⟨⟨z, hz, rfl⟩, hc6, hg6⟩
            have HO6 := Lib.hid (own_grown HO5.out hg6 (fun q hq e => by have h1 := own_lt HO5.out q hq; have h2 := Option.some.inj e; omega))
            have HD6 := Lib.hid (own_grown HD5.out hg6 (fun q hq e => by have h1 := own_lt HD5.out q hq; have h2 := Option.some.inj e; omega))
            have HB6 := Lib.hid (HB5.out.grown hg6 HB5.out.size (fun k hk => by have := Option.some.inj hk; omega))
            have HC6 := Lib.hid hc6
            clear hc6 hg6 e0 e1
            go_wp2
            go_roundw
            case rel => exact ⟨k + 1, _, by omega, by go_num, rfl, HO6.out, HD6.out, HC6.out, HB6.out⟩
            case measure => simp [intOf]; omega
          · obtain rfl : k = l.length := by omega
            go_wp2_with fail
            refine (l1Least_any _ _ _).mono ?_
            rintro e w9 ⟨rfl, rfl⟩
            generalize (if s < 400 then s else 400) = t9
            go_wp2
            go_ret3
            first
              | exact ⟨⟨l, B, d, m, D, f, _, rfl, OT.out _ HO5.out HD5.out⟩, HB5.out⟩
              | exact ⟨⟨l, B, d, m, D, f, ⟨_, rfl⟩, OT.out _ HO5.out HD5.out⟩, HB5.out⟩
    · have hd : ((m.length : Int) == (l.length : Int)) = false := by simp; omega
      clear he
      go_wp2_with fail
      refine (fill_any w.heap.size c 37 A xs _ HC2.out (by omega) hxs).mono ?_
      rintro e w3 ⟨⟨n, rfl⟩, hc3, hg3⟩
      have HO3 := Lib.hid (own_grown HO2.out hg3 (fun q hq e => by have h1 := own_lt HO2.out q hq; have h2 := Option.some.inj e; omega))
      have HD3 := Lib.hid (own_grown HD2.out hg3 (fun q hq e => by have h1 := own_lt HD2.out q hq; have h2 := Option.some.inj e; omega))
      have HB3 := Lib.hid (HB2.out.grown hg3 HB2.out.size (fun k hk => by have := Option.some.inj hk; omega))
      clear hc3 hg3
      go_wp2
      go_ret3
      exact ⟨⟨l, B, d, m, D, f, n, rfl, OT.out _ HO3.out HD3.out⟩, HB3.out⟩
end Go.Proofs.YthhmbcgamcbfdaaDoor

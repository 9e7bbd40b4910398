/-
  The draw of tables with a total width.
-/
import Derived.Test.YteagclokobkigaaGe
namespace Go.Proofs.Yteagclokobkigaa
open Go.RowKit
set_option linter.unusedVariables false

set_option maxRecDepth 100000 in
set_option maxHeartbeats 4000000 in
theorem drawLatestColumns_any (A : Option Addr) (c : Nat) (xs : List UInt8) (w : World) (hx : BytesIn w A xs) (hxs : xs.length ≤ maxLen) :
    Calls Try.prog 30 #[.slice A xs.length c] w fun e w' => DrawnG w w' e (-1) 12000 := by
  obtain ⟨b, hb⟩ : ∃ b, b = w.heap.size := ⟨_, rfl⟩
  have HCUR := Lib.hid (cur_new hx c)
  have HB0 : Hid (Below w.heap.size w (w.alloc (.cells #[.slice A xs.length c, .int .i64 0, .int .u64 0] 50))) := Lib.hid ((Below.refl _ _).alloc (Nat.le_refl _) _)
  rw [← hb] at HCUR
  have hbw : w.heap.size ≤ b := by omega
  have HBE := Lib.hid hb.symm
  clear hx hb
  go_enter Try.func30, Try.ntmps30
  go_wp2_with fail
  rw [HBE.out]
  refine (table_any b c 0 A xs _ HCUR.out (by omega) hxs).mono ?_
  rintro e w1 ⟨⟨n, l, B, d, rfl, hn1, hn2, hl, hr, ho⟩, hc1, hg1⟩
  have HC1 := Lib.hid hc1; have HER := Lib.hid hr
  have HB1 := Lib.hid (HB0.out.grown hg1 HB0.out.size (fun k hk => by have := Option.some.inj hk; omega))
  have HCAP := Lib.hid (own_capE ho)
  have hbu : b < (w.alloc (.cells #[.slice A xs.length c, .int .i64 0, .int .u64 0] 50)).heap.size := HCUR.out.lt
  have HO1 := Lib.hid (Joins.ownsRow_le (base' := b + 1) ho hbu)
  have hbl1 := hc1.lt
  have hlx : l.length ≤ 1048576 := by omega
  clear hc1 hg1 hr ho hbu HCUR HB0
  go_wp2_with fail
  refine (gapOf_any b c 160 A xs _ (HC1.out.more (by omega)) (by omega) hxs).mono ?_
  rintro e w2 ⟨⟨g, hga, hgb, rfl⟩, hc2, hg2⟩
  have HC2 := Lib.hid hc2
  have HB2 := Lib.hid (HB1.out.grown hg2 HB1.out.size (fun k hk => by have := Option.some.inj hk; omega))
  have HO2 := Lib.hid (own_grown HO1.out hg2 (fun q hq e => by have h1 := own_lt HO1.out q hq; have := Option.some.inj e; omega))
  have hbl2 := hc2.lt
  clear hc2 hg2 HC1 HB1 HO1
  go_wp2_with fail
  refine (tbAsked_any n l B d g _ (own_ensA HO2.out) hlx).mono ?_
  rintro e w3 ⟨rfl, hb3⟩
  have HC3 := Lib.hid (HC2.out.below hb3); have HO3 := Lib.hid (own_below HO2.out hb3)
  have HB3 := Lib.hid (HB2.out.trans (hb3.mono HB2.out.size))
  have hbl3 := HC3.out.lt
  clear hb3 HC2 HO2 HB2
  cases ha : askT n l g
  · skip
    have hb8 : Below w3.heap.size w3 (w3.alloc (.cells (intsZ [0, 50, 200, 5000, 5001, -1]).toArray 3)) := (Below.refl _ _).alloc (Nat.le_refl _) _
    have HC8 := Lib.hid (HC3.out.below hb8); have HR8 := Lib.hid (row_ints w3 [0, 50, 200, 5000, 5001, -1])
    have HB8 := Lib.hid (HB3.out.trans (hb8.mono HB3.out.size))
    have HO8 := Lib.hid (own_below HO3.out hb8)
    clear hb8 HC3 HB3 HO3
    go_wp2_with fail
    refine (among_any [0, 50, 200, 5000, 5001, -1] _ _ b c (160 + 3) A xs _ (HC8.out.more (by omega)) (by omega) hxs HR8.out (by omega) (by simp) (by simp)).mono ?_
    rintro e w9 ⟨⟨y, hy, rfl⟩, hc9, hg9⟩
    have HC9 := Lib.hid hc9
    have HB9 := Lib.hid (HB8.out.grown hg9 HB8.out.size (fun k hk => by have := Option.some.inj hk; omega))
    have HO9 := Lib.hid (own_grown HO8.out hg9 (fun q hq e => by have h1 := own_lt HO8.out q hq; have := Option.some.inj e; omega))
    have hbl9 := hc9.lt
    clear hc9 hg9 HC8 HB8 HO8
    have hy2 : -1 ≤ y ∧ y ≤ 12000 := by simp at hy; omega
    clear hy
    go_wp2
    try simp only [Exit.inBlock, Exit.then]
    refine bodyPost_ret (results_tmp4 rfl _ _ _) rfl ?_
    exact ⟨n, l, B, d, g, y, rfl, hga, hgb, hy2.1, hy2.2, hn1, hn2, hl, HCAP.out, HER.out, own_up2 HO9.out (by omega), HB9.out⟩
  have HA := Lib.hid (askT_iff.1 ha)
  clear ha
  go_wp2_with fail
  refine (one_any 3 b c (160 + 2) A xs _ HC3.out (by omega) hxs (by omega) (by omega)).mono ?_
  rintro e w4 ⟨⟨t, rfl⟩, hc4, hg4⟩
  have HC4 := Lib.hid hc4
  have HB4 := Lib.hid (HB3.out.grown hg4 HB3.out.size (fun k hk => by have := Option.some.inj hk; omega))
  have HO4 := Lib.hid (own_grown HO3.out hg4 (fun q hq e => by have h1 := own_lt HO3.out q hq; have := Option.some.inj e; omega))
  have hbl4 := hc4.lt
  clear hc4 hg4 HC3 HB3 HO3
  cases t with
  | true =>
    have hb8 : Below w4.heap.size w4 (w4.alloc (.cells (intsZ [0, 50, 200, 5000, 5001, -1]).toArray 3)) := (Below.refl _ _).alloc (Nat.le_refl _) _
    have HC8 := Lib.hid (HC4.out.below hb8); have HR8 := Lib.hid (row_ints w4 [0, 50, 200, 5000, 5001, -1])
    have HB8 := Lib.hid (HB4.out.trans (hb8.mono HB4.out.size))
    have HO8 := Lib.hid (own_below HO4.out hb8)
    clear hb8 HC4 HB4 HO4
    go_wp2_with fail
    refine (among_any [0, 50, 200, 5000, 5001, -1] _ _ b c (160 + 3) A xs _ (HC8.out.more (by omega)) (by omega) hxs HR8.out (by omega) (by simp) (by simp)).mono ?_
    rintro e w9 ⟨⟨y, hy, rfl⟩, hc9, hg9⟩
    have HC9 := Lib.hid hc9
    have HB9 := Lib.hid (HB8.out.grown hg9 HB8.out.size (fun k hk => by have := Option.some.inj hk; omega))
    have HO9 := Lib.hid (own_grown HO8.out hg9 (fun q hq e => by have h1 := own_lt HO8.out q hq; have := Option.some.inj e; omega))
    have hbl9 := hc9.lt
    clear hc9 hg9 HC8 HB8 HO8
    have hy2 : -1 ≤ y ∧ y ≤ 12000 := by simp at hy; omega
    clear hy
    go_wp2
    try simp only [Exit.inBlock, Exit.then]
    refine bodyPost_ret (results_tmp4 rfl _ _ _) rfl ?_
    exact ⟨n, l, B, d, g, y, rfl, hga, hgb, hy2.1, hy2.2, hn1, hn2, hl, HCAP.out, HER.out, own_up2 HO9.out (by omega), HB9.out⟩
  | false =>
    obtain ⟨N, hN⟩ : ∃ N : Nat, n = (N : Int) := ⟨n.toNat, by have := HA.out.1.n0; omega⟩
    subst hN
    have h0 := HA.out.2.1; have h36 := HA.out.2.2
    have hw1 := (stV_all HA.out.1.all h0 h36 (k := N) (by have := HA.out.1.n1; omega)).2
    have hN1 : 1 ≤ N := by have := HA.out.1.n0; omega
    have hw0 := lastWd (N := N) HA.out.1 h0 h36 hN1
    have hwv : wdV l g (N : Int) = stV l g N - g := by unfold wdV; rw [Int.toNat_natCast]
    go_wp2_with fail
    refine (tbWidth_any N l B d g _ HA.out.1 h0 h36 (own_ensA HO4.out)).mono ?_
    rintro e w5 ⟨rfl, hb5⟩
    obtain ⟨W, hW⟩ : ∃ W, W = wdV l g (N : Int) := ⟨_, rfl⟩
    have hWr : 0 ≤ W ∧ W ≤ 6360 := by omega
    rw [← hW]
    clear hW hw0 hw1 hwv
    have HC5 := Lib.hid (HC4.out.below hb5); have HO5 := Lib.hid (own_below HO4.out hb5)
    have HB5 := Lib.hid (HB4.out.trans (hb5.mono HB4.out.size))
    have hbl5 := HC5.out.lt
    clear hb5 HC4 HO4 HB4
    have hb6 : Below w5.heap.size w5 (w5.alloc (.cells (intsZ [0, 1, 5, 17, 40, -1]).toArray 3)) := (Below.refl _ _).alloc (Nat.le_refl _) _
    have HC6 := Lib.hid (HC5.out.below hb6); have HR6 := Lib.hid (row_ints w5 [0, 1, 5, 17, 40, -1])
    have HB6 := Lib.hid (HB5.out.trans (hb6.mono HB5.out.size))
    have HO6 := Lib.hid (own_below HO5.out hb6)
    clear hb6 HC5 HB5 HO5
    go_wp2_with fail
    refine (among_any [0, 1, 5, 17, 40, -1] _ _ b c (160 + 3) A xs _ (HC6.out.more (by omega)) (by omega) hxs HR6.out (by omega) (by simp) (by simp)).mono ?_
    rintro e w7 ⟨⟨y, hy, rfl⟩, hc7, hg7⟩
    have HC7 := Lib.hid hc7
    have HB7 := Lib.hid (HB6.out.grown hg7 HB6.out.size (fun k hk => by have := Option.some.inj hk; omega))
    have HO7 := Lib.hid (own_grown HO6.out hg7 (fun q hq e => by have h1 := own_lt HO6.out q hq; have := Option.some.inj e; omega))
    have hbl7 := hc7.lt
    clear hc7 hg7 HC6 HB6 HO6
    have hy2 : -1 ≤ y ∧ y ≤ 40 := by simp at hy; omega
    clear hy
    go_wp2
    try simp only [Exit.inBlock, Exit.then]
    refine bodyPost_ret (results_tmp4 rfl _ _ _) rfl ?_
    exact ⟨N, l, B, d, g, W + y, rfl, hga, hgb, by omega, by omega, hn1, hn2, hl, HCAP.out, HER.out, own_up2 HO7.out (by omega), HB7.out⟩
end Go.Proofs.Yteagclokobkigaa

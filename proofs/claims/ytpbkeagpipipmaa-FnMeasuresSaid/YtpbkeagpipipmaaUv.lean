/-
  spec.DrawWordsThatFit and spec.DrawBestMeasure: a line, a rule and measures.
-/
import Derived.Test.YtpbkeagpipipmaaUm
namespace Go.Proofs.Ytpbkeagpipipmaa
open Go.RowKit
set_option linter.unusedVariables false

set_option maxRecDepth 100000 in
set_option maxHeartbeats 2000000 in
theorem drawWordsThatFit_any (A : Option Addr) (c : Nat) (xs : List UInt8) (w : World) (hx : BytesIn w A xs) (hxs : xs.length ≤ maxLen) :
    Calls Try.prog 30 #[.slice A xs.length c] w fun e w' => DrawnL w w' e := by
  obtain ⟨w0, hw0⟩ : ∃ w0 : World, w0 = w.alloc (.cells #[.int .i64 0, .int .i64 0, .int .i64 0] 25) := ⟨_, rfl⟩
  have hx0 : BytesIn w0 A xs := by rw [hw0]; exact hx.alloc _
  have hb00 : Below w.heap.size w w0 := by rw [hw0]; exact (Below.refl _ _).alloc (Nat.le_refl _) _
  have hbx : w0.heap.size = w.heap.size + 1 := by rw [hw0]; simp
  have hR0 : RuAt w0 w.heap.size 25 ⟨0, 0, 0⟩ := by rw [hw0]; exact heap_new _ _
  obtain ⟨b, hb⟩ : ∃ b, b = w0.heap.size := ⟨_, rfl⟩
  have HCUR := Lib.hid (cur_new hx0 c)
  have HB0 := Lib.hid (hb00.alloc hb00.size (.cells #[.slice A xs.length c, .int .i64 0, .int .u64 0] 69))
  have HW0 := Lib.hid hw0
  have HR0 := Lib.hid (hR0.alloc (.cells #[.slice A xs.length c, .int .i64 0, .int .u64 0] 69))
  have hbw : w.heap.size < b := by omega
  rw [← hb] at HCUR
  have HBE := Lib.hid (show w.heap.size + 1 = b from by omega)
  clear hx hw0 hx0 hb00 hR0 hb hbx
  go_enter Try.func30, Try.ntmps30
  go_wp2_with fail
  rw [HBE.out, ← HW0.out]
  refine (widths_any 20 b c 0 A xs _ HCUR.out (by omega) hxs (by omega)).mono ?_
  rintro e w1 ⟨⟨l, B, d, rfl, hl, ho⟩, hc1, hg1⟩
  have HC1 := Lib.hid hc1
  have HR1 := Lib.hid (HR0.out.own hg1 (fun e => by have := Option.some.inj e; omega))
  have HB1 := Lib.hid (HB0.out.grown hg1 HB0.out.size (fun k hk => by have := Option.some.inj hk; omega))
  have HCAP := Lib.hid (own_capI ho)
  have hbu : b < (w0.alloc (.cells #[.slice A xs.length c, .int .i64 0, .int .u64 0] 69)).heap.size := HCUR.out.lt
  have HO1 := Lib.hid (Joins.ownsRow_le (base' := b + 1) ho hbu)
  clear hc1 hg1 ho HCUR HR0 HB0 hbu
  go_wp2_with fail
  refine (rule_any b c (0 + 20 + 12) A xs _ HC1.out (by omega) hxs).mono ?_
  rintro e w2 ⟨⟨r, rfl⟩, hc2, hg2⟩
  have HC2 := Lib.hid hc2
  have HR2 := Lib.hid (HR1.out.own hg2 (fun e => by have := Option.some.inj e; omega))
  have HB2 := Lib.hid (HB1.out.grown hg2 HB1.out.size (fun k hk => by have := Option.some.inj hk; omega))
  have HO2 := Lib.hid (own_grown HO1.out hg2 (fun q hq e => by have h1 := own_lt HO1.out q hq; have := Option.some.inj e; omega))
  have hbl2 := hc2.lt
  have hwl2 := HR2.out.lt
  clear hc2 hg2 HC1 HR1 HB1 HO1
  have hb2 : Below w2.heap.size w2 (w2.alloc (.cells (intsZ [50, 0, 2001]).toArray 3)) := (Below.refl _ _).alloc (Nat.le_refl _) _
  have HK2 := Lib.hid (HC2.out.below hb2); have HP2 := Lib.hid (own_below HO2.out hb2); have HS2 := Lib.hid (HR2.out.next hb2)
  have HT2 := Lib.hid (HB2.out.trans (hb2.mono HB2.out.size))
  have HL2 := Lib.hid (row_ints w2 [50, 0, 2001])
  have hbl2 := HC2.out.lt
  clear hb2 HC2 HO2 HR2 HB2
  go_wp2_with fail
  refine (among_any [50, 0, 2001] _ _ b c (0 + 20 + 12 + 8) A xs _ HK2.out (by omega) hxs HL2.out (by omega) (by simp) (by simp)).mono ?_
  rintro e w4 ⟨⟨x1, hx4, rfl⟩, hc4, hg4⟩
  have HC4 := Lib.hid hc4
  have HB4 := Lib.hid (HT2.out.grown hg4 HT2.out.size (fun k hk => by have := Option.some.inj hk; omega))
  have HO4 := Lib.hid (own_grown HP2.out hg4 (fun q hq e => by have h1 := own_lt HP2.out q hq; have := Option.some.inj e; omega))
  have HR4 := Lib.hid (HS2.out.own hg4 (fun e => by have := Option.some.inj e; omega))
  clear hc4 hg4 HK2 HP2 HS2 HT2 HL2
  have hb4 : Below w4.heap.size w4 (w4.alloc (.cells (intsZ [1, 10, 40, 60, 86, 100, 2000, x1]).toArray 3)) := (Below.refl _ _).alloc (Nat.le_refl _) _
  have HK4 := Lib.hid (HC4.out.below hb4); have HP4 := Lib.hid (own_below HO4.out hb4); have HS4 := Lib.hid (HR4.out.next hb4)
  have HT4 := Lib.hid (HB4.out.trans (hb4.mono HB4.out.size))
  have HL4 := Lib.hid (row_ints w4 [1, 10, 40, 60, 86, 100, 2000, x1])
  have hbl4 := HC4.out.lt
  clear hb4 HC4 HO4 HR4 HB4
  go_wp2_with fail
  refine (among_any [1, 10, 40, 60, 86, 100, 2000, x1] _ _ b c (0 + 20 + 12 + 8 + 1) A xs _ HK4.out (by omega) hxs HL4.out (by omega) (by simp) (by simp)).mono ?_
  rintro e w6 ⟨⟨x2, hx6, rfl⟩, hc6, hg6⟩
  have HC6 := Lib.hid hc6
  have HB6 := Lib.hid (HT4.out.grown hg6 HT4.out.size (fun k hk => by have := Option.some.inj hk; omega))
  have HO6 := Lib.hid (own_grown HP4.out hg6 (fun q hq e => by have h1 := own_lt HP4.out q hq; have := Option.some.inj e; omega))
  have HR6 := Lib.hid (HS4.out.own hg6 (fun e => by have := Option.some.inj e; omega))
  clear hc6 hg6 HK4 HP4 HS4 HT4 HL4
  have hz : -1 ≤ x2 ∧ x2 ≤ 2001 := by
    have h1 : x1 = 50 ∨ x1 = 0 ∨ x1 = 2001 := by simpa using hx4
    have h2 : x2 = 1 ∨ x2 = 10 ∨ x2 = 40 ∨ x2 = 60 ∨ x2 = 86 ∨ x2 = 100 ∨ x2 = 2000 ∨ x2 = x1 := by simpa using hx6
    omega
  obtain ⟨o0, o1, o2⟩ := HR6.out.cells; have f0 := HR6.out.free 0; have f1 := HR6.out.free 1; have f2 := HR6.out.free 2; have ol := HR6.out.lt
  simp only at o0 o1 o2
  have HRZ := Lib.hid (((HR6.out.s0 r.lst).s1 r.nrm).s2 r.mst)
  have HBZ := Lib.hid (Below.setCell (Below.setCell (Below.setCell HB6.out (p := ⟨w.heap.size, 0, none⟩) (Nat.le_refl _) (.int .i64 r.lst)) (p := ⟨w.heap.size, 1, none⟩) (Nat.le_refl _) (.int .i64 r.nrm)) (p := ⟨w.heap.size, 2, none⟩) (Nat.le_refl _) (.int .i64 r.mst))
  have HOZ := Lib.hid (own_grown (own_grown (own_grown HO6.out (grown_set (World.grownBy.refl _ (some w.heap.size)) 0 (.int .i64 r.lst)) (fun q hq e => by have h1 := own_lt HO6.out q hq; have := Option.some.inj e; omega)) (grown_set (World.grownBy.refl _ (some w.heap.size)) 1 (.int .i64 r.nrm)) (fun q hq e => by have h1 := own_lt HO6.out q hq; have := Option.some.inj e; omega)) (grown_set (World.grownBy.refl _ (some w.heap.size)) 2 (.int .i64 r.mst)) (fun q hq e => by have h1 := own_lt HO6.out q hq; have := Option.some.inj e; omega))
  clear HC6 HR6 HB6 HO6 hx4 hx6
  go_wp2
  try simp only [Exit.inBlock, Exit.then]
  refine bodyPost_ret (results_tct rfl _ _ w.heap.size _ _ _ _ rfl HRZ.out Try.underlying25 rfl (by kernel_rfl)) rfl ?_
  exact ⟨l, B, d, r, x2, rfl, by omega, HCAP.out, hz, own_in HOZ.out, HBZ.out⟩
/-- A line, a rule and two measures come back. -/
def DrawnM (w w' : World) (e : Ending) : Prop :=
  ∃ (l : List Int) (B : Option Addr) (d : Nat) (r : Ru) (y z : Int), e = .returned (.tuple #[.slice B l.length d, .agg #[.int .i64 r.lst, .int .i64 r.nrm, .int .i64 r.mst], .int .i64 y, .int .i64 z]) ∧ l.length ≤ 21 ∧ l.length ≤ d ∧ (-1 ≤ y ∧ y ≤ 2001) ∧ (-10 ≤ z ∧ z ≤ 5000) ∧ IntsIn w' B l ∧ Below w.heap.size w w'
theorem results_tctt {P : Program} {fn : Func} {u v x p : Tmp} {ty : TypeId} (h : fn.results = #[.tmp u, .cell p ty, .tmp v, .tmp x]) (tmps : Array Value) (w : World) (g : Nat) (t : TypeId) (cs : Array Value) (fr : Nat × Nat) (d : TypeDesc)
    (hp : tmps.getD p undef = .pointer (some ⟨g, 0, none⟩)) (hg : w.heap[g]? = some (.cells cs t fr))
    (hu : P.underlying ty = some d) (hd : (match d with | .struct _ | .array _ _ => true | _ => false) = true) (hi : (P.info? ty).map (·.size) = some cs.size) :
    (results fn tmps).run P w = .ok (.tuple #[tmps.getD u undef, .agg cs, tmps.getD v undef, tmps.getD x undef]) w := by
  have hp' : tmps[p]?.getD undef = .pointer (some ⟨g, 0, none⟩) := by simpa using hp
  simp [results, h, hp', asAddr, run_loadVar_row w g t ty cs fr d hg hu hd hi]
set_option maxRecDepth 100000 in
set_option maxHeartbeats 2000000 in
theorem drawBestMeasure_any (A : Option Addr) (c : Nat) (xs : List UInt8) (w : World) (hx : BytesIn w A xs) (hxs : xs.length ≤ maxLen) :
    Calls Try.prog 33 #[.slice A xs.length c] w fun e w' => DrawnM w w' e := by
  obtain ⟨w0, hw0⟩ : ∃ w0 : World, w0 = w.alloc (.cells #[.int .i64 0, .int .i64 0, .int .i64 0] 25) := ⟨_, rfl⟩
  have hx0 : BytesIn w0 A xs := by rw [hw0]; exact hx.alloc _
  have hb00 : Below w.heap.size w w0 := by rw [hw0]; exact (Below.refl _ _).alloc (Nat.le_refl _) _
  have hbx : w0.heap.size = w.heap.size + 1 := by rw [hw0]; simp
  have hR0 : RuAt w0 w.heap.size 25 ⟨0, 0, 0⟩ := by rw [hw0]; exact heap_new _ _
  obtain ⟨b, hb⟩ : ∃ b, b = w0.heap.size := ⟨_, rfl⟩
  have HCUR := Lib.hid (cur_new hx0 c)
  have HB0 := Lib.hid (hb00.alloc hb00.size (.cells #[.slice A xs.length c, .int .i64 0, .int .u64 0] 69))
  have HW0 := Lib.hid hw0
  have HR0 := Lib.hid (hR0.alloc (.cells #[.slice A xs.length c, .int .i64 0, .int .u64 0] 69))
  have hbw : w.heap.size < b := by omega
  rw [← hb] at HCUR
  have HBE := Lib.hid (show w.heap.size + 1 = b from by omega)
  clear hx hw0 hx0 hb00 hR0 hb hbx
  go_enter Try.func33, Try.ntmps33
  go_wp2_with fail
  rw [HBE.out, ← HW0.out]
  refine (widths_any 20 b c 0 A xs _ HCUR.out (by omega) hxs (by omega)).mono ?_
  rintro e w1 ⟨⟨l, B, d, rfl, hl, ho⟩, hc1, hg1⟩
  have HC1 := Lib.hid hc1
  have HR1 := Lib.hid (HR0.out.own hg1 (fun e => by have := Option.some.inj e; omega))
  have HB1 := Lib.hid (HB0.out.grown hg1 HB0.out.size (fun k hk => by have := Option.some.inj hk; omega))
  have HCAP := Lib.hid (own_capI ho)
  have hbu : b < (w0.alloc (.cells #[.slice A xs.length c, .int .i64 0, .int .u64 0] 69)).heap.size := HCUR.out.lt
  have HO1 := Lib.hid (Joins.ownsRow_le (base' := b + 1) ho hbu)
  clear hc1 hg1 ho HCUR HR0 HB0 hbu
  go_wp2_with fail
  refine (rule_any b c (0 + 20 + 12) A xs _ HC1.out (by omega) hxs).mono ?_
  rintro e w2 ⟨⟨r, rfl⟩, hc2, hg2⟩
  have HC2 := Lib.hid hc2
  have HR2 := Lib.hid (HR1.out.own hg2 (fun e => by have := Option.some.inj e; omega))
  have HB2 := Lib.hid (HB1.out.grown hg2 HB1.out.size (fun k hk => by have := Option.some.inj hk; omega))
  have HO2 := Lib.hid (own_grown HO1.out hg2 (fun q hq e => by have h1 := own_lt HO1.out q hq; have := Option.some.inj e; omega))
  have hbl2 := hc2.lt
  have hwl2 := HR2.out.lt
  clear hc2 hg2 HC1 HR1 HB1 HO1
  obtain ⟨g, hg⟩ : ∃ g, g = w2.heap.size := ⟨_, rfl⟩
  obtain ⟨w3, hw3⟩ : ∃ w3 : World, w3 = w2.alloc (.cells #[.int .i64 r.lst, .int .i64 r.nrm, .int .i64 r.mst] 25) := ⟨_, rfl⟩
  have hb3 : Below w2.heap.size w2 w3 := by rw [hw3]; exact (Below.refl _ _).alloc (Nat.le_refl _) _
  have HC3 := Lib.hid (HC2.out.below hb3); have HO3 := Lib.hid (own_below HO2.out hb3)
  have HR3 := Lib.hid (HR2.out.next hb3)
  have HB3 := Lib.hid (HB2.out.trans (hb3.mono HB2.out.size))
  have HX3 : Hid (RuAt w3 g 25 r) := Lib.hid (by rw [hg, hw3]; exact heap_new _ _)
  have hgb : b < g ∧ w.heap.size < g := by omega
  obtain ⟨hgb1, hgb2⟩ := hgb
  have HW3 := Lib.hid hw3
  have HGE := Lib.hid hg.symm
  clear hw3 hb3 hg HC2 HO2 HR2 HB2 hbl2 hwl2
  obtain ⟨m0, m1, m2⟩ := HX3.out.cells
  have ml := HX3.out.lt
  go_wp2_with fail
  rw [HGE.out, ← HW3.out]
  refine (measureOf_any b c (0 + 20 + 12 + 8) A xs l B d (b + 1) r _ HC3.out (by omega) hxs HO3.out (Nat.lt_succ_self _) (by omega)).mono ?_
  rintro e w4 ⟨⟨z, rfl, hz⟩, hc4, hg4⟩
  have HC4 := Lib.hid hc4
  have HB4 := Lib.hid (HB3.out.grown hg4 HB3.out.size (fun k hk => by have := Option.some.inj hk; omega))
  have HO4 := Lib.hid (own_grown HO3.out hg4 (fun q hq e => by have h1 := own_lt HO3.out q hq; have := Option.some.inj e; omega))
  have HR4 := Lib.hid (HR3.out.own hg4 (fun e => by have := Option.some.inj e; omega))
  have HX4 := Lib.hid (HX3.out.own hg4 (fun e => by have := Option.some.inj e; omega))
  clear hc4 hg4 m0 m1 m2 ml HC3 HB3 HO3 HR3 HX3
  have hb5 : Below w4.heap.size w4 (w4.drew.alloc (.cells (intsZ [0, 3, 10, -1, 30, 2000]).toArray 3)) := ((Below.refl _ _).drew).alloc (by simp) _
  have HC5 := Lib.hid (HC4.out.below hb5); have HO5 := Lib.hid (own_below HO4.out hb5); have HR5 := Lib.hid (HR4.out.next hb5); have HX5 := Lib.hid (HX4.out.next hb5)
  have HB5 := Lib.hid (HB4.out.trans (hb5.mono HB4.out.size))
  have HL5 : Hid (IntsIn (w4.drew.alloc (.cells (intsZ [0, 3, 10, -1, 30, 2000]).toArray 3)) (some ⟨w4.heap.size, 0, none⟩) [0, 3, 10, -1, 30, 2000]) := Lib.hid (row_ints w4.drew _)
  have hbl4 := HC4.out.lt
  obtain ⟨m0, m1, m2⟩ := HX4.out.cells
  have ml := HX4.out.lt
  clear hb5 HC4 HO4 HR4 HX4 HB4
  go_wp2_with fail
  go_region_law (go_simp; go_at_call 67; refine (among_any [0, 3, 10, -1, 30, 2000] _ _ b c (0 + 20 + 12 + 8 + 5) A xs _ HC5.out (by omega) hxs HL5.out (by omega) (by decide) (by decide)).mono ?_; rintro e w6 ⟨⟨x, hx6, rfl⟩, hc6, hg6⟩; have HB6 := Lib.hid (HB5.out.grown hg6 HB5.out.size (fun k hk => by have := Option.some.inj hk; omega)); have HO6 := Lib.hid (own_grown HO5.out hg6 (fun q hq e => by have h1 := own_lt HO5.out q hq; have := Option.some.inj e; omega)); have HR6 := Lib.hid (HR5.out.own hg6 (fun e => by have := Option.some.inj e; omega)); have HX6 := Lib.hid (HX5.out.own hg6 (fun e => by have := Option.some.inj e; omega)); obtain ⟨n0, n1, n2⟩ := HX6.out.cells; obtain ⟨o0, o1, o2⟩ := HR6.out.cells; have f0 := HR6.out.free 0; have f1 := HR6.out.free 1; have f2 := HR6.out.free 2; have ol := HR6.out.lt; have nl := HX6.out.lt; simp only at o0 o1 o2; (have hxr : -1 ≤ x ∧ x ≤ 2000 := by (have h1 : x = 0 ∨ x = 3 ∨ x = 10 ∨ x = -1 ∨ x = 30 ∨ x = 2000 := by simpa using hx6); omega); (have hwr : IntKind.i64.wrap (z + x) = z + x := by rw [IntKind.wrap_i64]; omega); clear hc6 hg6 hx6 m0 m1 m2 ml)
  all_goals
    have HRZ := Lib.hid (((HR6.out.s0 r.lst).s1 r.nrm).s2 r.mst)
    have HBZ := Lib.hid (Below.setCell (Below.setCell (Below.setCell HB6.out (p := ⟨w.heap.size, 0, none⟩) (Nat.le_refl _) (.int .i64 r.lst)) (p := ⟨w.heap.size, 1, none⟩) (Nat.le_refl _) (.int .i64 r.nrm)) (p := ⟨w.heap.size, 2, none⟩) (Nat.le_refl _) (.int .i64 r.mst))
    have HOZ := Lib.hid (own_grown (own_grown (own_grown HO6.out (grown_set (World.grownBy.refl _ (some w.heap.size)) 0 (.int .i64 r.lst)) (fun q hq e => by have h1 := own_lt HO6.out q hq; have := Option.some.inj e; omega)) (grown_set (World.grownBy.refl _ (some w.heap.size)) 1 (.int .i64 r.nrm)) (fun q hq e => by have h1 := own_lt HO6.out q hq; have := Option.some.inj e; omega)) (grown_set (World.grownBy.refl _ (some w.heap.size)) 2 (.int .i64 r.mst)) (fun q hq e => by have h1 := own_lt HO6.out q hq; have := Option.some.inj e; omega))
    go_wp2
    try simp only [Exit.inBlock, Exit.then]
    refine bodyPost_ret (results_tctt rfl _ _ w.heap.size _ _ _ _ rfl HRZ.out Try.underlying25 rfl (by kernel_rfl)) rfl ?_
    exact ⟨l, B, d, r, z, z + x, rfl, by omega, HCAP.out, hz, by omega, own_in HOZ.out, HBZ.out⟩
end Go.Proofs.Ytpbkeagpipipmaa

/-
  The draws of tables with one more entry, with a total width, with a place.
-/
import Derived.Test.YteagclokobkigaaGd
import Derived.Test.YteagclokobkigaaEe
namespace Go.Proofs.Yteagclokobkigaa
open Go.RowKit
set_option linter.unusedVariables false

theorem results_ttc {P : Program} {fn : Func} {u v p : Tmp} {ty : TypeId} (h : fn.results = #[.tmp u, .tmp v, .cell p ty]) (tmps : Array Value) (w : World) (g : Nat) (t : TypeId) (cs : Array Value) (fr : Nat × Nat) (d : TypeDesc)
    (hp : tmps.getD p undef = .pointer (some ⟨g, 0, none⟩)) (hg : w.heap[g]? = some (.cells cs t fr))
    (hu : P.underlying ty = some d) (hd : (match d with | .struct _ | .array _ _ => true | _ => false) = true) (hi : (P.info? ty).map (·.size) = some cs.size) :
    (results fn tmps).run P w = .ok (.tuple #[tmps.getD u undef, tmps.getD v undef, .agg cs]) w := by
  have hp' : tmps[p]?.getD undef = .pointer (some ⟨g, 0, none⟩) := by simpa using hp
  simp [results, h, hp', asAddr, run_loadVar_row w g t ty cs fr d hg hu hd hi]
/-- A table and an entry come back. -/
def DrawnA (w w' : World) (e : Ending) : Prop :=
  ∃ (n : Int) (l : List En) (B : Option Addr) (d : Nat) (x : En), e = .returned (.tuple #[.int .i64 n, .slice B l.length d, .agg #[.int .i64 x.col, .int .i64 x.spa, .int .i64 x.wid]]) ∧ x.col ≤ 100 ∧ TabIn w w' n l B d
set_option maxRecDepth 100000 in
set_option maxHeartbeats 4000000 in
theorem drawAddEntry_any (A : Option Addr) (c : Nat) (xs : List UInt8) (w : World) (hx : BytesIn w A xs) (hxs : xs.length ≤ maxLen) :
    Calls Try.prog 16 #[.slice A xs.length c] w fun e w' => DrawnA w w' e := by
  obtain ⟨w0, hw0⟩ : ∃ w0 : World, w0 = w.alloc (.cells #[.int .i64 0, .int .i64 0, .int .i64 0] 36) := ⟨_, rfl⟩
  have hx0 : BytesIn w0 A xs := by rw [hw0]; exact hx.alloc _
  have hb00 : Below w.heap.size w w0 := by rw [hw0]; exact (Below.refl _ _).alloc (Nat.le_refl _) _
  have hbx : w0.heap.size = w.heap.size + 1 := by rw [hw0]; simp
  have hR0 : EnAt w0 w.heap.size 36 ⟨0, 0, 0⟩ := by rw [hw0]; exact heap_new _ _
  obtain ⟨b, hb⟩ : ∃ b, b = w0.heap.size := ⟨_, rfl⟩
  have HCUR := Lib.hid (cur_new hx0 c)
  have HB0 := Lib.hid (hb00.alloc hb00.size (.cells #[.slice A xs.length c, .int .i64 0, .int .u64 0] 50))
  have HW0 := Lib.hid hw0
  have HR0 := Lib.hid (hR0.alloc (.cells #[.slice A xs.length c, .int .i64 0, .int .u64 0] 50))
  have hbw : w.heap.size < b := by omega
  rw [← hb] at HCUR
  have HBE := Lib.hid (show w.heap.size + 1 = b from by omega)
  clear hx hw0 hx0 hb00 hR0 hb hbx
  go_enter Try.func16, Try.ntmps16
  go_wp2_with fail
  rw [HBE.out, ← HW0.out]
  refine (table_any b c 0 A xs _ HCUR.out (by omega) hxs).mono ?_
  rintro e w1 ⟨⟨n, l, B, d, rfl, hn1, hn2, hl, hr, ho⟩, hc1, hg1⟩
  have HC1 := Lib.hid hc1; have HER := Lib.hid hr
  have HR1 := Lib.hid (HR0.out.own hg1 (fun e => by have := Option.some.inj e; omega))
  have HB1 := Lib.hid (HB0.out.grown hg1 HB0.out.size (fun k hk => by have := Option.some.inj hk; omega))
  have HCAP := Lib.hid (own_capE ho)
  have hbu : b < (w0.alloc (.cells #[.slice A xs.length c, .int .i64 0, .int .u64 0] 50)).heap.size := HCUR.out.lt
  have HO1 := Lib.hid (Joins.ownsRow_le (base' := b + 1) ho hbu)
  have hbl1 := hc1.lt
  have hlx : l.length ≤ 1048576 := by omega
  clear hc1 hg1 hr ho hbu HCUR HB0 HR0
  go_wp2_with fail
  refine (l1Most_any _ _ _).mono ?_
  rintro e w' ⟨rfl, rfl⟩
  obtain ⟨m, hm⟩ : ∃ m : Nat, m = (max 1 n).toNat := ⟨_, rfl⟩
  have hm1 : max 1 n = (m : Int) := by omega
  have hmm : 1 ≤ m ∧ m ≤ 11 := by omega
  rw [hm1]
  clear hm hm1
  go_wp2_with fail
  refine (entry_any m b c 160 A xs _ (HC1.out.more (by omega)) (by omega) hxs (by omega) (by omega)).mono ?_
  rintro e w2 ⟨⟨⟨p, q, r⟩, hp, rfl⟩, hc2, hg2⟩
  have HR2 := Lib.hid (HR1.out.own hg2 (fun e => by have := Option.some.inj e; omega))
  have HC2 := Lib.hid hc2
  have HB2 := Lib.hid (HB1.out.grown hg2 HB1.out.size (fun k hk => by have := Option.some.inj hk; omega))
  have HO2 := Lib.hid (own_grown HO1.out hg2 (fun q hq e => by have h1 := own_lt HO1.out q hq; have := Option.some.inj e; omega))
  have hbl2 := hc2.lt
  clear hc2 hg2 HC1 HB1 HO1
  obtain ⟨e0, e1, e2⟩ := HR2.out.cells
  have ef0 := HR2.out.free 0; have ef1 := HR2.out.free 1; have ef2 := HR2.out.free 2
  have el := HR2.out.lt
  simp only at e0 e1 e2
  have HRZ := Lib.hid (((HR2.out.s0 p).s1 q).s2 r)
  have HBZ := Lib.hid (Below.setCell (Below.setCell (Below.setCell HB2.out (p := ⟨w.heap.size, 0, none⟩) (Nat.le_refl _) (.int .i64 p)) (p := ⟨w.heap.size, 1, none⟩) (Nat.le_refl _) (.int .i64 q)) (p := ⟨w.heap.size, 2, none⟩) (Nat.le_refl _) (.int .i64 r))
  have HOZ := Lib.hid (own_grown (own_grown (own_grown HO2.out (grown_set (World.grownBy.refl _ (some w.heap.size)) 0 (.int .i64 p)) (fun q hq e => by have h1 := own_lt HO2.out q hq; have := Option.some.inj e; omega)) (grown_set (World.grownBy.refl _ (some w.heap.size)) 1 (.int .i64 q)) (fun q hq e => by have h1 := own_lt HO2.out q hq; have := Option.some.inj e; omega)) (grown_set (World.grownBy.refl _ (some w.heap.size)) 2 (.int .i64 r)) (fun q hq e => by have h1 := own_lt HO2.out q hq; have := Option.some.inj e; omega))
  clear HR2 HB2 HO2 HC2 HR1
  go_wp2
  try simp only [Exit.inBlock, Exit.then]
  refine bodyPost_ret (results_ttc rfl _ _ w.heap.size _ _ _ _ rfl HRZ.out Try.underlying36 rfl (by kernel_rfl)) rfl ?_
  exact ⟨n, l, B, d, ⟨p, q, r⟩, rfl, hp, hn1, hn2, hl, HCAP.out, HER.out, own_up2 HOZ.out (by omega), HBZ.out⟩
theorem results_tmp4 {fn : Func} {t u v z : Tmp} (h : fn.results = #[.tmp t, .tmp u, .tmp v, .tmp z]) (tmps : Array Value) (P : Program) (w : World) :
    (results fn tmps).run P w = .ok (.tuple #[tmps.getD t undef, tmps.getD u undef, tmps.getD v undef, tmps.getD z undef]) w := by
  simp [results, h]
/-- A table, a gap and a number come back. -/
def DrawnG (w w' : World) (e : Ending) (lo hi : Int) : Prop :=
  ∃ (n : Int) (l : List En) (B : Option Addr) (d : Nat) (g z : Int), e = .returned (.tuple #[.int .i64 n, .slice B l.length d, .int .i64 g, .int .i64 z]) ∧ -1 ≤ g ∧ g ≤ 37 ∧ lo ≤ z ∧ z ≤ hi ∧ TabIn w w' n l B d
set_option maxRecDepth 100000 in
set_option maxHeartbeats 4000000 in
theorem drawRoomOfEntry_any (A : Option Addr) (c : Nat) (xs : List UInt8) (w : World) (hx : BytesIn w A xs) (hxs : xs.length ≤ maxLen) :
    Calls Try.prog 66 #[.slice A xs.length c] w fun e w' => DrawnG w w' e (-1) 21 := by
  obtain ⟨b, hb⟩ : ∃ b, b = w.heap.size := ⟨_, rfl⟩
  have HCUR := Lib.hid (cur_new hx c)
  have HB0 : Hid (Below w.heap.size w (w.alloc (.cells #[.slice A xs.length c, .int .i64 0, .int .u64 0] 50))) := Lib.hid ((Below.refl _ _).alloc (Nat.le_refl _) _)
  rw [← hb] at HCUR
  have hbw : w.heap.size ≤ b := by omega
  have HBE := Lib.hid hb.symm
  clear hx hb
  go_enter Try.func66, Try.ntmps66
  go_wp2_with fail
  rw [HBE.out]
  refine (table_any b c 0 A xs _ HCUR.out (by omega) hxs).mono ?_
  rintro e w1 ⟨⟨n, l, B, d, rfl, hn1, hn2, hl, hr, ho⟩, hc1, hg1⟩
  have HC1 := Lib.hid hc1; have HER := Lib.hid hr
  have HB1 := Lib.hid (HB0.out.grown hg1 HB0.out.size (fun k hk => by have := Option.some.inj hk; omega))
  have HCAP := Lib.hid (own_capE ho)
  have hbu : b < (w.alloc (.cells #[.slice A xs.length c, .int .i64 0, .int .u64 0] 50)).heap.size := HCUR.out.lt
  have HO1 := Lib.hid (Joins.ownsRow_le (base' := b + 1) ho hbu)
  have hbl1 := hc1.lt
  have hlx : l.length ≤ 1048576 := by omega
  clear hc1 hg1 hr ho hbu HCUR HB0
  go_wp2_with fail
  refine (gapOf_any b c 160 A xs _ (HC1.out.more (by omega)) (by omega) hxs).mono ?_
  rintro e w2 ⟨⟨g, hga, hgb, rfl⟩, hc2, hg2⟩
  have HC2 := Lib.hid hc2
  have HB2 := Lib.hid (HB1.out.grown hg2 HB1.out.size (fun k hk => by have := Option.some.inj hk; omega))
  have HO2 := Lib.hid (own_grown HO1.out hg2 (fun q hq e => by have h1 := own_lt HO1.out q hq; have := Option.some.inj e; omega))
  have hbl2 := hc2.lt
  clear hc2 hg2 HC1 HB1 HO1
  go_wp2_with fail
  rw [show (l.length : Int) + 1 = ((l.length + 1 : Nat) : Int) from by omega]
  refine (pick_any (l.length + 1) b c (160 + 2) A xs _ HC2.out (by omega) hxs (by omega) (by omega)).mono ?_
  rintro e w3 ⟨⟨p, hp, rfl⟩, hc3, hg3⟩
  have HC3 := Lib.hid hc3
  have HB3 := Lib.hid (HB2.out.grown hg3 HB2.out.size (fun k hk => by have := Option.some.inj hk; omega))
  have HO3 := Lib.hid (own_grown HO2.out hg3 (fun q hq e => by have h1 := own_lt HO2.out q hq; have := Option.some.inj e; omega))
  have hbl3 := hc3.lt
  clear hc3 hg3 HC2 HB2 HO2
  go_wp2_with fail
  rw [show (l.length : Int) + 1 = ((l.length + 1 : Nat) : Int) from by omega]
  refine (pick_any (l.length + 1) b c (160 + 2 + 1) A xs _ HC3.out (by omega) hxs (by omega) (by omega)).mono ?_
  rintro e w4 ⟨⟨q, hq, rfl⟩, hc4, hg4⟩
  have HC4 := Lib.hid hc4
  have HB4 := Lib.hid (HB3.out.grown hg4 HB3.out.size (fun k hk => by have := Option.some.inj hk; omega))
  have HO4 := Lib.hid (own_grown HO3.out hg4 (fun q hq e => by have h1 := own_lt HO3.out q hq; have := Option.some.inj e; omega))
  have hbl4 := hc4.lt
  clear hc4 hg4 HC3 HB3 HO3
  have hb5 : Below w4.heap.size w4 (w4.alloc (.cells (intsZ [(l.length : Int), -1]).toArray 3)) := (Below.refl _ _).alloc (Nat.le_refl _) _
  have HC5 := Lib.hid (HC4.out.below hb5); have HR5 := Lib.hid (row_ints w4 [(l.length : Int), -1])
  have HB5 := Lib.hid (HB4.out.trans (hb5.mono HB4.out.size))
  have HO5 := Lib.hid (own_below HO4.out hb5)
  clear hb5 HC4 HB4 HO4
  go_wp2_with fail
  refine (among_any [(l.length : Int), -1] _ _ b c (160 + 2 + 1 + 1) A xs _ HC5.out (by omega) hxs HR5.out (by omega) (by simp) (by simp)).mono ?_
  rintro e w6 ⟨⟨x, hx, rfl⟩, hc6, hg6⟩
  have HC6 := Lib.hid hc6
  have HB6 := Lib.hid (HB5.out.grown hg6 HB5.out.size (fun k hk => by have := Option.some.inj hk; omega))
  have HO6 := Lib.hid (own_grown HO5.out hg6 (fun q hq e => by have h1 := own_lt HO5.out q hq; have := Option.some.inj e; omega))
  have hbl6 := hc6.lt
  clear hc6 hg6 HC5 HB5 HO5
  have hx2 : -1 ≤ x ∧ x ≤ 21 := by simp at hx; omega
  clear hx
  have hb7 : Below w6.heap.size w6 (w6.alloc (.cells (intsZ [0, (p : Int), (q : Int), (l.length : Int) - 1, x]).toArray 3)) := (Below.refl _ _).alloc (Nat.le_refl _) _
  have HC7 := Lib.hid (HC6.out.below hb7); have HR7 := Lib.hid (row_ints w6 [0, (p : Int), (q : Int), (l.length : Int) - 1, x])
  have HB7 := Lib.hid (HB6.out.trans (hb7.mono HB6.out.size))
  have HO7 := Lib.hid (own_below HO6.out hb7)
  clear hb7 HC6 HB6 HO6
  go_wp2_with fail
  refine (among_any [0, (p : Int), (q : Int), (l.length : Int) - 1, x] _ _ b c (160 + 2 + 1 + 1 + 1) A xs _ HC7.out (by omega) hxs HR7.out (by omega) (by simp) (by simp)).mono ?_
  rintro e w8 ⟨⟨y, hy, rfl⟩, hc8, hg8⟩
  have HC8 := Lib.hid hc8
  have HB8 := Lib.hid (HB7.out.grown hg8 HB7.out.size (fun k hk => by have := Option.some.inj hk; omega))
  have HO8 := Lib.hid (own_grown HO7.out hg8 (fun q hq e => by have h1 := own_lt HO7.out q hq; have := Option.some.inj e; omega))
  have hbl8 := hc8.lt
  clear hc8 hg8 HC7 HB7 HO7
  have hy2 : -1 ≤ y ∧ y ≤ 21 := by simp at hy; omega
  clear hy
  go_wp2
  try simp only [Exit.inBlock, Exit.then]
  refine bodyPost_ret (results_tmp4 rfl _ _ _) rfl ?_
  exact ⟨n, l, B, d, g, y, rfl, hga, hgb, hy2.1, hy2.2, hn1, hn2, hl, HCAP.out, HER.out, own_up2 HO8.out (by omega), HB8.out⟩
set_option maxRecDepth 100000 in
theorem drawWidthWithout_any (A : Option Addr) (c : Nat) (xs : List UInt8) (w : World) (hx : BytesIn w A xs) (hxs : xs.length ≤ maxLen) :
    Calls Try.prog 35 #[.slice A xs.length c] w fun e w' => DrawnG w w' e (-1) 21 := by
  go_enter Try.func35, Try.ntmps35
  go_wp2_with fail
  refine (drawRoomOfEntry_any A c xs _ hx hxs).mono ?_
  rintro e w1 ⟨n, l, B, d, g, z, rfl, h⟩
  go_wp2
  try simp only [Exit.inBlock, Exit.then]
  refine bodyPost_ret (results_tmp4 rfl _ _ _) rfl ?_
  exact ⟨n, l, B, d, g, z, rfl, h⟩
end Go.Proofs.Yteagclokobkigaa

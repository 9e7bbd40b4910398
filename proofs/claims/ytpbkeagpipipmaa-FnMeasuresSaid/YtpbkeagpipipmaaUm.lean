/-
  The draw of a measure, and spec.DrawIsRule, DrawJustifyLine, DrawWordsThatFit, DrawBestMeasure: some ints, some rule, some measures.
-/
import Derived.Test.YtpbkeagpipipmaaUl
namespace Go.Proofs.Ytpbkeagpipipmaa
open Go.RowKit
set_option linter.unusedVariables false

set_option maxRecDepth 100000 in
set_option maxHeartbeats 2000000 in
theorem measureOf_any {T : TypeId} (b c M : Nat) (A : Option Addr) (xs : List UInt8) (l : List Int) (B : Option Addr) (d base : Nat) (r : Ru) (w : World) (hc : CurLe w b A c M xs) (hat : M ≤ 999000) (hxs : xs.length ≤ maxLen)
    (ho : w.ownsRow base T 1 (.slice B l.length d) l.length (intsZ l)) (hbase : b < base) (hl : l.length ≤ 1048576) :
    Calls Try.prog 55 #[.pointer (some ⟨b, 0, none⟩), .slice B l.length d, .agg #[.int .i64 r.lst, .int .i64 r.nrm, .int .i64 r.mst]] w fun e w' => (∃ z : Int, e = .returned (.int .i64 z) ∧ -1 ≤ z ∧ z ≤ 2001) ∧ CurLe w' b A c (M + 5) xs ∧ w.grownBy w' (some b) := by
  have hbl := hc.lt
  obtain ⟨w0, hw0⟩ : ∃ w0 : World, w0 = w.alloc (.cells #[.int .i64 r.lst, .int .i64 r.nrm, .int .i64 r.mst] 25) := ⟨_, rfl⟩
  have hb0 : Below w.heap.size w w0 := by rw [hw0]; exact (Below.refl _ _).alloc (Nat.le_refl _) _
  have HC0 := Lib.hid (hc.below hb0)
  have HG0 := Lib.hid (grown_below (World.grownBy.refl w (some b)) hb0)
  have HR0 : Hid (RuAt w0 w.heap.size 25 r) := Lib.hid (by rw [hw0]; exact heap_new _ _)
  have HO0 := Lib.hid (own_below ho hb0)
  have HW0 := Lib.hid hw0
  clear hw0 hb0 hc ho
  go_enter Try.func55, Try.ntmps55
  go_wp2_with fail
  rw [← HW0.out]
  refine (juLine_any l B d _ (own_in HO0.out) hl).mono ?_
  rintro e w' ⟨rfl, rfl⟩
  cases hg1 : juL l
  · clear hg1
    have hsz0 := HG0.out.size
    have HCO := Lib.hid (HC0.out.more (show _ ≤ M + 1 by omega))
    have HL1 := Lib.hid (row_ints w0 [100, 0, 2001])
    have hb1 : Below w0.heap.size w0 (w0.alloc (.cells (intsZ [100, 0, 2001]).toArray 3)) := (Below.refl _ _).alloc (Nat.le_refl _) _
    have HC1 := Lib.hid (HCO.out.below hb1); have HG1 := Lib.hid (grown_below HG0.out hb1)
    have hs1 := HG1.out.size
    clear hb1
    go_wp2_with fail
    refine (among_any [100, 0, 2001] _ _ b c (M + 1) A xs _ HC1.out (by omega) hxs HL1.out (by omega) (by simp) (by simp)).mono ?_
    rintro e u7 ⟨⟨x1, hx1, rfl⟩, hc1, hg1⟩
    have HD1 := Lib.hid hc1; have HH1 := Lib.hid (grownBy_trans HG1.out hg1)
    clear hc1 hg1 HL1 HC1 HG1
    have hsz7 := HH1.out.size
    have HL2 := Lib.hid (row_ints u7 [1, 50, 86, 120, 2000, x1])
    have hb2 : Below u7.heap.size u7 (u7.alloc (.cells (intsZ [1, 50, 86, 120, 2000, x1]).toArray 3)) := (Below.refl _ _).alloc (Nat.le_refl _) _
    have HC2 := Lib.hid (HD1.out.below hb2); have HG2 := Lib.hid (grown_below HH1.out hb2)
    have hs2 := HG2.out.size
    clear hb2
    go_wp2_with fail
    refine (among_any [1, 50, 86, 120, 2000, x1] _ _ b c (M + 2) A xs _ HC2.out (by omega) hxs HL2.out (by omega) (by simp) (by simp)).mono ?_
    rintro e u8 ⟨⟨x2, hx2, rfl⟩, hc2, hg2⟩
    have HD2 := Lib.hid hc2; have HH2 := Lib.hid (grownBy_trans HG2.out hg2)
    clear hc2 hg2 HL2 HC2 HG2
    have hr : -1 ≤ x2 ∧ x2 ≤ 2001 := by
      have h1 : x1 = 100 ∨ x1 = 0 ∨ x1 = 2001 := by simpa using hx1
      have h2 : x2 = 1 ∨ x2 = 50 ∨ x2 = 86 ∨ x2 = 120 ∨ x2 = 2000 ∨ x2 = x1 := by simpa using hx2
      omega
    clear hx1 hx2
    go_wp2
    go_ret
    exact ⟨⟨x2, rfl, hr⟩, HD2.out.more (by omega), HH2.out⟩
  obtain ⟨m0, m1, m2⟩ := HR0.out.cells
  have ml := HR0.out.lt
  have HG1 := Lib.hid hg1; clear hg1
  go_wp2_with fail
  refine (juRule_any r _).mono ?_
  rintro e w1 ⟨rfl, hb1⟩
  have HC1 := Lib.hid (HC0.out.below hb1); have HH1 := Lib.hid (grown_below HG0.out hb1); have HR1 := Lib.hid (HR0.out.next hb1); have HO1 := Lib.hid (own_below HO0.out hb1)
  clear hb1 m0 m1 m2 ml
  cases hg2 : juB r
  · clear hg2
    have hsz1 := HH1.out.size
    have hsz0 := HH1.out.size
    have HCO := Lib.hid (HC1.out.more (show _ ≤ M + 1 by omega))
    have HL1 := Lib.hid (row_ints w1 [100, 0, 2001])
    have hb1 : Below w1.heap.size w1 (w1.alloc (.cells (intsZ [100, 0, 2001]).toArray 3)) := (Below.refl _ _).alloc (Nat.le_refl _) _
    have HC1 := Lib.hid (HCO.out.below hb1); have HG1 := Lib.hid (grown_below HH1.out hb1)
    have hs1 := HG1.out.size
    clear hb1
    go_wp2_with fail
    refine (among_any [100, 0, 2001] _ _ b c (M + 1) A xs _ HC1.out (by omega) hxs HL1.out (by omega) (by simp) (by simp)).mono ?_
    rintro e u7 ⟨⟨x1, hx1, rfl⟩, hc1, hg1⟩
    have HD1 := Lib.hid hc1; have HH1 := Lib.hid (grownBy_trans HG1.out hg1)
    clear hc1 hg1 HL1 HC1 HG1
    have hsz7 := HH1.out.size
    have HL2 := Lib.hid (row_ints u7 [1, 50, 86, 120, 2000, x1])
    have hb2 : Below u7.heap.size u7 (u7.alloc (.cells (intsZ [1, 50, 86, 120, 2000, x1]).toArray 3)) := (Below.refl _ _).alloc (Nat.le_refl _) _
    have HC2 := Lib.hid (HD1.out.below hb2); have HG2 := Lib.hid (grown_below HH1.out hb2)
    have hs2 := HG2.out.size
    clear hb2
    go_wp2_with fail
    refine (among_any [1, 50, 86, 120, 2000, x1] _ _ b c (M + 2) A xs _ HC2.out (by omega) hxs HL2.out (by omega) (by simp) (by simp)).mono ?_
    rintro e u8 ⟨⟨x2, hx2, rfl⟩, hc2, hg2⟩
    have HD2 := Lib.hid hc2; have HH2 := Lib.hid (grownBy_trans HG2.out hg2)
    clear hc2 hg2 HL2 HC2 HG2
    have hr : -1 ≤ x2 ∧ x2 ≤ 2001 := by
      have h1 : x1 = 100 ∨ x1 = 0 ∨ x1 = 2001 := by simpa using hx1
      have h2 : x2 = 1 ∨ x2 = 50 ∨ x2 = 86 ∨ x2 = 120 ∨ x2 = 2000 ∨ x2 = x1 := by simpa using hx2
      omega
    clear hx1 hx2
    go_wp2
    go_ret
    exact ⟨⟨x2, rfl, hr⟩, HD2.out.more (by omega), HH2.out⟩
  have HG2 := Lib.hid hg2; clear hg2
  go_wp2_with fail
  refine (one_any 4 b c M A xs _ HC1.out (by omega) hxs (by omega) (by omega)).mono ?_
  rintro e w2 ⟨⟨t, rfl⟩, hc2, hg2⟩
  have HC2 := Lib.hid hc2; have HH2 := Lib.hid (grownBy_trans HH1.out hg2)
  have HR2 := Lib.hid (HR1.out.own hg2 (fun e => by have := Option.some.inj e; omega))
  have HO2 := Lib.hid (own_grown HO1.out hg2 (fun q hq e => by have := own_lt HO1.out q hq; have := Option.some.inj e; omega))
  clear hc2 hg2
  cases t with
  | true =>
    skip
    have hsz0 := HH2.out.size
    have HCO := Lib.hid (HC2.out.more (show _ ≤ M + 1 by omega))
    have HL1 := Lib.hid (row_ints w2 [100, 0, 2001])
    have hb1 : Below w2.heap.size w2 (w2.alloc (.cells (intsZ [100, 0, 2001]).toArray 3)) := (Below.refl _ _).alloc (Nat.le_refl _) _
    have HC1 := Lib.hid (HCO.out.below hb1); have HG1 := Lib.hid (grown_below HH2.out hb1)
    have hs1 := HG1.out.size
    clear hb1
    go_wp2_with fail
    refine (among_any [100, 0, 2001] _ _ b c (M + 1) A xs _ HC1.out (by omega) hxs HL1.out (by omega) (by simp) (by simp)).mono ?_
    rintro e u7 ⟨⟨x1, hx1, rfl⟩, hc1, hg1⟩
    have HD1 := Lib.hid hc1; have HH1 := Lib.hid (grownBy_trans HG1.out hg1)
    clear hc1 hg1 HL1 HC1 HG1
    have hsz7 := HH1.out.size
    have HL2 := Lib.hid (row_ints u7 [1, 50, 86, 120, 2000, x1])
    have hb2 : Below u7.heap.size u7 (u7.alloc (.cells (intsZ [1, 50, 86, 120, 2000, x1]).toArray 3)) := (Below.refl _ _).alloc (Nat.le_refl _) _
    have HC2 := Lib.hid (HD1.out.below hb2); have HG2 := Lib.hid (grown_below HH1.out hb2)
    have hs2 := HG2.out.size
    clear hb2
    go_wp2_with fail
    refine (among_any [1, 50, 86, 120, 2000, x1] _ _ b c (M + 2) A xs _ HC2.out (by omega) hxs HL2.out (by omega) (by simp) (by simp)).mono ?_
    rintro e u8 ⟨⟨x2, hx2, rfl⟩, hc2, hg2⟩
    have HD2 := Lib.hid hc2; have HH2 := Lib.hid (grownBy_trans HG2.out hg2)
    clear hc2 hg2 HL2 HC2 HG2
    have hr : -1 ≤ x2 ∧ x2 ≤ 2001 := by
      have h1 : x1 = 100 ∨ x1 = 0 ∨ x1 = 2001 := by simpa using hx1
      have h2 : x2 = 1 ∨ x2 = 50 ∨ x2 = 86 ∨ x2 = 120 ∨ x2 = 2000 ∨ x2 = x1 := by simpa using hx2
      omega
    clear hx1 hx2
    go_wp2
    go_ret
    exact ⟨⟨x2, rfl, hr⟩, HD2.out.more (by omega), HH2.out⟩
  | false =>
    have HGL := Lib.hid (juL_iff.1 HG1.out)
    have HGR := Lib.hid (juB_iff.1 HG2.out)
    have hs := HGR.out.a; have hs1 := HGR.out.b; have hs2 := HGR.out.c; have hs3 := HGR.out.d
    have hw1 := HGL.out.one; have hw2 := HGL.out.most
    have hsum := HGL.out.sum
    have hp := gaps_mul (s := r.lst) (g := (l.length : Int) - 1) (by omega) (by omega) (by omega) (by omega)
    have hq := gaps_mul (s := r.mst) (g := (l.length : Int) - 1) (by omega) (by omega) (by omega) (by omega)
    have hpq : r.lst * ((l.length : Int) - 1) ≤ r.mst * ((l.length : Int) - 1) := Int.mul_le_mul_of_nonneg_right (by omega) (by omega)
    rw [Int.mul_comm] at hp hq
    rw [Int.mul_comm, Int.mul_comm r.mst] at hpq
    generalize hS : l.sum = S at *
    have hj : ∀ x : KeptW w2.heap.size w2, Calls Try.prog 66 #[.slice B l.length d] x.at_ fun e w' => e = .returned (.int .i64 S) ∧ ∃ y : KeptW w2.heap.size w2, w' = y.at_ := fun x =>
      kept_same x (by rw [← hS]; exact juSum_any l B d x.at_ (own_in (own_below HO2.out x.below)) HGL.out)
    obtain ⟨k0, -, k2⟩ := HR2.out.kept HR2.out.lt
    clear hS
    go_wp2_with fail
    refine region_kept w2.heap.size (by kernel_rfl) (by kernel_rfl) ?_
    repeat (go_big_quiet_step ((go_at_call 66; exact hj _)))
    refine wpQuiet_nil ?_
    intro w3 hb3
    have HC3 := Lib.hid (HC2.out.below hb3); have HH3 := Lib.hid (grown_below HH2.out hb3)
    clear hb3 hj k0 k2 HC2 HH2 HR2 HO2
    generalize ((l.length : Int) - 1) * r.lst = P at *
    generalize ((l.length : Int) - 1) * r.mst = Q at *
    obtain ⟨n, hn⟩ : ∃ n : Nat, n = (Q - P + 3).toNat := ⟨_, rfl⟩
    have hn1 : S + Q - (S + P) + 3 = (n : Int) := by omega
    have hnr : 1 ≤ n ∧ n ≤ 20000 := by omega
    clear hn
    go_wp2_with fail
    refine (pick_big n b c (M + 1) A xs _ HC3.out (by omega) hxs (by omega) (by omega)).mono ?_
    rintro e w4 ⟨⟨k, hk, rfl⟩, hc4, hg4⟩
    have HC4 := Lib.hid hc4; have HH4 := Lib.hid (grownBy_trans HH3.out hg4)
    clear hc4 hg4
    go_wp2_with fail
    refine (l1Least_any _ _ _).mono ?_
    rintro e w' ⟨rfl, rfl⟩
    obtain ⟨z, hz⟩ : ∃ z : Int, z = if (2000 : Int) < S + P + (k : Int) - 1 then 2000 else S + P + (k : Int) - 1 := ⟨_, rfl⟩
    rw [← hz]
    have hzr : -1 ≤ z ∧ z ≤ 2001 := by rw [hz]; split <;> omega
    clear hz
    go_wp2
    go_ret
    exact ⟨⟨z, rfl, hzr⟩, HC4.out.more (by omega), HH4.out⟩

theorem BytesIn.alloc {w : World} {A : Option Addr} {xs : List UInt8} (h : BytesIn w A xs) (o : Obj) : BytesIn (w.alloc o) A xs := fun hn => by
  obtain ⟨b', off, e, hl, hc⟩ := h hn
  exact ⟨b', off, e, by simp; omega, fun k hk => (((Below.refl w.heap.size w).alloc (Nat.le_refl _) o).cell (by show b' < _; exact hl)).trans (hc k hk)⟩
theorem cur_new {w : World} {A : Option Addr} {xs : List UInt8} (hx : BytesIn w A xs) (c : Nat) : CurLe (w.alloc (.cells #[.slice A xs.length c, .int .i64 0, .int .u64 0] 69)) w.heap.size A c 0 xs := by
  refine ⟨⟨0, Nat.le_refl _, 0, by omega, heap_new _ _⟩, fun hn => ?_⟩
  obtain ⟨b', off, e, hl, hc⟩ := hx hn
  exact ⟨b', off, e, hl, fun k hk => (((Below.refl w.heap.size w).alloc (Nat.le_refl _) _).cell (by show b' < _; exact hl)).trans (hc k hk)⟩
theorem results_tct {P : Program} {fn : Func} {u v p : Tmp} {ty : TypeId} (h : fn.results = #[.tmp u, .cell p ty, .tmp v]) (tmps : Array Value) (w : World) (g : Nat) (t : TypeId) (cs : Array Value) (fr : Nat × Nat) (d : TypeDesc)
    (hp : tmps.getD p undef = .pointer (some ⟨g, 0, none⟩)) (hg : w.heap[g]? = some (.cells cs t fr))
    (hu : P.underlying ty = some d) (hd : (match d with | .struct _ | .array _ _ => true | _ => false) = true) (hi : (P.info? ty).map (·.size) = some cs.size) :
    (results fn tmps).run P w = .ok (.tuple #[tmps.getD u undef, .agg cs, tmps.getD v undef]) w := by
  have hp' : tmps[p]?.getD undef = .pointer (some ⟨g, 0, none⟩) := by simpa using hp
  simp [results, h, hp', asAddr, run_loadVar_row w g t ty cs fr d hg hu hd hi]
set_option maxRecDepth 100000 in
theorem drawIsRule_any (A : Option Addr) (c : Nat) (xs : List UInt8) (w : World) (hx : BytesIn w A xs) (hxs : xs.length ≤ maxLen) :
    Calls Try.prog 28 #[.slice A xs.length c] w fun e w' => (∃ r : Ru, e = .returned (.agg #[.int .i64 r.lst, .int .i64 r.nrm, .int .i64 r.mst])) ∧ Below w.heap.size w w' := by
  obtain ⟨w0, hw0⟩ : ∃ w0 : World, w0 = w.alloc (.cells #[.int .i64 0, .int .i64 0, .int .i64 0] 25) := ⟨_, rfl⟩
  have hx0 : BytesIn w0 A xs := by rw [hw0]; exact hx.alloc _
  have hb00 : Below w.heap.size w w0 := by rw [hw0]; exact (Below.refl _ _).alloc (Nat.le_refl _) _
  have hbx : w0.heap.size = w.heap.size + 1 := by rw [hw0]; simp
  have hR0 : RuAt w0 w.heap.size 25 ⟨0, 0, 0⟩ := by rw [hw0]; exact heap_new _ _
  obtain ⟨b, hb⟩ : ∃ b, b = w0.heap.size := ⟨_, rfl⟩
  have HCUR := Lib.hid (cur_new hx0 c)
  have HB0 := Lib.hid (hb00.alloc hb00.size (.cells #[.slice A xs.length c, .int .i64 0, .int .u64 0] 69))
  have HW0 := Lib.hid hw0
  have HR0 := Lib.hid (hR0.alloc (.cells #[.slice A xs.length c, .int .i64 0, .int .u64 0] 69))
  have hbw : w.heap.size < b := by omega
  rw [← hb] at HCUR
  have HBE := Lib.hid (show w.heap.size + 1 = b from by omega)
  clear hx hw0 hx0 hb00 hR0 hb hbx
  go_enter Try.func28, Try.ntmps28
  go_wp2_with fail
  rw [HBE.out, ← HW0.out]
  refine (rule_any b c 0 A xs _ HCUR.out (by omega) hxs).mono ?_
  rintro e w1 ⟨⟨r, rfl⟩, hc1, hg1⟩
  have HR1 := Lib.hid (HR0.out.own hg1 (fun e => by have := Option.some.inj e; omega))
  have HB1 := Lib.hid (HB0.out.grown hg1 HB0.out.size (fun k hk => by have := Option.some.inj hk; omega))
  have HRZ := Lib.hid (((HR1.out.s0 r.lst).s1 r.nrm).s2 r.mst)
  have HBZ := Lib.hid (Below.setCell (Below.setCell (Below.setCell HB1.out (p := ⟨w.heap.size, 0, none⟩) (Nat.le_refl _) (.int .i64 r.lst)) (p := ⟨w.heap.size, 1, none⟩) (Nat.le_refl _) (.int .i64 r.nrm)) (p := ⟨w.heap.size, 2, none⟩) (Nat.le_refl _) (.int .i64 r.mst))
  obtain ⟨e0, e1, e2⟩ := HR1.out.cells
  have ef0 := HR1.out.free 0; have ef1 := HR1.out.free 1; have ef2 := HR1.out.free 2
  have el := HR1.out.lt
  simp only at e0 e1 e2
  clear hc1 hg1 HR0 HR1 HB0 HB1 HCUR
  go_wp2
  try simp only [Exit.inBlock, Exit.then]
  refine bodyPost_ret (results_cell_row rfl _ _ w.heap.size _ _ _ _ rfl HRZ.out Try.underlying25 rfl (by kernel_rfl)) rfl ?_
  exact ⟨⟨⟨r.lst, r.nrm, r.mst⟩, rfl⟩, HBZ.out⟩
/-- A line, a rule and a measure come back. -/
def DrawnL (w w' : World) (e : Ending) : Prop :=
  ∃ (l : List Int) (B : Option Addr) (d : Nat) (r : Ru) (z : Int), e = .returned (.tuple #[.slice B l.length d, .agg #[.int .i64 r.lst, .int .i64 r.nrm, .int .i64 r.mst], .int .i64 z]) ∧ l.length ≤ 21 ∧ l.length ≤ d ∧ (-1 ≤ z ∧ z ≤ 2001) ∧ IntsIn w' B l ∧ Below w.heap.size w w'
theorem own_capI {w : World} {base n m cap : Nat} {e : TypeId} {A : Option Addr} {xs : List Value} (h : w.ownsRow base e 1 (.slice A m cap) n xs) : n ≤ cap := by
  rcases h.2 with ⟨e1, e2⟩ | ⟨g, c', cur, e1, h1, h2, h3, h4⟩
  · omega
  · injection e1 with _ _ e3; omega
set_option maxRecDepth 100000 in
set_option maxHeartbeats 2000000 in
theorem drawJustifyLine_any (A : Option Addr) (c : Nat) (xs : List UInt8) (w : World) (hx : BytesIn w A xs) (hxs : xs.length ≤ maxLen) :
    Calls Try.prog 14 #[.slice A xs.length c] w fun e w' => DrawnL w w' e := by
  obtain ⟨w0, hw0⟩ : ∃ w0 : World, w0 = w.alloc (.cells #[.int .i64 0, .int .i64 0, .int .i64 0] 25) := ⟨_, rfl⟩
  have hx0 : BytesIn w0 A xs := by rw [hw0]; exact hx.alloc _
  have hb00 : Below w.heap.size w w0 := by rw [hw0]; exact (Below.refl _ _).alloc (Nat.le_refl _) _
  have hbx : w0.heap.size = w.heap.size + 1 := by rw [hw0]; simp
  have hR0 : RuAt w0 w.heap.size 25 ⟨0, 0, 0⟩ := by rw [hw0]; exact heap_new _ _
  obtain ⟨b, hb⟩ : ∃ b, b = w0.heap.size := ⟨_, rfl⟩
  have HCUR := Lib.hid (cur_new hx0 c)
  have HB0 := Lib.hid (hb00.alloc hb00.size (.cells #[.slice A xs.length c, .int .i64 0, .int .u64 0] 69))
  have HW0 := Lib.hid hw0
  have HR0 := Lib.hid (hR0.alloc (.cells #[.slice A xs.length c, .int .i64 0, .int .u64 0] 69))
  have hbw : w.heap.size < b := by omega
  rw [← hb] at HCUR
  have HBE := Lib.hid (show w.heap.size + 1 = b from by omega)
  clear hx hw0 hx0 hb00 hR0 hb hbx
  go_enter Try.func14, Try.ntmps14
  go_wp2_with fail
  rw [HBE.out, ← HW0.out]
  refine (widths_any 20 b c 0 A xs _ HCUR.out (by omega) hxs (by omega)).mono ?_
  rintro e w1 ⟨⟨l, B, d, rfl, hl, ho⟩, hc1, hg1⟩
  have HC1 := Lib.hid hc1
  have HR1 := Lib.hid (HR0.out.own hg1 (fun e => by have := Option.some.inj e; omega))
  have HB1 := Lib.hid (HB0.out.grown hg1 HB0.out.size (fun k hk => by have := Option.some.inj hk; omega))
  have HCAP := Lib.hid (own_capI ho)
  have hbu : b < (w0.alloc (.cells #[.slice A xs.length c, .int .i64 0, .int .u64 0] 69)).heap.size := HCUR.out.lt
  have HO1 := Lib.hid (Joins.ownsRow_le (base' := b + 1) ho hbu)
  clear hc1 hg1 ho HCUR HR0 HB0 hbu
  go_wp2_with fail
  refine (rule_any b c (0 + 20 + 12) A xs _ HC1.out (by omega) hxs).mono ?_
  rintro e w2 ⟨⟨r, rfl⟩, hc2, hg2⟩
  have HC2 := Lib.hid hc2
  have HR2 := Lib.hid (HR1.out.own hg2 (fun e => by have := Option.some.inj e; omega))
  have HB2 := Lib.hid (HB1.out.grown hg2 HB1.out.size (fun k hk => by have := Option.some.inj hk; omega))
  have HO2 := Lib.hid (own_grown HO1.out hg2 (fun q hq e => by have h1 := own_lt HO1.out q hq; have := Option.some.inj e; omega))
  have hbl2 := hc2.lt
  have hwl2 := HR2.out.lt
  clear hc2 hg2 HC1 HR1 HB1 HO1
  obtain ⟨g, hg⟩ : ∃ g, g = w2.heap.size := ⟨_, rfl⟩
  obtain ⟨w3, hw3⟩ : ∃ w3 : World, w3 = w2.alloc (.cells #[.int .i64 r.lst, .int .i64 r.nrm, .int .i64 r.mst] 25) := ⟨_, rfl⟩
  have hb3 : Below w2.heap.size w2 w3 := by rw [hw3]; exact (Below.refl _ _).alloc (Nat.le_refl _) _
  have HC3 := Lib.hid (HC2.out.below hb3); have HO3 := Lib.hid (own_below HO2.out hb3)
  have HR3 := Lib.hid (HR2.out.next hb3)
  have HB3 := Lib.hid (HB2.out.trans (hb3.mono HB2.out.size))
  have HX3 : Hid (RuAt w3 g 25 r) := Lib.hid (by rw [hg, hw3]; exact heap_new _ _)
  have hgb : b < g ∧ w.heap.size < g := by omega
  obtain ⟨hgb1, hgb2⟩ := hgb
  have HW3 := Lib.hid hw3
  have HGE := Lib.hid hg.symm
  clear hw3 hb3 hg HC2 HO2 HR2 HB2 hbl2 hwl2
  go_wp2_with fail
  rw [HGE.out, ← HW3.out]
  have HCD := Lib.hid (HC3.out.below (Below.refl w3.heap.size w3).drew)
  have HOD := Lib.hid (own_below HO3.out (Below.refl w3.heap.size w3).drew)
  have HRD := Lib.hid (HR3.out.next (Below.refl w3.heap.size w3).drew)
  have HXD := Lib.hid (HX3.out.next (Below.refl w3.heap.size w3).drew)
  have HBD := Lib.hid (HB3.out.drew)
  obtain ⟨m0, m1, m2⟩ := HX3.out.cells
  have ml := HX3.out.lt
  go_region_law (go_simp; go_at_call 55; refine (measureOf_any b c (0 + 20 + 12 + 8) A xs l B d (b + 1) r _ HCD.out (by omega) hxs HOD.out (Nat.lt_succ_self _) (by omega)).mono ?_; rintro e w4 ⟨⟨z, rfl, hz⟩, hc4, hg4⟩; have HB4 := Lib.hid (HBD.out.grown hg4 HBD.out.size (fun k hk => by have := Option.some.inj hk; omega)); have HO4 := Lib.hid (own_grown HOD.out hg4 (fun q hq e => by have h1 := own_lt HOD.out q hq; have := Option.some.inj e; omega)); have HR4 := Lib.hid (HRD.out.own hg4 (fun e => by have := Option.some.inj e; omega)); have HX4 := Lib.hid (HXD.out.own hg4 (fun e => by have := Option.some.inj e; omega)); obtain ⟨n0, n1, n2⟩ := HX4.out.cells; obtain ⟨o0, o1, o2⟩ := HR4.out.cells; have f0 := HR4.out.free 0; have f1 := HR4.out.free 1; have f2 := HR4.out.free 2; have ol := HR4.out.lt; have nl := HX4.out.lt; simp only at o0 o1 o2; clear hc4 hg4 m0 m1 m2 ml)
  all_goals
    have HRZ := Lib.hid (((HR4.out.s0 r.lst).s1 r.nrm).s2 r.mst)
    have HBZ := Lib.hid (Below.setCell (Below.setCell (Below.setCell HB4.out (p := ⟨w.heap.size, 0, none⟩) (Nat.le_refl _) (.int .i64 r.lst)) (p := ⟨w.heap.size, 1, none⟩) (Nat.le_refl _) (.int .i64 r.nrm)) (p := ⟨w.heap.size, 2, none⟩) (Nat.le_refl _) (.int .i64 r.mst))
    have HOZ := Lib.hid (own_grown (own_grown (own_grown HO4.out (grown_set (World.grownBy.refl _ (some w.heap.size)) 0 (.int .i64 r.lst)) (fun q hq e => by have h1 := own_lt HO4.out q hq; have := Option.some.inj e; omega)) (grown_set (World.grownBy.refl _ (some w.heap.size)) 1 (.int .i64 r.nrm)) (fun q hq e => by have h1 := own_lt HO4.out q hq; have := Option.some.inj e; omega)) (grown_set (World.grownBy.refl _ (some w.heap.size)) 2 (.int .i64 r.mst)) (fun q hq e => by have h1 := own_lt HO4.out q hq; have := Option.some.inj e; omega))
    go_wp2
    try simp only [Exit.inBlock, Exit.then]
    refine bodyPost_ret (results_tct rfl _ _ w.heap.size _ _ _ _ rfl HRZ.out Try.underlying25 rfl (by kernel_rfl)) rfl ?_
    exact ⟨l, B, d, r, z, rfl, by omega, HCAP.out, hz, own_in HOZ.out, HBZ.out⟩
end Go.Proofs.Ytpbkeagpipipmaa

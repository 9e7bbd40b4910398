/-
  spec.DrawSpacesFor: some sorts, some texts, some rule and some measure.
-/
import Derived.Test.YtpbkeagpipipmaaUw
import Derived.Test.YtpbkeagpipipmaaMxd
namespace Go.Proofs.Ytpbkeagpipipmaa
open Go.RowKit
set_option linter.unusedVariables false

/-- Some ints of the call's own and a truth value come back. -/
def SomeTo (w w' : World) (e : Ending) (n : Nat) : Prop := ∃ (L : List Int) (b : Bool), EnTo w w' e L b ∧ L.length ≤ n
set_option maxRecDepth 100000 in
set_option maxHeartbeats 1000000 in
theorem juWidths_loose (f : Fnt) (A : Option Addr) (c : Nat) (l : List ByteArray) (B : Option Addr) (d : Nat) (w : World) (hf : S1.SortsIn w 0 A f) (hn : f.length ≤ 1048576) (hg : S1.StrsIn w B l) (hw : ∀ k (h : k < l.length), l[k].size ≤ 1048576) (hm : l.length ≤ 1048576) :
    Calls Try.prog 71 #[.slice A f.length c, .slice B l.length d] w fun e w' => SomeTo w w' e l.length := by
  have HF := Lib.hid hf; have HG := Lib.hid hg; have HW := Lib.hid hw
  clear hf hg hw
  obtain ⟨i0, hi, hz0, hz1, hz2⟩ := info_parts info3
  have HI := Lib.hid hi; have HZ0 := Lib.hid hz0; have HZ1 := Lib.hid hz1; have HZ2 := Lib.hid hz2
  clear hi hz0 hz1 hz2
  go_enter Try.func71, Try.ntmps71
  go_wp2
  go_loopw [6, 13] (fun v i wr => ∃ (k : Nat) (L : List Int), k ≤ l.length ∧ i = .int .i64 (k : Int) ∧ L.length = k ∧ wr.ownsRow w.heap.size 3 1 v L.length (intsZ L) ∧ Below w.heap.size w wr) (fun _ i _ => l.length - (intOf i).toNat)
  case atStart => exact ⟨0, [], Nat.zero_le _, rfl, rfl, own_nil _ _ _ _, Below.refl _ _⟩
  case round =>
    obtain ⟨k, L, hk, rfl, hLk, hv, hb⟩ := hrel
    have HV := Lib.hid hv; have HB := Lib.hid hb; have HLK := Lib.hid hLk
    clear hv hLk
    by_cases hlt : k < l.length
    · obtain ⟨b, off, rfl, hbl, hc⟩ := HG.out (by omega)
      have hc0 := hc k hlt
      rw [← hb.cell (p := ⟨b, off + k, none⟩) hbl] at hc0
      clear hc hb
      have hsz := HW.out k hlt
      have hkl1 : (k : Int) < (l.length : Int) := by omega
      have hkl0 : (0 : Int) ≤ (k : Int) := by omega
      have hmx : L.length + 1 ≤ maxLen := by rw [HLK.out]; unfold maxLen; omega
      have hL47 : L.length ≤ 1048576 := by rw [HLK.out]; omega
      generalize l[k]'hlt = x at *
      go_wp2_with fail
      refine (S1.tyWidth_loose f A c x 0 _ (HF.out.below HB.out (Nat.le_refl _)) hn hsz).mono ?_
      rintro e w1 ⟨q, bb, rfl, hb1⟩
      have HB1 := Lib.hid (HB.out.trans (hb1.mono HB.out.size))
      have HV1 := Lib.hid (own_below HV.out hb1)
      clear hb1 hc0 HB HV
      cases bb
      · go_wp2
        refine bodyPost_ret (v := .tuple #[.slice none 0 0, .bool false]) (by simp [results, Try.results71, go_sem]) rfl ?_
        exact ⟨[], false, EnTo.no rfl rfl HB1.out, Nat.zero_le _⟩
      · have hwz := HB1.out.size
        go_wp2_with (at_builtin; refine wpList_append_own_at _ rfl _ _ 23 rfl w.heap.size 3 i0 (.int .i64 0) 1 8 Try.underlying23 HI.out HZ0.out HZ1.out HZ2.out rfl (by decide) _ _ _ rfl (HV1.out.alloc _) ⟨w1.heap.size, 0, none⟩ 1 1 [.int .i64 q] rfl rfl (cell_one_new _ _ _) (by simp [Value.oneCell']) hmx (by omega) (by first | (simp; done) | (simp; omega) | omega) ?_)
        intro v' w5 hown' hgrow _ hat
        have HB5 := Lib.hid ((HB1.out.alloc HB1.out.size (.cells #[.int .i64 q] 3)).grown hgrow (by simp; omega) (fun p hp => by have := own_lt HV1.out p hp; omega))
        have HO5 : Hid (w5.ownsRow w.heap.size 3 1 v' (L ++ [q]).length (intsZ (L ++ [q]))) := by
          show World.ownsRow _ _ _ _ _ _ _
          rw [List.length_append, intsZ_snoc]; exact hown'
        clear hown' hgrow hat
        go_wp2
        go_roundw
        case rel => exact ⟨k + 1, L ++ [q], by omega, by go_num, by rw [List.length_append, HLK.out]; rfl, HO5.out, HB5.out⟩
        case measure => simp [intOf]; omega
    · obtain rfl : k = l.length := by omega
      obtain ⟨V, cV, rfl⟩ := own_formI HV.out
      go_wp2
      refine bodyPost_ret (v := .tuple #[.slice V L.length cV, .bool true]) (by simp [results, Try.results71, go_sem]) rfl ?_
      exact ⟨L, true, EnTo.yes rfl rfl HB.out HV.out, by rw [HLK.out]; exact Nat.le_refl _⟩
theorem results_ttct {P : Program} {fn : Func} {u v x p : Tmp} {ty : TypeId} (h : fn.results = #[.tmp u, .tmp v, .cell p ty, .tmp x]) (tmps : Array Value) (w : World) (g : Nat) (t : TypeId) (cs : Array Value) (fr : Nat × Nat) (d : TypeDesc)
    (hp : tmps.getD p undef = .pointer (some ⟨g, 0, none⟩)) (hg : w.heap[g]? = some (.cells cs t fr))
    (hu : P.underlying ty = some d) (hd : (match d with | .struct _ | .array _ _ => true | _ => false) = true) (hi : (P.info? ty).map (·.size) = some cs.size) :
    (results fn tmps).run P w = .ok (.tuple #[tmps.getD u undef, tmps.getD v undef, .agg cs, tmps.getD x undef]) w := by
  have hp' : tmps[p]?.getD undef = .pointer (some ⟨g, 0, none⟩) := by simpa using hp
  simp [results, h, hp', asAddr, run_loadVar_row w g t ty cs fr d hg hu hd hi]
/-- Sorts, texts, a rule and a measure come back. -/
def DrawnS (w w' : World) (e : Ending) : Prop :=
  ∃ (f : Fnt) (B : Option Addr) (d : Nat) (l : List ByteArray) (D : Option Addr) (k : Nat) (r : Ru) (z : Int), e = .returned (.tuple #[.slice B f.length d, .slice D l.length k, .agg #[.int .i64 r.lst, .int .i64 r.nrm, .int .i64 r.mst], .int .i64 z]) ∧ f.length ≤ 40 ∧ S1.CodesOk f ∧ l.length ≤ 41 ∧ S1.StrsOk l ∧ S1.SortsIn w' 0 B f ∧ S1.StrsIn w' D l ∧ Below w.heap.size w w'
set_option maxRecDepth 100000 in
set_option maxHeartbeats 2000000 in
theorem drawSpacesFor_any (A : Option Addr) (c : Nat) (xs : List UInt8) (w : World) (hx : BytesIn w A xs) (hxs : xs.length ≤ maxLen) :
    Calls Try.prog 36 #[.slice A xs.length c] w fun e w' => DrawnS w w' e := by
  obtain ⟨w0, hw0⟩ : ∃ w0 : World, w0 = w.alloc (.cells #[.int .i64 0, .int .i64 0, .int .i64 0] 25) := ⟨_, rfl⟩
  have hx0 : BytesIn w0 A xs := by rw [hw0]; exact hx.alloc _
  have hb00 : Below w.heap.size w w0 := by rw [hw0]; exact (Below.refl _ _).alloc (Nat.le_refl _) _
  have hbx : w0.heap.size = w.heap.size + 1 := by rw [hw0]; simp
  have hR0 : RuAt w0 w.heap.size 25 ⟨0, 0, 0⟩ := by rw [hw0]; exact heap_new _ _
  obtain ⟨b, hb⟩ : ∃ b, b = w0.heap.size := ⟨_, rfl⟩
  have HCUR := Lib.hid (cur_new hx0 c)
  have HB0 := Lib.hid (hb00.alloc hb00.size (.cells #[.slice A xs.length c, .int .i64 0, .int .u64 0] 69))
  have HW0 := Lib.hid hw0
  have HR0 := Lib.hid (hR0.alloc (.cells #[.slice A xs.length c, .int .i64 0, .int .u64 0] 69))
  have hbw : w.heap.size < b := by omega
  rw [← hb] at HCUR
  have HBE := Lib.hid (show w.heap.size + 1 = b from by omega)
  clear hx hw0 hx0 hb00 hR0 hb hbx
  go_enter Try.func36, Try.ntmps36
  go_wp2_with fail
  rw [HBE.out, ← HW0.out]
  refine (S1.anyFont_any b c 0 A xs _ HCUR.out (by omega) hxs).mono ?_
  rintro e w1 ⟨⟨f, B, d, rfl, hfl, hco, hof⟩, hc1, hg1⟩
  have hbu : b < (w0.alloc (.cells #[.slice A xs.length c, .int .i64 0, .int .u64 0] 69)).heap.size := HCUR.out.lt
  have HF1 := Lib.hid (Joins.ownsRow_le (base' := b + 1) hof (by omega))
  have HC1 : Hid (CurLe w1 b A c (0 + 30) xs) := Lib.hid hc1
  have HCO := Lib.hid hco
  have HB1 := Lib.hid (HB0.out.grown hg1 HB0.out.size (fun k hk => by have := Option.some.inj hk; omega))
  have HR1 := Lib.hid (HR0.out.own hg1 (fun e => by have := Option.some.inj e; omega))
  clear hc1 hg1 hof HB0 HR0 HCUR hbu hco
  go_wp2_with fail
  refine (S1.words_any b c (0 + 30) A xs _ HC1.out (by omega) hxs).mono ?_
  rintro e w2 ⟨⟨l, D, k, rfl, hll, hsh, how⟩, hc2, hg2⟩
  have hb1 := HC1.out.lt
  have HW2 := Lib.hid (Joins.ownsRow_le (base' := b + 1) how hb1)
  have HC2 : Hid (CurLe w2 b A c (0 + 30 + 450) xs) := Lib.hid hc2
  have HF2 := Lib.hid (own_grown HF1.out hg2 (fun q hq e => by have h1 := own_lt HF1.out q hq; have := Option.some.inj e; omega))
  have HSH := Lib.hid hsh
  have HB2 := Lib.hid (HB1.out.grown hg2 HB1.out.size (fun k hk => by have := Option.some.inj hk; omega))
  have HR2 := Lib.hid (HR1.out.own hg2 (fun e => by have := Option.some.inj e; omega))
  clear hc2 hg2 how HB1 HR1 HC1 HF1 hb1 hsh
  go_wp2_with fail
  refine (rule_any b c (0 + 30 + 450) A xs _ HC2.out (by omega) hxs).mono ?_
  rintro e w3 ⟨⟨r, rfl⟩, hc3, hg3⟩
  have HC3 := Lib.hid hc3
  have HF3 := Lib.hid (own_grown HF2.out hg3 (fun q hq e => by have h1 := own_lt HF2.out q hq; have := Option.some.inj e; omega))
  have HW3' := Lib.hid (own_grown HW2.out hg3 (fun q hq e => by have h1 := own_lt HW2.out q hq; have := Option.some.inj e; omega))
  have HB3 := Lib.hid (HB2.out.grown hg3 HB2.out.size (fun k hk => by have := Option.some.inj hk; omega))
  have HR3 := Lib.hid (HR2.out.own hg3 (fun e => by have := Option.some.inj e; omega))
  clear hc3 hg3 HB2 HR2 HC2 HF2 HW2
  have hbl3 := HC3.out.lt
  have hwl3 := HR3.out.lt
  obtain ⟨g, hg⟩ : ∃ g, g = w3.heap.size := ⟨_, rfl⟩
  obtain ⟨w4, hw4⟩ : ∃ w4 : World, w4 = w3.alloc (.cells #[.int .i64 r.lst, .int .i64 r.nrm, .int .i64 r.mst] 25) := ⟨_, rfl⟩
  have hb4 : Below w3.heap.size w3 w4 := by rw [hw4]; exact (Below.refl _ _).alloc (Nat.le_refl _) _
  have HC4 := Lib.hid (HC3.out.below hb4); have HF4 := Lib.hid (own_below HF3.out hb4); have HV4 := Lib.hid (own_below HW3'.out hb4)
  have HR4 := Lib.hid (HR3.out.next hb4)
  have HB4 := Lib.hid (HB3.out.trans (hb4.mono HB3.out.size))
  have HX4 : Hid (RuAt w4 g 25 r) := Lib.hid (by rw [hg, hw4]; exact heap_new _ _)
  have hgb : b < g ∧ w.heap.size < g := by omega
  obtain ⟨hgb1, hgb2⟩ := hgb
  have HW4 := Lib.hid hw4
  have HGE := Lib.hid hg.symm
  clear hw4 hb4 hg HC3 HF3 HW3' HR3 HB3 hbl3 hwl3
  go_wp2_with fail
  rw [HGE.out, ← HW4.out]
  refine (juWidths_loose f B d l D k _ (S1.own_in_f HF4.out) (by omega) (S1.own_in_s HV4.out) (fun j hj => by have := HSH.out _ (List.getElem_mem hj); omega) (by omega)).mono ?_
  rintro e w5 ⟨L, ok, ⟨v5, T5, rfl, hb5, ho5⟩, hLl⟩
  have HC5 := Lib.hid (HC4.out.below hb5); have HF5 := Lib.hid (own_below HF4.out hb5); have HW5 := Lib.hid (own_below HV4.out hb5)
  have HR5 := Lib.hid (HR4.out.next hb5); have HX5 := Lib.hid (HX4.out.next hb5)
  have HB5 := Lib.hid (HB4.out.trans (hb5.mono HB4.out.size))
  obtain ⟨V5, c5, rfl⟩ := own_formI ho5
  have hbw4 := HC4.out.lt
  have HO5 := Lib.hid (Joins.ownsRow_le (base' := b + 1) ho5 hbw4)
  clear hb5 ho5 HC4 HF4 HV4 HR4 HX4 HB4 hbw4
  obtain ⟨m0, m1, m2⟩ := HX5.out.cells
  have ml := HX5.out.lt
  have hbl5 := HC5.out.lt
  cases ok with
  | true =>
    have HCD := Lib.hid (HC5.out.below (Below.refl w5.heap.size w5).drew)
    have HFD := Lib.hid (own_below HF5.out (Below.refl w5.heap.size w5).drew)
    have HWD := Lib.hid (own_below HW5.out (Below.refl w5.heap.size w5).drew)
    have HOD := Lib.hid (own_below HO5.out (Below.refl w5.heap.size w5).drew)
    have HRD := Lib.hid (HR5.out.next (Below.refl w5.heap.size w5).drew)
    have HXD := Lib.hid (HX5.out.next (Below.refl w5.heap.size w5).drew)
    have HBD := Lib.hid (HB5.out.drew)
    clear HC5 HF5 HW5 HO5 HR5 HX5 HB5
    go_wp2_with fail
    go_region_law (go_simp; go_at_call 55; refine (measureOf_any b c (0 + 30 + 450 + 8) A xs L V5 c5 (b + 1) r _ HCD.out (by omega) hxs HOD.out (Nat.lt_succ_self _) (by omega)).mono ?_; rintro e w9 ⟨⟨z, rfl, hz⟩, hc9, hg9⟩; have HB9 := Lib.hid (HBD.out.grown hg9 HBD.out.size (fun k hk => by have := Option.some.inj hk; omega)); have HF9 := Lib.hid (own_grown HFD.out hg9 (fun q hq e => by have h1 := own_lt HFD.out q hq; have := Option.some.inj e; omega)); have HW9 := Lib.hid (own_grown HWD.out hg9 (fun q hq e => by have h1 := own_lt HWD.out q hq; have := Option.some.inj e; omega)); have HR9 := Lib.hid (HRD.out.own hg9 (fun e => by have := Option.some.inj e; omega)); have HX9 := Lib.hid (HXD.out.own hg9 (fun e => by have := Option.some.inj e; omega)); obtain ⟨n0, n1, n2⟩ := HX9.out.cells; obtain ⟨o0, o1, o2⟩ := HR9.out.cells; have f0 := HR9.out.free 0; have f1 := HR9.out.free 1; have f2 := HR9.out.free 2; have ol := HR9.out.lt; have nl := HX9.out.lt; simp only at o0 o1 o2; clear hc9 hg9 m0 m1 m2 ml)
    all_goals
      have HRZ := Lib.hid (((HR9.out.s0 r.lst).s1 r.nrm).s2 r.mst)
      have HBZ := Lib.hid (Below.setCell (Below.setCell (Below.setCell HB9.out (p := ⟨w.heap.size, 0, none⟩) (Nat.le_refl _) (.int .i64 r.lst)) (p := ⟨w.heap.size, 1, none⟩) (Nat.le_refl _) (.int .i64 r.nrm)) (p := ⟨w.heap.size, 2, none⟩) (Nat.le_refl _) (.int .i64 r.mst))
      have gs0 := grown_set (World.grownBy.refl w9 (some w.heap.size)) 0 (.int .i64 r.lst)
      have gs1 := grown_set (World.grownBy.refl (w9.setCell ⟨w.heap.size, 0, none⟩ (.int .i64 r.lst)) (some w.heap.size)) 1 (.int .i64 r.nrm)
      have gs2 := grown_set (World.grownBy.refl ((w9.setCell ⟨w.heap.size, 0, none⟩ (.int .i64 r.lst)).setCell ⟨w.heap.size, 1, none⟩ (.int .i64 r.nrm)) (some w.heap.size)) 2 (.int .i64 r.mst)
      have HFa := own_grown HF9.out gs0 (fun q hq e => by have h1 := own_lt HF9.out q hq; have := Option.some.inj e; omega)
      have HFb := own_grown HFa gs1 (fun q hq e => by have h1 := own_lt HFa q hq; have := Option.some.inj e; omega)
      have HFZ := Lib.hid (own_grown HFb gs2 (fun q hq e => by have h1 := own_lt HFb q hq; have := Option.some.inj e; omega))
      have HWa := own_grown HW9.out gs0 (fun q hq e => by have h1 := own_lt HW9.out q hq; have := Option.some.inj e; omega)
      have HWb := own_grown HWa gs1 (fun q hq e => by have h1 := own_lt HWa q hq; have := Option.some.inj e; omega)
      have HWZ := Lib.hid (own_grown HWb gs2 (fun q hq e => by have h1 := own_lt HWb q hq; have := Option.some.inj e; omega))
      clear HFa HFb HWa HWb gs0 gs1 gs2 HF9 HW9 HB9 HR9
      go_wp2
      try simp only [Exit.inBlock, Exit.then]
      refine bodyPost_ret (results_ttct rfl _ _ w.heap.size _ _ _ _ rfl HRZ.out Try.underlying25 rfl (by kernel_rfl)) rfl ?_
      exact ⟨f, B, d, l, D, k, r, z, rfl, hfl, HCO.out, hll, HSH.out.ok, S1.own_in_f HFZ.out, S1.own_in_s HWZ.out, HBZ.out⟩
  | false =>
    have hb6 : Below w5.heap.size w5 (w5.drew.alloc (.cells (intsZ [60, 100]).toArray 3)) := ((Below.refl _ _).drew).alloc (by simp) _
    have HCD := Lib.hid (HC5.out.below hb6)
    have HFD := Lib.hid (own_below HF5.out hb6)
    have HWD := Lib.hid (own_below HW5.out hb6)
    have HRD := Lib.hid (HR5.out.next hb6)
    have HXD := Lib.hid (HX5.out.next hb6)
    have HBD := Lib.hid (HB5.out.trans (hb6.mono HB5.out.size))
    have HLD : Hid (IntsIn (w5.drew.alloc (.cells (intsZ [60, 100]).toArray 3)) (some ⟨w5.heap.size, 0, none⟩) [60, 100]) := Lib.hid (row_ints w5.drew _)
    clear HC5 HF5 HW5 HO5 HR5 HX5 HB5 hb6
    go_wp2_with fail
    go_region_law (go_simp; go_at_call 67; refine (among_any [60, 100] _ _ b c (0 + 30 + 450 + 8) A xs _ HCD.out (by omega) hxs HLD.out (by omega) (by decide) (by decide)).mono ?_; rintro e w9 ⟨⟨z, hz, rfl⟩, hc9, hg9⟩; have HB9 := Lib.hid (HBD.out.grown hg9 HBD.out.size (fun k hk => by have := Option.some.inj hk; omega)); have HF9 := Lib.hid (own_grown HFD.out hg9 (fun q hq e => by have h1 := own_lt HFD.out q hq; have := Option.some.inj e; omega)); have HW9 := Lib.hid (own_grown HWD.out hg9 (fun q hq e => by have h1 := own_lt HWD.out q hq; have := Option.some.inj e; omega)); have HR9 := Lib.hid (HRD.out.own hg9 (fun e => by have := Option.some.inj e; omega)); have HX9 := Lib.hid (HXD.out.own hg9 (fun e => by have := Option.some.inj e; omega)); obtain ⟨n0, n1, n2⟩ := HX9.out.cells; obtain ⟨o0, o1, o2⟩ := HR9.out.cells; have f0 := HR9.out.free 0; have f1 := HR9.out.free 1; have f2 := HR9.out.free 2; have ol := HR9.out.lt; have nl := HX9.out.lt; simp only at o0 o1 o2; clear hc9 hg9 m0 m1 m2 ml)
    all_goals
      have HRZ := Lib.hid (((HR9.out.s0 r.lst).s1 r.nrm).s2 r.mst)
      have HBZ := Lib.hid (Below.setCell (Below.setCell (Below.setCell HB9.out (p := ⟨w.heap.size, 0, none⟩) (Nat.le_refl _) (.int .i64 r.lst)) (p := ⟨w.heap.size, 1, none⟩) (Nat.le_refl _) (.int .i64 r.nrm)) (p := ⟨w.heap.size, 2, none⟩) (Nat.le_refl _) (.int .i64 r.mst))
      have gs0 := grown_set (World.grownBy.refl w9 (some w.heap.size)) 0 (.int .i64 r.lst)
      have gs1 := grown_set (World.grownBy.refl (w9.setCell ⟨w.heap.size, 0, none⟩ (.int .i64 r.lst)) (some w.heap.size)) 1 (.int .i64 r.nrm)
      have gs2 := grown_set (World.grownBy.refl ((w9.setCell ⟨w.heap.size, 0, none⟩ (.int .i64 r.lst)).setCell ⟨w.heap.size, 1, none⟩ (.int .i64 r.nrm)) (some w.heap.size)) 2 (.int .i64 r.mst)
      have HFa := own_grown HF9.out gs0 (fun q hq e => by have h1 := own_lt HF9.out q hq; have := Option.some.inj e; omega)
      have HFb := own_grown HFa gs1 (fun q hq e => by have h1 := own_lt HFa q hq; have := Option.some.inj e; omega)
      have HFZ := Lib.hid (own_grown HFb gs2 (fun q hq e => by have h1 := own_lt HFb q hq; have := Option.some.inj e; omega))
      have HWa := own_grown HW9.out gs0 (fun q hq e => by have h1 := own_lt HW9.out q hq; have := Option.some.inj e; omega)
      have HWb := own_grown HWa gs1 (fun q hq e => by have h1 := own_lt HWa q hq; have := Option.some.inj e; omega)
      have HWZ := Lib.hid (own_grown HWb gs2 (fun q hq e => by have h1 := own_lt HWb q hq; have := Option.some.inj e; omega))
      clear HFa HFb HWa HWb gs0 gs1 gs2 HF9 HW9 HB9 HR9
      go_wp2
      try simp only [Exit.inBlock, Exit.then]
      refine bodyPost_ret (results_ttct rfl _ _ w.heap.size _ _ _ _ rfl HRZ.out Try.underlying25 rfl (by kernel_rfl)) rfl ?_
      exact ⟨f, B, d, l, D, k, r, z, rfl, hfl, HCO.out, hll, HSH.out.ok, S1.own_in_f HFZ.out, S1.own_in_s HWZ.out, HBZ.out⟩
end Go.Proofs.Ytpbkeagpipipmaa

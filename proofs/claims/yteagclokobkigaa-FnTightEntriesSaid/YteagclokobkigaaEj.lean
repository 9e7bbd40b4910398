/-
  The iterator impl.gappedTable.leastPlaces: it hands over the least starts and ends of all columns, in their order.
-/
import Derived.Test.YteagclokobkigaaEc
import Derived.Test.YteagclokobkigaaEi
import Derived.Test.YteagclokobkigaaVb
import Derived.BigRegion
import Derived.Lib.MinMax
namespace Go.Proofs.Yteagclokobkigaa
open Go.RowKit Go.Shelf
set_option linter.unusedVariables false
attribute [local go_sem] Oper.semAt_some

/-- The numbers T j for the first k, 0 behind. -/
def upT (T : Nat → Int) (k : Nat) : Nat → Value := fun j => .int .i64 (if j < k then T j else 0)
theorem upT_succ (T : Nat → Int) (k : Nat) : (fun j => if j = k then Value.int .i64 (T k) else upT T k j) = upT T (k + 1) := by
  funext j
  unfold upT
  by_cases h : j = k
  · subst h; rw [if_pos rfl, if_pos (by omega)]
  · rw [if_neg h]
    by_cases h2 : j < k
    · rw [if_pos h2, if_pos (by omega)]
    · rw [if_neg h2, if_neg (by omega)]
theorem upT_zero (T : Nat → Int) : (fun (_ : Nat) => Value.int .i64 0) = upT T 0 := by funext j; unfold upT; rw [if_neg (by omega)]
theorem upT_at (T : Nat → Int) {k j : Nat} (h : j < k) : upT T k j = .int .i64 (T j) := by unfold upT; rw [if_pos h]
theorem iscells_of {W : World} {a : Addr} {v : Value} (h : W.cell? a = some v) : ∃ o : Obj, W.heap[a.block]? = some o ∧ o.isCells = true := cells_of_cell h
/-- The block of a list that is not empty. -/
def BkOf (A : Option Addr) (n b : Nat) : Prop := A.map (·.block) = some b ∧ 0 < n
theorem BkOf.lt {w : World} {A : Option Addr} {l : List En} {b : Nat} (h : BkOf A l.length b) (hf : EnsIn w A l) : b < w.heap.size := by
  obtain ⟨b', off, rfl, h1, _⟩ := hf h.2
  have e : b' = b := Option.some.inj h.1
  rw [← e]; exact h1
/-- What the iterator reads, apart from what D points to. -/
def Off (W : World) (D S : Nat) (E : Nat → Prop) : Prop := ∀ b, b = S ∨ b = S + 1 ∨ E b → b ≠ D ∧ ¬ Pts W D b
theorem off_same {W W' : World} {D S : Nat} {E : Nat → Prop} (h : Off W D S E) (hD : W'.heap[D]? = W.heap[D]?) : Off W' D S E := fun b hh => ⟨(h b hh).1, fun hp => (h b hh).2 ((pts_same hD b).1 hp)⟩
theorem KpD.cell {D : Nat} {W W' : World} (h : KpD D W W') {b i : Nat} {v : Value} (hv : W.cell? ⟨b, i, none⟩ = some v) (h1 : b ≠ D) (h2 : ¬ Pts W D b) : W'.cell? ⟨b, i, none⟩ = some v := by
  obtain ⟨o, ho, hc⟩ := iscells_of hv
  rw [World.cell?_of_block (a := ⟨b, i, none⟩) ((h.same b o h1 h2 ho hc).trans ho.symm)]
  exact hv
theorem KpD.ens {D : Nat} {W W' : World} {A : Option Addr} {f : List En} (h : KpD D W W') (hf : EnsIn W A f) (ho : ∀ b, BkOf A f.length b → b ≠ D ∧ ¬ Pts W D b) : EnsIn W' A f := fun hn => by
  obtain ⟨b, off, rfl, h2, h3⟩ := hf hn
  obtain ⟨k1, k2⟩ := ho b ⟨rfl, hn⟩
  exact ⟨b, off, rfl, Nat.lt_of_lt_of_le h2 h.size, fun k hk => by
    obtain ⟨c0, c1, c2⟩ := h3 k hk
    exact ⟨h.cell c0 k1 k2, h.cell c1 k1 k2, h.cell c2 k1 k2⟩⟩
theorem KpD.tb {D : Nat} {W W' : World} {b n : Nat} {t : TypeId} {f : Nat → Value} (h : KpD D W W') (ht : Tb W b t n f) (h1 : b ≠ D) (h2 : ¬ Pts W D b) : Tb W' b t n f := by
  obtain ⟨cs, e1, e2⟩ := ht
  exact ⟨cs, h.same b _ h1 h2 e1 rfl, e2⟩
set_option maxRecDepth 100000 in
set_option maxHeartbeats 4000000 in
theorem places_hand (n : Nat) (hn : 2 ≤ n) (N : Nat) (l : List En) (A : Option Addr) (c : Nat) (g : Int) (D : Nat) (w : World) (hG : GoodT (N : Int) l) (h0 : 0 ≤ g) (h36 : g ≤ 36) (hf : EnsIn w A l) (hD : D < w.heap.size) (hp : ∀ b, ¬ Pts w D b) (hA : ¬ BkOf A l.length D) :
    Hands n 62 (.agg #[.int .i64 (N : Int), .slice A l.length c, .int .i64 g]) (fun k => #[.int .i64 (stV l g k), .int .i64 (enV l g k)]) D N w := by
  intro lp J W hW hJ hY h0J
  have HG := Lib.hid hG; clear hG
  have hN1 : 1 ≤ N := by have := HG.out.n0; omega
  have hN10 : N ≤ 10 := by have := HG.out.n1; omega
  have hl20 : l.length ≤ 20 := HG.out.len
  have HF := Lib.hid (hf.below hW (Nat.le_refl _)); clear hf
  have hDW : D < W.heap.size := by have := hW.size; omega
  have HP : Hid (∀ b, ¬ Pts W D b) := Lib.hid (fun b hb => hp b ((pts_same (hW.block D hD) b).1 hb))
  clear hp
  obtain ⟨w1, hw1⟩ : ∃ x : World, x = W.alloc (.cells #[.int .i64 (N : Int), .slice A l.length c, .int .i64 g] 55) := ⟨_, rfl⟩
  have hb1 : Below W.heap.size W w1 := by rw [hw1]; exact (Below.refl _ _).alloc (Nat.le_refl _) _
  have hX1 : w1.heap[W.heap.size]? = some (.cells #[.int .i64 (N : Int), .slice A l.length c, .int .i64 g] 55) := by rw [hw1]; exact heap_new _ _
  have z1 : w1.heap.size = W.heap.size + 1 := by rw [hw1, World.size_alloc]
  obtain ⟨w2, hw2⟩ : ∃ x : World, x = w1.alloc (.cells (madeCells #[.int .i64 0] (N * 1)) 3) := ⟨_, rfl⟩
  have hmk : (Instr.makeSlice 27 (.int .i64 (N : Int)) (.int .i64 (N : Int))).run Try.prog w1 = .ok (.slice (some ⟨W.heap.size + 1, 0, none⟩) N N) w2 := by rw [hw2, ← z1]; exact run_makeI N (by omega) w1
  have hb2 : Below W.heap.size W w2 := by rw [hw2]; exact hb1.alloc (by omega) _
  have hT : Tb w2 (W.heap.size + 1) 3 N (upT (stV l g) 0) := by rw [hw2, ← z1, ← upT_zero]; exact made_int _ _ _
  have hX2 : w2.heap[W.heap.size]? = some (.cells #[.int .i64 (N : Int), .slice A l.length c, .int .i64 g] 55) := by rw [hw2]; exact (Below.heap_alloc _ _ _ (by omega)).trans hX1
  have HX1 : w1.cell? ⟨W.heap.size, 0, none⟩ = some (.int .i64 (N : Int)) := by rw [cell_of_heap hX1]; rfl
  have HX2 : w2.cell? ⟨W.heap.size, 0, none⟩ = some (.int .i64 (N : Int)) := by rw [cell_of_heap hX2]; rfl
  have HOFF : Hid (Off w2 D W.heap.size (BkOf A l.length)) := Lib.hid (fun b hb => ⟨by
      rintro rfl
      rcases hb with h | h | h
      · omega
      · omega
      · exact hA h, fun h => HP.out b ((pts_same (hb2.block D hDW) b).1 h)⟩)
  have HAB : Hid (∀ b, BkOf A l.length b → b < W.heap.size) := Lib.hid (fun b hb => hb.lt HF.out)
  have HJ0 := Lib.hid (hJ 0 W w2 none h0J ⟨hb2.os, hb2.tape, hb2.output, hb2.size, fun k hk _ => hb2.block k hk⟩ (fun q e => by cases e))
  have HJ := Lib.hid (@hJ); have HY := Lib.hid hY
  have HX := Lib.hid hX2; have HT := Lib.hid hT; have HW1 := Lib.hid hw1; have HB2 := Lib.hid hb2
  have z2 : w2.heap.size = W.heap.size + 1 + 1 := by rw [hw2, World.size_alloc, z1]
  clear hJ hY h0J hT hX1 hX2 hw1 hw2 hb1 hb2
  refine callsIn_of_wp Try.func62 rfl trivial ?_ rfl
  simp only [Try.ntmps62, List.size_toArray, List.length_cons, List.length_nil, Nat.reduceAdd, Nat.reduceSub, Array.replicate_succ, Array.replicate_zero, List.push_toArray, List.append_toArray, List.nil_append, List.cons_append]
  rw [HW1.out] at hmk
  gi_wp2
  gi_loopw [5, 15] (fun st i wr => ∃ k : Nat, k ≤ N ∧ i = .int .i64 (k : Int) ∧ st = .int .i64 (stV l g k) ∧ J k wr ∧ Tb wr (W.heap.size + 1) 3 N (upT (stV l g) k) ∧ wr.heap[W.heap.size]? = some (.cells #[.int .i64 (N : Int), .slice A l.length c, .int .i64 g] 55) ∧ EnsIn wr A l ∧ Off wr D W.heap.size (BkOf A l.length) ∧ W.heap.size + 1 + 1 ≤ wr.heap.size) (fun _ i _ => N - (intOf i).toNat)
  case atStart => exact ⟨0, Nat.zero_le _, rfl, rfl, HJ0.out, HT.out, HX.out, HF.out.below HB2.out (Nat.le_refl _), HOFF.out, by omega⟩
  case round =>
    obtain ⟨k, hk, rfl, rfl, hj, ht, hx, hf, ho, hz⟩ := hrel
    clear hmk HX1 HX2 HJ0 HT HX HOFF HB2 HW1 HF HP z1 z2
    have x0 : wr.cell? ⟨W.heap.size, 0, none⟩ = some (.int .i64 (N : Int)) := by rw [cell_of_heap hx]; rfl
    have x1 : wr.cell? ⟨W.heap.size, 1, none⟩ = some (.slice A l.length c) := by rw [cell_of_heap hx]; rfl
    have x2 : wr.cell? ⟨W.heap.size, 2, none⟩ = some (.int .i64 g) := by rw [cell_of_heap hx]; rfl
    by_cases hlt : k < N
    · have hlt' : (k : Int) < (N : Int) := by omega
      have HBD := Lib.hid (stV_all HG.out.all h0 h36 (k := k) (by omega))
      obtain ⟨ws, hws⟩ : ∃ x : World, x = wr.setCell ⟨W.heap.size + 1, k, none⟩ (.int .i64 (stV l g k)) := ⟨_, rfl⟩
      have hDne : D ≠ W.heap.size + 1 := by omega
      have gS : wr.grownBy ws (some (W.heap.size + 1)) := by rw [hws]; exact grown_set (World.grownBy.refl wr (some (W.heap.size + 1))) k _
      have dS : ws.heap[D]? = wr.heap[D]? := gS.block D (by omega) (fun e => hDne (Option.some.inj e))
      have jS := HJ.out k wr ws _ hj gS (fun q e => by cases e; exact ⟨by omega, .inl (ho _ (.inr (.inl rfl))).2⟩)
      have tS : Tb ws (W.heap.size + 1) 3 N (upT (stV l g) (k + 1)) := by
        rw [hws, ← upT_succ]; exact ht.set k _
      have xS : ws.heap[W.heap.size]? = some (.cells #[.int .i64 (N : Int), .slice A l.length c, .int .i64 g] 55) := (gS.block _ (by omega) (fun e => by have := Option.some.inj e; omega)).trans hx
      have fS : EnsIn ws A l := fun hn => by
        obtain ⟨b, off, rfl, e2, e3⟩ := hf hn
        have hb := HAB.out b ⟨rfl, hn⟩
        have hh : ws.heap[b]? = wr.heap[b]? := gS.block b e2 (fun e => by have := Option.some.inj e; omega)
        exact ⟨b, off, rfl, Nat.lt_of_lt_of_le e2 gS.size, fun i hi => by
          obtain ⟨c0, c1, c2⟩ := e3 i hi
          exact ⟨(World.cell?_of_block hh).trans c0, (World.cell?_of_block hh).trans c1, (World.cell?_of_block hh).trans c2⟩⟩
      have oS := off_same ho dS
      have zS : W.heap.size + 1 + 1 ≤ ws.heap.size := Nat.le_trans hz gS.size
      have u1 := ht.cell hlt; have u2 := ht.free k
      have xs1 : ws.cell? ⟨W.heap.size, 1, none⟩ = some (.slice A l.length c) := by rw [cell_of_heap xS]; rfl
      have HWS := Lib.hid hws; have JS := Lib.hid jS; have TS := Lib.hid tS; have XS := Lib.hid xS; have FS := Lib.hid fS; have OS := Lib.hid oS
      clear hj ht hx hf ho hws gS dS jS tS xS fS oS
      gi_wp2
      rw [← HWS.out]
      clear u1 u2 x0 x1 x2
      have hne : ws.heap.size = ws.heap.size := rfl
      gi_loopw [7, 26] (fun e i wx => ∃ m : Nat, m ≤ l.length ∧ i = .int .i64 (m : Int) ∧ e = .int .i64 (enK l g k m) ∧ Below ws.heap.size ws wx) (fun _ i _ => l.length - (intOf i).toNat)
      case atStart => exact ⟨0, Nat.zero_le _, rfl, rfl, Below.refl _ _⟩
      case round =>
        obtain ⟨m, hm, rfl, rfl, hb⟩ := hrel
        have HB := Lib.hid hb; clear hb
        by_cases hml : m < l.length
        · obtain ⟨b, off, hA', hbl, hc⟩ := FS.out (by omega)
          obtain ⟨hc0, hc1, hc2⟩ := hc m hml
          clear hc
          rw [← HB.out.cell (p := ⟨b, off + m * 3, none⟩) hbl] at hc0
          rw [← HB.out.cell (p := ⟨b, off + m * 3 + 1, none⟩) hbl] at hc1
          rw [← HB.out.cell (p := ⟨b, off + m * 3 + 2, none⟩) hbl] at hc2
          subst hA'
          have HBE := Lib.hid (enK_bd HG.out.all h0 h36 (k := k) (by omega) m)
          have HYES := Lib.hid (fun h => enK_yes (g := g) (k := k) hml h)
          have HNO := Lib.hid (fun h => enK_no (g := g) (k := k) hml h)
          have HOK := Lib.hid (HG.out.en hml)
          have HTX := Lib.hid (TS.out.next HB.out)
          generalize l[m] = x at *
          rcases x with ⟨p, q, r⟩
          have ho := HOK.out
          obtain ⟨o1, o2, o3, o4, o5, o6⟩ := ho
          simp only at o1 o2 o3 o4 o5 o6 hc0 hc1 hc2
          obtain ⟨p', rfl⟩ : ∃ p' : Nat, p = (p' : Int) := ⟨p.toNat, by omega⟩
          obtain ⟨W0, hW0⟩ : ∃ W0 : World, W0 = wr.alloc (.cells #[.int .i64 (p' : Int), .int .i64 q, .int .i64 r] 36) := ⟨_, rfl⟩
          have hb0 : Below ws.heap.size ws W0 := by rw [hW0]; exact HB.out.alloc HB.out.size _
          have s0 : W0.cell? ⟨wr.heap.size, 0, none⟩ = some (.int .i64 (p' : Int)) := by rw [hW0]; simp
          have s2 : W0.cell? ⟨wr.heap.size, 2, none⟩ = some (.int .i64 r) := by rw [hW0]; simp
          have hz0 : wr.heap.size < W0.heap.size := by rw [hW0]; simp
          have HB0 := Lib.hid hb0; have HW0 := Lib.hid hW0
          have hbe := HBE.out
          by_cases hy : (p' : Int) + q = (k : Int) + 1
          · have hpk : p' < k + 1 := by omega
            have hpN : p' < N := by omega
            have hpN' : (p' : Int) < (N : Int) := by omega
            have ht0 : Tb W0 (W.heap.size + 1) 3 N (upT (stV l g) (k + 1)) := by rw [hW0]; exact HTX.out.alloc _
            have st := ht0.cell hpN
            rw [upT_at _ hpk] at st
            have y0 := KeptW.cell s0 hz0
            have y2 := KeptW.cell s2 hz0
            have yt := KeptW.cell st ht0.lt
            have HE := Lib.hid (HYES.out hy)
            have hsb := stV_all HG.out.all h0 h36 (k := p') (by omega)
            simp only [Int.toNat_natCast] at HE
            generalize enK l g k m = e0 at *
            generalize stV l g p' = t0 at *
            clear hb0 s0 s2 ht0 st hW0
            gi_wp2_with fail
            rw [← HW0.out]
            refine wpIn_wide.2 ?_
            refine region_mid W0.heap.size 9 (by kernel_rfl) (by kernel_rfl) rfl ?_
            simp only [List.take_succ_cons, List.take_zero]
            repeat (go_big_quiet_step (fail))
            refine wpQuiet_nil ?_
            intro w3 hb3 K hK
            have HB3 := Lib.hid (HB0.out.trans (hb3.mono HB0.out.size))
            clear hb3 y0 y2 yt
            go_simp
            refine hK _ _ ?_
            clear hK
            simp only [List.drop_succ_cons, List.drop_zero]
            repeat (go_big_quiet_step (fail))
            refine wpQuiet_nil ?_
            gi_wp2
            go_roundw
            case rel => exact ⟨m + 1, by omega, by go_num, by rw [HE.out], HB3.out⟩
            case measure => simp [intOf]; omega
          · have HE := Lib.hid (HNO.out hy)
            generalize enK l g k m = e0 at *
            clear hb0 s0 s2 hW0
            gi_wp2_with fail
            rw [← HW0.out]
            gi_wp2
            go_roundw
            case rel => exact ⟨m + 1, by omega, by go_num, by rw [HE.out], HB0.out⟩
            case measure => simp [intOf]; omega
        · obtain rfl : m = l.length := by omega
          have hjw := HJ.out k ws wr none JS.out ⟨HB.out.os, HB.out.tape, HB.out.output, HB.out.size, fun k hk _ => HB.out.block k hk⟩ (fun q e => by cases e)
          obtain ⟨fn, tmps, assign, body, hy, hR⟩ := HY.out k wr hjw hlt
          have HSU := Lib.hid (stV_succ HG.out.all g k)
          have HEA := Lib.hid (enK_all l g k)
          have hbe := enV_bd HG.out.all h0 h36 (k := k) (by omega)
          have hdw : wr.heap[D]? = ws.heap[D]? := HB.out.block D (by omega)
          have HOF := Lib.hid (off_same OS.out hdw)
          have HXR : Hid (wr.heap[W.heap.size]? = some (.cells #[.int .i64 (N : Int), .slice A l.length c, .int .i64 g] 55)) := Lib.hid ((HB.out.block _ (by omega)).trans XS.out)
          have HTR := Lib.hid (TS.out.next HB.out)
          have HFR := Lib.hid (FS.out.below HB.out (Nat.le_refl _))
          have hzr : W.heap.size + 1 + 1 ≤ wr.heap.size := Nat.le_trans zS HB.out.size
          clear hjw hdw
          have hbd := HBD.out
          rw [HEA.out]
          generalize enV l g k = e0 at *
          gi_wp2
          refine ⟨fun _ => by omega, ?_⟩
          refine hR.mono ?_
          rintro e W3 ⟨rfl, hj3, hk3⟩
          have off0 := HOF.out W.heap.size (.inl rfl)
          have off1 := HOF.out (W.heap.size + 1) (.inr (.inl rfl))
          have HX3 : Hid (W3.heap[W.heap.size]? = some (.cells #[.int .i64 (N : Int), .slice A l.length c, .int .i64 g] 55)) := Lib.hid (hk3.same _ _ off0.1 off0.2 HXR.out rfl)
          have HT3 := Lib.hid (hk3.tb HTR.out off1.1 off1.2)
          have HF3 := Lib.hid (hk3.ens HFR.out (fun b hb => HOF.out b (.inr (.inr hb))))
          have HO3 : Hid (Off W3 D W.heap.size (BkOf A l.length)) := Lib.hid (fun b hb => ⟨(HOF.out b hb).1, fun hp => by
            rcases hk3.pts b hp with h1 | h1
            · exact (HOF.out b hb).2 h1
            · rcases hb with h2 | h2 | h2
              · omega
              · omega
              · have := HAB.out b h2; omega⟩)
          have HJ3 := Lib.hid hj3
          have hz3 : W.heap.size + 1 + 1 ≤ W3.heap.size := Nat.le_trans hzr hk3.size
          have x2 : W3.cell? ⟨W.heap.size, 2, none⟩ = some (.int .i64 g) := by rw [cell_of_heap HX3.out]; rfl
          clear hj3 hk3 hy off0 off1
          gi_wp2
          go_roundw
          case rel => exact ⟨k + 1, by omega, by go_num, by rw [HSU.out], HJ3.out, HT3.out, HX3.out, HF3.out, HO3.out, hz3⟩
          case measure => simp [intOf]; omega
    · obtain rfl : k = N := by omega
      have HJN := Lib.hid hj
      clear hj ht hx hf ho
      gi_wp2
      go_end0
      exact ⟨⟨_, rfl⟩, HJN.out⟩
end Go.Proofs.Yteagclokobkigaa

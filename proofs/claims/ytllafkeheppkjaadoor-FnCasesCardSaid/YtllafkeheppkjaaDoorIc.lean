/-
  The contract of impl.IsCase: it answers whether the boxes are a case.
-/
import Derived.Test.YtllafkeheppkjaaDoorCg
namespace Go.Proofs.YtllafkeheppkjaaDoor
open Go.RowKit
set_option linter.unusedVariables false

/-- Whether a box is at a place. -/
def hasP (l : List Bx) (r c : Int) : Bool := l.any fun x => decide (x.row = r) && decide (x.col = c)
theorem hasP_same (l : List Bx) (b : Bx) : l.any (sameP b) = hasP l b.row b.col := rfl
theorem hasP_snoc (l : List Bx) (x : Bx) (r c : Int) : hasP (l ++ [x]) r c = (hasP l r c || (decide (x.row = r) && decide (x.col = c))) := by simp [hasP]
/-- Block g is a table of places: each tells whether a box of m is there. -/
def Taken (w : World) (g : Nat) (m : List Bx) : Prop :=
  ∃ cs : Array Value, w.heap[g]? = some (.cells cs 70 (0, 0)) ∧ cs.size = 100 ∧ ∀ r c : Nat, r < 10 → c < 10 → cs[r * 10 + c]? = some (.bool (hasP m r c))
theorem Taken.lt {w : World} {g : Nat} {m : List Bx} (h : Taken w g m) : g < w.heap.size := by
  obtain ⟨cs, h1, _⟩ := h
  exact lt_of_heap h1
theorem Taken.below {w w' : World} {g B : Nat} {m : List Bx} (h : Taken w g m) (hb : Below B w w') (hB : g < B) : Taken w' g m := by
  obtain ⟨cs, h1, h2⟩ := h
  exact ⟨cs, (hb.block g hB).trans h1, h2⟩
theorem Taken.cell {w : World} {g : Nat} {m : List Bx} (h : Taken w g m) {r c : Nat} (hr : r < 10) (hc : c < 10) : w.cell? ⟨g, r * 10 + c, none⟩ = some (.bool (hasP m r c)) := by
  obtain ⟨cs, h1, _, h3⟩ := h
  rw [cell_of_heap h1]; exact h3 r c hr hc
theorem Taken.free {w : World} {g : Nat} {m : List Bx} (h : Taken w g m) (i : Nat) : w.frozen? ⟨g, i, none⟩ = false := by
  obtain ⟨cs, h1, _⟩ := h
  exact free_of_heap h1 i
theorem Taken.set {w : World} {g : Nat} {m : List Bx} (h : Taken w g m) {x : Bx} {r c : Nat} (hr : r < 10) (hc : c < 10) (h1 : x.row = r) (h2 : x.col = c) : Taken (w.setCell ⟨g, r * 10 + c, none⟩ (.bool true)) g (m ++ [x]) := by
  obtain ⟨cs, g1, g2, g3⟩ := h
  refine ⟨_, heap_set g1 _, by simpa using g2, fun r' c' hr' hc' => ?_⟩
  rw [hasP_snoc, Array.getElem?_setIfInBounds]
  by_cases e : r * 10 + c = r' * 10 + c'
  · rw [if_pos e, if_pos (by omega)]
    have e1 : (x.row = (r' : Int)) := by omega
    have e2 : (x.col = (c' : Int)) := by omega
    rw [decide_eq_true e1, decide_eq_true e2]; simp
  · rw [if_neg e, g3 r' c' hr' hc']
    have e1 : ¬ (x.row = (r' : Int) ∧ x.col = (c' : Int)) := by omega
    have e2 : (decide (x.row = (r' : Int)) && decide (x.col = (c' : Int))) = false := by
      rw [← Bool.decide_and]; exact decide_eq_false e1
    rw [e2, Bool.or_false]
theorem Taken.start (w : World) (cs : Array Value) (h1 : cs.size = 100) (h2 : ∀ i, i < 100 → cs[i]? = some (.bool false)) : Taken (w.alloc (.cells cs 70)) w.heap.size [] :=
  ⟨cs, heap_new _ _, h1, fun r c hr hc => by rw [h2 _ (by omega)]; simp [hasP]⟩

theorem zero_taken : Tryd.zeroCells70 = Array.replicate 100 (.bool false) := by kernel_rfl
theorem okB_first {l : List Bx} {k : Nat} (h : k < l.length) (h0 : k = 0) (hb : boxB l[k] = true) : okB l k h = true := by
  subst h0
  unfold okB; rw [hb]; simp
set_option maxRecDepth 100000 in
set_option maxHeartbeats 4000000 in
theorem implIsCase_pos (l : List Bx) (A : Option Addr) (c : Nat) (w : World) (hf : BxsIn w A l) (hn : l.length ≤ 1048576) (ho : BxsOk l) (hl1 : 1 ≤ l.length) (hl2 : l.length ≤ 32) :
    Calls Tryd.prog 16 #[.slice A l.length c] w fun e w' => e = .returned (.bool (caseB l)) ∧ Below w.heap.size w w' := by
  have HF := Lib.hid hf; clear hf
  have HO := Lib.hid ho; clear ho
  have HST : Hid (Taken (w.alloc (.cells Tryd.zeroCells70 70)) w.heap.size []) := Lib.hid (Taken.start w _ (by rw [zero_taken]; simp) (fun i hi => by rw [zero_taken]; simp [hi]))
  go_enter Tryd.func16, Tryd.ntmps16
  go_wp2
  go_loopw [16] (fun i wr => ∃ (k : Nat), k ≤ l.length ∧ i = .int .i64 k ∧ okUp l k ∧ Taken wr w.heap.size (l.take k) ∧ Below w.heap.size w wr) (fun i _ => l.length - (intOf i).toNat)
  case atStart => exact ⟨0, Nat.zero_le _, rfl, fun _ _ h => absurd h (by omega), HST.out, (Below.refl _ _).alloc (Nat.le_refl _) _⟩
  case round =>
    obtain ⟨k, hk, rfl, hs, htk, hb⟩ := hrel
    have HS := Lib.hid hs; clear hs
    have HTKR := Lib.hid htk.lt
    by_cases hlt : k < l.length
    · obtain ⟨b, off, rfl, hbl, hc⟩ := HF.out (by omega)
      obtain ⟨hc0, hc1, hc2, hc3⟩ := hc k hlt
      rw [← hb.cell (p := ⟨b, off + k * 4, none⟩) hbl] at hc0
      rw [← hb.cell (p := ⟨b, off + k * 4 + 1, none⟩) hbl] at hc1
      rw [← hb.cell (p := ⟨b, off + k * 4 + 2, none⟩) hbl] at hc2
      rw [← hb.cell (p := ⟨b, off + k * 4 + 3, none⟩) hbl] at hc3
      have hok : l[k].cod.size ≤ maxLen := HO.out k hlt
      cases hv : boxB l[k]
      · have HV := Lib.hid hv; clear hv hc
        go_wp2_with fail
        obtain ⟨W0, hW0⟩ : ∃ W0 : World, W0 = wr.alloc (.cells #[.string l[k].cod, .int .i64 l[k].row, .int .i64 l[k].col, .int .i64 l[k].cnt] 40) := ⟨_, rfl⟩
        rw [← hW0]
        have s0 : W0.cell? ⟨wr.heap.size, 0, none⟩ = some (.string l[k].cod) := by rw [hW0]; simp
        have s1 : W0.cell? ⟨wr.heap.size, 1, none⟩ = some (.int .i64 l[k].row) := by rw [hW0]; simp
        have s2 : W0.cell? ⟨wr.heap.size, 2, none⟩ = some (.int .i64 l[k].col) := by rw [hW0]; simp
        have s3 : W0.cell? ⟨wr.heap.size, 3, none⟩ = some (.int .i64 l[k].cnt) := by rw [hW0]; simp
        have hb0 : Below w.heap.size w W0 := by rw [hW0]; exact hb.alloc hb.size _
        have hz0 : wr.heap.size < W0.heap.size := by rw [hW0]; simp
        have htk0 : Taken W0 w.heap.size (l.take (k)) := by rw [hW0]; exact htk.below ((Below.refl _ _).alloc (Nat.le_refl _) _) htk.lt
        clear hc0 hc1 hc2 hc3 hW0
        have x0 := KeptW.cell s0 hz0
        have x1 := KeptW.cell s1 hz0
        have x2 := KeptW.cell s2 hz0
        have x3 := KeptW.cell s3 hz0
        have HB0 := Lib.hid hb0; have HZ0 := Lib.hid hz0; have HTK := Lib.hid htk0
        have S0 := Lib.hid s0; have S1 := Lib.hid s1; have S2 := Lib.hid s2; have S3 := Lib.hid s3
        clear hb0 hb s0 s1 s2 s3 hz0 htk0 htk
        refine region_kept W0.heap.size (by kernel_rfl) (by kernel_rfl) ?_
        repeat (go_big_quiet_step ((go_at_call 19; exact kept_call _ (Nat.le_refl _) (implIsBox_is l[k] _ _ hok HV))))
        refine wpQuiet_nil ?_
        intro w1 hb1
        have hb' : Below w.heap.size w w1 := HB0.out.trans (hb1.mono HB0.out.size)
        clear x0 x1 x2 x3
        go_wp2
        go_ret
        exact ⟨ret_bool (caseB_no hlt (by unfold okB; rw [HV.out]; rfl)).symm, hb'⟩
      · obtain ⟨_, ⟨h1, h2⟩, ⟨h3, h4⟩, _, _⟩ := boxB_iff.1 hv
        obtain ⟨R, hR⟩ : ∃ R : Nat, l[k].row = (R : Int) := ⟨l[k].row.toNat, by omega⟩
        obtain ⟨C, hC⟩ : ∃ C : Nat, l[k].col = (C : Int) := ⟨l[k].col.toNat, by omega⟩
        rw [hR] at hc1 h1 h2
        rw [hC] at hc2 h3 h4
        have hR9 : R < 10 := by omega
        have hC9 : C < 10 := by omega
        have hR9' : (R : Int) < 10 := by omega
        have hC9' : (C : Int) < 10 := by omega
        have HBX := Lib.hid hv
        have HV : Hid (boxB (⟨l[k].cod, (R : Int), (C : Int), l[k].cnt⟩ : Bx) = true) := Lib.hid (by rw [← hR, ← hC]; exact hv)
        have HR := Lib.hid hR; have HC := Lib.hid hC
        clear hv hR hC
        have HAN : Hid ((l.take k).any (sameP l[k]) = hasP (l.take k) R C) := Lib.hid (by rw [hasP_same, HR.out, HC.out])
        rcases Nat.eq_zero_or_pos k with rfl | hpos
        · simp only [Nat.zero_mul, Nat.add_zero] at hc0 hc1 hc2 hc3
          go_wp2_with fail
          obtain ⟨W0, hW0⟩ : ∃ W0 : World, W0 = wr.alloc (.cells #[.string l[0].cod, .int .i64 (R : Int), .int .i64 (C : Int), .int .i64 l[0].cnt] 40) := ⟨_, rfl⟩
          rw [← hW0]
          have s0 : W0.cell? ⟨wr.heap.size, 0, none⟩ = some (.string l[0].cod) := by rw [hW0]; simp
          have s1 : W0.cell? ⟨wr.heap.size, 1, none⟩ = some (.int .i64 (R : Int)) := by rw [hW0]; simp
          have s2 : W0.cell? ⟨wr.heap.size, 2, none⟩ = some (.int .i64 (C : Int)) := by rw [hW0]; simp
          have s3 : W0.cell? ⟨wr.heap.size, 3, none⟩ = some (.int .i64 l[0].cnt) := by rw [hW0]; simp
          have hb0 : Below w.heap.size w W0 := by rw [hW0]; exact hb.alloc hb.size _
          have hz0 : wr.heap.size < W0.heap.size := by rw [hW0]; simp
          have htk0 : Taken W0 w.heap.size (l.take (0)) := by rw [hW0]; exact htk.below ((Below.refl _ _).alloc (Nat.le_refl _) _) htk.lt
          clear hc0 hc1 hc2 hc3 hW0
          have x0 := KeptW.cell s0 hz0
          have x1 := KeptW.cell s1 hz0
          have x2 := KeptW.cell s2 hz0
          have x3 := KeptW.cell s3 hz0
          have xt := KeptW.cell (htk0.cell hR9 hC9) htk0.lt
          rw [show hasP (l.take 0) (R : Int) (C : Int) = false from rfl] at xt
          have HB0 := Lib.hid hb0; have HZ0 := Lib.hid hz0; have HTK := Lib.hid htk0
          have S0 := Lib.hid s0; have S1 := Lib.hid s1; have S2 := Lib.hid s2; have S3 := Lib.hid s3
          clear hb0 hb s0 s1 s2 s3 hz0 htk0 htk
          refine region_kept W0.heap.size (by kernel_rfl) (by kernel_rfl) ?_
          repeat (go_big_quiet_step ((go_at_call 19; exact kept_call _ (Nat.le_refl _) (implIsBox_is ⟨l[0].cod, (R : Int), (C : Int), l[0].cnt⟩ _ _ hok HV))))
          refine wpQuiet_nil ?_
          intro w1 hb1
          have hb' : Below w.heap.size w w1 := HB0.out.trans (hb1.mono HB0.out.size)
          clear x0 x1 x2 x3
          clear xt
          have HTK1 := Lib.hid (HTK.out.below hb1 HTK.out.lt)
          have HB1 := Lib.hid hb'
          have HW := HB0.out.size
          have hgl := HTK1.out.lt
          have r1 : w1.cell? ⟨wr.heap.size, 1, none⟩ = some (.int .i64 (R : Int)) := (hb1.cell (p := ⟨wr.heap.size, 1, none⟩) HZ0.out).trans S1.out
          have r2 : w1.cell? ⟨wr.heap.size, 2, none⟩ = some (.int .i64 (C : Int)) := (hb1.cell (p := ⟨wr.heap.size, 2, none⟩) HZ0.out).trans S2.out
          have r3 := HTK1.out.cell hR9 hC9
          have r4 := HTK1.out.free (R * 10 + C)
          have hne : ¬ wr.heap.size = w.heap.size := by have h1 := HTKR.out; omega
          clear S0 S1 S2 S3 HZ0 HB0 hb1 hb' HTK
          go_wp2_with fail
          go_region
          go_wp2
          go_roundw
          case rel => exact ⟨0 + 1, by omega, by go_num, okUp_step HS.out hlt (okB_first hlt rfl HBX.out), by
            have h := HTK1.out.set (x := l[0]) hR9 hC9 HR.out HC.out
            rw [← List.take_succ_eq_append_getElem hlt] at h
            first | exact h | exact h.below ((Below.refl _ _).drew) h.lt, by
            first | exact HB1.out.setCell (Nat.le_refl _) _ | exact (HB1.out.setCell (Nat.le_refl _) _).drew | exact HB1.out.drew.setCell (Nat.le_refl _) _⟩
          case measure => simp [intOf]; omega
        · obtain ⟨j, rfl⟩ : ∃ j, k = j + 1 := ⟨k - 1, by omega⟩
          obtain ⟨hp0, _⟩ := hc j (by omega)
          rw [← hb.cell (p := ⟨b, off + j * 4, none⟩) hbl] at hp0
          have hbw0 : b < wr.heap.size := Nat.lt_of_lt_of_le hbl hb.size
          have hxp : ∀ o : Obj, (wr.alloc o).cell? ⟨b, off + j * 4, none⟩ = some (.string l[j].cod) := fun o => by rw [World.cell?_alloc_lt _ _ _ hbw0]; exact hp0
          have HXP := Lib.hid hxp
          clear hp0 hxp hc
          cases hle : Op.bytesLess l[j].cod.toList l[j + 1].cod.toList
          · have hge : (!Op.bytesLess l[j].cod.toList l[j + 1].cod.toList) = true := by rw [hle]; rfl
            have HLE := Lib.hid hle; clear hle
            go_wp2_with fail
            obtain ⟨W0, hW0⟩ : ∃ W0 : World, W0 = wr.alloc (.cells #[.string l[j + 1].cod, .int .i64 (R : Int), .int .i64 (C : Int), .int .i64 l[j + 1].cnt] 40) := ⟨_, rfl⟩
            rw [← hW0]
            have s0 : W0.cell? ⟨wr.heap.size, 0, none⟩ = some (.string l[j + 1].cod) := by rw [hW0]; simp
            have s1 : W0.cell? ⟨wr.heap.size, 1, none⟩ = some (.int .i64 (R : Int)) := by rw [hW0]; simp
            have s2 : W0.cell? ⟨wr.heap.size, 2, none⟩ = some (.int .i64 (C : Int)) := by rw [hW0]; simp
            have s3 : W0.cell? ⟨wr.heap.size, 3, none⟩ = some (.int .i64 l[j + 1].cnt) := by rw [hW0]; simp
            have hb0 : Below w.heap.size w W0 := by rw [hW0]; exact hb.alloc hb.size _
            have hz0 : wr.heap.size < W0.heap.size := by rw [hW0]; simp
            have htk0 : Taken W0 w.heap.size (l.take (j + 1)) := by rw [hW0]; exact htk.below ((Below.refl _ _).alloc (Nat.le_refl _) _) htk.lt
            have hqp : W0.cell? ⟨b, off + j * 4, none⟩ = some (.string l[j].cod) := by rw [hW0]; exact HXP.out _
            have hbz : b < W0.heap.size := by rw [hW0]; simp; omega
            have xp := KeptW.cell hqp hbz
            clear hqp
            clear hc0 hc1 hc2 hc3 hW0
            have x0 := KeptW.cell s0 hz0
            have x1 := KeptW.cell s1 hz0
            have x2 := KeptW.cell s2 hz0
            have x3 := KeptW.cell s3 hz0
            have HB0 := Lib.hid hb0; have HZ0 := Lib.hid hz0; have HTK := Lib.hid htk0
            have S0 := Lib.hid s0; have S1 := Lib.hid s1; have S2 := Lib.hid s2; have S3 := Lib.hid s3
            clear hb0 hb s0 s1 s2 s3 hz0 htk0 htk
            refine region_kept W0.heap.size (by kernel_rfl) (by kernel_rfl) ?_
            repeat (go_big_quiet_step ((go_at_call 19; exact kept_call _ (Nat.le_refl _) (implIsBox_is ⟨l[j + 1].cod, (R : Int), (C : Int), l[j + 1].cnt⟩ _ _ hok HV))))
            refine wpQuiet_nil ?_
            intro w1 hb1
            have hb' : Below w.heap.size w w1 := HB0.out.trans (hb1.mono HB0.out.size)
            clear x0 x1 x2 x3
            go_wp2
            go_ret
            exact ⟨ret_bool (caseB_no hlt (by unfold okB; rw [HBX.out]; simp [HLE.out])).symm, hb'⟩
          · have hge : (!Op.bytesLess l[j].cod.toList l[j + 1].cod.toList) = false := by rw [hle]; rfl
            have HLE := Lib.hid hle; clear hle
            cases ht : hasP (l.take (j + 1)) (R : Int) (C : Int)
            · have HT := Lib.hid ht; clear ht
              go_wp2_with fail
              obtain ⟨W0, hW0⟩ : ∃ W0 : World, W0 = wr.alloc (.cells #[.string l[j + 1].cod, .int .i64 (R : Int), .int .i64 (C : Int), .int .i64 l[j + 1].cnt] 40) := ⟨_, rfl⟩
              rw [← hW0]
              have s0 : W0.cell? ⟨wr.heap.size, 0, none⟩ = some (.string l[j + 1].cod) := by rw [hW0]; simp
              have s1 : W0.cell? ⟨wr.heap.size, 1, none⟩ = some (.int .i64 (R : Int)) := by rw [hW0]; simp
              have s2 : W0.cell? ⟨wr.heap.size, 2, none⟩ = some (.int .i64 (C : Int)) := by rw [hW0]; simp
              have s3 : W0.cell? ⟨wr.heap.size, 3, none⟩ = some (.int .i64 l[j + 1].cnt) := by rw [hW0]; simp
              have hb0 : Below w.heap.size w W0 := by rw [hW0]; exact hb.alloc hb.size _
              have hz0 : wr.heap.size < W0.heap.size := by rw [hW0]; simp
              have htk0 : Taken W0 w.heap.size (l.take (j + 1)) := by rw [hW0]; exact htk.below ((Below.refl _ _).alloc (Nat.le_refl _) _) htk.lt
              have hqp : W0.cell? ⟨b, off + j * 4, none⟩ = some (.string l[j].cod) := by rw [hW0]; exact HXP.out _
              have hbz : b < W0.heap.size := by rw [hW0]; simp; omega
              have xp := KeptW.cell hqp hbz
              clear hqp
              clear hc0 hc1 hc2 hc3 hW0
              have x0 := KeptW.cell s0 hz0
              have x1 := KeptW.cell s1 hz0
              have x2 := KeptW.cell s2 hz0
              have x3 := KeptW.cell s3 hz0
              have xt := KeptW.cell (htk0.cell hR9 hC9) htk0.lt
              rw [HT.out] at xt
              have HB0 := Lib.hid hb0; have HZ0 := Lib.hid hz0; have HTK := Lib.hid htk0
              have S0 := Lib.hid s0; have S1 := Lib.hid s1; have S2 := Lib.hid s2; have S3 := Lib.hid s3
              clear hb0 hb s0 s1 s2 s3 hz0 htk0 htk
              refine region_kept W0.heap.size (by kernel_rfl) (by kernel_rfl) ?_
              repeat (go_big_quiet_step ((go_at_call 19; exact kept_call _ (Nat.le_refl _) (implIsBox_is ⟨l[j + 1].cod, (R : Int), (C : Int), l[j + 1].cnt⟩ _ _ hok HV))))
              refine wpQuiet_nil ?_
              intro w1 hb1
              have hb' : Below w.heap.size w w1 := HB0.out.trans (hb1.mono HB0.out.size)
              clear x0 x1 x2 x3
              clear xt xp
              have HTK1 := Lib.hid (HTK.out.below hb1 HTK.out.lt)
              have HB1 := Lib.hid hb'
              have HW := HB0.out.size
              have hgl := HTK1.out.lt
              have r1 : w1.cell? ⟨wr.heap.size, 1, none⟩ = some (.int .i64 (R : Int)) := (hb1.cell (p := ⟨wr.heap.size, 1, none⟩) HZ0.out).trans S1.out
              have r2 : w1.cell? ⟨wr.heap.size, 2, none⟩ = some (.int .i64 (C : Int)) := (hb1.cell (p := ⟨wr.heap.size, 2, none⟩) HZ0.out).trans S2.out
              have r3 := HTK1.out.cell hR9 hC9
              have r4 := HTK1.out.free (R * 10 + C)
              have hne : ¬ wr.heap.size = w.heap.size := by have h1 := HTKR.out; omega
              clear S0 S1 S2 S3 HZ0 HB0 hb1 hb' HTK
              go_wp2_with fail
              go_region
              go_wp2
              go_roundw
              case rel => exact ⟨j + 1 + 1, by omega, by go_num, okUp_step HS.out hlt (by unfold okB; rw [HBX.out, HAN.out, HT.out]; simp [HLE.out]), by
                have h := HTK1.out.set (x := l[j + 1]) hR9 hC9 HR.out HC.out
                rw [← List.take_succ_eq_append_getElem hlt] at h
                first | exact h | exact h.below ((Below.refl _ _).drew) h.lt, by
                first | exact HB1.out.setCell (Nat.le_refl _) _ | exact (HB1.out.setCell (Nat.le_refl _) _).drew | exact HB1.out.drew.setCell (Nat.le_refl _) _⟩
              case measure => simp [intOf]; omega
            · have HT := Lib.hid ht; clear ht
              go_wp2_with fail
              obtain ⟨W0, hW0⟩ : ∃ W0 : World, W0 = wr.alloc (.cells #[.string l[j + 1].cod, .int .i64 (R : Int), .int .i64 (C : Int), .int .i64 l[j + 1].cnt] 40) := ⟨_, rfl⟩
              rw [← hW0]
              have s0 : W0.cell? ⟨wr.heap.size, 0, none⟩ = some (.string l[j + 1].cod) := by rw [hW0]; simp
              have s1 : W0.cell? ⟨wr.heap.size, 1, none⟩ = some (.int .i64 (R : Int)) := by rw [hW0]; simp
              have s2 : W0.cell? ⟨wr.heap.size, 2, none⟩ = some (.int .i64 (C : Int)) := by rw [hW0]; simp
              have s3 : W0.cell? ⟨wr.heap.size, 3, none⟩ = some (.int .i64 l[j + 1].cnt) := by rw [hW0]; simp
              have hb0 : Below w.heap.size w W0 := by rw [hW0]; exact hb.alloc hb.size _
              have hz0 : wr.heap.size < W0.heap.size := by rw [hW0]; simp
              have htk0 : Taken W0 w.heap.size (l.take (j + 1)) := by rw [hW0]; exact htk.below ((Below.refl _ _).alloc (Nat.le_refl _) _) htk.lt
              have hqp : W0.cell? ⟨b, off + j * 4, none⟩ = some (.string l[j].cod) := by rw [hW0]; exact HXP.out _
              have hbz : b < W0.heap.size := by rw [hW0]; simp; omega
              have xp := KeptW.cell hqp hbz
              clear hqp
              clear hc0 hc1 hc2 hc3 hW0
              have x0 := KeptW.cell s0 hz0
              have x1 := KeptW.cell s1 hz0
              have x2 := KeptW.cell s2 hz0
              have x3 := KeptW.cell s3 hz0
              have xt := KeptW.cell (htk0.cell hR9 hC9) htk0.lt
              rw [HT.out] at xt
              have HB0 := Lib.hid hb0; have HZ0 := Lib.hid hz0; have HTK := Lib.hid htk0
              have S0 := Lib.hid s0; have S1 := Lib.hid s1; have S2 := Lib.hid s2; have S3 := Lib.hid s3
              clear hb0 hb s0 s1 s2 s3 hz0 htk0 htk
              refine region_kept W0.heap.size (by kernel_rfl) (by kernel_rfl) ?_
              repeat (go_big_quiet_step ((go_at_call 19; exact kept_call _ (Nat.le_refl _) (implIsBox_is ⟨l[j + 1].cod, (R : Int), (C : Int), l[j + 1].cnt⟩ _ _ hok HV))))
              refine wpQuiet_nil ?_
              intro w1 hb1
              have hb' : Below w.heap.size w w1 := HB0.out.trans (hb1.mono HB0.out.size)
              clear x0 x1 x2 x3
              go_wp2
              go_ret
              exact ⟨ret_bool (caseB_no hlt (by unfold okB; rw [HAN.out, HT.out]; simp)).symm, hb'⟩
    · obtain rfl : k = l.length := by omega
      go_wp2
      go_ret
      have d1 : decide ((1 : Int) ≤ l.length) = true := decide_eq_true (by omega)
      have d2 : decide ((l.length : Int) ≤ 32) = true := decide_eq_true (by omega)
      exact ⟨ret_bool (by rw [caseB_end HS.out, d1, d2]; rfl), hb⟩

theorem implIsCase_any (l : List Bx) (A : Option Addr) (c : Nat) (w : World) (hf : BxsIn w A l) (hn : l.length ≤ 1048576) (ho : BxsOk l) :
    Calls Tryd.prog 16 #[.slice A l.length c] w fun e w' => e = .returned (.bool (caseB l)) ∧ Below w.heap.size w w' := by
  rcases (by omega : l.length < 1 ∨ 32 < l.length ∨ (1 ≤ l.length ∧ l.length ≤ 32)) with h | h | ⟨h1, h2⟩
  · have HE := Lib.hid (caseB_len (l := l) (.inl h))
    go_enter Tryd.func16, Tryd.ntmps16
    go_wp2
    go_ret
    exact ⟨ret_bool HE.out.symm, Below.refl _ _⟩
  · have HE := Lib.hid (caseB_len (l := l) (.inr h))
    have h1 : ¬ (l.length : Int) < 1 := by omega
    have h2 : (32 : Int) < l.length := by omega
    go_enter Tryd.func16, Tryd.ntmps16
    go_wp2
    go_ret
    exact ⟨ret_bool HE.out.symm, Below.refl _ _⟩
  · exact implIsCase_pos l A c w hf hn ho h1 h2
end Go.Proofs.YtllafkeheppkjaaDoor

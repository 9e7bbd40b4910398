/-
  The contract of (impl.pattern).raise.
-/
import Derived.Test.YtcbhhbcfnaekpaaDoorHyf
import Derived.Test.YtcbhhbcfnaekpaaDoorMil
namespace Go.Proofs.YtcbhhbcfnaekpaaDoor
open Go.RowKit
set_option linter.unusedVariables false

theorem cell_grown_h {w w' : World} {b b' i : Nat} (hg : w.grownBy w' (some b)) (h : b' < w.heap.size) (hne : b' ≠ b) : w'.cell? ⟨b', i, none⟩ = w.cell? ⟨b', i, none⟩ := by
  simp [World.cell?, hg.block b' h (fun e => hne (Option.some.inj e))]
theorem grown_iter {w wr : World} {b k : Nat} (h : w.grownBy wr (some b)) (hk : w.heap.size ≤ k) (s : ByteArray) (pos : Nat) : w.grownBy (wr.iterAt k s pos) (some b) :=
  ⟨h.os, h.tape, h.output, by rw [Lib.iterAt_size]; exact h.size, fun j hj hne => (Lib.iterAt_other wr k j s pos (by omega)).trans (h.block j hj hne)⟩
theorem TbI.iter {w : World} {b n k pos : Nat} {s : ByteArray} {f : Nat → Int} (h : TbI w b n f) (hk : b ≠ k) : TbI (w.iterAt k s pos) b n f := by
  obtain ⟨cs, h1, h2⟩ := h; exact ⟨cs, (Lib.iterAt_other w k b s pos hk).trans h1, h2⟩
theorem lets_128 {s : ByteArray} {i : Nat} (hs : lets s.data.toList = true) (h : i < s.size) : s[i].toNat < 128 := by
  obtain ⟨q, hq, e⟩ := lets_at hs h
  rw [e, letB_nat hq]; omega
/-- The box of a pattern. -/
def BoxP (w : World) (k : Nat) (lt : ByteArray) (v : Value) : Prop := w.heap[k]? = some (.cells #[.string lt, v] 83 (0, 0))
theorem BoxP.c0 {w : World} {k : Nat} {lt : ByteArray} {v : Value} (h : BoxP w k lt v) : w.cell? ⟨k, 0, none⟩ = some (.string lt) := by rw [cell_of_heap h]; rfl
theorem BoxP.c1 {w : World} {k : Nat} {lt : ByteArray} {v : Value} (h : BoxP w k lt v) : w.cell? ⟨k, 1, none⟩ = some v := by rw [cell_of_heap h]; rfl
theorem BoxP.next {w w' : World} {k : Nat} {lt : ByteArray} {v : Value} (h : BoxP w k lt v) (hb : Below w.heap.size w w') : BoxP w' k lt v := (hb.block k (lt_of_heap h)).trans h
theorem BoxP.iter {w : World} {k j pos : Nat} {s lt : ByteArray} {v : Value} (h : BoxP w k lt v) (hj : k ≠ j) : BoxP (w.iterAt j s pos) k lt v := (Lib.iterAt_other w j k s pos hj).trans h
theorem BoxP.set {w : World} {k b i : Nat} {lt : ByteArray} {v : Value} (h : BoxP w k lt v) (hj : k ≠ b) (u : Value) : BoxP (w.setCell ⟨b, i, none⟩ u) k lt v := (set_other hj u).trans h
theorem hasPrefix_is (t c : ByteArray) (b : Bool) (w : World) (ht : t.size ≤ maxLen) (hc : c.size ≤ maxLen) (h : Hid (preB t c = b)) :
    Calls Tryd.prog 92 #[.string t, .string c] w fun e w' => e = .returned (.bool b) ∧ w = w' := by
  have := hasPrefix_any t c w ht hc; rw [h.out] at this; exact this
set_option maxRecDepth 100000 in
set_option maxHeartbeats 4000000 in
theorem raise_any (lt : ByteArray) (vs : List Int) (A : Option Addr) (c n b : Nat) (G : Nat → Int) (wd : ByteArray) (w : World) (hT : TbI w b (wd.size + 1) G) (hL : lets wd.data.toList = true) (h16 : wd.size ≤ 16) (hl : 1 ≤ lt.size ∧ lt.size ≤ 6) (hvl : vs.length = lt.size + 1) (hn : n = vs.length) (hv : IntsIn w A vs) (hne : ∀ a, A = some a → a.block ≠ b) :
    Calls Tryd.prog 67 #[.agg #[.string lt, .slice A n c], .slice (some ⟨b, 0, none⟩) (wd.size + 1) (wd.size + 1), .string wd] w fun e w' => e = .returned (.tuple #[]) ∧ TbI w' b (wd.size + 1) (patW wd (lt, vs) G wd.size) ∧ w.grownBy w' (some b) := by
  obtain ⟨vb, vo, hA, hvb, hvc⟩ := hv (by omega)
  subst hA
  have hvne : vb ≠ b := hne _ rfl
  have HVC := Lib.hid hvc; have HL := Lib.hid hL; have HVL := Lib.hid hvl; have HN := Lib.hid hn
  have HNL := Lib.hid (show n = lt.size + 1 by omega)
  have hbl : b < w.heap.size := hT.lt
  clear hv hvc hL hvl hne hn
  obtain ⟨hl1, hl6⟩ := hl
  obtain ⟨w1, hw1⟩ : ∃ x : World, x = w.alloc (.cells #[.string lt, .slice (some ⟨vb, vo, none⟩) n c] 83) := ⟨_, rfl⟩
  have hwa : Below w.heap.size w w1 := by rw [hw1]; exact (Below.refl _ _).alloc (Nat.le_refl _) _
  have hk1 : w1.heap.size = w.heap.size + 1 := by rw [hw1]; simp
  have HI : Hid ((w1.iter wd 0).heap[w.heap.size + 1]? = some (.stringIter wd 0) ∧ BoxP (w1.iter wd 0) w.heap.size lt (.slice (some ⟨vb, vo, none⟩) n c) ∧ TbI (w1.iter wd 0) b (wd.size + 1) (patW wd (lt, vs) G 0) ∧ w.grownBy (w1.iter wd 0) (some b)) := Lib.hid (by
    have hb2 : Below w1.heap.size w1 (w1.iter wd 0) := (Below.refl _ _).alloc (Nat.le_refl _) _
    refine ⟨by rw [← hk1]; exact World.iter_heap _ _ _, BoxP.next (by rw [hw1]; exact heap_new _ _) hb2, (hT.next hwa).next hb2, grown_below (grown_below (World.grownBy.refl _ _) hwa) hb2⟩)
  have HW1 := Lib.hid hw1
  clear hw1 hk1 hwa hT
  go_enter Tryd.func67, Tryd.ntmps67
  go_wp2
  rw [← HW1.out]
  generalize hK : w.heap.size = K0 at *
  have HK0 : Hid (K0 = w.heap.size) := Lib.hid hK.symm
  clear hK
  go_loopw [] (fun wi => ∃ pos, pos ≤ wd.size ∧ Hid (wi.heap[K0 + 1]? = some (.stringIter wd pos)) ∧ Hid (BoxP wi K0 lt (.slice (some ⟨vb, vo, none⟩) n c)) ∧ Hid (TbI wi b (wd.size + 1) (patW wd (lt, vs) G pos)) ∧ Hid (w.grownBy wi (some b))) (fun wi => wd.size - wi.iterPos (K0 + 1))
  case atStart => exact ⟨0, Nat.zero_le _, Lib.hid HI.out.1, Lib.hid HI.out.2.1, Lib.hid HI.out.2.2.1, Lib.hid HI.out.2.2.2⟩
  case round =>
    clear HI
    obtain ⟨pos, hpos, HIT, HX, HT, HG⟩ := hrel
    have hbk : b < K0 := hbl
    by_cases hlp : pos < wd.size
    · have hasc := lets_128 HL.out hlp
      have hnx : ∀ ty, (Instr.next (.pointer (some ⟨K0 + 1, 0, none⟩)) true ty).run Tryd.prog wr = .ok (.tuple #[.bool true, .int .i64 pos, .int .i32 (wd[pos].toNat : Int)]) (wr.iterAt (K0 + 1) wd (pos + 1)) := fun ty => by
        rw [Lib.run_next_ascii_at wr (K0 + 1) wd pos ty HIT.out hlp hasc]
      have HIT1 := Lib.hid (Lib.iterAt_heap wr (K0 + 1) wd pos (pos + 1) HIT.out)
      have HX1 := Lib.hid (HX.out.iter (j := K0 + 1) (s := wd) (pos := pos + 1) (by omega))
      have HT1 := Lib.hid (HT.out.iter (k := K0 + 1) (s := wd) (pos := pos + 1) (by omega))
      have HG1 := Lib.hid (grown_iter HG.out (k := K0 + 1) (by rw [← HK0.out]; omega) wd (pos + 1))
      have HPM : Hid (wr.iterPos (K0 + 1) = pos) := Lib.hid (iterPos_of HIT.out)
      generalize wr.iterAt (K0 + 1) wd (pos + 1) = W1 at *
      clear HIT HX HT HG hasc
      have hbox := lt_of_heap HX1.out
      have hx0 := KeptW.cell HX1.out.c0 hbox
      have hp0 : (0 : Int) ≤ (pos : Int) := by omega
      have hp1 : (pos : Int) ≤ (wd.size : Int) := by omega
      have hsz : (wd.extract pos wd.size).size ≤ maxLen := by rw [ByteArray.size_extract]; unfold maxLen; omega
      have hsl : lt.size ≤ maxLen := by unfold maxLen; omega
      have HPR := Lib.hid (occB_pre wd lt pos)
      cases ho : occB wd lt pos
      · have HPF : Hid (preB (wd.extract pos wd.size) lt = false) := Lib.hid (by rw [HPR.out, ho])
        have HST : Hid (patW wd (lt, vs) G (pos + 1) = patW wd (lt, vs) G pos) := Lib.hid (by show atW wd (lt, vs) (patW wd (lt, vs) G pos) pos = _; unfold atW; rw [ho]; rfl)
        clear ho
        go_wp2_with fail
        refine region_kept W1.heap.size (by kernel_rfl) (by kernel_rfl) ?_
        repeat (go_big_quiet_step (fail))
        go_big_quiet_step ((go_at_call 92; exact kept_same _ (hasPrefix_is _ _ _ _ hsz hsl HPF)))
        repeat (go_big_quiet_step (fail))
        refine wpQuiet_nil ?_
        intro W2 hb2
        have HIT2 := Lib.hid ((hb2.block _ (lt_of_heap HIT1.out)).trans HIT1.out)
        have HX2 := Lib.hid (HX1.out.next hb2)
        have HT2 := Lib.hid (HT1.out.next hb2)
        have HG2 := Lib.hid (grown_below HG1.out hb2)
        clear hb2 hx0
        go_wp2
        go_roundw
        case rel => exact ⟨pos + 1, by omega, HIT2, HX2, by rw [HST.out]; exact HT2, HG2⟩
        case measure => rw [iterPos_of HIT2.out, HPM.out]; omega
      · have HPF : Hid (preB (wd.extract pos wd.size) lt = true) := Lib.hid (by rw [HPR.out, ho])
        have HST : Hid (patW wd (lt, vs) G (pos + 1) = raiseV (patW wd (lt, vs) G pos) pos vs) := Lib.hid (by show atW wd (lt, vs) (patW wd (lt, vs) G pos) pos = _; unfold atW; rw [ho]; rfl)
        have hfit : pos + lt.size ≤ wd.size := by
          rcases Nat.lt_or_ge wd.size (pos + lt.size) with h | h
          · rw [occB_long h (by omega)] at ho; cases ho
          · exact h
        clear ho
        go_wp2_with fail
        refine region_kept W1.heap.size (by kernel_rfl) (by kernel_rfl) ?_
        repeat (go_big_quiet_step (fail))
        go_big_quiet_step ((go_at_call 92; exact kept_same _ (hasPrefix_is _ _ _ _ hsz hsl HPF)))
        repeat (go_big_quiet_step (fail))
        refine wpQuiet_nil ?_
        intro W2 hb2
        have HIT2 := Lib.hid ((hb2.block _ (lt_of_heap HIT1.out)).trans HIT1.out)
        have HX2 := Lib.hid (HX1.out.next hb2)
        have HT2 := Lib.hid (HT1.out.next hb2)
        have HG2 := Lib.hid (grown_below HG1.out hb2)
        clear hb2 hx0
        have hc1 := HX2.out.c1
        clear HX1 HT1 HG1 HIT1
        go_wp2
        go_loopw [24] (fun i wy => ∃ (q : Nat), q ≤ n ∧ i = .int .i64 q ∧ Hid (wy.heap[K0 + 1]? = some (.stringIter wd (pos + 1))) ∧ Hid (BoxP wy K0 lt (.slice (some ⟨vb, vo, none⟩) n c)) ∧ Hid (TbI wy b (wd.size + 1) (raiseV (patW wd (lt, vs) G pos) pos (vs.take q))) ∧ Hid (w.grownBy wy (some b))) (fun i _ => n - (intOf i).toNat)
        case atStart => exact ⟨0, Nat.zero_le _, rfl, HIT2, HX2, Lib.hid (by rw [List.take_zero, raise_nil]; exact HT2.out), HG2⟩
        case round =>
          clear HIT2 HX2 HT2 HG2 hc1 hbox
          obtain ⟨q, hq, rfl, HIT, HX, HT, HG⟩ := hrel
          by_cases hqn : q < n
          · have hqv : q < vs.length := by rw [← HN.out]; exact hqn
            have hcq := (cell_grown_h (i := vo + q) HG.out (by rw [← HK0.out]; exact hvb) hvne).trans (HVC.out q hqv)
            have hj : pos + q < wd.size + 1 := by have := HNL.out; omega
            have hcp := HT.out.cell hj
            have hfp := HT.out.free (pos + q)
            have hbt := HT.out.lt
            have hj0 : (0 : Int) ≤ (pos : Int) + (q : Int) := by omega
            have hj1 : (pos : Int) + (q : Int) < ((wd.size + 1 : Nat) : Int) := by omega
            have HRS : Hid (raiseV (patW wd (lt, vs) G pos) pos (vs.take (q + 1)) = setF1 (raiseV (patW wd (lt, vs) G pos) pos (vs.take q)) (pos + q) (max (raiseV (patW wd (lt, vs) G pos) pos (vs.take q) (pos + q)) vs[q])) := Lib.hid (by
              rw [List.take_succ_eq_append_getElem hqv, raise_snoc, show (vs.take q).length = q from by rw [List.length_take]; omega])
            have HT2 := Lib.hid (HT.out.set (pos + q) (max (raiseV (patW wd (lt, vs) G pos) pos (vs.take q) (pos + q)) vs[q]))
            have HX2 := Lib.hid (HX.out.set (b := b) (i := pos + q) (by omega) (.int .i64 (max (raiseV (patW wd (lt, vs) G pos) pos (vs.take q) (pos + q)) vs[q])))
            have HIT2 := Lib.hid ((set_other (g := b) (q := pos + q) (by omega : K0 + 1 ≠ b) (.int .i64 (max (raiseV (patW wd (lt, vs) G pos) pos (vs.take q) (pos + q)) vs[q]))).trans HIT.out)
            have HG2 := Lib.hid (grown_set HG.out (pos + q) (.int .i64 (max (raiseV (patW wd (lt, vs) G pos) pos (vs.take q) (pos + q)) vs[q])))
            rw [← HRS.out] at HT2
            clear HRS
            generalize raiseV (patW wd (lt, vs) G pos) pos (vs.take q) (pos + q) = x at *
            generalize vs[q] = y at *
            go_wp2
            go_roundw
            case rel => exact ⟨q + 1, by omega, by go_num, HIT2, HX2, HT2, HG2⟩
            case measure => simp [intOf]; omega
          · obtain rfl : q = n := by omega
            have HT2 : Hid (TbI wr b (wd.size + 1) (patW wd (lt, vs) G (pos + 1))) := Lib.hid (by rw [HST.out]; have h := HT.out; rw [HN.out, List.take_length] at h; exact h)
            go_wp2
            go_roundw
            case rel => exact ⟨pos + 1, by omega, HIT, HX, HT2, HG⟩
            case measure => rw [iterPos_of HIT.out, HPM.out]; omega
    · have hnx : ∀ ty, (Instr.next (.pointer (some ⟨K0 + 1, 0, none⟩)) true ty).run Tryd.prog wr = _ := fun ty => Lib.run_next_end_at wr (K0 + 1) wd pos ty HIT.out hlp
      obtain rfl : pos = wd.size := by omega
      go_wp2
      go_end0
      exact ⟨rfl, HT.out, HG.out⟩
end Go.Proofs.YtcbhhbcfnaekpaaDoor

/-
  The contracts of laws.qInts and laws.qTexts: whether two slices read as the same list. (For FnFonts.)
-/
import Derived.Test.YtcbhhbcfnaekpaaDoorStr
import Derived.Test.YtcbhhbcfnaekpaaDoorGlue
namespace Go.Proofs.YtcbhhbcfnaekpaaDoor
open Go.RowKit
set_option linter.unusedVariables false

set_option maxRecDepth 100000 in
theorem qInts_any (l m : List Int) (A B : Option Addr) (c d : Nat) (w : World) (hf : IntsIn w A l) (hg : IntsIn w B m) (hn : l.length ≤ maxLen) (hm : m.length ≤ maxLen) :
    Calls Tryd.prog 20 #[.slice A l.length c, .slice B m.length d] w fun e w' => e = .returned (.bool (decide (l = m))) ∧ Below w.heap.size w w' := by
  unfold maxLen at hn hm
  have HF := Lib.hid hf; clear hf
  have HG := Lib.hid hg; clear hg
  by_cases h : l.length = m.length
  · have HL := Lib.hid h
    have h' : ((l.length : Int) != (m.length : Int)) = false := by simp [h]
    clear h
    go_enter Tryd.func20, Tryd.ntmps20
    go_wp2
    go_loopw [13] (fun i wr => ∃ (k : Nat), k ≤ l.length ∧ i = .int .i64 k ∧ l.take k = m.take k ∧ Below w.heap.size w wr) (fun i _ => l.length - (intOf i).toNat)
    case atStart => exact ⟨0, Nat.zero_le _, rfl, rfl, Below.refl _ _⟩
    case round =>
      obtain ⟨k, hk, rfl, hs, hb⟩ := hrel
      have HS := Lib.hid hs; clear hs
      by_cases hlt : k < l.length
      · have hkg : k < m.length := by have := HL.out; omega
        obtain ⟨b, off, rfl, hbl, hc⟩ := HF.out (by omega)
        have hc0 := hc k hlt
        clear hc
        obtain ⟨b', off', rfl, hbl', hd⟩ := HG.out (by omega)
        have hd0 := hd k hkg
        clear hd
        rw [← hb.cell (p := ⟨b, off + k, none⟩) hbl] at hc0
        rw [← hb.cell (p := ⟨b', off' + k, none⟩) hbl'] at hd0
        have hx := KeptW.cell hc0 (Nat.lt_of_lt_of_le hbl hb.size)
        have hy := KeptW.cell hd0 (Nat.lt_of_lt_of_le hbl' hb.size)
        clear hc0 hd0
        have hk1 : (k : Int) < (l.length : Int) := by omega
        have hk2 : (k : Int) < (m.length : Int) := by omega
        have hk0 : (0 : Int) ≤ (k : Int) := by omega
        go_wp2_with fail
        refine region_kept wr.heap.size (by kernel_rfl) (by kernel_rfl) ?_
        repeat (go_big_quiet_step (fail))
        refine wpQuiet_nil ?_
        intro w1 hb1
        have hb' : Below w.heap.size w w1 := hb.trans (hb1.mono hb.size)
        clear hb hb1 hx hy
        by_cases hl : l[k] = m[k]
        · have ht : (l[k] != m[k]) = false := by simp [hl]
          have HE := Lib.hid hl; clear hl
          go_wp2
          go_roundw
          case rel => exact ⟨k + 1, by omega, by go_num, by rw [List.take_succ_eq_append_getElem hlt, List.take_succ_eq_append_getElem hkg, HS.out, HE.out], hb'⟩
          case measure => simp [intOf]; omega
        · have ht : (l[k] != m[k]) = true := by simp [hl]
          have HE := Lib.hid hl; clear hl
          go_wp2
          go_ret
          exact ⟨ret_bool (by symm; apply decide_eq_false; intro he; apply HE.out; subst he; rfl), hb'⟩
      · obtain rfl : k = l.length := by omega
        go_wp2
        go_ret
        exact ⟨ret_bool (by
          symm; apply decide_eq_true
          have e := HS.out
          rw [List.take_length, HL.out, List.take_length] at e
          exact e), hb⟩
  · have H := Lib.hid h
    have h' : ((l.length : Int) != (m.length : Int)) = true := by simp; omega
    clear h
    go_enter Tryd.func20, Tryd.ntmps20
    go_wp2
    go_ret
    exact ⟨ret_bool (by symm; apply decide_eq_false; intro he; apply H.out; rw [he]), Below.refl _ _⟩

set_option maxRecDepth 100000 in
theorem qTexts_any (l m : List ByteArray) (A B : Option Addr) (c d : Nat) (w : World) (hf : StrsIn w A l) (hg : StrsIn w B m) (hn : l.length ≤ maxLen) (hm : m.length ≤ maxLen) :
    Calls Tryd.prog 19 #[.slice A l.length c, .slice B m.length d] w fun e w' => e = .returned (.bool (decide (l = m))) ∧ Below w.heap.size w w' := by
  unfold maxLen at hn hm
  have HF := Lib.hid hf; clear hf
  have HG := Lib.hid hg; clear hg
  by_cases h : l.length = m.length
  · have HL := Lib.hid h
    have h' : ((l.length : Int) != (m.length : Int)) = false := by simp [h]
    clear h
    go_enter Tryd.func19, Tryd.ntmps19
    go_wp2
    go_loopw [13] (fun i wr => ∃ (k : Nat), k ≤ l.length ∧ i = .int .i64 k ∧ l.take k = m.take k ∧ Below w.heap.size w wr) (fun i _ => l.length - (intOf i).toNat)
    case atStart => exact ⟨0, Nat.zero_le _, rfl, rfl, Below.refl _ _⟩
    case round =>
      obtain ⟨k, hk, rfl, hs, hb⟩ := hrel
      have HS := Lib.hid hs; clear hs
      by_cases hlt : k < l.length
      · have hkg : k < m.length := by have := HL.out; omega
        obtain ⟨b, off, rfl, hbl, hc⟩ := HF.out (by omega)
        have hc0 := hc k hlt
        clear hc
        obtain ⟨b', off', rfl, hbl', hd⟩ := HG.out (by omega)
        have hd0 := hd k hkg
        clear hd
        rw [← hb.cell (p := ⟨b, off + k, none⟩) hbl] at hc0
        rw [← hb.cell (p := ⟨b', off' + k, none⟩) hbl'] at hd0
        have hx := KeptW.cell hc0 (Nat.lt_of_lt_of_le hbl hb.size)
        have hy := KeptW.cell hd0 (Nat.lt_of_lt_of_le hbl' hb.size)
        clear hc0 hd0
        have hk1 : (k : Int) < (l.length : Int) := by omega
        have hk2 : (k : Int) < (m.length : Int) := by omega
        have hk0 : (0 : Int) ≤ (k : Int) := by omega
        go_wp2_with fail
        refine region_kept wr.heap.size (by kernel_rfl) (by kernel_rfl) ?_
        repeat (go_big_quiet_step (fail))
        refine wpQuiet_nil ?_
        intro w1 hb1
        have hb' : Below w.heap.size w w1 := hb.trans (hb1.mono hb.size)
        clear hb hb1 hx hy
        by_cases hl : l[k] = m[k]
        · have ht : (!l[k].toList == m[k].toList) = false := by rw [str_eq hl]; rfl
          rw [ht]
          have HE := Lib.hid hl; clear hl
          go_wp2
          go_roundw
          case rel => exact ⟨k + 1, by omega, by go_num, by rw [List.take_succ_eq_append_getElem hlt, List.take_succ_eq_append_getElem hkg, HS.out, HE.out], hb'⟩
          case measure => simp [intOf]; omega
        · have ht : (!l[k].toList == m[k].toList) = true := str_ne hl
          rw [ht]
          have HE := Lib.hid hl; clear hl
          go_wp2
          go_ret
          exact ⟨ret_bool (by symm; apply decide_eq_false; intro he; apply HE.out; subst he; rfl), hb'⟩
      · obtain rfl : k = l.length := by omega
        go_wp2
        go_ret
        exact ⟨ret_bool (by
          symm; apply decide_eq_true
          have e := HS.out
          rw [List.take_length, HL.out, List.take_length] at e
          exact e), hb⟩
  · have H := Lib.hid h
    have h' : ((l.length : Int) != (m.length : Int)) = true := by simp; omega
    clear h
    go_enter Tryd.func19, Tryd.ntmps19
    go_wp2
    go_ret
    exact ⟨ret_bool (by symm; apply decide_eq_false; intro he; apply H.out; rw [he]), Below.refl _ _⟩
end Go.Proofs.YtcbhhbcfnaekpaaDoor

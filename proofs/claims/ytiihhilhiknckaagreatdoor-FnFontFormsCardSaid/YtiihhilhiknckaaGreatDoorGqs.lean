/-
  spec.FontText's contract, and laws.qSorts'. (For FnFontForms.)
-/
import Derived.Test.YtiihhilhiknckaaGreatDoorGfi
import Derived.Test.YtiihhilhiknckaaGreatDoorQ
import Derived.Laws.StructEq
namespace Go.Proofs.YtiihhilhiknckaaGreatDoor.P
open Go.RowKit
set_option linter.unusedVariables false

set_option maxRecDepth 100000 in
theorem specFText_any (f : List (ByteArray × Int)) (A : Option Addr) (c : Nat) (lo : Nat) (w : World) (hf : SortsIn w lo A f) (hn : f.length ≤ 1048576) (ho : CodesOk f) :
    Calls Tryz.prog 8 #[.slice A f.length c] w fun e w' => e = .returned (.tuple #[.string (ftextB f), .bool (fontB f)]) ∧ Below w.heap.size w w' := by
  have HF := Lib.hid hf; have HO := Lib.hid ho; clear hf ho
  go_enter Tryz.func8, Tryz.ntmps8
  go_wp2_with fail
  refine (tyFont_any f A c lo _ HF.out hn HO.out).mono ?_
  rintro e w1 ⟨rfl, hb1⟩
  have HB1 := Lib.hid hb1; clear hb1
  cases hg : fontB f
  · have HV := Lib.hid (ft_no hg)
    have HE := Lib.hid hg
    clear hg
    go_wp2
    go_ret2
    exact ⟨ret_sb HV.out.symm HE.out.symm, HB1.out⟩
  have HG := Lib.hid hg; clear hg
  go_wp2_with fail
  refine (tyText_any f A c lo _ (HF.out.below HB1.out (Nat.le_refl _)) HG.out).mono ?_
  rintro e w2 ⟨rfl, hb2⟩
  have HB2 := Lib.hid (HB1.out.trans (hb2.mono HB1.out.size))
  clear hb2
  go_wp2
  go_ret2
  exact ⟨ret_sb (ft_yes HG.out).symm HG.out.symm, HB2.out⟩

theorem run_neqSort (a c : ByteArray) (b d : Int) (W : World) : (binOp .neq 25 (.agg #[.string a, .int .i64 b]) (.agg #[.string c, .int .i64 d])).run Tryz.prog W = .ok (.bool (!(decide ((a, b) = (c, d))))) W := by
  have hS : Tryz.prog.underlying 25 = some (.struct (Tryz.prog.fieldsOf 25)) := by kernel_rfl
  have hp : Tryz.prog.stoodInHeld 25 = false := by kernel_rfl
  rw [run_neq_struct, show (10000 : Nat) = 9999 + 1 from rfl, run_equalIn_agg W 9999 25 _ _ hS hp]
  have u9 := Tryz.underlying9
  have u3 := Tryz.underlying3
  simp only [Program.fieldsOf, Tryz.underlying25]
  go_simp
  by_cases h1 : a = c
  · subst h1
    by_cases h2 : b = d <;> simp [h2]
  · have h3 := str_neb h1
    simp [h1, h3]
    intro e
    exact absurd (str_inj e) h1
set_option maxRecDepth 100000 in
theorem qSorts_any (l m : List (ByteArray × Int)) (A B : Option Addr) (c d : Nat) (lo lo' : Nat) (w : World) (hf : SortsIn w lo A l) (hg : SortsIn w lo' B m) (hn : l.length ≤ maxLen) (hm : m.length ≤ maxLen) :
    Calls Tryz.prog 9 #[.slice A l.length c, .slice B m.length d] w fun e w' => e = .returned (.bool (decide (l = m))) ∧ Below w.heap.size w w' := by
  unfold maxLen at hn hm
  have HF := Lib.hid hf; clear hf
  have HG := Lib.hid hg; clear hg
  by_cases h : l.length = m.length
  · have HL := Lib.hid h
    have h' : ((l.length : Int) != (m.length : Int)) = false := by simp [h]
    clear h
    go_enter Tryz.func9, Tryz.ntmps9
    go_wp2
    go_loopw [13] (fun i wr => ∃ (k : Nat), k ≤ l.length ∧ i = .int .i64 k ∧ l.take k = m.take k ∧ Below w.heap.size w wr) (fun i _ => l.length - (intOf i).toNat)
    case atStart => exact ⟨0, Nat.zero_le _, rfl, rfl, Below.refl _ _⟩
    case round =>
      obtain ⟨k, hk, rfl, hs, hb⟩ := hrel
      have HS := Lib.hid hs; clear hs
      by_cases hlt : k < l.length
      · have hkg : k < m.length := by have := HL.out; omega
        obtain ⟨b, off, rfl, _, hbl, hc⟩ := HF.out (by omega)
        obtain ⟨hc0, hc1⟩ := hc k hlt
        clear hc
        obtain ⟨b', off', rfl, _, hbl', hd⟩ := HG.out (by omega)
        obtain ⟨hd0, hd1⟩ := hd k hkg
        clear hd
        rw [← hb.cell (p := ⟨b, off + k * 2, none⟩) hbl] at hc0
        rw [← hb.cell (p := ⟨b, off + k * 2 + 1, none⟩) hbl] at hc1
        rw [← hb.cell (p := ⟨b', off' + k * 2, none⟩) hbl'] at hd0
        rw [← hb.cell (p := ⟨b', off' + k * 2 + 1, none⟩) hbl'] at hd1
        have hb1 := Nat.lt_of_lt_of_le hbl hb.size
        have hb2 := Nat.lt_of_lt_of_le hbl' hb.size
        have hx0 := KeptW.cell hc0 hb1
        have hx1 := KeptW.cell hc1 hb1
        have hy0 := KeptW.cell hd0 hb2
        have hy1 := KeptW.cell hd1 hb2
        clear hc0 hc1 hd0 hd1 hb1 hb2
        have hk1 : (k : Int) < (l.length : Int) := by omega
        have hk2 : (k : Int) < (m.length : Int) := by omega
        have hk0 : (0 : Int) ≤ (k : Int) := by omega
        have hgd : Tryz.prog.eqGuardType Tryz.prog.depth 25 = false := by kernel_rfl
        by_cases hl : l[k] = m[k]
        · have hcm : ∀ W, (binOp .neq 25 (.agg #[.string l[k].1, .int .i64 l[k].2]) (.agg #[.string m[k].1, .int .i64 m[k].2])).run Tryz.prog W = .ok (.bool false) W := fun W => by
            rw [run_neqSort, decide_eq_true (show (l[k].1, l[k].2) = (m[k].1, m[k].2) from hl)]; rfl
          have HE := Lib.hid hl; clear hl
          go_wp2_with fail
          refine region_kept wr.heap.size (by kernel_rfl) (by kernel_rfl) ?_
          repeat (go_big_quiet_step (fail))
          refine wpQuiet_nil ?_
          intro w1 hb1
          have hb' : Below w.heap.size w w1 := hb.trans (hb1.mono hb.size)
          clear hb hb1 hx0 hx1 hy0 hy1 hcm
          go_wp2
          go_roundw
          case rel => exact ⟨k + 1, by omega, by go_num, by rw [List.take_succ_eq_append_getElem hlt, List.take_succ_eq_append_getElem hkg, HS.out, HE.out], hb'⟩
          case measure => simp [intOf]; omega
        · have hcm : ∀ W, (binOp .neq 25 (.agg #[.string l[k].1, .int .i64 l[k].2]) (.agg #[.string m[k].1, .int .i64 m[k].2])).run Tryz.prog W = .ok (.bool true) W := fun W => by
            rw [run_neqSort, decide_eq_false (show ¬ (l[k].1, l[k].2) = (m[k].1, m[k].2) from hl)]; rfl
          have HE := Lib.hid hl; clear hl
          go_wp2_with fail
          refine region_kept wr.heap.size (by kernel_rfl) (by kernel_rfl) ?_
          repeat (go_big_quiet_step (fail))
          refine wpQuiet_nil ?_
          intro w1 hb1
          have hb' : Below w.heap.size w w1 := hb.trans (hb1.mono hb.size)
          clear hb hb1 hx0 hx1 hy0 hy1 hcm
          go_wp2
          go_ret
          exact ⟨ret_bool (by symm; apply decide_eq_false; intro he; apply HE.out; subst he; rfl), hb'⟩
      · obtain rfl : k = l.length := by omega
        go_wp2
        go_ret
        exact ⟨ret_bool (by
          symm; apply decide_eq_true
          have e := HS.out
          rw [List.take_length, HL.out, List.take_length] at e
          exact e), hb⟩
  · have H := Lib.hid h
    have h' : ((l.length : Int) != (m.length : Int)) = true := by simp; omega
    clear h
    go_enter Tryz.func9, Tryz.ntmps9
    go_wp2
    go_ret
    exact ⟨ret_bool (by symm; apply decide_eq_false; intro he; apply H.out; rw [he]), Below.refl _ _⟩
end Go.Proofs.YtiihhilhiknckaaGreatDoor.P

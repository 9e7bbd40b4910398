/-
  The contracts of spec.ValuesOf and impl.ValuesOf.
-/
import Derived.Test.YtcbhhbcfnaekpaaDoorHyi
import Derived.Lib.SliceRun
namespace Go.Proofs.YtcbhhbcfnaekpaaDoor
open Go.RowKit
set_option linter.unusedVariables false

def vlB (ps : List ByteArray) (wd : ByteArray) : Bool := patsB ps && isWordF wd
def vlL (ps : List ByteArray) (wd : ByteArray) : List Int := if vlB ps wd then valL ps wd else []
theorem vl_no {ps : List ByteArray} {wd : ByteArray} (h : vlB ps wd = false) : vlL ps wd = [] := by unfold vlL; rw [h]; rfl
theorem vl_yes {ps : List ByteArray} {wd : ByteArray} (h : vlB ps wd = true) : vlL ps wd = valL ps wd := by unfold vlL; rw [h]; rfl
theorem vl_short (ps : List ByteArray) (wd : ByteArray) : (vlL ps wd).length ≤ 15 := by
  cases h : vlB ps wd
  · rw [vl_no h]; simp
  · rw [vl_yes h, valL_len]
    unfold vlB at h
    rw [Bool.and_eq_true] at h
    have := isWord_len h.2
    omega
theorem hyGood_is (ps : List ByteArray) (A : Option Addr) (c : Nat) (es : List ByteArray) (B : Option Addr) (d : Nat) (b : Bool) (w : World) (hf : StrsIn w A ps) (ho : StrsLe ps) (hn : ps.length ≤ 1048576) (hf' : StrsIn w B es) (ho' : StrsLe es) (hn' : es.length ≤ 1048576) (h : Hid (hyB ps es = b)) :
    Calls Tryd.prog 68 #[.slice A ps.length c, .slice B es.length d] w fun e w' => e = .returned (.bool b) ∧ Below w.heap.size w w' := by
  have := hyGood_any ps A c es B d w hf ho hn hf' ho' hn'; rw [h.out] at this; exact this
theorem hyB_pats (ps : List ByteArray) : hyB ps [] = patsB ps := by unfold hyB; rw [exsB_nil]; simp
theorem hyB_exs (es : List ByteArray) : hyB [] es = exsB es := by unfold hyB; rw [patsB_nil]; simp
theorem noStrs (w : World) : StrsIn w none [] := fun h => by simp at h
theorem noLe : StrsLe [] := fun k h => by simp at h
theorem ret_vb {v : Value} {a b : Bool} (h : a = b) : Ending.returned (.tuple #[v, .bool a]) = .returned (.tuple #[v, .bool b]) := by rw [h]
set_option maxRecDepth 100000 in
set_option maxHeartbeats 2000000 in
theorem specValuesOf_any (ps : List ByteArray) (A : Option Addr) (c : Nat) (wd : ByteArray) (w : World) (hf : StrsIn w A ps) (ho : StrsLe ps) (hn : ps.length ≤ 1048576) (hw : wd.size ≤ 1048576) :
    Calls Tryd.prog 31 #[.slice A ps.length c, .string wd] w fun e w' => ∃ v, e = .returned (.tuple #[v, .bool (vlB ps wd)]) ∧ Below w.heap.size w w' ∧ AtRow w' w.heap.size v (vlL ps wd) := by
  have HF := Lib.hid hf; have HO := Lib.hid ho; clear hf ho
  have hwm : wd.size ≤ maxLen := by unfold maxLen; omega
  cases hp : patsB ps
  · have HP : Hid (hyB ps [] = false) := Lib.hid (by rw [hyB_pats, hp])
    have HV : Hid (vlB ps wd = false) := Lib.hid (by unfold vlB; rw [hp]; rfl)
    have HG := Lib.hid (hyGood_is ps A c [] none 0 false w HF.out HO.out hn (noStrs _) noLe (by simp) HP)
    clear hp
    go_enter Tryd.func31, Tryd.ntmps31
    go_wp2_with fail
    refine HG.out.mono ?_
    rintro e w1 ⟨rfl, hb1⟩
    go_wp2
    go_ret2
    exact ⟨_, ret_vb HV.out.symm, hb1, by rw [vl_no HV.out]; exact AtRow.of_own (own_nil _ _ _ 3)⟩
  have HP : Hid (hyB ps [] = true) := Lib.hid (by rw [hyB_pats, hp])
  have HG := Lib.hid (hyGood_is ps A c [] none 0 true w HF.out HO.out hn (noStrs _) noLe (by simp) HP)
  have HPA := Lib.hid (patsB_all hp).1
  cases hq : isWordF wd
  · have HV : Hid (vlB ps wd = false) := Lib.hid (by unfold vlB; rw [hq]; simp)
    have HW := Lib.hid hq
    clear hp hq
    go_enter Tryd.func31, Tryd.ntmps31
    go_wp2_with fail
    refine HG.out.mono ?_
    rintro e w1 ⟨rfl, hb1⟩
    go_wp2_with fail
    refine (tyWord_is _ _ _ hwm HW).mono ?_
    rintro e w2 ⟨rfl, rfl⟩
    go_wp2
    go_ret2
    exact ⟨_, ret_vb HV.out.symm, hb1, by rw [vl_no HV.out]; exact AtRow.of_own (own_nil _ _ _ 3)⟩
  have HV : Hid (vlB ps wd = true) := Lib.hid (by unfold vlB; rw [hp, hq]; rfl)
  have HW := Lib.hid hq
  have hsz := isWord_len hq
  clear hp hq
  go_enter Tryd.func31, Tryd.ntmps31
  go_wp2_with fail
  refine HG.out.mono ?_
  rintro e w1 ⟨rfl, hb1⟩
  have HB1 := Lib.hid hb1
  clear hb1
  go_wp2_with fail
  refine (tyWord_is _ _ _ hwm HW).mono ?_
  rintro e w2 ⟨rfl, rfl⟩
  go_wp2_with fail
  refine (hyValues_any ps A c wd _ (HF.out.below HB1.out (Nat.le_refl _)) HO.out hn HPA.out hsz.1 hsz.2).mono ?_
  rintro e w3 ⟨v, rfl, hb3, ho3⟩
  have HB3 := Lib.hid (HB1.out.trans (hb3.mono HB1.out.size))
  have HO3 := Lib.hid (Joins.ownsRow_le ho3 HB1.out.size)
  clear hb3 ho3
  go_wp2
  go_ret2
  exact ⟨_, ret_vb HV.out.symm, HB3.out, by rw [vl_yes HV.out]; exact AtRow.of_own HO3.out⟩
theorem elemI : Tryd.prog.elem 28 = 3 := by kernel_rfl
theorem sizeI (W : World) : (sizeOf (Tryd.prog.elem 28)).run Tryd.prog W = .ok 1 W := by
  obtain ⟨i0, hi, hz0, hz1, hz2⟩ := info_parts info3
  rw [elemI]
  simp [sizeOf, typeInfo, hi, hz1]
theorem underI : Tryd.prog.underlying 28 = some (.slice (Tryd.prog.elem 28)) := by rw [elemI]; exact Tryd.underlying28
theorem slice_midI (b n : Nat) (h : 1 ≤ n) (W : World) :
    (Instr.slice 28 (.slice (some ⟨b, 0, none⟩) (n + 1) (n + 1)) (some (.int .i64 1)) (some (.int .i64 (n : Int))) none).run Tryd.prog W = .ok (.slice (some ⟨b, 1, none⟩) (n - 1) n) W := by
  rw [run_slice_lh W _ _ _ _ underI .i64 .i64 1 (n : Int) (by omega) (by omega) (by omega), sizeI]
  have h0 : ¬ n = 0 := by omega
  simp [sliced, Result.andThen, Addr.add, h0]
  try omega
theorem TbI.at1 {w : World} {b base n : Nat} {f : Nat → Int} (h : TbI w b n f) (hb : base ≤ b) {m c : Nat} (hm : m + 1 ≤ n) : AtRow w base (.slice (some ⟨b, 1, none⟩) m c) ((List.range m).map fun k => f (k + 1)) := by
  obtain ⟨cs, h1, h2, h3⟩ := h
  refine ⟨some ⟨b, 1, none⟩, c, by simp, fun a e => ?_, fun h0 => ⟨b, 1, _, cs, rfl, h1, fun k hk => ?_⟩⟩
  · obtain rfl := Option.some.inj e
    exact ⟨hb, lt_of_heap h1⟩
  · have hk' : k < m := by simpa using hk
    rw [Nat.add_comm 1 k, h3 (k + 1) (by omega)]
    simp
theorem isWordB_is (s : ByteArray) (b : Bool) (w : World) (hs : s.size ≤ maxLen) (h : Hid (isWordF s = b)) :
    Calls Tryd.prog 66 #[.string s] w fun e w' => e = .returned (.bool b) ∧ Below w.heap.size w w' := isWord_is s b w hs h
set_option maxRecDepth 100000 in
set_option maxHeartbeats 4000000 in
theorem implValuesOf_any (ps : List ByteArray) (A : Option Addr) (c : Nat) (wd : ByteArray) (w : World) (hf : StrsIn w A ps) (ho : StrsLe ps) (hn : ps.length ≤ 1048576) (hw : wd.size ≤ 1048576) :
    Calls Tryd.prog 30 #[.slice A ps.length c, .string wd] w fun e w' => ∃ v, e = .returned (.tuple #[v, .bool (vlB ps wd)]) ∧ Below w.heap.size w w' ∧ AtRow w' w.heap.size v (vlL ps wd) := by
  have HF := Lib.hid hf; have HO := Lib.hid ho; clear hf ho
  have hwm : wd.size ≤ maxLen := by unfold maxLen; omega
  go_enter Tryd.func30, Tryd.ntmps30
  go_wp2_with fail
  refine (readPatterns_any ps A c _ HF.out HO.out hn).mono ?_
  rintro e w1 ⟨hb1, ⟨hp, rfl⟩ | ⟨hp, b, hb, rfl, hr⟩⟩
  · have HV : Hid (vlB ps wd = false) := Lib.hid (by unfold vlB; rw [hp]; rfl)
    clear hp
    go_wp2
    go_ret2
    exact ⟨_, ret_vb HV.out.symm, hb1, by rw [vl_no HV.out]; exact AtRow.of_own (own_nil _ _ _ 3)⟩
  have HB1 := Lib.hid hb1; have HR1 := Lib.hid hr
  have HPA := Lib.hid (patsB_all hp).1
  have hp20 := (patsB_all hp).2
  clear hb1 hr
  cases hq : isWordF wd
  · have HV : Hid (vlB ps wd = false) := Lib.hid (by unfold vlB; rw [hq]; simp)
    have HW := Lib.hid hq
    clear hp hq
    go_wp2_with fail
    refine (isWordB_is _ _ _ hwm HW).mono ?_
    rintro e w2 ⟨rfl, hb2⟩
    have hb' := HB1.out.trans (hb2.mono HB1.out.size)
    go_wp2
    go_ret2
    exact ⟨_, ret_vb HV.out.symm, hb', by rw [vl_no HV.out]; exact AtRow.of_own (own_nil _ _ _ 3)⟩
  have HV : Hid (vlB ps wd = true) := Lib.hid (by unfold vlB; rw [hp, hq]; rfl)
  have HW := Lib.hid hq
  have HLT := Lib.hid (lets_word hq)
  obtain ⟨hz1, hz16⟩ := isWord_len hq
  clear hp hq
  go_wp2_with fail
  refine (isWordB_is _ _ _ hwm HW).mono ?_
  rintro e w2 ⟨rfl, hb2⟩
  have HB2 := Lib.hid (HB1.out.trans (hb2.mono HB1.out.size))
  have HR2 := Lib.hid (HR1.out.next hb2)
  clear hb2 HR1 HB1
  have hmk := run_makeInt (wd.size + 1) (by omega)
  have HST : Hid (TbI (w2.alloc (.cells (madeCells #[.int .i64 0] ((wd.size + 1) * 1)) 3)) w2.heap.size (wd.size + 1) (valsG wd (ps.take 0))) := Lib.hid (TbI.made w2 (wd.size + 1))
  generalize hz : madeCells #[.int .i64 0] ((wd.size + 1) * 1) = cs0 at *
  clear hz
  have hwc : ((wd.size + 1 : Nat) : Int) = (wd.size : Int) + 1 := by omega
  rw [hwc] at hmk
  clear hwc
  go_wp2
  go_loopw [29] (fun i wr => ∃ (k : Nat), k ≤ ps.length ∧ i = .int .i64 k ∧ Hid (TbI wr w2.heap.size (wd.size + 1) (valsG wd (ps.take k))) ∧ Hid (Below w2.heap.size w2 wr)) (fun i _ => ps.length - (intOf i).toNat)
  case atStart => exact ⟨0, Nat.zero_le _, rfl, HST, Lib.hid ((Below.refl _ _).alloc (Nat.le_refl _) _)⟩
  case round =>
    clear HST hmk
    obtain ⟨k, hk, rfl, HT, HB⟩ := hrel
    by_cases hlt : k < ps.length
    · have hrw := HR2.out.next HB.out
      obtain ⟨cs, h1, h2, h3⟩ := hrw
      obtain ⟨q1, A1, c1, q2, q3, q4⟩ := h3 k hlt hlt
      obtain ⟨cs', -, -, h3'⟩ := HR2.out
      obtain ⟨-, A1', c1', q2', -, q4'⟩ := h3' k hlt hlt
      have hc0 : wr.cell? ⟨b, k * 2, none⟩ = some (.string (ptT ps[k])) := (cell_of_heap h1 _).trans q1
      have hc1 : wr.cell? ⟨b, k * 2 + 1, none⟩ = some (.slice A1 (ptVs ps[k]).length c1) := (cell_of_heap h1 _).trans q2
      have HIN := Lib.hid q3
      have HAL : Hid (∀ a, A1 = some a → a.block ≠ w2.heap.size) := Lib.hid (fun a e => by
        have e2 : w2.cell? ⟨b, k * 2 + 1, none⟩ = some (.slice A1 (ptVs ps[k]).length c1) := by
          rw [← HB.out.cell (p := ⟨b, k * 2 + 1, none⟩) HR2.out.lt]; exact hc1
        obtain ⟨cs2, g1, g2, g3⟩ := HR2.out
        obtain ⟨-, A2, c2, g4, -, g5⟩ := g3 k hlt hlt
        rw [cell_of_heap g1, g4] at e2
        have e3 := Option.some.inj e2
        injection e3 with e4
        subst e4
        have := (g5 a e).2
        omega)
      have HGD := Lib.hid (pt_good (patsA_mem HPA.out hlt))
      have HSTP := Lib.hid (valsG_step wd hlt)
      have hls : 1 ≤ (ptT ps[k]).size ∧ (ptT ps[k]).size ≤ 6 ∧ (ptVs ps[k]).length = (ptT ps[k]).size + 1 := by rw [ptT_size]; exact ⟨HGD.out.1, HGD.out.2.1, HGD.out.2.2.1⟩
      have HLS := Lib.hid hls
      have hal : Below wr.heap.size wr (wr.alloc (.cells #[.string (ptT ps[k]), .slice A1 (ptVs ps[k]).length c1] 83)) := (Below.refl _ _).alloc (Nat.le_refl _) _
      have HT1 := Lib.hid (HT.out.next hal)
      have HIN1 := Lib.hid (HIN.out.below hal (Nat.le_refl _))
      have HB1 := Lib.hid (HB.out.trans (hal.mono HB.out.size))
      have HVN : Hid ((ptVs ps[k]).length = (ptVs ps[k]).length) := Lib.hid rfl
      clear h1 h2 h3 q1 q2 q3 q4 h3' q2' q4' hal hls HT HB HGD HIN
      generalize ptT ps[k] = lt at *
      generalize ptVs ps[k] = vs at *
      generalize hvn : vs.length = vn at *
      have HVN2 := Lib.hid hvn
      clear hvn HVN
      go_wp2_with fail
      refine (raise_any lt vs A1 c1 vn w2.heap.size (valsG wd (ps.take k)) wd _ HT1.out HLT.out hz16 ⟨HLS.out.1, HLS.out.2.1⟩ (by rw [HVN2.out]; exact HLS.out.2.2) HVN2.out.symm HIN1.out HAL.out).mono ?_
      rintro e w5 ⟨rfl, ht5, hg5⟩
      have HT5 : Hid (TbI w5 w2.heap.size (wd.size + 1) (valsG wd (ps.take (k + 1)))) := Lib.hid (by rw [HSTP.out]; exact ht5)
      have HB5 := Lib.hid (HB1.out.grown hg5 HB1.out.size (fun q hq => by have := Option.some.inj hq; omega))
      clear ht5 hg5
      go_wp2
      go_roundw
      case rel => exact ⟨k + 1, by omega, by go_num, HT5, HB5⟩
      case measure => simp [intOf]; omega
    · obtain rfl : k = ps.length := by omega
      have HBW := Lib.hid (HB2.out.trans (HB.out.mono HB2.out.size))
      have HAT : Hid (AtRow wr w.heap.size (.slice (some ⟨w2.heap.size, 1, none⟩) (wd.size - 1) wd.size) (valL ps wd)) := Lib.hid (by
        have h := HT.out
        rw [List.take_length] at h
        exact h.at1 HB2.out.size (by omega))
      have hsl := slice_midI w2.heap.size wd.size hz1
      go_wp2
      go_ret2
      exact ⟨_, ret_vb HV.out.symm, HBW.out, by rw [vl_yes HV.out]; exact HAT.out⟩
end Go.Proofs.YtcbhhbcfnaekpaaDoor

/-
  The contracts of spec.SortsOfWord and impl.SortsOfWord: both answer the list of sorts with which a word is set, in memory of the call's own.
-/
import Derived.Test.YtpbkeagpipipmaaSet
import Derived.Lib.SmallJoins
namespace Go.Proofs.Ytpbkeagpipipmaa.S1
open Go.RowKit
set_option linter.unusedVariables false

noncomputable def sowF (f : List (ByteArray × Int)) (s : ByteArray) : Option (List Nat) := if fontB f && isWordF s then setW f s else none
theorem isWord_len {s : ByteArray} (h : isWordF s = true) : 1 ≤ s.size ∧ s.size ≤ 16 := by
  unfold isWordF tyLettersF at h
  simp only [Bool.and_eq_true, decide_eq_true_eq, len_list] at h
  omega

def strLen : Value → Nat | .string s => s.size | _ => 0
theorem rest_zero (s : ByteArray) : s = s.extract 0 s.size := ByteArray.ext (Array.ext' (by rw [rest_list]; rfl))
theorem rest_size (s : ByteArray) (p : Nat) : (s.extract p s.size).size = s.size - p := by rw [← len_list, rest_list, List.length_drop, len_list]
theorem rest_cut (s : ByteArray) (p c : Nat) : (s.extract p s.size).extract c (s.extract p s.size).size = s.extract (p + c) s.size :=
  ByteArray.ext (Array.ext' (by rw [rest_list, rest_list, rest_list, List.drop_drop]))
theorem empty_iff (r : ByteArray) : r.toList.isEmpty = decide (r.size = 0) := by
  rw [ByteArray.toList_eq, ← len_list, Bool.eq_iff_iff, List.isEmpty_iff, decide_eq_true_eq, List.length_eq_zero_iff]

set_option maxRecDepth 100000 in
set_option maxHeartbeats 1000000 in
theorem implSow_any (f : List (ByteArray × Int)) (A : Option Addr) (cap : Nat) (s : ByteArray) (lo : Nat) (w : World) (hf : SortsIn w lo A f) (hn : f.length ≤ 1048576) (ho : CodesOk f) (hs : s.size ≤ maxLen) :
    Calls Try.prog 76 #[.slice A f.length cap, .string s] w fun e w' => SetsTo w w' e (sowF f s) := by
  have HS := Lib.hid hf; clear hf
  have HO := Lib.hid ho; clear ho
  go_enter Try.func76, Try.ntmps76
  go_wp2_with fail
  refine (implIsFont_any f A cap lo _ HS.out hn HO.out).mono ?_
  rintro e w1 ⟨rfl, hb1⟩
  cases hv : fontB f
  · have HN : Hid (sowF f s = none) := by show sowF f s = none; unfold sowF; rw [hv]; rfl
    clear hv
    go_wp2
    go_ret2
    exact SetsTo.no HN.out hb1
  · have HFF := Lib.hid (fontB_iff.1 hv)
    have hn32 : f.length ≤ 32 := (fontB_iff.1 hv).2.2
    have HY0 : Hid (sowF f s = if isWordF s then setW f s else none) := by show sowF f s = _; unfold sowF; rw [hv]; rfl
    clear hv
    go_wp2_with fail
    refine (isWord_any s _ hs).mono ?_
    rintro e w2 ⟨rfl, hb2⟩
    have hb := hb1.trans (hb2.mono hb1.size)
    clear hb1 hb2
    cases hv : isWordF s
    · have HN : Hid (sowF f s = none) := by show sowF f s = none; rw [HY0.out, hv]; rfl
      clear hv
      go_wp2
      go_ret2
      exact SetsTo.no HN.out hb
    · have HY : Hid (sowF f s = setW f s) := by show sowF f s = _; rw [HY0.out, hv]; rfl
      have hw := isWord_len hv
      clear hv
      obtain ⟨i0, hi, hz0, hz1, hz2⟩ := info_parts info3
      have HI := Lib.hid hi; have HZ0 := Lib.hid hz0; have HZ1 := Lib.hid hz1; have HZ2 := Lib.hid hz2
      clear hi hz0 hz1 hz2
      go_wp2
      go_loopw [6, 7] (fun v t wr => ∃ (acc : List Nat) (p : Nat) (r : ByteArray), t = .string r ∧ r = s.extract p s.size ∧ SetSo f s acc p ∧ wr.ownsRow w.heap.size 3 1 v acc.length (ints acc) ∧ Below w.heap.size w wr) (fun _ t _ => (strLen t))
      case atStart => exact ⟨[], 0, s, rfl, rest_zero s, SetSo.start f s, own_nil _ _ _ _, hb⟩
      case round =>
        obtain ⟨acc, p, r, rfl, hr, hso, hown, hb⟩ := hrel
        have hp := hso.1
        have HSO := Lib.hid hso; clear hso
        have HOWN := Lib.hid hown; clear hown
        have hrs : r.size = s.size - p := by rw [hr, rest_size]
        have HR := Lib.hid hr; clear hr
        have HRS := Lib.hid hrs
        by_cases hlt : p < s.size
        · have hne : r.toList.isEmpty = false := by rw [empty_iff, decide_eq_false (by omega)]
          have hrm : r.size ≤ maxLen := by unfold maxLen; omega
          have H1 := Lib.hid (HS.out.below hb (Nat.le_refl _))
          clear hrs
          go_wp2_with fail
          refine (longestSort_any f A cap r lo _ H1.out hn HO.out hrm).mono ?_
          rintro e w3 ⟨rfl, hb3⟩
          have hbw := hb.trans (hb3.mono hb.size)
          have hownw := own_below HOWN.out hb3
          clear hb hb3 H1 HOWN
          cases hl : lastPre f r f.length with
          | none =>
            have hl' : lastPre f (s.extract p s.size) f.length = none := by rw [← HR.out]; exact hl
            have HNO := Lib.hid (HY.out.trans (HSO.out.no hlt hl'))
            clear hl hl' hownw
            have HW := Lib.hid hbw
            clear hbw
            go_wp2
            go_ret2
            exact SetsTo.no HNO.out HW.out
          | some i =>
            have hl' : lastPre f (s.extract p s.size) f.length = some i := by rw [← HR.out]; exact hl
            have hil := (lastPre_some hl').1
            have HSTEP := Lib.hid (HSO.out.step HFF.out hlt hl')
            have hle := (lastPre_some hl').2.1.length_le
            rw [rest_list, List.length_drop, len_list] at hle
            have hcl := HFF.out.size hil
            rw [codeAt_of hil] at HSTEP hcl hle
            rw [len_list] at HSTEP hcl hle
            have hal := HSO.out.2.1
            have hmx : acc.length + 1 ≤ maxLen := by unfold maxLen; omega
            have hcr : f[i].1.size ≤ r.size := by have := HRS.out; omega
            have HCUT : Hid (r.extract f[i].1.size r.size = s.extract (p + f[i].1.size) s.size) := by
              show _ = _
              have := HR.out
              subst this
              exact rest_cut s p _
            obtain ⟨bb, off, rfl, _, hbl, hc⟩ := HS.out (by omega)
            have hc0 := (hc i hil).1
            clear hl hl' hc hle
            dsimp only [optI, Option.isSome]
            go_wp2_with (at_builtin; refine wpList_append_own _ rfl _ _ 23 rfl w.heap.size 3 i0 (.int .i64 0) 1 8 Try.underlying23 HI.out HZ0.out HZ1.out HZ2.out rfl (by decide) _ _ _ rfl (hownw.alloc _) ⟨w3.heap.size, 0, none⟩ 1 1 [.int .i64 (i : Int)] rfl rfl (cell_one_new _ _ _) (by simp [Value.oneCell']) hmx (by omega) (by have := hbw.size; simp; omega) ?_)
            intro v' w4 hown' hgrow _
            have hb1 : Below w.heap.size w w4 := (hbw.alloc hbw.size _).grown hgrow (by have := hbw.size; simp; omega) (own_lt hownw)
            have hc1 := (hb1.cell (p := ⟨bb, off + i * 2, none⟩) hbl).trans hc0
            have HO1 : Hid (w4.ownsRow w.heap.size 3 1 v' (acc ++ [i]).length (ints (acc ++ [i]))) := by rw [List.length_append, ints_snoc]; exact hown'
            have HB1 := Lib.hid hb1
            clear hown' hgrow hb1 hbw hownw hc0
            go_wp2
            go_roundw
            case rel => exact ⟨acc ++ [i], p + f[i].1.size, _, rfl, HCUT.out, HSTEP.out, HO1.out, HB1.out⟩
            case measure =>
              show (r.extract f[i].1.size r.size).size < r.size
              rw [HCUT.out, rest_size]
              have := HRS.out
              omega
        · have hne : r.toList.isEmpty = true := by rw [empty_iff, decide_eq_true (by omega)]
          obtain rfl : p = s.size := by omega
          have HD := Lib.hid (HY.out.trans HSO.out.done)
          clear hrs
          go_wp2
          go_ret2
          exact SetsTo.yes HD.out hb HOWN.out
end Go.Proofs.Ytpbkeagpipipmaa.S1

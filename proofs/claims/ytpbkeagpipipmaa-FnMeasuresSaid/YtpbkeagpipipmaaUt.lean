/-
  The contracts of SpacesFor, in spec and in impl.
-/
import Derived.Test.YtpbkeagpipipmaaUs
namespace Go.Proofs.Ytpbkeagpipipmaa
open Go.RowKit
set_option linter.unusedVariables false

theorem own_len {w : World} {base n : Nat} {e : TypeId} {v : Value} {l : List Int} (h : w.ownsRow base e 1 v n (intsZ l)) : ∃ A c, v = .slice A n c ∧ IntsIn w A l := by
  obtain ⟨A, c, rfl, rfl, hi⟩ := own_ints h
  exact ⟨A, c, rfl, hi⟩
set_option maxRecDepth 100000 in
set_option maxHeartbeats 1000000 in
theorem implSpacesFor_any (f : Fnt) (A : Option Addr) (c : Nat) (l : List ByteArray) (B : Option Addr) (d : Nat) (r : Ru) (m : Int) (w : World) (hf : S1.SortsIn w 0 A f) (hn : f.length ≤ 1048576) (ho : S1.CodesOk f) (hg : S1.StrsIn w B l) (hw : S1.StrsOk l) (hm : l.length ≤ 1048576) : Calls Try.prog 37 #[.slice A f.length c, .slice B l.length d, .agg #[.int .i64 r.lst, .int .i64 r.nrm, .int .i64 r.mst], .int .i64 m] w fun e w' => EnTo w w' e (sfL f l r m) (sfB f l r m) := by
  have HF := Lib.hid hf; have HO := Lib.hid ho; have HG := Lib.hid hg; have HW := Lib.hid hw
  clear hf ho hg hw
  have HA : Hid (Below w.heap.size w (w.alloc (.cells #[.int .i64 r.lst, .int .i64 r.nrm, .int .i64 r.mst] 25))) := Lib.hid ((Below.refl _ _).alloc (Nat.le_refl _) _)
  have HR : Hid (RuAt (w.alloc (.cells #[.int .i64 r.lst, .int .i64 r.nrm, .int .i64 r.mst] 25)) w.heap.size 25 r) := Lib.hid (RuAt.new _ _ _)
  by_cases h20 : (20 : Int) < (l.length : Int)
  · have H := Lib.hid (sf_out (f := f) (r := r) (m := m) (l := l) (.inl (by omega)))
    go_enter Try.func37, Try.ntmps37
    go_wp2
    (refine bodyPost_ret (v := .tuple #[.slice none 0 0, .bool false]) (by simp [results, Try.results37, go_sem]) rfl ?_; exact EnTo.no (sf_no H.out) H.out HA.out)
  have H20 : Hid (l.length ≤ 20) := Lib.hid (by omega)
  go_enter Try.func37, Try.ntmps37
  go_wp2_with fail
  refine (widthsOfWords_any f A c l B d _ (HF.out.below HA.out (Nat.le_refl _)) hn HO.out (HG.out.below HA.out (Nat.le_refl _)) HW.out hm).mono ?_
  rintro e w1 ⟨v, T, rfl, hb, ho⟩
  have HB1 := Lib.hid (HA.out.trans (hb.mono HA.out.size))
  have HR1 := Lib.hid (HR.out.next hb)
  clear hb HR h20
  cases hal : allS f l
  · have H := Lib.hid (sf_out (f := f) (r := r) (m := m) (l := l) (.inr hal))
    clear hal ho
    go_wp2
    (refine bodyPost_ret (v := .tuple #[.slice none 0 0, .bool false]) (by simp [results, Try.results37, go_sem]) rfl ?_; exact EnTo.no (sf_no H.out) H.out HB1.out)
  have h20 := H20.out
  have HY := Lib.hid (sf_in (f := f) (l := l) r m h20 hal)
  rw [ww_yes hal, wdL_len] at ho
  obtain ⟨V, cV, rfl, hin⟩ := own_len ho
  have HIN := Lib.hid hin
  obtain ⟨m0, m1, m2⟩ := HR1.out.cells
  have ml := HR1.out.lt
  have KJ : Hid (∀ W, IntsIn W V (wdL f l) → Calls Try.prog 15 #[.slice V l.length cV, .agg #[.int .i64 r.lst, .int .i64 r.nrm, .int .i64 r.mst], .int .i64 m] W fun e w' => EnTo W w' e (sfL f l r m) (sfB f l r m)) := Lib.hid (fun W h => by
    have h2 := implJustifyLine_any (wdL f l) V cV r m W h (by rw [wdL_len]; omega)
    rw [wdL_len] at h2
    rw [HY.out.1, HY.out.2]
    exact h2)
  clear ho hin hal h20
  go_wp2_with fail
  refine (KJ.out _ HIN.out).mono ?_
  rintro e w7 ⟨v7, T7, rfl, hb7, ho7⟩
  have HB7 := Lib.hid (HB1.out.trans (hb7.mono HB1.out.size))
  have HO7 := Lib.hid (Joins.ownsRow_le ho7 HB1.out.size)
  clear hb7 ho7 m0 m1 m2 ml KJ
  go_wp2
  refine bodyPost_ret (v := .tuple #[v7, .bool (sfB f l r m)]) (by simp [results, Try.results37, go_sem]) rfl ?_
  exact ⟨v7, T7, rfl, HB7.out, HO7.out⟩
set_option maxRecDepth 100000 in
set_option maxHeartbeats 1000000 in
theorem specSpacesFor_any (f : Fnt) (A : Option Addr) (c : Nat) (l : List ByteArray) (B : Option Addr) (d : Nat) (r : Ru) (m : Int) (w : World) (hf : S1.SortsIn w 0 A f) (hn : f.length ≤ 1048576) (ho : S1.CodesOk f) (hg : S1.StrsIn w B l) (hw : S1.StrsOk l) (hm : l.length ≤ 1048576) : Calls Try.prog 38 #[.slice A f.length c, .slice B l.length d, .agg #[.int .i64 r.lst, .int .i64 r.nrm, .int .i64 r.mst], .int .i64 m] w fun e w' => EnTo w w' e (sfL f l r m) (sfB f l r m) := by
  have HF := Lib.hid hf; have HO := Lib.hid ho; have HG := Lib.hid hg; have HW := Lib.hid hw
  clear hf ho hg hw
  have HA : Hid (Below w.heap.size w (w.alloc (.cells #[.int .i64 r.lst, .int .i64 r.nrm, .int .i64 r.mst] 25))) := Lib.hid ((Below.refl _ _).alloc (Nat.le_refl _) _)
  have HR : Hid (RuAt (w.alloc (.cells #[.int .i64 r.lst, .int .i64 r.nrm, .int .i64 r.mst] 25)) w.heap.size 25 r) := Lib.hid (RuAt.new _ _ _)
  go_enter Try.func38, Try.ntmps38
  go_wp2_with fail
  refine (S1.tyFont_any f A c 0 _ (HF.out.below HA.out (Nat.le_refl _)) hn HO.out).mono ?_
  rintro e w1 ⟨rfl, hb⟩
  have HB1 := Lib.hid (HA.out.trans (hb.mono HA.out.size))
  have HR1 := Lib.hid (HR.out.next hb)
  clear hb HR
  cases hfo : S1.fontB f
  · have H := Lib.hid (sf_font (f := f) (l := l) (r := r) (m := m) hfo)
    clear hfo
    go_wp2
    (refine bodyPost_ret (v := .tuple #[.slice none 0 0, .bool false]) (by simp [results, Try.results38, go_sem]) rfl ?_; exact EnTo.no (sf_no H.out) H.out HB1.out)
  have HFO := Lib.hid hfo; clear hfo
  go_wp2_with fail
  refine (S1.tyWords_any l B d _ (HG.out.below HB1.out (Nat.le_refl _)) HW.out hm).mono ?_
  rintro e w2 ⟨rfl, hb⟩
  have HB2 := Lib.hid (HB1.out.trans (hb.mono HB1.out.size))
  have HR2 := Lib.hid (HR1.out.next hb)
  clear hb HR1
  cases hwo : S1.wordsB l
  · have H := Lib.hid (sf_words (f := f) (l := l) (r := r) (m := m) hwo)
    clear hwo
    go_wp2
    (refine bodyPost_ret (v := .tuple #[.slice none 0 0, .bool false]) (by simp [results, Try.results38, go_sem]) rfl ?_; exact EnTo.no (sf_no H.out) H.out HB2.out)
  have HWO := Lib.hid hwo; clear hwo
  go_wp2_with fail
  refine (l1In_any _ _ _ _).mono ?_
  rintro e w' ⟨rfl, rfl⟩
  cases hin : inB 1 20 (l.length : Int)
  · have H : Hid (sfB f l r m = false) := Lib.hid (by
      have h1 := inB_no.1 hin
      by_cases h2 : l.length ≤ 20
      · have h3 : l = [] := List.length_eq_zero_iff.1 (by omega)
        rw [h3]; exact sf_nil f r m
      · exact sf_out (.inl h2))
    clear hin
    go_wp2
    (refine bodyPost_ret (v := .tuple #[.slice none 0 0, .bool false]) (by simp [results, Try.results38, go_sem]) rfl ?_; exact EnTo.no (sf_no H.out) H.out HB2.out)
  have H20 : Hid (l.length ≤ 20) := Lib.hid (by have := inB_iff.1 hin; omega)
  clear hin
  go_wp2_with fail
  refine (juWidths_any f A c l B d _ (HF.out.below HB2.out (Nat.le_refl _)) HFO.out (HG.out.below HB2.out (Nat.le_refl _)) HWO.out).mono ?_
  rintro e w3 ⟨v, T, rfl, hb, ho⟩
  have HB3 := Lib.hid (HB2.out.trans (hb.mono HB2.out.size))
  have HR3 := Lib.hid (HR2.out.next hb)
  clear hb HR2
  cases hal : allS f l
  · have H := Lib.hid (sf_out (f := f) (r := r) (m := m) (l := l) (.inr hal))
    clear hal ho
    go_wp2
    (refine bodyPost_ret (v := .tuple #[.slice none 0 0, .bool false]) (by simp [results, Try.results38, go_sem]) rfl ?_; exact EnTo.no (sf_no H.out) H.out HB3.out)
  have h20 := H20.out
  have HY := Lib.hid (sf_in (f := f) (l := l) r m h20 hal)
  rw [ww_yes hal, wdL_len] at ho
  obtain ⟨V, cV, rfl, hin⟩ := own_len ho
  have HIN := Lib.hid hin
  obtain ⟨m0, m1, m2⟩ := HR3.out.cells
  have ml := HR3.out.lt
  have KJ : Hid (∀ W, IntsIn W V (wdL f l) → Calls Try.prog 16 #[.slice V l.length cV, .agg #[.int .i64 r.lst, .int .i64 r.nrm, .int .i64 r.mst], .int .i64 m] W fun e w' => EnTo W w' e (sfL f l r m) (sfB f l r m)) := Lib.hid (fun W h => by
    have h2 := specJustifyLine_any (wdL f l) V cV r m W h (by rw [wdL_len]; omega)
    rw [wdL_len] at h2
    rw [HY.out.1, HY.out.2]
    exact h2)
  clear ho hin hal h20
  go_wp2_with fail
  refine (KJ.out _ HIN.out).mono ?_
  rintro e w7 ⟨v7, T7, rfl, hb7, ho7⟩
  have HB7 := Lib.hid (HB3.out.trans (hb7.mono HB3.out.size))
  have HO7 := Lib.hid (Joins.ownsRow_le ho7 HB3.out.size)
  clear hb7 ho7 m0 m1 m2 ml KJ
  go_wp2
  refine bodyPost_ret (v := .tuple #[v7, .bool (sfB f l r m)]) (by simp [results, Try.results38, go_sem]) rfl ?_
  exact ⟨v7, T7, rfl, HB7.out, HO7.out⟩
end Go.Proofs.Ytpbkeagpipipmaa

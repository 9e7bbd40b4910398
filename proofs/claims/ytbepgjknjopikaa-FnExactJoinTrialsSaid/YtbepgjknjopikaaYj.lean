/-
  The contracts of slices.Grow of nothing, slices.Concat of two slices of ints, and impl.JoinTrials.
-/
import Derived.Test.YtbepgjknjopikaaYi
import Derived.Lib.AppendZerosOnto
import Derived.Lib.SliceRun
namespace Go.Proofs.Ytbepgjknjopikaa
open Go.RowKit
set_option linter.unusedVariables false

set_option maxRecDepth 100000 in
set_option maxHeartbeats 2000000 in
theorem growN_any (n : Nat) (w : World) (h1 : 1 ≤ n) (h8 : n ≤ 80) :
    Calls Try.prog 75 #[.slice none 0 0, .int .i64 (n : Int)] w fun e w' => RowTo w w' e [] := by
  obtain ⟨i0, hi, hz0, hz1, hz2⟩ := info_parts info_int
  have hold : (Builtin.firstCells i0.size 0 (.slice none 0 0)).run Try.prog w.drew = .ok ([] : List Value).toArray w.drew := by
    exact run_firstCells_none w.drew i0.size 0 0 0
  have hrz := Lib.run_append_grow_zeros (P := Try.prog) w 22 3 22 3 i0 (.int .i64 0) .i64 .i64 Try.underlying22 Try.underlying3 hi hz0 none 0 0 [] hold n (by omega) (by rw [hz1]; decide) (by omega) (by omega) (by rw [hz2]; omega) (by rw [hz2, Nat.zero_add]; exact growslice_fits (by omega) (by omega))
  have hG := grownCap_le_maxLen w (0 + n) 0 3 (by unfold maxLen; omega)
  have hG2 := grownCap_ge w (0 + n) 0 3
  have hsz : (([] : List Value).toArray ++ Builtin.zeroCells (Value.int .i64 0).cells n ++ Builtin.zeroCells (Value.int .i64 0).cells (grownCap w (0 + n) 0 3 - (0 + n))).size = grownCap w (0 + n) 0 3 := by
    generalize grownCap w (0 + n) 0 3 = G at *
    simp [Builtin.zeroCells, Value.cells]; omega
  generalize ([] : List Value).toArray ++ Builtin.zeroCells (Value.int .i64 0).cells n ++ Builtin.zeroCells (Value.int .i64 0).cells (grownCap w (0 + n) 0 3 - (0 + n)) = cs at *
  generalize grownCap w (0 + n) 0 3 = G at *
  rw [Nat.zero_add] at hrz
  have HO : Hid ((w.drew.alloc (.cells cs 3)).ownsRow w.heap.size 3 1 (.slice (some ⟨w.heap.size, 0, none⟩) 0 G) 0 (intsZ [])) := Lib.hid
    ⟨rfl, .inr ⟨w.heap.size, G, cs, rfl, Nat.le_refl _, heap_new _ _, Nat.zero_le _, hG, by omega, by simp [intsZ]⟩⟩
  have HB : Hid (Below w.heap.size w (w.drew.alloc (.cells cs 3))) := Lib.hid ((Below.refl w.heap.size w).drew.alloc (Nat.le_refl _) _)
  have HRZ := Lib.hid hrz
  have hG63 : G ≤ 9223372036854775807 := by unfold maxLen at hG; omega
  have hn1 : (1 : Int) ≤ (n : Int) := by omega
  clear hrz hold hi hz0 hz1 hz2 hG hsz hG2
  go_enter Try.func75, Try.ntmps75
  go_wp2_with (at_builtin; refine Lib.wpList_append_run _ rfl _ _ _ _ rfl _ _ rfl rfl _ _ HRZ.out ?_)
  go_wp2
  go_ret
  exact ⟨_, rfl, HB.out, HO.out⟩

set_option maxRecDepth 100000 in
set_option maxHeartbeats 2000000 in
theorem concat_any (l : List Int) (A : Addr) (c : Nat) (m : List Int) (B : Addr) (d g : Nat) (w : World) (hf : IntsIn w (some A) l) (hl : 1 ≤ l.length) (hn : l.length ≤ 40) (hg : IntsIn w (some B) m) (hm1 : 1 ≤ m.length) (hm : m.length ≤ 40)
    (hx : w.cell? ⟨g, 0, none⟩ = some (.slice (some A) l.length c)) (hy : w.cell? ⟨g, 1, none⟩ = some (.slice (some B) m.length d)) (hgl : g < w.heap.size) :
    Calls Try.prog 69 #[.slice (some ⟨g, 0, none⟩) 2 2] w fun e w' => RowTo w w' e (l ++ m) := by
  have HF := Lib.hid hf; have HM := Lib.hid hg; clear hf hg
  have HX := Lib.hid hx; have HY := Lib.hid hy
  obtain ⟨i0, hi, hz0, hz1, hz2⟩ := info_parts info_int
  have HI := Lib.hid hi; have HZ0 := Lib.hid hz0; have HZ1 := Lib.hid hz1; have HZ2 := Lib.hid hz2
  clear hi hz0 hz1 hz2
  obtain ⟨b, off, hA, hbl, hc⟩ := HF.out (by omega)
  obtain ⟨b', off', hB, hbl', hc'⟩ := HM.out (by omega)
  obtain rfl := Option.some.inj hA
  obtain rfl := Option.some.inj hB
  have HC := Lib.hid hc; have HC' := Lib.hid hc'
  clear hc hc' hA hB
  go_enter Try.func69, Try.ntmps69
  go_wp2
  go_loop [3, 11] (fun s i => (i = .int .i64 (0 : Int) ∧ s = .int .i64 (0 : Int)) ∨ (i = .int .i64 (1 : Int) ∧ s = .int .i64 (l.length : Int)) ∨ (i = .int .i64 (2 : Int) ∧ s = .int .i64 ((l.length : Int) + (m.length : Int)))) (fun _ i => 2 - (intOf i).toNat)
  case atStart => exact .inl ⟨rfl, rfl⟩
  case round =>
    rcases hrel with ⟨rfl, rfl⟩ | ⟨rfl, rfl⟩ | ⟨rfl, rfl⟩
    · go_wp2
      go_round
      case rel => exact .inr (.inl ⟨rfl, by first | rfl | simp⟩)
      case measure => simp [intOf]
    · go_wp2
      go_round
      case rel => exact .inr (.inr ⟨rfl, rfl⟩)
      case measure => simp [intOf]
    · go_wp2_with fail
      rw [show (l.length : Int) + (m.length : Int) = ((l.length + m.length : Nat) : Int) from by omega]
      refine (growN_any (l.length + m.length) _ (by omega) (by omega)).mono ?_
      rintro e w1 ⟨v, rfl, hb1, ho1⟩
      have HB1 := Lib.hid hb1; have HO1 := Lib.hid ho1
      clear hb1 ho1
      have hx1 := (HB1.out.cell (p := ⟨g, 0, none⟩) hgl).trans hx
      have hy1 := (HB1.out.cell (p := ⟨g, 1, none⟩) hgl).trans hy
      go_wp2
      go_loopw [6, 27] (fun v i wr => ((i = .int .i64 (0 : Int) ∧ wr.ownsRow w.heap.size 3 1 v 0 (intsZ [])) ∨ (i = .int .i64 (1 : Int) ∧ wr.ownsRow w.heap.size 3 1 v l.length (intsZ l)) ∨ (i = .int .i64 (2 : Int) ∧ wr.ownsRow w.heap.size 3 1 v (l ++ m).length (intsZ (l ++ m)))) ∧ Below w.heap.size w wr) (fun _ i _ => 2 - (intOf i).toNat)
      case atStart => exact ⟨.inl ⟨rfl, HO1.out⟩, HB1.out⟩
      case round =>
        obtain ⟨hr, hb⟩ := hrel
        have HB := Lib.hid hb; clear hb hx1 hy1 hx hy
        have hx2 := (HB.out.cell (p := ⟨g, 0, none⟩) hgl).trans HX.out
        have hy2 := (HB.out.cell (p := ⟨g, 1, none⟩) hgl).trans HY.out
        rcases hr with ⟨rfl, hv⟩ | ⟨rfl, hv⟩ | ⟨rfl, hv⟩
        · have HV := Lib.hid hv; clear hv
          have HNW := Lib.hid (news_ints (w := wr) (fun k hk => (HB.out.cell (p := ⟨b, off + k, none⟩) hbl).trans (HC.out k hk)))
          have hmx : 0 + l.length ≤ maxLen := by unfold maxLen; omega
          go_wp2_with (at_builtin; refine wpList_append_own _ rfl _ _ 22 rfl w.heap.size 3 i0 (.int .i64 0) 1 8 Try.underlying22 HI.out HZ0.out HZ1.out HZ2.out rfl (by decide) _ _ _ rfl HV.out ⟨b, off, none⟩ l.length c (intsZ l) rfl (by rw [intsZ_len]; omega) HNW.out (intsZ_one l) hmx (by omega) HB.out.size ?_)
          intro v' w4 hown' hgrow _
          have HB4 := Lib.hid (HB.out.grown hgrow HB.out.size (own_lt HV.out))
          have HO4 : Hid (w4.ownsRow w.heap.size 3 1 v' l.length (intsZ l)) := Lib.hid (by simpa [intsZ] using hown')
          clear hown' hgrow
          go_wp2
          go_roundw
          case rel => exact ⟨.inr (.inl ⟨rfl, HO4.out⟩), HB4.out⟩
          case measure => simp [intOf]
        · have HV := Lib.hid hv; clear hv
          have HNW := Lib.hid (news_ints (w := wr) (fun k hk => (HB.out.cell (p := ⟨b', off' + k, none⟩) hbl').trans (HC'.out k hk)))
          have hmx : l.length + m.length ≤ maxLen := by unfold maxLen; omega
          go_wp2_with (at_builtin; refine wpList_append_own _ rfl _ _ 22 rfl w.heap.size 3 i0 (.int .i64 0) 1 8 Try.underlying22 HI.out HZ0.out HZ1.out HZ2.out rfl (by decide) _ _ _ rfl HV.out ⟨b', off', none⟩ m.length d (intsZ m) rfl (by rw [intsZ_len]; omega) HNW.out (intsZ_one m) hmx (by omega) HB.out.size ?_)
          intro v' w4 hown' hgrow _
          have HB4 := Lib.hid (HB.out.grown hgrow HB.out.size (own_lt HV.out))
          have HO4 : Hid (w4.ownsRow w.heap.size 3 1 v' (l ++ m).length (intsZ (l ++ m))) := Lib.hid (by rw [intsZ_app, List.length_append]; exact hown')
          clear hown' hgrow
          go_wp2
          go_roundw
          case rel => exact ⟨.inr (.inr ⟨rfl, HO4.out⟩), HB4.out⟩
          case measure => simp [intOf]
        · have HV := Lib.hid hv; clear hv
          go_wp2
          go_ret
          exact ⟨_, rfl, HB.out, HV.out⟩
set_option maxRecDepth 100000 in
theorem implJoinTrials_any (l : List Int) (A : Option Addr) (c : Nat) (m : List Int) (B : Option Addr) (d : Nat) (w : World) (hf : IntsIn w A l) (hn : l.length ≤ 1048576) (hg : IntsIn w B m) (hm : m.length ≤ 1048576) :
    Calls Try.prog 45 #[.slice A l.length c, .slice B m.length d] w fun e w' => EnTo w w' e (joinV l m) (joinB l m) := by
  have HF := Lib.hid hf; have HM := Lib.hid hg; clear hf hg
  go_enter Try.func45, Try.ntmps45
  go_wp2_with fail
  refine (implIsTrial_any l A c _ HF.out hn).mono ?_
  rintro e w' ⟨rfl, rfl⟩
  cases hg : gaB l
  · have HK : Hid (joinB l m = false) := Lib.hid (by unfold joinB; rw [hg]; rfl)
    clear hg
    go_wp2
    refine bodyPost_ret (v := .tuple #[.slice none 0 0, .bool false]) (by simp [results, Try.results45, go_sem]) rfl ?_
    exact EnTo.no (joinV_no HK.out) HK.out (Below.refl _ _)
  have HGL := Lib.hid hg; clear hg
  go_wp2_with fail
  refine (implIsTrial_any m B d _ HM.out hm).mono ?_
  rintro e w' ⟨rfl, rfl⟩
  cases hg : gaB m
  · have HK : Hid (joinB l m = false) := Lib.hid (by unfold joinB; rw [hg]; simp)
    clear hg
    go_wp2
    refine bodyPost_ret (v := .tuple #[.slice none 0 0, .bool false]) (by simp [results, Try.results45, go_sem]) rfl ?_
    exact EnTo.no (joinV_no HK.out) HK.out (Below.refl _ _)
  have HGM := Lib.hid hg; clear hg
  have hl1 := (gaB_iff.1 HGL.out).one; have hl2 := (gaB_iff.1 HGL.out).most; have hm1 := (gaB_iff.1 HGM.out).one; have hm2 := (gaB_iff.1 HGM.out).most
  by_cases h40 : 40 < l.length + m.length
  · have HK : Hid (joinB l m = false) := Lib.hid (by unfold joinB; rw [decide_eq_false (by omega)]; simp)
    have h41 : (40 : Int) < (l.length : Int) + (m.length : Int) := by omega
    go_wp2
    refine bodyPost_ret (v := .tuple #[.slice none 0 0, .bool false]) (by simp [results, Try.results45, go_sem]) rfl ?_
    exact EnTo.no (joinV_no HK.out) HK.out (Below.refl _ _)
  have h41 : ¬ (40 : Int) < (l.length : Int) + (m.length : Int) := by omega
  have HK : Hid (joinB l m = true) := Lib.hid (by unfold joinB; rw [HGL.out, HGM.out, decide_eq_true (by omega)]; rfl)
  obtain ⟨b, off, rfl, hbl, hc⟩ := HF.out (by omega)
  obtain ⟨b', off', rfl, hbl', hc'⟩ := HM.out (by omega)
  clear hc hc'
  obtain ⟨W, hW⟩ : ∃ W, W = w.alloc (.cells #[.slice (some ⟨b, off, none⟩) l.length c, .slice (some ⟨b', off', none⟩) m.length d] 22) := ⟨_, rfl⟩
  have HW := Lib.hid hW
  have HB : Hid (Below w.heap.size w W) := Lib.hid (by rw [hW]; exact (Below.refl _ _).alloc (Nat.le_refl _) _)
  have HXY : Hid (W.cell? ⟨w.heap.size, 0, none⟩ = some (.slice (some ⟨b, off, none⟩) l.length c) ∧ W.cell? ⟨w.heap.size, 1, none⟩ = some (.slice (some ⟨b', off', none⟩) m.length d) ∧ w.heap.size < W.heap.size) := Lib.hid (by rw [hW]; exact ⟨by simp, by simp, by simp⟩)
  clear hW
  go_wp2_with fail
  rw [← HW.out]
  go_wp2_with fail
  refine (concat_any l ⟨b, off, none⟩ c m ⟨b', off', none⟩ d w.heap.size W (HF.out.below HB.out (Nat.le_refl _)) hl1 hl2 (HM.out.below HB.out (Nat.le_refl _)) hm1 hm2 HXY.out.1 HXY.out.2.1 HXY.out.2.2).mono ?_
  rintro e w2 ⟨v, rfl, hb2, ho2⟩
  have HB2 := Lib.hid (HB.out.trans (hb2.mono HB.out.size))
  have HO2 := Lib.hid (Joins.ownsRow_le ho2 HB.out.size)
  clear hb2 ho2
  go_wp2
  refine bodyPost_ret (v := .tuple #[v, .bool true]) (by simp [results, Try.results45, go_sem]) rfl ?_
  exact EnTo.yes (joinV_yes HK.out) HK.out HB2.out HO2.out
end Go.Proofs.Ytbepgjknjopikaa

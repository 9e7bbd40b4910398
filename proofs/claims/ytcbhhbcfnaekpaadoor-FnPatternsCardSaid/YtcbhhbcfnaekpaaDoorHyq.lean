/-
  The contracts of spec.WordsOfExceptions and impl.WordsOfExceptions.
-/
import Derived.Test.YtcbhhbcfnaekpaaDoorHyp
import Derived.Test.YtcbhhbcfnaekpaaDoorHyj
import Derived.Test.YtcbhhbcfnaekpaaDoorTos
namespace Go.Proofs.YtcbhhbcfnaekpaaDoor
open Go.RowKit
set_option linter.unusedVariables false

def wxL (es : List ByteArray) : List ByteArray := if exsB es then es.map exW else []
theorem wx_no {es : List ByteArray} (h : exsB es = false) : wxL es = [] := by unfold wxL; rw [h]; rfl
theorem wx_yes {es : List ByteArray} (h : exsB es = true) : wxL es = es.map exW := by unfold wxL; rw [h]; rfl
theorem wx_short (es : List ByteArray) : (wxL es).length ≤ 20 := by
  cases h : exsB es
  · rw [wx_no h]; simp
  · rw [wx_yes h, List.length_map]; exact (exsB_all h).2
set_option maxRecDepth 100000 in
set_option maxHeartbeats 1000000 in
theorem specWordsOf_any (es : List ByteArray) (A : Option Addr) (c : Nat) (w : World) (hf : StrsIn w A es) (ho : StrsLe es) (hn : es.length ≤ 1048576) :
    Calls Tryd.prog 36 #[.slice A es.length c] w fun e w' => ∃ v, e = .returned (.tuple #[v, .bool (exsB es)]) ∧ Below w.heap.size w w' ∧ w'.ownsRow w.heap.size 9 1 v (wxL es).length (strs (wxL es)) := by
  obtain ⟨i0, hi, hz0, hz1, hz2⟩ := info_parts info9
  have HI0 := Lib.hid hi; have HZ0 := Lib.hid hz0; have HZ1 := Lib.hid hz1; have HZ2 := Lib.hid hz2
  clear hi hz0 hz1 hz2
  have HF := Lib.hid hf; have HO := Lib.hid ho; clear hf ho
  cases hp : exsB es
  · have HP : Hid (hyB [] es = false) := Lib.hid (by rw [hyB_exs, hp])
    have HV := Lib.hid (wx_no hp)
    have HG := Lib.hid (hyGood_is [] none 0 es A c false w (noStrs _) noLe (by simp) HF.out HO.out hn HP)
    clear hp
    go_enter Tryd.func36, Tryd.ntmps36
    go_wp2_with fail
    refine HG.out.mono ?_
    rintro e w1 ⟨rfl, hb1⟩
    go_wp2
    go_ret2
    exact ⟨_, rfl, hb1, by rw [HV.out]; exact own_nil _ _ _ _⟩
  have HP : Hid (hyB [] es = true) := Lib.hid (by rw [hyB_exs, hp])
  have HV := Lib.hid (wx_yes hp)
  have HG := Lib.hid (hyGood_is [] none 0 es A c true w (noStrs _) noLe (by simp) HF.out HO.out hn HP)
  have HX := Lib.hid (exsB_all hp).1
  clear hp
  go_enter Tryd.func36, Tryd.ntmps36
  go_wp2_with fail
  refine HG.out.mono ?_
  rintro e w1 ⟨rfl, hb1⟩
  have HB0 := Lib.hid hb1
  clear hb1
  go_wp2
  go_loopw [4, 15] (fun v i wr => ∃ (k : Nat) (B : Option Addr) (d : Nat), k ≤ es.length ∧ i = .int .i64 k ∧ v = .slice B k d ∧ Hid (wr.ownsRow w.heap.size 9 1 (.slice B k d) k (strs ((es.take k).map exW))) ∧ Hid (Below w.heap.size w wr)) (fun _ i _ => es.length - (intOf i).toNat)
  case atStart => exact ⟨0, none, 0, Nat.zero_le _, rfl, rfl, Lib.hid (own_nil _ _ _ _), HB0⟩
  case round =>
    clear HB0
    obtain ⟨k, B, d, hk, rfl, rfl, HM, HB⟩ := hrel
    have hbs := HB.out.size
    by_cases hlt : k < es.length
    · obtain ⟨b, off, hA, hbl, hc⟩ := HF.out (by omega)
      subst hA
      have hc0 := (HB.out.cell (p := ⟨b, off + k, none⟩) hbl).trans (hc k hlt)
      clear hc
      have hok := HO.out k hlt
      have HE : Hid (exB es[k] = true) := Lib.hid (exsA_mem HX.out hlt)
      have HRW : Hid (strs ((es.take (k + 1)).map exW) = strs ((es.take k).map exW) ++ [.string (exW es[k])]) := Lib.hid (by rw [List.take_succ_eq_append_getElem hlt, List.map_append]; exact strs_snoc _ _)
      have hmx : k + 1 ≤ maxLen := by unfold maxLen; omega
      go_wp2_with fail
      refine (hyBare_is _ _ _ hok HE).mono ?_
      rintro e w2 ⟨A1, c1, rfl, hb2, -⟩
      have HM1 := Lib.hid (own_below HM.out hb2)
      have HB1 := Lib.hid (HB.out.trans (hb2.mono HB.out.size))
      have hbs2 := HB1.out.size
      clear hb2
      generalize exW es[k] = wd at *
      generalize (exP es[k]).length = pl at *
      go_wp2_with (at_builtin; refine wpList_append_own _ rfl _ _ 23 rfl w.heap.size 9 i0 (.string .empty) 1 16 Tryd.underlying23 HI0.out HZ0.out HZ1.out HZ2.out rfl (by decide) _ _ _ rfl (HM1.out.alloc _) ⟨w2.heap.size, 0, none⟩ 1 1 [.string wd] rfl rfl (cell_one_new _ _ _) (by simp [Value.oneCell']) hmx (by omega) (by simp; omega) ?_)
      intro v' w4 hown' hgrow _
      have hb4 : Below w.heap.size w w4 := below_append HB1.out hgrow HB1.out.size (own_lt HM1.out)
      rw [← List.map_take, ← HRW.out] at hown'
      obtain ⟨A4, c4, hv4⟩ := own_shape hown'
      subst hv4
      have HM4 := Lib.hid hown'; have HB4 := Lib.hid hb4
      clear hown' hgrow hb4
      go_wp2
      go_roundw
      case rel => exact ⟨k + 1, A4, c4, by omega, by go_num, rfl, HM4, HB4⟩
      case measure => simp [intOf]; omega
    · obtain rfl : k = es.length := by omega
      have HOF : Hid (wr.ownsRow w.heap.size 9 1 (.slice B es.length d) (wxL es).length (strs (wxL es))) := Lib.hid (by
        have h := HM.out
        rw [List.take_length] at h
        rw [HV.out, List.length_map]; exact h)
      go_wp2
      go_ret2
      exact ⟨_, rfl, HB.out, HOF.out⟩
theorem Marked.owns_s {w : World} {g n base : Nat} {e : TypeId} {l : List Value} (h : Marked w g e n l) (hl : l.length = n) (hb : base ≤ g) (hn : n ≤ maxLen) : w.ownsRow base e 1 (.slice (some ⟨g, 0, none⟩) n n) n l := by
  obtain ⟨cur, h1, h2, h3⟩ := h
  exact ⟨by omega, .inr ⟨g, n, cur, rfl, hb, h1, Nat.le_refl _, hn, by omega, by rw [Nat.mul_one, ← hl]; exact h3⟩⟩
set_option maxRecDepth 100000 in
set_option maxHeartbeats 1000000 in
theorem implWordsOf_any (es : List ByteArray) (A : Option Addr) (c : Nat) (w : World) (hf : StrsIn w A es) (ho : StrsLe es) (hn : es.length ≤ 1048576) (hy : LayB w) :
    Calls Tryd.prog 35 #[.slice A es.length c] w fun e w' => ∃ v, e = .returned (.tuple #[v, .bool (exsB es)]) ∧ Below w.heap.size w w' ∧ w'.ownsRow w.heap.size 9 1 v (wxL es).length (strs (wxL es)) := by
  have HF := Lib.hid hf; have HO := Lib.hid ho; have HY := Lib.hid hy; clear hf ho hy
  go_enter Tryd.func35, Tryd.ntmps35
  go_wp2_with fail
  refine (tableOf_any es A c _ HF.out HO.out hn HY.out).mono ?_
  rintro e w1 ⟨hb1, ⟨hp, x, rfl⟩ | ⟨hp, b0, hb0, rfl, ht⟩⟩
  · have HP := Lib.hid hp
    have HV := Lib.hid (wx_no hp)
    clear hp
    go_wp2
    go_ret2
    exact ⟨_, ret_vb HP.out.symm, hb1, by rw [HV.out]; exact own_nil _ _ _ _⟩
  have HP := Lib.hid hp
  have HV := Lib.hid (wx_yes hp)
  have HX := Lib.hid (exsB_all hp).1
  have h20 := (exsB_all hp).2
  have HB1 := Lib.hid hb1
  clear ht hp hb1
  have hmk := run_makeStr es.length hn
  have HST : Hid (Marked (w1.alloc (.cells (madeCells #[.string .empty] (es.length * 1)) 9)) w1.heap.size 9 es.length (strs ((es.take 0).map exW))) := Lib.hid ⟨_, heap_new _ _, by rw [size_madeCells]; omega, by simp [strs]⟩
  generalize hz : madeCells #[.string .empty] (es.length * 1) = cs0 at *
  clear hz
  go_wp2
  go_loopw [21] (fun i wr => ∃ (k : Nat), k ≤ es.length ∧ i = .int .i64 k ∧ Hid (Marked wr w1.heap.size 9 es.length (strs ((es.take k).map exW))) ∧ Hid (Below w1.heap.size w1 wr)) (fun i _ => es.length - (intOf i).toNat)
  case atStart => exact ⟨0, Nat.zero_le _, rfl, HST, Lib.hid ((Below.refl _ _).alloc (Nat.le_refl _) _)⟩
  case round =>
    clear HST hmk
    obtain ⟨k, hk, rfl, HM, HB⟩ := hrel
    have hw1 := HB1.out.size
    by_cases hlt : k < es.length
    · obtain ⟨b, off, hA, hbl, hc⟩ := HF.out (by omega)
      subst hA
      have hc0 := ((HB1.out.trans (HB.out.mono HB1.out.size)).cell (p := ⟨b, off + k, none⟩) hbl).trans (hc k hlt)
      clear hc
      have hok := HO.out k hlt
      have HE : Hid (exB es[k] = true) := Lib.hid (exsA_mem HX.out hlt)
      have HL : Hid ((strs ((es.take k).map exW)).length = k) := Lib.hid (by simp [strs]; omega)
      have HRW : Hid (strs ((es.take (k + 1)).map exW) = strs ((es.take k).map exW) ++ [.string (exW es[k])]) := Lib.hid (by rw [List.take_succ_eq_append_getElem hlt, List.map_append]; exact strs_snoc _ _)
      have HYR := Lib.hid (HY.out.below (HB1.out.trans (HB.out.mono HB1.out.size)))
      go_wp2_with fail
      refine (without_is _ _ hok HYR.out HE).mono ?_
      rintro e w2 ⟨rfl, hb2⟩
      have HM2 := Lib.hid (HM.out.below hb2)
      have HB2 := Lib.hid (HB.out.trans (hb2.mono HB.out.size))
      clear hb2 HYR
      obtain ⟨⟨u0, hu0⟩, hf0⟩ := HM2.out.at_ hlt
      have HM3 : Hid (Marked (w2.setCell ⟨w1.heap.size, k, none⟩ (.string (exW es[k]))) w1.heap.size 9 es.length (strs ((es.take (k + 1)).map exW))) := Lib.hid (by
        have h := HM2.out.step (by rw [HL.out]; exact hlt) (.string (exW es[k]))
        rw [HL.out, ← HRW.out] at h; exact h)
      have HB3 := Lib.hid (HB2.out.setCell (p := ⟨w1.heap.size, k, none⟩) (Nat.le_refl _) (.string (exW es[k])))
      have hlw : w1.heap.size < w2.heap.size := by obtain ⟨cur, q1, _⟩ := HM2.out; exact lt_of_heap q1
      generalize exW es[k] = wd at *
      go_wp2
      go_roundw
      case rel => exact ⟨k + 1, by omega, by go_num, HM3, HB3⟩
      case measure => simp [intOf]; omega
    · obtain rfl : k = es.length := by omega
      have HBF := Lib.hid (HB1.out.trans (HB.out.mono HB1.out.size))
      have HOF : Hid (wr.ownsRow w.heap.size 9 1 (.slice (some ⟨w1.heap.size, 0, none⟩) es.length es.length) (wxL es).length (strs (wxL es))) := Lib.hid (by
        have h := HM.out
        rw [List.take_length] at h
        rw [HV.out, List.length_map]
        exact h.owns_s (by simp [strs]) HB1.out.size (by unfold maxLen; omega))
      go_wp2
      go_ret2
      exact ⟨_, ret_vb HP.out.symm, HBF.out, HOF.out⟩
end Go.Proofs.YtcbhhbcfnaekpaaDoor

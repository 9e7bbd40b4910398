/-
  The contracts of impl.RoomOfEntry and impl.TightEntries.
-/
import Derived.Test.YteagclokobkigaaEz
namespace Go.Proofs.Yteagclokobkigaa
open Go.RowKit
set_option linter.unusedVariables false

theorem rmL_len (N : Nat) (l : List En) (g : Int) : (rmL N l g).length = l.length := by simp [rmL]
theorem rmL_at (N : Nat) (l : List En) (g : Int) {j : Nat} (h : j < l.length) : (rmL N l g)[j]'(by rw [rmL_len]; exact h) = rmV (N : Int) l g l[j] := by simp [rmL]
set_option maxRecDepth 100000 in
set_option maxHeartbeats 4000000 in
theorem implRoomOfEntry_any (n : Int) (f : List En) (A : Option Addr) (c : Nat) (g i : Int) (w : World) (hf : EnsIn w A f) (hn : f.length ≤ 1048576) (hr : EnR f) :
    Calls Try.prog 27 #[.int .i64 n, .slice A f.length c, .int .i64 g, .int .i64 i] w fun e w' => e = .returned (.tuple #[.int .i64 (roV n f g i), .bool (roB n f g i)]) ∧ Below w.heap.size w w' := by
  have HE : Hid (roB n f g i = (askT n f g && inB 0 ((f.length : Int) - 1) i)) := Lib.hid rfl
  have HF := Lib.hid hf; clear hf
  have HNV := Lib.hid (tabV_no (n := n) (f := f) (g := g) A c); have HYV := Lib.hid (tabV_yes (n := n) (f := f) (g := g) A c)
  go_enter Try.func27, Try.ntmps27
  go_wp2_with fail
  refine (newGapped_any n f A c g _ HF.out hn hr).mono ?_
  rintro e w1 ⟨rfl, hb1⟩
  have HB1 := Lib.hid hb1; clear hb1
  cases ha : askT n f g
  · have HA : Hid (roB n f g i = false) := Lib.hid (by rw [HE.out, ha]; rfl)
    have HV := Lib.hid (ro_no HA.out)
    rw [HNV.out ha]; clear ha
    go_wp2
    go_ret2
    exact ⟨ret_ib HV.out.symm HA.out.symm, HB1.out.alloc HB1.out.size _⟩
  · by_cases h1 : i < 0
    · have HA : Hid (roB n f g i = false) := Lib.hid (by rw [HE.out, inBs_no (a := 0) (c := i) (by omega), Bool.and_false])
      have HV := Lib.hid (ro_no HA.out)
      rw [HYV.out ha]; clear ha
      go_wp2
      go_ret2
      exact ⟨ret_ib HV.out.symm HA.out.symm, HB1.out.alloc HB1.out.size _⟩
    by_cases h2 : (f.length : Int) ≤ i
    · have HA : Hid (roB n f g i = false) := Lib.hid (by rw [HE.out, inBs_no (a := 0) (c := i) (by omega), Bool.and_false])
      have HV := Lib.hid (ro_no HA.out)
      rw [HYV.out ha]; clear ha
      go_wp2
      go_ret2
      exact ⟨ret_ib HV.out.symm HA.out.symm, HB1.out.alloc HB1.out.size _⟩
    have HA : Hid (roB n f g i = true) := Lib.hid (by rw [HE.out, ha, inBs_iff.2 ⟨by omega, by omega⟩]; rfl)
    obtain ⟨i, rfl⟩ : ∃ k : Nat, i = (k : Int) := ⟨i.toNat, by omega⟩
    have hil : i < f.length := by omega
    have hil' : (i : Int) < (f.length : Int) := by omega
    rw [HYV.out ha]
    obtain ⟨hG, h0, h36⟩ := askT_iff.1 ha
    obtain ⟨N, rfl, hN1, hN10⟩ := ask_nat ha
    have HG := Lib.hid hG
    have hl20 := hG.len
    have HAA := Lib.hid ha
    obtain ⟨w2, hw2⟩ : ∃ u : World, u = w1.alloc (.cells #[.int .i64 (N : Int), .slice A f.length c, .int .i64 g] 55) := ⟨_, rfl⟩
    have hb2 : Below w.heap.size w w2 := by rw [hw2]; exact HB1.out.alloc HB1.out.size _
    have hx2 : w2.heap[w1.heap.size]? = some (.cells #[.int .i64 (N : Int), .slice A f.length c, .int .i64 g] 55) := by rw [hw2]; exact heap_new _ _
    have HW2 := Lib.hid hw2; have HB2 := Lib.hid hb2
    have p0 : w2.cell? ⟨w1.heap.size, 0, none⟩ = some (.int .i64 (N : Int)) := by rw [cell_of_heap hx2]; rfl
    have p1 : w2.cell? ⟨w1.heap.size, 1, none⟩ = some (.slice A f.length c) := by rw [cell_of_heap hx2]; rfl
    have p2 : w2.cell? ⟨w1.heap.size, 2, none⟩ = some (.int .i64 g) := by rw [cell_of_heap hx2]; rfl
    clear hw2 hb2 hx2 ha hG
    have HV := Lib.hid (ro_yes hil HA.out)
    go_wp2_with fail
    rw [← HW2.out]
    refine (rooms_any N f A c g _ HG.out h0 h36 (HF.out.below HB2.out (Nat.le_refl _))).mono ?_
    rintro e w3 ⟨v, rfl, hb3, ho3⟩
    have HB3 := Lib.hid (HB2.out.trans (hb3.mono HB2.out.size))
    obtain ⟨A3, c3, hv3⟩ := own_form ho3
    subst hv3
    obtain ⟨b3, o3, hA3, hbl3, hc3⟩ := (own_in ho3) (by rw [rmL_len]; omega)
    have e3 := hc3 i (by rw [rmL_len]; exact hil)
    rw [rmL_at N f g hil] at e3
    subst hA3
    rw [rmL_len]
    clear hb3 ho3 hc3 p0 p1 p2
    generalize rmV (N : Int) f g f[i] = rm at *
    go_wp2
    go_ret2
    exact ⟨ret_ib HV.out.symm HA.out.symm, HB3.out⟩
set_option maxRecDepth 100000 in
set_option maxHeartbeats 4000000 in
theorem implTightEntries_any (n : Int) (f : List En) (A : Option Addr) (c : Nat) (g : Int) (w : World) (hf : EnsIn w A f) (hn : f.length ≤ 1048576) (hr : EnR f) :
    Calls Try.prog 25 #[.int .i64 n, .slice A f.length c, .int .i64 g] w fun e w' => IntsB w w' e (teL n f g) (askT n f g) := by
  obtain ⟨i0, hi, hz0, hz1, hz2⟩ := info_parts info_int
  have HI := Lib.hid hi; have HZ0 := Lib.hid hz0; have HZ1 := Lib.hid hz1; have HZ2 := Lib.hid hz2
  clear hi hz0 hz1 hz2
  have HF := Lib.hid hf; clear hf
  have HNV := Lib.hid (tabV_no (n := n) (f := f) (g := g) A c); have HYV := Lib.hid (tabV_yes (n := n) (f := f) (g := g) A c)
  go_enter Try.func25, Try.ntmps25
  go_wp2_with fail
  refine (newGapped_any n f A c g _ HF.out hn hr).mono ?_
  rintro e w1 ⟨rfl, hb1⟩
  have HB1 := Lib.hid hb1; clear hb1
  cases ha : askT n f g
  · have HN := Lib.hid (te_no ha); have HA := Lib.hid ha
    rw [HNV.out ha]; clear ha
    go_wp2
    go_ret2
    exact ⟨_, 3, ret_vb HA.out.symm, HB1.out.alloc HB1.out.size _, by rw [HN.out]; exact own_nil _ _ _ _⟩
  have HV := Lib.hid (te_yes ha)
  rw [HYV.out ha]
  obtain ⟨hG, h0, h36⟩ := askT_iff.1 ha
  obtain ⟨N, rfl, hN1, hN10⟩ := ask_nat ha
  have HG := Lib.hid hG
  have hl20 := hG.len
  have HAA := Lib.hid ha
  obtain ⟨w2, hw2⟩ : ∃ u : World, u = w1.alloc (.cells #[.int .i64 (N : Int), .slice A f.length c, .int .i64 g] 55) := ⟨_, rfl⟩
  have hb2 : Below w.heap.size w w2 := by rw [hw2]; exact HB1.out.alloc HB1.out.size _
  have hx2 : w2.heap[w1.heap.size]? = some (.cells #[.int .i64 (N : Int), .slice A f.length c, .int .i64 g] 55) := by rw [hw2]; exact heap_new _ _
  have HW2 := Lib.hid hw2; have HB2 := Lib.hid hb2
  have p0 : w2.cell? ⟨w1.heap.size, 0, none⟩ = some (.int .i64 (N : Int)) := by rw [cell_of_heap hx2]; rfl
  have p1 : w2.cell? ⟨w1.heap.size, 1, none⟩ = some (.slice A f.length c) := by rw [cell_of_heap hx2]; rfl
  have p2 : w2.cell? ⟨w1.heap.size, 2, none⟩ = some (.int .i64 g) := by rw [cell_of_heap hx2]; rfl
  clear hw2 hb2 hx2 ha hG
  go_wp2_with fail
  rw [← HW2.out]
  refine (rooms_any N f A c g _ HG.out h0 h36 (HF.out.below HB2.out (Nat.le_refl _))).mono ?_
  rintro e w3 ⟨v, rfl, hb3, ho3⟩
  have HB3 := Lib.hid (HB2.out.trans (hb3.mono HB2.out.size))
  obtain ⟨A3, c3, hv3⟩ := own_form ho3
  subst hv3
  have HI3 := Lib.hid (own_in ho3)
  rw [rmL_len]
  clear hb3 ho3 p0 p1 p2
  go_wp2
  go_loopw [10, 25] (fun v i wr => ∃ k : Nat, k ≤ f.length ∧ i = .int .i64 (k : Int) ∧ wr.ownsRow w3.heap.size 3 1 v (tiK (N : Int) f g k).length (intsZ (tiK (N : Int) f g k)) ∧ Below w3.heap.size w3 wr) (fun _ i _ => f.length - (intOf i).toNat)
  case atStart => exact ⟨0, Nat.zero_le _, rfl, own_nil _ _ _ _, Below.refl _ _⟩
  case round =>
    obtain ⟨k, hk, rfl, hv, hb3⟩ := hrel
    have hb := hb3
    have hkl := tiK_len (N : Int) f g k
    by_cases hlt : k < f.length
    · have HVV := Lib.hid hv; have HB := Lib.hid hb
      have HYES := Lib.hid (tiK_yes (n := (N : Int)) (g := g) hlt); have HNOK := Lib.hid (tiK_no (n := (N : Int)) (g := g) hlt)
      obtain ⟨b3, o3, hA3, hbl3, hc3⟩ := HI3.out (by rw [rmL_len]; omega)
      have e3 := hc3 k (by rw [rmL_len]; exact hlt)
      rw [rmL_at N f g hlt, ← hb3.cell (p := ⟨b3, o3 + k, none⟩) hbl3] at e3
      subst hA3
      have HB3R := Lib.hid hb3
      have hkl' : (k : Int) < (f.length : Int) := by omega
      clear hv hb hc3 hb3
      generalize rmV (N : Int) f g f[k] = rm at *
      by_cases hx : rm = 0
      · have HK := Lib.hid (HYES.out hx)
        subst hx
        have hmx : (tiK (N : Int) f g k).length + 1 ≤ maxLen := by unfold maxLen; omega
        have hww := HB.out.size
        go_wp2_with (at_builtin; refine wpList_append_own_at _ rfl _ _ 27 rfl w3.heap.size 3 i0 (.int .i64 0) 1 8 Try.underlying27 HI.out HZ0.out HZ1.out HZ2.out rfl (by decide) _ _ _ rfl (HVV.out.alloc _) ⟨wr.heap.size, 0, none⟩ 1 1 [.int .i64 (k : Int)] rfl rfl (cell_one_new _ _ _) (by simp [Value.oneCell']) hmx (by omega) (by first | (simp; done) | (simp; omega) | omega) ?_)
        intro v' w5 hown' hgrow _ hat
        have HB5 := Lib.hid ((HB.out.alloc HB.out.size (.cells #[.int .i64 (k : Int)] 3)).grown hgrow (by simp; omega) (fun q hq => by have := own_lt HVV.out q hq; omega))
        have HO5 : Hid (w5.ownsRow w3.heap.size 3 1 v' (tiK (N : Int) f g (k + 1)).length (intsZ (tiK (N : Int) f g (k + 1)))) := by
          show World.ownsRow _ _ _ _ _ _ _
          rw [HK.out, intsZ_snoc, List.length_append]; exact hown'
        clear hown' hgrow hat
        go_wp2
        go_roundw
        case rel => exact ⟨k + 1, by omega, by go_num, HO5.out, HB5.out⟩
        case measure => simp [intOf]; omega
      · have HK := Lib.hid (HNOK.out hx)
        have hxb : (rm == 0) = false := by simp [hx]
        go_wp2
        go_roundw
        case rel => exact ⟨k + 1, by omega, by go_num, by rw [HK.out]; exact HVV.out, HB.out⟩
        case measure => simp [intOf]; omega
    · obtain rfl : k = f.length := by omega
      go_wp2
      go_ret2
      exact ⟨_, _, ret_vb HAA.out.symm, HB3.out.trans (hb3.mono HB3.out.size), by rw [HV.out]; exact own_up2 hv HB3.out.size⟩
end Go.Proofs.Yteagclokobkigaa

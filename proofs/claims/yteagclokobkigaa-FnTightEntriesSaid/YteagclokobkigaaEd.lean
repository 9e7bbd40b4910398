/-
  The contracts of spec.tbStarts, tbWidth, tbWidths.
-/
import Derived.Test.YteagclokobkigaaEc
import Derived.Test.YteagclokobkigaaIntsE
import Derived.Test.YteagclokobkigaaVb
import Derived.BigRegion
import Derived.Deep.RegionLaw
import Derived.Deep.DeepCutAuto
import Derived.Lib.SliceRun
import Derived.Maps.AppendAt
namespace Go.Proofs.Yteagclokobkigaa
open Go.RowKit
set_option linter.unusedVariables false

theorem l1Most_any (a b : Int) (w : World) : Calls Try.prog 50 #[.int .i64 a, .int .i64 b] w fun e w' => e = .returned (.int .i64 (max a b)) ∧ w = w' := by
  by_cases h : b < a
  · have hm : max a b = a := by omega
    have HM := Lib.hid hm; clear hm
    go_enter Try.func50, Try.ntmps50
    go_wp2
    go_ret
    exact ⟨ret_int HM.out.symm, rfl⟩
  · have hm : max a b = b := by omega
    have HM := Lib.hid hm; clear hm
    go_enter Try.func50, Try.ntmps50
    go_wp2
    go_ret
    exact ⟨ret_int HM.out.symm, rfl⟩
theorem stL_succ' (l : List En) (g : Int) (k : Nat) : stL l g (k + 1) = stL l g k ++ [stV l g k] := rng_succ _ _
theorem stL_len' (l : List En) (g : Int) (k : Nat) : (stL l g k).length = k := rng_len _ _
theorem stL_get (l : List En) (g : Int) {k j : Nat} (h : j < (stL l g k).length) : (stL l g k)[j] = stV l g j := rng_at _ _
/-- A new row of ints of the call's own, and the blocks that were there as they were. -/
def IntsOf (w w' : World) (e : Ending) (L : List Int) : Prop := ∃ v, e = .returned v ∧ Below w.heap.size w w' ∧ w'.ownsRow w.heap.size 3 1 v L.length (intsZ L)
theorem one_row (w : World) (x : Int) : (w.alloc (.cells #[.int .i64 x] 3)).ownsRow w.heap.size 3 1 (.slice (some ⟨w.heap.size, 0, none⟩) 1 1) 1 (intsZ [x]) :=
  ⟨rfl, .inr ⟨w.heap.size, 1, _, rfl, Nat.le_refl _, heap_new _ _, Nat.le_refl _, by unfold maxLen; omega, rfl, rfl⟩⟩
set_option maxRecDepth 100000 in
set_option maxHeartbeats 4000000 in
theorem tbStarts_any (N : Nat) (l : List En) (A : Option Addr) (c : Nat) (g : Int) (w : World) (hG : GoodT (N : Int) l) (h0 : 0 ≤ g) (h36 : g ≤ 36) (hf : EnsIn w A l) :
    Calls Try.prog 43 #[.int .i64 (N : Int), .slice A l.length c, .int .i64 g] w fun e w' => IntsOf w w' e (stL l g (N + 1)) := by
  have HF := Lib.hid hf; have HG := Lib.hid hG; clear hf hG
  obtain ⟨i0, hi, hz0, hz1, hz2⟩ := info_parts info_int
  have HI := Lib.hid hi; have HZ0 := Lib.hid hz0; have HZ1 := Lib.hid hz1; have HZ2 := Lib.hid hz2
  clear hi hz0 hz1 hz2
  have hN1 : 1 ≤ N := by have := HG.out.n0; omega
  have hN10 : N ≤ 10 := by have := HG.out.n1; omega
  have hl20 : l.length ≤ 20 := HG.out.len
  have HO0 := Lib.hid (one_row w 0)
  go_enter Try.func43, Try.ntmps43
  go_wp2
  go_loopw [7, 8] (fun v i wr => ∃ k : Nat, k ≤ N ∧ i = .int .i64 ((k : Int) + 1) ∧ wr.ownsRow w.heap.size 3 1 v (stL l g (k + 1)).length (intsZ (stL l g (k + 1))) ∧ Below w.heap.size w wr) (fun _ i _ => N + 1 - (intOf i).toNat)
  case atStart => exact ⟨0, Nat.zero_le _, rfl, HO0.out, (Below.refl _ _).alloc (Nat.le_refl _) _⟩
  case round =>
    obtain ⟨ws, hws⟩ : ∃ u : World, u = wr := ⟨_, rfl⟩
    subst hws
    obtain ⟨k, hk, rfl, hv, hb⟩ := hrel
    obtain ⟨A1, c1, rfl⟩ := own_form hv
    have HV := Lib.hid hv; have HB := Lib.hid hb
    have hll := stL_len' l g (k + 1)
    clear hv hb HO0
    by_cases hlt : k < N
    · have hlt' : (k : Int) + 1 ≤ (N : Int) := by omega
      obtain ⟨b1, o1, hA1, hbl1, hc1⟩ := (own_in HV.out) (by omega)
      have hk1 := hc1 k (by omega)
      rw [stL_get] at hk1
      subst hA1
      have HC1 := Lib.hid hc1
      have HBD := stV_all HG.out.all h0 h36 (k := k) (by omega)
      have HSU := Lib.hid (stL_succ' l g (k + 1))
      have HSV := Lib.hid (stV_succ HG.out.all g k)
      have HEA := Lib.hid (enK_all l g k)
      rw [hll] at HV ⊢
      clear hc1
      have hk0 : (k : Int) + 1 - 1 = (k : Int) := by omega
      go_wp2
      go_loopw [9, 27] (fun s i wx => ∃ m : Nat, m ≤ l.length ∧ i = .int .i64 (m : Int) ∧ s = .int .i64 (enK l g k m + g) ∧ Below ws.heap.size ws wx) (fun _ i _ => l.length - (intOf i).toNat)
      case atStart => exact ⟨0, Nat.zero_le _, rfl, rfl, Below.refl _ _⟩
      case round =>
        obtain ⟨m, hm, rfl, rfl, hbm⟩ := hrel
        have HBM := Lib.hid hbm
        have HBW := Lib.hid (HB.out.trans (hbm.mono HB.out.size))
        clear hk1
        by_cases hml : m < l.length
        · obtain ⟨b, off, hA', hbl, hc⟩ := HF.out (by omega)
          obtain ⟨hc0, hc1, hc2⟩ := hc m hml
          clear hc
          rw [← HBW.out.cell (p := ⟨b, off + m * 3, none⟩) hbl] at hc0
          rw [← HBW.out.cell (p := ⟨b, off + m * 3 + 1, none⟩) hbl] at hc1
          rw [← HBW.out.cell (p := ⟨b, off + m * 3 + 2, none⟩) hbl] at hc2
          subst hA'
          have HBE := Lib.hid (enK_bd HG.out.all h0 h36 (k := k) (by omega) m)
          have HYES := Lib.hid (fun h => enK_yes (g := g) (k := k) hml h)
          have HNO := Lib.hid (fun h => enK_no (g := g) (k := k) hml h)
          have HOK := Lib.hid (HG.out.en hml)
          generalize l[m] = x at *
          rcases x with ⟨p, q, r⟩
          obtain ⟨o1', o2, o3, o4, o5, o6⟩ := HOK.out
          simp only at o1' o2 o3 o4 o5 o6 hc0 hc1 hc2
          obtain ⟨p', rfl⟩ : ∃ p' : Nat, p = (p' : Int) := ⟨p.toNat, by omega⟩
          obtain ⟨W0, hW0⟩ : ∃ W0 : World, W0 = wr.alloc (.cells #[.int .i64 (p' : Int), .int .i64 q, .int .i64 r] 36) := ⟨_, rfl⟩
          have hb0 : Below ws.heap.size ws W0 := by rw [hW0]; exact hbm.alloc hbm.size _
          have s0 : W0.cell? ⟨wr.heap.size, 0, none⟩ = some (.int .i64 (p' : Int)) := by rw [hW0]; simp
          have s2 : W0.cell? ⟨wr.heap.size, 2, none⟩ = some (.int .i64 r) := by rw [hW0]; simp
          have hz0 : wr.heap.size < W0.heap.size := by rw [hW0]; simp
          have HB0 := Lib.hid hb0; have HW0 := Lib.hid hW0
          have hbe := HBE.out
          clear hbm
          by_cases hy : (p' : Int) + q = (k : Int) + 1
          · have hpk : p' < k + 1 := by omega
            have st := HC1.out p' (by omega)
            rw [stL_get] at st
            have ht0 := (hb0.cell (p := ⟨b1, o1 + p', none⟩) hbl1).trans st
            have y0 := KeptW.cell s0 hz0
            have y2 := KeptW.cell s2 hz0
            have yt := KeptW.cell ht0 (show b1 < W0.heap.size by have := hb0.size; omega)
            have HE := Lib.hid (HYES.out hy)
            have hsb := stV_all HG.out.all h0 h36 (k := p') (by omega)
            simp only [Int.toNat_natCast] at HE
            have hpk' : (p' : Int) < ((k + 1 : Nat) : Int) := by omega
            generalize enK l g k m = e0 at *
            generalize stV l g p' = t0 at *
            clear hb0 s0 s2 ht0 st hW0
            have hmaxE : max (e0 + g) (t0 + r + g) = max e0 (t0 + r) + g := by omega
            have HMX := Lib.hid hmaxE; clear hmaxE
            go_wp2_with fail
            rw [← HW0.out]
            refine region_kept W0.heap.size (by kernel_rfl) (by kernel_rfl) ?_
            repeat (go_big_quiet_step ((go_at_call 50; exact kept_same _ (l1Most_any _ _ _))))
            refine wpQuiet_nil ?_
            intro w1 hb1
            have HB3 := Lib.hid (HB0.out.trans (hb1.mono HB0.out.size))
            clear hb1 y0 y2 yt
            go_wp2
            go_roundw
            case rel => exact ⟨m + 1, by omega, by go_num, by rw [HE.out, HMX.out], HB3.out⟩
            case measure => simp [intOf]; omega
          · have HE := Lib.hid (HNO.out hy)
            generalize enK l g k m = e0 at *
            clear hb0 s0 s2 hW0
            go_wp2_with fail
            rw [← HW0.out]
            go_wp2
            go_roundw
            case rel => exact ⟨m + 1, by omega, by go_num, by rw [HE.out], HB0.out⟩
            case measure => simp [intOf]; omega
        · obtain rfl : m = l.length := by omega
          have hmx : (k + 1) + 1 ≤ maxLen := by unfold maxLen; omega
          have HVW := Lib.hid (own_below HV.out hbm)
          have hwz := HBW.out.size
          rw [HEA.out, ← HSV.out]
          have hsv := stV_all HG.out.all h0 h36 (k := k + 1) (by omega)
          have HS2 := Lib.hid (stL_len' l g (k + 1 + 1))
          generalize stV l g (k + 1) = t1 at *
          clear hbm
          go_wp2_with (at_builtin; refine wpList_append_own_at _ rfl _ _ 27 rfl w.heap.size 3 i0 (.int .i64 0) 1 8 Try.underlying27 HI.out HZ0.out HZ1.out HZ2.out rfl (by decide) _ _ _ rfl (HVW.out.alloc _) ⟨wr.heap.size, 0, none⟩ 1 1 [.int .i64 t1] rfl rfl (cell_one_new _ _ _) (by simp [Value.oneCell']) hmx (by omega) (by first | (simp; done) | (simp; omega) | omega) ?_)
          intro v' w5 hown' hgrow _ hat
          have HB5 := Lib.hid ((HBW.out.alloc HBW.out.size (.cells #[.int .i64 t1] 3)).grown hgrow (by simp; omega) (fun q hq => by have := own_lt HVW.out q hq; omega))
          have HO5 : Hid (w5.ownsRow w.heap.size 3 1 v' (stL l g (k + 1 + 1)).length (intsZ (stL l g (k + 1 + 1)))) := by
            show World.ownsRow _ _ _ _ _ _ _
            rw [HS2.out, HSU.out, intsZ_snoc]; exact hown'
          clear hown' hgrow hat
          go_wp2
          go_roundw
          case rel => exact ⟨k + 1, by omega, by go_num, HO5.out, HB5.out⟩
          case measure => simp [intOf]; omega
    · obtain rfl : k = N := by omega
      go_wp2
      go_ret
      exact ⟨_, rfl, HB.out, HV.out⟩
end Go.Proofs.Yteagclokobkigaa

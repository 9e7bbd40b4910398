/-
  The latest starts: the contract of spec.tbLatest.
-/
import Derived.Test.YteagclokobkigaaEe
namespace Go.Proofs.Yteagclokobkigaa
open Go.RowKit
set_option linter.unusedVariables false

/-- The table on the way down: what lies at k and above is told, 0 below. -/
def ltF (T : Nat → Int) (N k : Nat) : Nat → Value := fun j => .int .i64 (if k ≤ j then T j else 0)
theorem ltF_put (T : Nat → Int) (N k : Nat) : (fun j => if j = k then Value.int .i64 (T k) else ltF T N (k + 1) j) = ltF T N k := by
  funext j
  unfold ltF
  by_cases h : j = k
  · subst h; rw [if_pos rfl, if_pos (Nat.le_refl _)]
  · rw [if_neg h]
    by_cases h2 : k + 1 ≤ j
    · rw [if_pos h2, if_pos (by omega)]
    · rw [if_neg h2, if_neg (by omega)]
theorem ltF_at (T : Nat → Int) (N : Nat) {k j : Nat} (h : k ≤ j) : ltF T N k j = .int .i64 (T j) := by unfold ltF; rw [if_pos h]
theorem ltF_top (T : Nat → Int) (N : Nat) {j : Nat} (h : j < N + 1) : (if j = N + 1 then Value.int .i64 (T (N + 1)) else .int .i64 0) = ltF T N (N + 1) j := by
  unfold ltF; rw [if_neg (by omega), if_neg (by omega)]
theorem leastM_any (a b : Int) (w : World) : Calls Try.prog 71 #[.int .i64 a, .int .i64 b] w fun e w' => e = .returned (.int .i64 (min a b)) ∧ w = w' := by
  by_cases h : a < b
  · have hm : min a b = a := by omega
    have HM := Lib.hid hm; clear hm
    go_enter Try.func71, Try.ntmps71
    go_wp2
    go_ret
    exact ⟨ret_int HM.out.symm, rfl⟩
  · have hm : min a b = b := by omega
    have HM := Lib.hid hm; clear hm
    go_enter Try.func71, Try.ntmps71
    go_wp2
    go_ret
    exact ⟨ret_int HM.out.symm, rfl⟩
/-- A table of ints of the call's own. -/
def TabTo (w w' : World) (e : Ending) (n : Nat) (f : Nat → Value) : Prop := ∃ b, e = .returned (.slice (some ⟨b, 0, none⟩) n n) ∧ Below w.heap.size w w' ∧ w.heap.size ≤ b ∧ Tb w' b 3 n f
set_option maxRecDepth 100000 in
set_option maxHeartbeats 4000000 in
theorem tbLatest_any (N : Nat) (l : List En) (A : Option Addr) (c : Nat) (g t : Int) (w : World) (hG : GoodT (N : Int) l) (h0 : 0 ≤ g) (h36 : g ≤ 36) (ht0 : 0 ≤ t) (ht1 : t ≤ 100000) (hf : EnsIn w A l) :
    Calls Try.prog 64 #[.int .i64 (N : Int), .slice A l.length c, .int .i64 g, .int .i64 t] w fun e w' => TabTo w w' e (N + 1) (ltF (ltV (N : Int) l g t) N 0) := by
  have HF := Lib.hid hf; have HG := Lib.hid hG; clear hf hG
  have hN1 : 1 ≤ N := by have := HG.out.n0; omega
  have hN10 : N ≤ 10 := by have := HG.out.n1; omega
  have hl20 : l.length ≤ 20 := HG.out.len
  obtain ⟨T, hT⟩ : ∃ T : Nat → Int, T = ltV (N : Int) l g t := ⟨_, rfl⟩
  obtain ⟨K, hK⟩ : ∃ K : Nat → Nat → Int, K = ltK (N : Int) l g t := ⟨_, rfl⟩
  have HEND : Hid (T N = t + g) := Lib.hid (by rw [hT]; have := ltV_end (N : Int) l g t; rw [Int.toNat_natCast] at this; exact this)
  have HBD : Hid (∀ k, t + g - 6360 ≤ T k ∧ T k ≤ t + g) := Lib.hid (fun k => by rw [hT]; exact ltV_bd HG.out h0 h36 k)
  have HKB : Hid (∀ k i, k < N → t - 6960 ≤ K k i ∧ K k i ≤ t) := Lib.hid (fun k i hk => by rw [hK]; exact ltK_bd HG.out h0 h36 (by rw [Int.toNat_natCast]; exact hk) i)
  have HK0 : Hid (∀ k, k < N → K k 0 = T (k + 1) - g) := Lib.hid (fun k hk => by rw [hK, hT]; exact ltK_zero (by rw [Int.toNat_natCast]; exact hk))
  have HKA : Hid (∀ k, k < N → K k l.length = T k) := Lib.hid (fun k hk => by rw [hK, hT]; exact ltK_all HG.out.all (by rw [Int.toNat_natCast]; exact hk))
  have HKY : Hid (∀ k i (hi : i < l.length), k < N → l[i].col = (k : Int) → K k (i + 1) = min (K k i) (T (k + l[i].spa.toNat) - l[i].wid - g)) := Lib.hid (fun k i hi hk h => by rw [hK, hT]; exact ltK_yes HG.out.all (by rw [Int.toNat_natCast]; exact hk) hi h)
  have HKN : Hid (∀ k i (hi : i < l.length), k < N → ¬ l[i].col = (k : Int) → K k (i + 1) = K k i) := Lib.hid (fun k i hi hk h => by rw [hK]; exact ltK_no (by rw [Int.toNat_natCast]; exact hk) hi h)
  rw [← hT]
  clear hT hK
  obtain ⟨w1, hw1⟩ : ∃ u : World, u = w.alloc (.cells (madeCells #[.int .i64 0] ((N + 1) * 1)) 3) := ⟨_, rfl⟩
  have hmk : (Instr.makeSlice 27 (.int .i64 ((N : Int) + 1)) (.int .i64 ((N : Int) + 1))).run Try.prog w = .ok (.slice (some ⟨w.heap.size, 0, none⟩) (N + 1) (N + 1)) w1 := by
    rw [hw1]; have h := run_makeI (N + 1) (by omega) w; rw [show ((N + 1 : Nat) : Int) = (N : Int) + 1 from by omega] at h; exact h
  have hb1 : Below w.heap.size w w1 := by rw [hw1]; exact (Below.refl _ _).alloc (Nat.le_refl _) _
  have hT1 : Tb w1 w.heap.size 3 (N + 1) (ltF T N (N + 1)) := by
    rw [hw1]; exact (made_int w (N + 1) 3).cong (fun j hj => by unfold ltF; rw [if_neg (by omega)])
  have hNl : (N : Int) < ((N + 1 : Nat) : Int) := by omega
  have uN := hT1.cell (j := N) (by omega); have fN := hT1.free N
  have HT2 : Hid (Tb (w1.setCell ⟨w.heap.size, N, none⟩ (.int .i64 (t + g))) w.heap.size 3 (N + 1) (ltF T N N)) := Lib.hid (by
    rw [← HEND.out, ← ltF_put]; exact hT1.set N _)
  have HB2 := Lib.hid (hb1.setCell (p := ⟨w.heap.size, N, none⟩) (Nat.le_refl _) (.int .i64 (t + g)))
  clear hw1 hb1 hT1
  go_enter Try.func64, Try.ntmps64
  go_wp2
  clear uN fN hmk
  obtain ⟨w2, hw2⟩ : ∃ u : World, u = w1.setCell ⟨w.heap.size, N, none⟩ (.int .i64 (t + g)) := ⟨_, rfl⟩
  rw [← hw2] at HT2 HB2 ⊢
  clear hw2
  go_loopw [10] (fun i wr => ∃ k : Nat, k ≤ N ∧ i = .int .i64 ((k : Int) - 1) ∧ Tb wr w.heap.size 3 (N + 1) (ltF T N k) ∧ Below w.heap.size w wr) (fun i _ => (intOf i + 1).toNat)
  case atStart => exact ⟨N, Nat.le_refl _, rfl, HT2.out, HB2.out⟩
  case round =>
    obtain ⟨ws, hws⟩ : ∃ u : World, u = wr := ⟨_, rfl⟩
    subst hws
    obtain ⟨k', hk, rfl, ht, hb⟩ := hrel
    have HTB := Lib.hid ht; have HB := Lib.hid hb
    clear ht hb HT2 HB2
    cases k' with
    | zero =>
      have hz : ((0 : Nat) : Int) - 1 = -1 := rfl
      rw [hz]
      go_wp2
      go_ret
      exact ⟨_, rfl, HB.out, Nat.le_refl _, HTB.out⟩
    | succ k =>
      have hk1 : ((k + 1 : Nat) : Int) - 1 = (k : Int) := by omega
      rw [hk1]
      have hk0 : (0 : Int) ≤ (k : Int) := by omega
      have hkl : (k : Int) + 1 < ((N + 1 : Nat) : Int) := by omega
      have uk := HTB.out.cell (j := k + 1) (by omega)
      rw [ltF_at _ _ (Nat.le_refl _)] at uk
      have hbd := HBD.out (k + 1)
      have hkk : ((k : Int) + 1).toNat = k + 1 := by omega
      have HKZ := Lib.hid (HK0.out k (by omega))
      go_wp2
      go_loopw [11, 38] (fun s i wx => ∃ m : Nat, m ≤ l.length ∧ i = .int .i64 (m : Int) ∧ s = .int .i64 (K k m) ∧ Below ws.heap.size ws wx) (fun _ i _ => l.length - (intOf i).toNat)
      case atStart => exact ⟨0, Nat.zero_le _, rfl, by rw [HKZ.out], Below.refl _ _⟩
      case round =>
        obtain ⟨m, hm, rfl, rfl, hbm⟩ := hrel
        have HBM := Lib.hid hbm
        have HBW := Lib.hid (HB.out.trans (hbm.mono HB.out.size))
        clear uk hbd
        by_cases hml : m < l.length
        · obtain ⟨b, off, hA', hbl, hc⟩ := HF.out (by omega)
          obtain ⟨hc0, hc1, hc2⟩ := hc m hml
          clear hc
          rw [← HBW.out.cell (p := ⟨b, off + m * 3, none⟩) hbl] at hc0
          rw [← HBW.out.cell (p := ⟨b, off + m * 3 + 1, none⟩) hbl] at hc1
          rw [← HBW.out.cell (p := ⟨b, off + m * 3 + 2, none⟩) hbl] at hc2
          subst hA'
          have hbe := HKB.out k m (by omega)
          have HYES := Lib.hid (HKY.out k m hml (by omega)); have HNO := Lib.hid (HKN.out k m hml (by omega))
          have HOK := Lib.hid (HG.out.en hml)
          generalize l[m] = x at *
          rcases x with ⟨p, q, r⟩
          obtain ⟨o1, o2, o3, o4, o5, o6⟩ := HOK.out
          simp only at o1 o2 o3 o4 o5 o6 hc0 hc1 hc2
          obtain ⟨q', rfl⟩ : ∃ q' : Nat, q = (q' : Int) := ⟨q.toNat, by omega⟩
          obtain ⟨W0, hW0⟩ : ∃ W0 : World, W0 = wr.alloc (.cells #[.int .i64 p, .int .i64 (q' : Int), .int .i64 r] 36) := ⟨_, rfl⟩
          have hb0 : Below ws.heap.size ws W0 := by rw [hW0]; exact hbm.alloc hbm.size _
          have s1 : W0.cell? ⟨wr.heap.size, 1, none⟩ = some (.int .i64 (q' : Int)) := by rw [hW0]; simp
          have s2 : W0.cell? ⟨wr.heap.size, 2, none⟩ = some (.int .i64 r) := by rw [hW0]; simp
          have hz0 : wr.heap.size < W0.heap.size := by rw [hW0]; simp
          have HB0 := Lib.hid hb0; have HW0 := Lib.hid hW0
          clear hbm
          by_cases hy : p = (k : Int)
          · subst hy
            have hkq : (k : Int) + (q' : Int) = ((k + q' : Nat) : Int) := by omega
            have hkN : k + q' < N + 1 := by omega
            have hkN' : ((k + q' : Nat) : Int) < ((N + 1 : Nat) : Int) := by omega
            have hkN2 : (k : Int) + (q' : Int) < ((N + 1 : Nat) : Int) := by omega
            have hk02 : (0 : Int) ≤ (k : Int) + (q' : Int) := by omega
            have hkt : ((k : Int) + (q' : Int)).toNat = k + q' := by omega
            have tb0 := HTB.out.next hb0
            have st := tb0.cell hkN
            rw [ltF_at _ _ (by omega)] at st
            have y1 := KeptW.cell s1 hz0
            have y2 := KeptW.cell s2 hz0
            have yt := KeptW.cell st tb0.lt
            have HE := Lib.hid (HYES.out rfl)
            simp only [Int.toNat_natCast] at HE
            have hsb := HBD.out (k + q')
            generalize K k m = e0 at *
            generalize T (k + q') = t0 at *
            clear hb0 s1 s2 st tb0 hW0 hkq
            go_wp2_with fail
            rw [← HW0.out]
            refine region_kept W0.heap.size (by kernel_rfl) (by kernel_rfl) ?_
            repeat (go_big_quiet_step ((go_at_call 71; exact kept_same _ (leastM_any _ _ _))))
            refine wpQuiet_nil ?_
            intro w4 hb4
            have HB3 := Lib.hid (HB0.out.trans (hb4.mono HB0.out.size))
            clear hb4 y1 y2 yt
            go_wp2
            go_roundw
            case rel => exact ⟨m + 1, by omega, by go_num, by rw [HE.out], HB3.out⟩
            case measure => simp [intOf]; omega
          · have HE := Lib.hid (HNO.out hy)
            generalize K k m = e0 at *
            clear hb0 s1 s2 hW0
            go_wp2_with fail
            rw [← HW0.out]
            go_wp2
            go_roundw
            case rel => exact ⟨m + 1, by omega, by go_num, by rw [HE.out], HB0.out⟩
            case measure => simp [intOf]; omega
        · obtain rfl : m = l.length := by omega
          have HKE := Lib.hid (HKA.out k (by omega))
          have tbw := HTB.out.next hbm
          have uw := tbw.cell (j := k) (by omega); have fw := tbw.free k
          have hkl2 : (k : Int) < ((N + 1 : Nat) : Int) := by omega
          have HT5 : Hid (Tb (wr.setCell ⟨w.heap.size, k, none⟩ (.int .i64 (T k))) w.heap.size 3 (N + 1) (ltF T N k)) := Lib.hid (by
            rw [← ltF_put]; exact tbw.set k _)
          have HB5 := Lib.hid (HBW.out.setCell (p := ⟨w.heap.size, k, none⟩) (Nat.le_refl _) (.int .i64 (T k)))
          rw [HKE.out]
          generalize T k = t0 at *
          clear tbw hbm
          go_wp2
          go_roundw
          case rel => exact ⟨k, by omega, rfl, HT5.out, HB5.out⟩
          case measure => simp [intOf]
end Go.Proofs.Yteagclokobkigaa

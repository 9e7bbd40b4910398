/-
  Facts on justified lines, and the laws' own helpers qInts and qSum.
-/
import Derived.Test.YtpbkeagpipipmaaUh
import Derived.Test.YtpbkeagpipipmaaVr
namespace Go.Proofs.Ytpbkeagpipipmaa
open Go.RowKit
set_option linter.unusedVariables false

theorem qSum_any (l : List Int) (A : Option Addr) (c : Nat) (w : World) (hf : IntsIn w A l) (hn : l.length ≤ 1048576) (hs : ∀ k, k ≤ l.length → -300000 ≤ smK l k ∧ smK l k ≤ 300000) :
    Calls Try.prog 27 #[.slice A l.length c] w fun e w' => e = .returned (.int .i64 l.sum) ∧ w = w' := by
  have HF := Lib.hid hf; clear hf
  have HS := Lib.hid hs; clear hs
  go_enter Try.func27, Try.ntmps27
  go_wp2
  go_loop [3, 8] (fun s i => ∃ (k : Nat), k ≤ l.length ∧ i = .int .i64 k ∧ s = .int .i64 (smK l k)) (fun _ i => l.length - (intOf i).toNat)
  case atStart => exact ⟨0, Nat.zero_le _, rfl, by rw [smK_zero]⟩
  case round =>
    obtain ⟨k, hk, rfl, rfl⟩ := hrel
    by_cases hlt : k < l.length
    · obtain ⟨b, off, rfl, hbl, hc⟩ := HF.out (by omega)
      have hc0 := hc k hlt
      clear hc
      have HST := Lib.hid (smK_succ hlt)
      have hq := HS.out k hk
      have hq1 := HS.out (k + 1) hlt
      rw [HST.out] at hq1
      generalize l[k] = x at *
      generalize hcq : smK l k = q at *
      clear hcq
      go_wp2
      go_round
      case rel => exact ⟨k + 1, by omega, by go_num, by rw [HST.out]⟩
      case measure => simp [intOf]; omega
    · obtain rfl : k = l.length := by omega
      go_wp2
      go_ret
      exact ⟨ret_int (smK_all l), rfl⟩
set_option maxRecDepth 100000 in
theorem qInts_any (l : List Int) (A B : Option Addr) (c d : Nat) (w : World) (hf : IntsIn w A l) (hg : IntsIn w B l) (hn : l.length ≤ 1048576) :
    Calls Try.prog 25 #[.slice A l.length c, .slice B l.length d] w fun e w' => e = .returned (.bool true) ∧ Below w.heap.size w w' := by
  have HF := Lib.hid hf; have HG := Lib.hid hg; clear hf hg
  go_enter Try.func25, Try.ntmps25
  go_wp2
  go_loopw [13] (fun i wr => ∃ k : Nat, k ≤ l.length ∧ i = .int .i64 (k : Int) ∧ Below w.heap.size w wr) (fun i _ => l.length - (intOf i).toNat)
  case atStart => exact ⟨0, Nat.zero_le _, rfl, Below.refl _ _⟩
  case round =>
    obtain ⟨k, hk, rfl, hb⟩ := hrel
    by_cases hlt : k < l.length
    · obtain ⟨b, off, rfl, hbl, hc⟩ := HF.out (by omega)
      obtain ⟨b', off', rfl, hbl', hc'⟩ := HG.out (by omega)
      have k0 := KeptW.cell ((hb.cell (p := ⟨b, off + k, none⟩) hbl).trans (hc k hlt)) (by show b < wr.heap.size; have := hb.size; omega)
      have k1 := KeptW.cell ((hb.cell (p := ⟨b', off' + k, none⟩) hbl').trans (hc' k hlt)) (by show b' < wr.heap.size; have := hb.size; omega)
      have hkl : (k : Int) < (l.length : Int) := by omega
      have hk0 : (0 : Int) ≤ (k : Int) := by omega
      have HB := Lib.hid hb
      clear hc hc' hb
      generalize l[k]'hlt = x at *
      have hne : (x != x) = false := by simp
      go_wp2_with fail
      refine region_kept wr.heap.size (by kernel_rfl) (by kernel_rfl) ?_
      repeat (go_big_quiet_step (fail))
      refine wpQuiet_nil ?_
      intro w9 hb9
      have HB9 := Lib.hid (HB.out.trans (hb9.mono HB.out.size))
      clear k0 k1 hb9
      go_wp2
      go_roundw
      case rel => exact ⟨k + 1, by omega, by go_num, HB9.out⟩
      case measure => simp [intOf]; omega
    · obtain rfl : k = l.length := by omega
      go_wp2
      go_ret
      exact ⟨rfl, hb⟩
/-- Wider spaces make no narrower line. -/
theorem widV_mono {l : List Int} (h : 1 ≤ l.length) {a b : Int} (hab : a ≤ b) : widV l a ≤ widV l b := by
  unfold widV
  have := Int.mul_le_mul_of_nonneg_right hab (show 0 ≤ (l.length : Int) - 1 by omega)
  omega
theorem wid_rm (l : List Int) (m s : Int) : widV l s ≤ m ↔ gpI l * s ≤ rmI l m := by
  unfold widV gpI rmI
  rw [Int.mul_comm s]
  omega
theorem rm_wid (l : List Int) (m s : Int) : m ≤ widV l s ↔ rmI l m ≤ gpI l * s := by
  unfold widV gpI rmI
  rw [Int.mul_comm s]
  omega
/-- The parts of an even division. -/
theorem ev_parts {t : Int} {n : Nat} (h0 : 0 ≤ t) (hn : 0 < n) : ∃ q : Int, ∃ s : Nat, t.tdiv (n : Int) = q ∧ t.tmod (n : Int) = (s : Int) ∧ s < n ∧ 0 ≤ q ∧ t = (n : Int) * q + (s : Int) := by
  refine ⟨t / (n : Int), (t % (n : Int)).toNat, Int.tdiv_eq_ediv_of_nonneg h0, ?_, ?_, Int.ediv_nonneg h0 (by omega), ?_⟩
  · rw [Int.tmod_eq_emod_of_nonneg h0]
    have := Int.emod_nonneg t (show (n : Int) ≠ 0 by omega)
    omega
  · have := Int.emod_lt_of_pos t (show (0 : Int) < (n : Int) by omega)
    have := Int.emod_nonneg t (show (n : Int) ≠ 0 by omega)
    omega
  · have h1 := Int.emod_nonneg t (show (n : Int) ≠ 0 by omega)
    have h2 := Int.mul_ediv_add_emod t (n : Int)
    omega
theorem smK_ev {t : Int} {n : Nat} {q : Int} {s : Nat} (e1 : t.tdiv (n : Int) = q) (e2 : t.tmod (n : Int) = (s : Int)) : ∀ k, k ≤ n → smK (evL t n) k = (k : Int) * q + ((min k s : Nat) : Int)
  | 0, _ => by rw [smK_zero]; simp
  | k + 1, h => by
    have h' : k < (evL t n).length := by rw [evL_len]; exact h
    have e : ((k + 1 : Nat) : Int) * q = (k : Int) * q + q := by rw [show ((k + 1 : Nat) : Int) = (k : Int) + 1 from rfl, Int.add_mul, Int.one_mul]
    rw [smK_succ h', smK_ev e1 e2 k (by omega), evL_at, e]
    unfold evI
    rw [e1, e2]
    split <;> omega
/-- What is known of the spaces of a line that can be justified. -/
structure SpOk (L : List Int) (r : Ru) (R : Int) : Prop where
  len : L.length ≤ 19
  part : ∀ k (h : k < L.length), 0 ≤ smK L k + L[k]
  inn : ∀ k (h : k < L.length), r.lst ≤ L[k] ∧ L[k] ≤ r.mst
  down : ∀ j k (hj : j < L.length) (hk : k < L.length), j ≤ k → L[k] ≤ L[j] ∧ L[j] ≤ L[k] + 1
  all : L.sum = R
theorem sp_ok {l : List Int} {r : Ru} {m : Int} (h : askB l r m = true) (h2 : whyV l r m = 0) : SpOk (evL (rmI l m) (l.length - 1)) r (rmI l m) := by
  obtain ⟨gl, gr, hm1, hm2⟩ := askB_iff.1 h
  obtain ⟨f1, f2⟩ := why_fits.1 h2
  obtain ⟨g1, g2, g3, g4, g5⟩ := fits_range h h2
  have a := gl.one; have b := gl.most
  have r1 := gr.a; have r2 := gr.b; have r3 := gr.c; have r4 := gr.d
  obtain ⟨n, hn⟩ : ∃ n, n = l.length - 1 := ⟨_, rfl⟩
  obtain ⟨R, hR⟩ : ∃ R, R = rmI l m := ⟨_, rfl⟩
  rw [g3, ← hn, ← hR] at f1 f2
  rw [← hR] at g1
  rw [← hn, ← hR]
  have hn19 : n ≤ 19 := by omega
  clear hn hR g3 g4 g5
  rcases Nat.eq_zero_or_pos n with rfl | hp
  · have e : evL R 0 = [] := rfl
    rw [e]
    refine ⟨by simp, fun k hk => absurd hk (by simp), fun k hk => absurd hk (by simp), fun j k hj => absurd hj (by simp), ?_⟩
    have : R = 0 := by simp at f1 f2; omega
    rw [this]; rfl
  · obtain ⟨q, s, e1, e2, hs, hq, ht⟩ := ev_parts g1 hp
    have hq1 : r.lst ≤ q := by
      rcases (by omega : q < r.lst ∨ r.lst ≤ q) with hlt | hge
      · exfalso
        have h3 : (n : Int) * (q + 1) ≤ (n : Int) * r.lst := Int.mul_le_mul_of_nonneg_left (by omega) (by omega)
        rw [Int.mul_add, Int.mul_one] at h3
        omega
      · exact hge
    have hq2 : q ≤ r.mst ∧ (0 < s → q + 1 ≤ r.mst) := by
      rcases (by omega : r.mst < (q + 1) ∨ (q + 1) ≤ r.mst) with hlt | hge
      · have h3 : (n : Int) * r.mst ≤ (n : Int) * q := Int.mul_le_mul_of_nonneg_left (by omega) (by omega)
        have hs0 : s = 0 := by omega
        refine ⟨?_, fun h => by omega⟩
        rcases (by omega : r.mst < q ∨ q ≤ r.mst) with h4 | h4
        · exfalso
          have h5 : (n : Int) * (r.mst + 1) ≤ (n : Int) * q := Int.mul_le_mul_of_nonneg_left (by omega) (by omega)
          rw [Int.mul_add, Int.mul_one] at h5
          omega
        · exact h4
      · exact ⟨by omega, fun _ => hge⟩
    have hat : ∀ k (hk : k < (evL R n).length), (evL R n)[k] = if k < s then q + 1 else q := fun k hk => by
      rw [evL_at]; unfold evI; rw [e1, e2]
      by_cases h3 : k < s
      · rw [if_pos (by omega), if_pos h3]
      · rw [if_neg (by omega), if_neg h3]
    refine ⟨by rw [evL_len]; omega, fun k hk => ?_, fun k hk => ?_, fun j k hj hk hjk => ?_, ?_⟩
    · rw [smK_ev e1 e2 k (by rw [evL_len] at hk; omega), hat]
      have := Int.mul_nonneg (show (0 : Int) ≤ (k : Int) by omega) hq
      split <;> omega
    · rw [hat]; split <;> omega
    · rw [hat, hat]; split <;> split <;> omega
    · have h6 := smK_ev e1 e2 n (Nat.le_refl _)
      have h7 := smK_all (evL R n)
      rw [evL_len] at h7
      rw [← h7, h6, Nat.min_eq_right (by omega)]
      exact ht.symm
theorem SpOk.sums {L : List Int} {r : Ru} {R : Int} (h : SpOk L r R) (h1 : 0 ≤ r.lst) (h2 : r.mst ≤ 54) (k : Nat) (hk : k ≤ L.length) : -300000 ≤ smK L k ∧ smK L k ≤ 300000 := by
  have h3 := smK_range (l := L) (b := 54) (by omega) (fun j hj => by have := h.inn j hj; omega) k hk
  have := h.len
  omega
end Go.Proofs.Ytpbkeagpipipmaa

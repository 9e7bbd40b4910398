/-
  The contracts of laws.eqIntSS, laws.markIntSS, laws.heldIntSS.
-/
import Derived.Test.YtljakcfdjcjdbaaRn
import Derived.Test.YtljakcfdjcjdbaaIntsE
namespace Go.Proofs.Ytljakcfdjcjdbaa
open Go.RowKit
set_option linter.unusedVariables false

theorem Gs.row {w : World} {top N i : Nat} {A : Option Addr} {rw : Nat → List Int} (h : Gs w top A N rw) (hi : i < N) : ∃ b g c, A = some ⟨b, 0, none⟩ ∧ b < w.heap.size ∧ w.cell? ⟨b, i, none⟩ = some (.slice (some ⟨g, 0, none⟩) (rw i).length c) ∧ IntsIn w (some ⟨g, 0, none⟩) (rw i) := by
  obtain ⟨b, g, c, h1, h2, h3, h4, h5⟩ := h.2 i hi
  have := h.1
  exact ⟨b, g, c, h1, by omega, h4, fun _ => ⟨g, 0, rfl, by omega, fun k hk => by rw [Nat.zero_add]; exact h5 k hk⟩⟩
set_option maxRecDepth 100000 in
set_option maxHeartbeats 1000000 in
theorem eqIntSS_any (N : Nat) (rw : Nat → List Int) (A B : Option Addr) (c d t1 t2 : Nat) (w : World) (hf : Gs w t1 A N rw) (hg : Gs w t2 B N rw) (hn : N ≤ 1048576) (hr : ∀ i, (rw i).length ≤ maxLen) :
    Calls Try.prog 39 #[.slice A N c, .slice B N d] w fun e w' => e = .returned (.bool true) ∧ Below w.heap.size w w' := by
  have HF := Lib.hid hf; have HG := Lib.hid hg; have HR := Lib.hid hr; clear hf hg hr
  have h' : ((N : Int) != (N : Int)) = false := by simp
  go_enter Try.func39, Try.ntmps39
  go_wp2
  go_loopw [5] (fun i wr => ∃ (k : Nat), k ≤ N ∧ i = .int .i64 (k : Int) ∧ Below w.heap.size w wr) (fun i _ => N - (RowKit.intOf i).toNat)
  case atStart => exact ⟨0, Nat.zero_le _, rfl, Below.refl _ _⟩
  case round =>
    obtain ⟨k, hk, rfl, hb⟩ := hrel
    have HB := Lib.hid hb; clear hb
    by_cases hlt : k < N
    · obtain ⟨b1, g1, c1, e1, h1, h2, h3⟩ := (HF.out.keep HB.out HF.out.1).row hlt
      obtain ⟨b2, g2, c2, e2, h4, h5, h6⟩ := (HG.out.keep HB.out HG.out.1).row hlt
      subst e1 e2
      have hlb := HB.out.size
      have hx := KeptW.cell h2 h1
      have hy := KeptW.cell h5 h4
      have HEQ : Hid (∀ x : KeptW wr.heap.size wr, Calls Try.prog 23 #[.slice (some ⟨g1, 0, none⟩) (rw k).length c1, .slice (some ⟨g2, 0, none⟩) (rw k).length c2] x.at_ fun e w' => e = .returned (.bool true) ∧ Below x.at_.heap.size x.at_ w') := Lib.hid (fun x => by
        have h := eqIntS_any (rw k) (rw k) _ _ c1 c2 x.at_ (h3.below x.below (Nat.le_refl _)) (h6.below x.below (Nat.le_refl _)) (HR.out k) (HR.out k)
        rw [show decide (rw k = rw k) = true from decide_eq_true rfl] at h
        exact h)
      clear h3 h6 h2 h5
      go_wp2_with fail
      refine region_kept wr.heap.size (by kernel_rfl) (by kernel_rfl) ?_
      repeat (go_big_quiet_step (fail))
      go_big_quiet_step ((go_at_call 23; exact kept_call _ (Nat.le_refl _) (HEQ.out _)))
      repeat (go_big_quiet_step (fail))
      refine wpQuiet_nil ?_
      intro w2 hb2
      have HB2 := Lib.hid (HB.out.trans (hb2.mono HB.out.size))
      clear hb2 hx hy
      go_wp2
      go_roundw
      case rel => exact ⟨k + 1, by omega, by go_num, HB2.out⟩
      case measure => simp [RowKit.intOf]; omega
    · obtain rfl : k = N := by omega
      go_wp2
      go_ret
      exact ⟨rfl, HB.out⟩
set_option maxRecDepth 100000 in
set_option maxHeartbeats 1000000 in
theorem heldIntSS_any (k0 N M : Nat) (rw : Nat → List Int) (A : Option Addr) (c t1 : Nat) (w : World) (hf : Gs w t1 A N rw) (hr : ∀ i, i < N → rw i = marks ((k0 + i * M : Nat) : Int) M) (hn : k0 + N * M ≤ 16777216) (hN : N ≤ 1048576) :
    Calls Try.prog 41 #[.slice A N c, .int .i64 (k0 : Int)] w fun e w' => e = .returned (.int .i64 ((k0 + N * M : Nat) : Int)) ∧ w = w' := by
  have HF := Lib.hid hf; have HR := Lib.hid hr; clear hf hr
  go_enter Try.func41, Try.ntmps41
  go_wp2
  go_loop [1, 5] (fun q i => ∃ (j : Nat), j ≤ N ∧ i = .int .i64 (j : Int) ∧ q = .int .i64 ((k0 + j * M : Nat) : Int)) (fun _ i => N - (RowKit.intOf i).toNat)
  case atStart => exact ⟨0, Nat.zero_le _, rfl, by simp⟩
  case round =>
    obtain ⟨j, hj, rfl, rfl⟩ := hrel
    by_cases hlt : j < N
    · obtain ⟨b1, g1, c1, e1, h1, h2, h3⟩ := HF.out.row hlt
      subst e1
      rw [HR.out j hlt] at h2 h3
      rw [marks_len] at h2
      have H3 := Lib.hid h3
      clear h3
      have hm : (j + 1) * M ≤ N * M := Nat.mul_le_mul_right _ hlt
      have hs : (j + 1) * M = j * M + M := Nat.succ_mul j M
      have hnn : ¬ (((k0 + j * M : Nat) : Int) + (M : Int)) < 0 := by omega
      have hnb : ((k0 + j * M : Nat) : Int) + (M : Int) = ((k0 + (j + 1) * M : Nat) : Int) := by omega
      go_wp2_with fail
      refine (heldIntS_any ((k0 + j * M : Nat) : Int) M _ c1 _ H3.out (by omega) (by omega)).mono ?_
      rintro e w' ⟨rfl, rfl⟩
      go_wp2
      go_round
      case rel => exact ⟨j + 1, by omega, by go_num, by have h9 := hnb; simp only [Int.natCast_add, Int.natCast_mul] at h9 ⊢; rw [h9]⟩
      case measure => simp [RowKit.intOf]; omega
    · obtain rfl : j = N := by omega
      go_wp2
      go_ret
      exact ⟨rfl, rfl⟩
set_option maxRecDepth 100000 in
set_option maxHeartbeats 1000000 in
theorem markIntSS_any (k0 N M base c : Nat) (hs : Nat → Nat) (rw : Nat → List Int) (A : Option Addr) (w : World) (hf : GI w base A N c M hs rw) (hn : k0 + N * M ≤ 16777216) (hN : N ≤ 1048576) :
    Calls Try.prog 40 #[.slice A N c, .int .i64 (k0 : Int)] w fun e w' => e = .returned (.int .i64 ((k0 + N * M : Nat) : Int)) ∧ (∀ B, B ≤ base → B ≤ w.heap.size → Below B w w') ∧ GI w' base A N c M hs (fun i => marks ((k0 + i * M : Nat) : Int) M) := by
  have HF := Lib.hid hf; clear hf
  go_enter Try.func40, Try.ntmps40
  go_wp2
  go_loopw [1, 5] (fun q i wr => ∃ (j : Nat), j ≤ N ∧ i = .int .i64 (j : Int) ∧ q = .int .i64 ((k0 + j * M : Nat) : Int) ∧ (∀ B, B ≤ base → B ≤ w.heap.size → Below B w wr) ∧ GI wr base A N c M hs (fun i => if i < j then marks ((k0 + i * M : Nat) : Int) M else rw i)) (fun _ i _ => N - (RowKit.intOf i).toNat)
  case atStart => exact ⟨0, Nat.zero_le _, rfl, by simp, fun B _ _ => Below.refl _ _, HF.out⟩
  case round =>
    obtain ⟨j, hj, rfl, rfl, hb, hG⟩ := hrel
    have HB := Lib.hid hb; have HG := Lib.hid hG
    clear hb hG
    by_cases hlt : j < N
    · obtain ⟨b1, v, e1, h1, h2, h3⟩ := own_at HG.out.outer hlt
      rw [hsV_get hlt] at h2
      have h4 := Option.some.inj h2
      subst h4 e1
      clear h2
      have hm : (j + 1) * M ≤ N * M := Nat.mul_le_mul_right _ hlt
      have hs' : (j + 1) * M = j * M + M := Nat.succ_mul j M
      have hnb : ((k0 + j * M : Nat) : Int) + (M : Int) = ((k0 + (j + 1) * M : Nat) : Int) := by omega
      go_wp2_with fail
      refine (markIntSE_any ((k0 + j * M : Nat) : Int) M base _ _ _ _ (HG.out.rows j hlt).2 (by omega) (by omega)).mono ?_
      rintro e w2 ⟨rfl, hg2, ho2⟩
      have HG2 : Hid (GI w2 base (some ⟨b1, 0, none⟩) N c M hs (fun i => if i < j + 1 then marks ((k0 + i * M : Nat) : Int) M else rw i)) := Lib.hid ⟨own_grown HG.out.outer hg2 (fun q hq e => by
          have e2 : hs j = q := Option.some.inj e
          exact HG.out.out j hlt q hq e2.symm), fun i hi => by
          by_cases e : i = j
          · subst e
            rw [if_pos (by omega)]
            exact ⟨marks_len _ _, ho2⟩
          · have h := HG.out.rows i hi
            have he : (if i < j + 1 then marks ((k0 + i * M : Nat) : Int) M else rw i) = (if i < j then marks ((k0 + i * M : Nat) : Int) M else rw i) := by
              by_cases e3 : i < j
              · rw [if_pos e3, if_pos (by omega)]
              · rw [if_neg e3, if_neg (by omega)]
            rw [he]
            refine ⟨h.1, own_grown h.2 hg2 (fun q hq e4 => ?_)⟩
            have e5 : hs i = q := Option.some.inj hq
            have e6 : hs j = q := Option.some.inj e4
            rcases Nat.lt_or_ge i j with h7 | h7
            · exact HG.out.inc i j h7 hlt (by omega)
            · exact HG.out.inc j i (by omega) hi (by omega), HG.out.out, HG.out.inc⟩
      have HB2 : Hid (∀ B, B ≤ base → B ≤ w.heap.size → Below B w w2) := Lib.hid (fun B hB hB2 => (HB.out B hB hB2).grown hg2 (Nat.le_trans hB2 (HB.out B hB hB2).size) (fun q e => by
        have h8 := own_lt (HG.out.rows j hlt).2 q e
        omega))
      clear hg2 ho2 h3
      go_wp2
      go_roundw
      case rel => exact ⟨j + 1, by omega, by go_num, by have h9 := hnb; simp only [Int.natCast_add, Int.natCast_mul] at h9 ⊢; rw [h9], HB2.out, HG2.out⟩
      case measure => simp [RowKit.intOf]; omega
    · obtain rfl : j = N := by omega
      have HG2 : Hid (GI wr base A j c M hs (fun i => marks ((k0 + i * M : Nat) : Int) M)) := Lib.hid ⟨HG.out.outer, fun i hi => by have h := HG.out.rows i hi; rw [if_pos hi] at h; exact h, HG.out.out, HG.out.inc⟩
      go_wp2
      go_ret
      exact ⟨rfl, HB.out, HG2.out⟩
end Go.Proofs.Ytljakcfdjcjdbaa

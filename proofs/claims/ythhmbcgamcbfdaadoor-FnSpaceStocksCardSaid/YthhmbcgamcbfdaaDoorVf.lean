/-
  The contract of spec.ThinnestNeeded.
-/
import Derived.Test.YthhmbcgamcbfdaaDoorVe
namespace Go.Proofs.YthhmbcgamcbfdaaDoor
open Go.RowKit
set_option linter.unusedVariables false

theorem GoodK.split {l : List Int} (h : GoodK l) : ∃ (v : Nat) (r : List Int), l = (v : Int) :: r ∧ 1 ≤ v ∧ v ≤ 54 ∧ Pos r ∧ (∀ j (hj : j < r.length), r[j] ≤ 54) ∧ r.length ≤ 5 := by
  have h1 := h.one
  have h6 := h.six
  have hp := h.pos
  cases l with
  | nil => simp at h1
  | cons k r =>
    have hk := hp k (by simp)
    have h54 := h.le (j := 0) (by simp)
    have h54' : k ≤ 54 := h54
    refine ⟨k.toNat, r, by rw [show ((k.toNat : Nat) : Int) = k from by omega], by omega, by omega, hp.sub (fun j hj => List.mem_cons_of_mem _ hj), fun j hj => ?_, by simp at h6; omega⟩
    have := h.le (j := j + 1) (by simp; omega)
    simpa using this
theorem thin_cons {v : Nat} {r : List Int} {n : Int} {c : Nat} : ThinP ((v : Int) :: r) n c ↔ Can r (n - c * v) := Iff.rfl
/-- From a count on that is too great, none leaves a sum. -/
theorem thin_none {v : Nat} {r : List Int} {N cc : Nat} (hp : Pos r) (hc : N < cc * v) (hl : ∀ k, k < cc → ¬ ThinP ((v : Int) :: r) (N : Int) k) : ∀ k, ¬ ThinP ((v : Int) :: r) (N : Int) k := fun k hk => by
  rcases Nat.lt_or_ge k cc with h | h
  · exact hl k h hk
  · have h1 : (0 : Int) ≤ (N : Int) - k * v := can_nonneg hp hk
    have h2 : cc * v ≤ k * v := Nat.mul_le_mul_right v h
    have h3 : ((k * v : Nat) : Int) = (k : Int) * v := Int.natCast_mul k v
    omega

set_option maxRecDepth 100000 in
set_option maxHeartbeats 1000000 in
theorem specThinnestNeeded_any (l : List Int) (A : Option Addr) (c : Nat) (n : Int) (w : World) (hf : IntsIn w A l) (hlen : l.length ≤ 1048576) (hcap : l.length ≤ c) :
    Calls Tryd.prog 9 #[.slice A l.length c, .int .i64 n] w fun e w' => e = .returned (.tuple #[.int .i64 (thinV l n), .bool (canV l n)]) ∧ Below w.heap.size w w' := by
  have HF := Lib.hid hf; clear hf
  cases ha : wAsk l n
  · have HV : Hid (canV l n = false) := Lib.hid (by unfold canV; rw [ha]; rfl)
    have HT := Lib.hid (thinV_no HV.out)
    have HA := Lib.hid ha; clear ha
    go_enter Tryd.func9, Tryd.ntmps9
    go_wp2_with fail
    refine (wsAsked_any l A c n _ HF.out hlen).mono ?_
    rintro e w' ⟨rfl, rfl⟩
    rw [HA.out]
    go_wp2
    go_ret2
    exact ⟨by rw [HV.out, HT.out]; rfl, Below.refl _ _⟩
  · have HA := Lib.hid ha
    obtain ⟨hg, h0, h4⟩ := wAsk_iff.1 ha
    obtain ⟨N, rfl⟩ : ∃ N : Nat, n = (N : Int) := ⟨n.toNat, by omega⟩
    have hN4 : N ≤ 400 := by omega
    have hN1 : (N : Int) < (N : Int) + 1 := by omega
    have hone := hg.one
    obtain ⟨v, r, hl, hv1, hv54, hp, h54, h5⟩ := hg.split
    have HTH := Lib.hid (fun (cc : Nat) (h1 : ThinP l (N : Int) cc) h2 => thinV_eq HA.out h1 h2)
    have HCY := Lib.hid (fun (cc : Nat) (h1 : ThinP l (N : Int) cc) => (canV_iff (l := l) (n := (N : Int))).2 ⟨HA.out, (can_thin hone).2 ⟨cc, h1⟩⟩)
    have HCN : Hid ((∀ k, ¬ ThinP l (N : Int) k) → canV l (N : Int) = false) := Lib.hid (fun h => by
      cases hc : canV l (N : Int) with
      | false => rfl
      | true => obtain ⟨k, hk⟩ := (can_thin hone).1 (canV_iff.1 hc).2; exact absurd hk (h k))
    obtain ⟨b, off, rfl, hbl, hc⟩ := HF.out (by omega)
    have hc0 := hc 0 (by omega)
    rw [Nat.add_zero] at hc0
    have HFr : Hid (∀ (W : World), Below w.heap.size w W → ∀ A', (A' = some ⟨b, off + 1, none⟩ ∨ r.length = 0) → IntsIn W A' r) := Lib.hid (fun W hW A' hA' hn => by
      rcases hA' with rfl | h0
      · exact ⟨b, off + 1, rfl, Nat.lt_of_lt_of_le hbl hW.size, fun k hk => by
          have h := (hW.cell (p := ⟨b, off + (k + 1), none⟩) hbl).trans (hc (k + 1) (by rw [hl]; simpa using hk))
          rw [show off + 1 + k = off + (k + 1) from by omega, h]
          subst hl; simp⟩
      · omega)
    have hv : l[0] = (v : Int) := by subst hl; rfl
    have hll : l.length = r.length + 1 := by rw [hl]; rfl
    rw [hv] at hc0
    have HP := Lib.hid hp; have H54 := Lib.hid h54
    have HL := Lib.hid hl; have HLL := Lib.hid hll
    have hcc : r.length + 1 ≤ c := by omega
    clear hc hg ha hv hp h54 hl hone hll
    go_enter Tryd.func9, Tryd.ntmps9
    go_wp2_with fail
    refine (wsAsked_any l (some ⟨b, off, none⟩) c (N : Int) _ HF.out hlen).mono ?_
    rintro e w' ⟨rfl, rfl⟩
    rw [HA.out, HLL.out]
    go_wp2_with fail
    all_goals
      refine (wsFew_any r _ _ N _ (HFr.out _ (Below.refl _ _) _ (by first | exact .inl rfl | exact .inr (by omega))) (by omega) HP.out H54.out hN4).mono ?_
      intro e w1 hto
      obtain ⟨rfl, hb1, ht1⟩ := hto
      have HB := Lib.hid hb1; have HT := Lib.hid ht1
      have hcw := (hb1.cell (p := ⟨b, off, none⟩) hbl).trans hc0
      have hrl : (0 : Int) < (r.length : Int) + 1 := by omega
      clear ht1 hb1 hc0
      go_wp2
      go_loop [7] (fun i => ∃ cc : Nat, cc ≤ N + 1 ∧ i = .int .i64 (cc : Int) ∧ ∀ k, k < cc → ¬ ThinP l (N : Int) k) (fun i => N + 2 - (intOf i).toNat)
      case atStart => exact ⟨0, by omega, rfl, fun k h => absurd h (by omega)⟩
      case round =>
        obtain ⟨cc, hcN, rfl, hno⟩ := hrel
        have HNO := Lib.hid hno
        obtain ⟨p, hp⟩ : ∃ p, p = cc * v := ⟨_, rfl⟩
        have hpi : (cc : Int) * (v : Int) = (p : Int) := by rw [hp]; exact (Int.natCast_mul cc v).symm
        have hp3 : p ≤ 401 * 54 := by rw [hp]; exact Nat.mul_le_mul (by omega) hv54
        have hcp : cc ≤ p := by rw [hp]; exact Nat.le_mul_of_pos_right cc hv1
        have HPP := Lib.hid hp
        clear hno hp
        by_cases hpN : p ≤ N
        · obtain ⟨q, hq⟩ : ∃ q, q = N - p := ⟨_, rfl⟩
          have hqi : (N : Int) - (p : Int) = (q : Int) := by omega
          have hqN : (q : Int) < (N : Int) + 1 := by omega
          have hpN' : (p : Int) ≤ (N : Int) := by omega
          have e0 := HT.out.cell (j := q) (by omega)
          have hTP : ThinP l (N : Int) cc ↔ Can r (q : Int) := by
            rw [HL.out, thin_cons, hpi, hqi]
          by_cases hc : Can r (q : Int)
          · have hq0 := fewV_can.2 hc
            have HR1 := Lib.hid (HTH.out cc (hTP.2 hc) HNO.out)
            have HR2 := Lib.hid (HCY.out cc (hTP.2 hc))
            clear hTP hc hq
            generalize fewV r (q : Int) = u at *
            go_wp2
            go_ret2
            exact ⟨by rw [HR1.out, HR2.out]; rfl, HB.out⟩
          · have hq0 := fewV_neg.2 hc
            have HN2 : Hid (∀ k, k < cc + 1 → ¬ ThinP l (N : Int) k) := Lib.hid (fun k hk h => by
              rcases Nat.lt_or_ge k cc with h1 | h1
              · exact HNO.out k h1 h
              · obtain rfl : k = cc := by omega
                exact hc (hTP.1 h))
            clear hTP hc hq
            generalize fewV r (q : Int) = u at *
            go_wp2
            go_round
            case rel => exact ⟨cc + 1, by omega, by go_num, HN2.out⟩
            case measure => simp [intOf]; omega
        · have hpN' : (N : Int) < (p : Int) := by omega
          have HR2 := Lib.hid (HCN.out (by rw [HL.out]; exact thin_none HP.out (by rw [← HPP.out]; omega) (by rw [← HL.out]; exact HNO.out)))
          have HR1 := Lib.hid (thinV_no HR2.out)
          go_wp2
          go_ret2
          exact ⟨by rw [HR1.out, HR2.out]; rfl, HB.out⟩
end Go.Proofs.YthhmbcgamcbfdaaDoor

/-
  Plain words on a filling from a stock: it lies within the stock, makes up the width, and takes the thinnest kind as often as it is needed, at the least.
-/
import Derived.Test.YthhmbcgamcbfdaaDoorVt
import Derived.Test.YthhmbcgamcbfdaaDoorZc
import Derived.Test.YthhmbcgamcbfdaaDoorWe
namespace Go.Proofs.YthhmbcgamcbfdaaDoor
open Go.RowKit
set_option linter.unusedVariables false

theorem can_many {ks : List Int} {x k : Int} (hk : k ∈ ks) (h : Can ks x) (c : Nat) : Can ks (x + c * k) := by
  obtain ⟨m, hm⟩ := h
  exact ⟨m + c, rep_many hk hm c⟩
theorem stu_can {ks ss : List Int} : ∀ {i : Nat} {n : Int}, i ≤ ks.length → StU ks ss i n → Can (ks.take i) n
  | 0, n, _, h => by have : n = 0 := h; subst this; exact can_zero _
  | i + 1, n, hi, ⟨c, _, h⟩ => by
    rw [List.take_succ_eq_append_getElem (by omega), can_snoc]
    have := stu_can (by omega) h
    rw [getD_of (show i < ks.length by omega)] at this
    exact ⟨c, this⟩
theorem thinV_le {l : List Int} {n : Int} {c : Nat} (h : wAsk l n = true) (hc : ThinP l n c) : thinV l n ≤ c := by
  have hh : wAsk l n = true ∧ ∃ c, ThinP l n c := ⟨h, c, hc⟩
  unfold thinV
  rw [dif_pos hh]
  have := (Classical.choose_spec (least_ex hh.2)).2 c hc
  omega
theorem cntS_step {ks ss : List Int} {N : Int} {k : Nat} (hk : k < ks.length) : remS ks ss N (ks.length - (k + 1)) = remS ks ss N (ks.length - k) + (cntS ks ss N k : Int) * ks[k] := by
  have e : remS ks ss N (ks.length - k) = remS ks ss N (ks.length - (k + 1)) - (mostC ks ss (ks.length - 1 - (ks.length - (k + 1))) (remS ks ss N (ks.length - (k + 1))) : Int) * ks.getD (ks.length - 1 - (ks.length - (k + 1))) 0 := by
    rw [show ks.length - k = (ks.length - (k + 1)) + 1 from by omega]; rfl
  rw [show ks.length - 1 - (ks.length - (k + 1)) = k from by omega, getD_of hk] at e
  rw [e]
  unfold cntS
  rw [show ks.length - 1 - k = ks.length - (k + 1) from by omega]
  omega
theorem cntS_most {ks ss : List Int} (hp : Pos ks) {N : Int} (h : StU ks ss ks.length N) {k : Nat} (hk : k < ks.length) : (cntS ks ss N k : Int) ≤ ss.getD k 0 := by
  have h1 := remS_left hp h (ks.length - 1 - k) (by omega)
  rw [show ks.length - (ks.length - 1 - k) = k + 1 from by omega] at h1
  exact (mostC_spec hp hk h1).1.1
/-- What the widest d kinds make up is a sum of the others than the first. -/
theorem wide_can {ks ss : List Int} {N : Int} : ∀ d : Nat, d < ks.length → Can ks.tail (N - remS ks ss N d)
  | 0, _ => by
    show Can _ (N - N)
    rw [Int.sub_self]; exact can_zero _
  | d + 1, hd => by
    have ih := wide_can (ks := ks) (ss := ss) (N := N) d (by omega)
    have hm : ks.getD (ks.length - 1 - d) 0 ∈ ks.tail := by
      rw [getD_of (show ks.length - 1 - d < ks.length by omega)]
      have h2 : ks.length - 1 - d - 1 < ks.tail.length := by rw [List.length_tail]; omega
      have h3 : ks.tail[ks.length - 1 - d - 1] = ks[ks.length - 1 - d] := by
        rw [List.getElem_tail]
        congr 1; omega
      rw [← h3]
      exact List.getElem_mem h2
    have := can_many hm ih (mostC ks ss (ks.length - 1 - d) (remS ks ss N d))
    have e : remS ks ss N (d + 1) = remS ks ss N d - (mostC ks ss (ks.length - 1 - d) (remS ks ss N d) : Int) * ks.getD (ks.length - 1 - d) 0 := rfl
    rw [e, show ∀ a b c : Int, a - (b - c) = a - b + c from fun a b c => by omega]
    exact this
structure FillOk (l ss : List Int) (n : Int) (F : List Int) : Prop where
  good : GoodK l
  width : 0 ≤ n ∧ n ≤ 400
  can : canV l n = true
  ask : wAsk l n = true
  stock : ss.length = l.length
  len : F.length = l.length
  within : ∀ k (hk : k < F.length) (hs : k < ss.length), 0 ≤ F[k] ∧ F[k] ≤ ss[k] ∧ ss[k] ≤ 400
  step : ∀ k (hk : k < l.length) (hf : k < F.length), remS l ss n (l.length - (k + 1)) = remS l ss n (l.length - k) + F[k] * l[k]
  done : remS l ss n l.length = 0
  range : ∀ j, j ≤ l.length → 0 ≤ remS l ss n j ∧ remS l ss n j ≤ n
  thin : ∀ (h : 0 < F.length), thinV l n ≤ F[0]
  text : spcAsk l F = true
theorem fill_ok {l ss : List Int} {n : Int} (h : fillB l ss n = true) : FillOk l ss n (fillL l ss n) := by
  have hb := h
  unfold fillB at hb
  rw [Bool.and_eq_true] at hb
  obtain ⟨hg, hn⟩ := (fillAsk_iff.1 hb.1).1
  obtain ⟨hl, hs⟩ := (fillAsk_iff.1 hb.1).2
  have hst := stB_iff.1 hb.2
  have hask : wAsk l n = true := wAsk_iff.2 ⟨hg, hn⟩
  have hF := fillL_yes h
  have hlen : (fillL l ss n).length = l.length := by rw [hF]; simp
  have hget : ∀ k (hk : k < (fillL l ss n).length), (fillL l ss n)[k] = (cntS l ss n k : Int) := fun k hk => by simp [hF]
  have hdone : remS l ss n l.length = 0 := by
    have := remS_left hg.pos hst l.length (Nat.le_refl _)
    rw [Nat.sub_self] at this; exact this
  have hwith : ∀ k (hk : k < (fillL l ss n).length) (hs : k < ss.length), 0 ≤ (fillL l ss n)[k] ∧ (fillL l ss n)[k] ≤ ss[k] ∧ ss[k] ≤ 400 := fun k hk hsk => by
    rw [hget k hk]
    have h1 := cntS_most hg.pos hst (k := k) (by omega)
    rw [getD_of hsk] at h1
    have h2 := (hs k hsk).2
    exact ⟨by omega, h1, h2⟩
  have hstep : ∀ k (hk : k < l.length) (hf : k < (fillL l ss n).length), remS l ss n (l.length - (k + 1)) = remS l ss n (l.length - k) + (fillL l ss n)[k] * l[k] := fun k hk hf => by
    rw [hget k hf]; exact cntS_step hk
  refine ⟨hg, hn, canV_iff.2 ⟨hask, ?_⟩, hask, hl, hlen, hwith, hstep, hdone, fun j hj => remS_range hg.pos hst j hj, fun h0 => ?_, ?_⟩
  · have := stu_can (Nat.le_refl _) hst
    rwa [List.take_length] at this
  · rw [hget 0 h0]
    refine thinV_le hask ?_
    unfold ThinP
    have hl0 : 0 < l.length := by omega
    have h1 := wide_can (ks := l) (ss := ss) (N := n) (l.length - 1) (by omega)
    have h2 := cntS_step (ks := l) (ss := ss) (N := n) hl0
    rw [Nat.sub_zero, hdone, Int.zero_add, Nat.zero_add] at h2
    rw [h2] at h1
    have h3 : l.headD 0 = l[0] := by cases l with | nil => simp at hl0 | cons a r => rfl
    rw [h3]; exact h1
  · refine spcAsk_iff.2 ⟨hg, hlen, fun j hj => ?_⟩
    have := hwith j hj (by omega)
    omega
end Go.Proofs.YthhmbcgamcbfdaaDoor

/-
  Plain words on fillings from a stock, and the contracts of spec.wsCounts and impl.areSpaceCounts.
-/
import Derived.Test.YthhmbcgamcbfdaaDoorVs
namespace Go.Proofs.YthhmbcgamcbfdaaDoor
open Go.RowKit
set_option linter.unusedVariables false

/-- c of kind i leave a sum of the thinner kinds. -/
def MostP (ks ss : List Int) (i : Nat) (n : Int) (c : Nat) : Prop := (c : Int) ≤ ss.getD i 0 ∧ StU ks ss i (n - c * ks.getD i 0)
theorem stu_most {ks ss : List Int} {i : Nat} {n : Int} : StU ks ss (i + 1) n ↔ ∃ c, MostP ks ss i n c := Iff.rfl
open Classical in
noncomputable def mostC (ks ss : List Int) (i : Nat) (n : Int) : Nat := if h : ∃ m, MostP ks ss i n m ∧ ∀ k, MostP ks ss i n k → k ≤ m then Classical.choose h else 0
theorem most_bound {ks ss : List Int} (hp : Pos ks) {i : Nat} (hi : i < ks.length) {n : Int} {c : Nat} (h : MostP ks ss i n c) : (c : Int) * ks.getD i 0 ≤ n ∧ c ≤ n.toNat := by
  have h1 := stu_nonneg hp (by omega) h.2
  have := nat_mul_nonneg (getD_pos hp hi) c
  omega
theorem mostC_spec {ks ss : List Int} (hp : Pos ks) {i : Nat} (hi : i < ks.length) {n : Int} (h : StU ks ss (i + 1) n) : MostP ks ss i n (mostC ks ss i n) ∧ ∀ k, MostP ks ss i n k → k ≤ mostC ks ss i n := by
  have hh : ∃ m, MostP ks ss i n m ∧ ∀ k, MostP ks ss i n k → k ≤ m := great_ex n.toNat (stu_most.1 h) (fun c hc => (most_bound hp hi hc).2)
  unfold mostC
  rw [dif_pos hh]
  exact Classical.choose_spec hh
theorem mostC_is {ks ss : List Int} (hp : Pos ks) {i : Nat} (hi : i < ks.length) {n : Int} {m : Nat} (h : MostP ks ss i n m) (hl : ∀ k, m < k → ¬ MostP ks ss i n k) : mostC ks ss i n = m := by
  obtain ⟨h1, h2⟩ := mostC_spec hp hi (stu_most.2 ⟨m, h⟩)
  have h3 := h2 m h
  rcases Nat.lt_or_ge m (mostC ks ss i n) with h4 | h4
  · exact absurd h1 (hl _ h4)
  · omega
/-- What is left behind the k widest kinds. -/
noncomputable def remS (ks ss : List Int) (N : Int) : Nat → Int
  | 0 => N
  | k + 1 => remS ks ss N k - (mostC ks ss (ks.length - 1 - k) (remS ks ss N k) : Int) * ks.getD (ks.length - 1 - k) 0
noncomputable def cntS (ks ss : List Int) (N : Int) (i : Nat) : Nat := mostC ks ss i (remS ks ss N (ks.length - 1 - i))
theorem remS_left {ks ss : List Int} (hp : Pos ks) {N : Int} (h : StU ks ss ks.length N) : ∀ k : Nat, k ≤ ks.length → StU ks ss (ks.length - k) (remS ks ss N k)
  | 0, _ => h
  | k + 1, hk => by
    have ih := remS_left hp h k (by omega)
    rw [show ks.length - k = (ks.length - 1 - k) + 1 from by omega] at ih
    have := (mostC_spec hp (by omega) ih).1.2
    rw [show ks.length - (k + 1) = ks.length - 1 - k from by omega]
    exact this
theorem remS_range {ks ss : List Int} (hp : Pos ks) {N : Int} (h : StU ks ss ks.length N) : ∀ k : Nat, k ≤ ks.length → 0 ≤ remS ks ss N k ∧ remS ks ss N k ≤ N
  | 0, _ => ⟨stu_nonneg hp (Nat.le_refl _) h, Int.le_refl _⟩
  | k + 1, hk => by
    have ih := remS_range hp h k (by omega)
    have h1 := stu_nonneg hp (by omega) (remS_left hp h (k + 1) hk)
    have h2 := nat_mul_nonneg (getD_pos hp (show ks.length - 1 - k < ks.length by omega)) (mostC ks ss (ks.length - 1 - k) (remS ks ss N k))
    have e : remS ks ss N (k + 1) = remS ks ss N k - (mostC ks ss (ks.length - 1 - k) (remS ks ss N k) : Int) * ks.getD (ks.length - 1 - k) 0 := rfl
    omega
theorem remS_is {ks ss : List Int} {N : Int} {k m : Nat} {v : Int} (hv : ks.getD (ks.length - 1 - k) 0 = v) (h : mostC ks ss (ks.length - 1 - k) (remS ks ss N k) = m) : remS ks ss N (k + 1) = remS ks ss N k - (m : Int) * v ∧ (k < ks.length → cntS ks ss N (ks.length - 1 - k) = m) := by
  subst hv
  refine ⟨by rw [← h]; rfl, fun hk => ?_⟩
  unfold cntS
  rw [show ks.length - 1 - (ks.length - 1 - k) = k from by omega]
  exact h
def cntB (ks ss : List Int) : Bool := decide (ss.length = ks.length) && allB 0 400 ss
theorem cntB_iff {ks ss : List Int} : cntB ks ss = true ↔ ss.length = ks.length ∧ ∀ j (h : j < ss.length), 0 ≤ ss[j] ∧ ss[j] ≤ 400 := by
  unfold cntB allB
  rw [Bool.and_eq_true, decide_eq_true_iff, List.all_eq_true]
  constructor
  · rintro ⟨h1, h2⟩
    exact ⟨h1, fun j h => by have := inB_iff.1 (h2 _ (List.getElem_mem h)); omega⟩
  · rintro ⟨h1, h2⟩
    refine ⟨h1, fun x hx => ?_⟩
    obtain ⟨j, hj, rfl⟩ := List.mem_iff_getElem.1 hx
    exact inB_iff.2 (h2 j hj)
noncomputable def fillAsk (ks ss : List Int) (n : Int) : Bool := wAsk ks n && cntB ks ss
noncomputable def fillB (ks ss : List Int) (n : Int) : Bool := fillAsk ks ss n && stB ks ss ks.length n
noncomputable def fillL (ks ss : List Int) (n : Int) : List Int := if fillB ks ss n then (List.range ks.length).map (fun i => (cntS ks ss n i : Int)) else []
theorem fillL_no {ks ss : List Int} {n : Int} (h : fillB ks ss n = false) : fillL ks ss n = [] := by unfold fillL; rw [h]; rfl
theorem fillL_yes {ks ss : List Int} {n : Int} (h : fillB ks ss n = true) : fillL ks ss n = (List.range ks.length).map (fun i => (cntS ks ss n i : Int)) := by unfold fillL; rw [h]; rfl
theorem fillAsk_iff {ks ss : List Int} {n : Int} : fillAsk ks ss n = true ↔ (GoodK ks ∧ 0 ≤ n ∧ n ≤ 400) ∧ ss.length = ks.length ∧ ∀ j (h : j < ss.length), 0 ≤ ss[j] ∧ ss[j] ≤ 400 := by
  unfold fillAsk; rw [Bool.and_eq_true, wAsk_iff, cntB_iff]
theorem fillL_len (ks ss : List Int) (n : Int) : (fillL ks ss n).length ≤ 1048576 := by
  cases h : fillB ks ss n
  · rw [fillL_no h]; simp
  · rw [fillL_yes h]
    have := (fillAsk_iff.1 (Bool.and_eq_true_iff.1 h).1).1.1.six
    simp; omega

theorem wsCounts_any (l : List Int) (A : Option Addr) (c : Nat) (m : List Int) (B : Option Addr) (d : Nat) (w : World) (hg : IntsIn w B m) (hn : l.length ≤ 1048576) (hm : m.length ≤ 1048576) :
    Calls Tryd.prog 32 #[.slice A l.length c, .slice B m.length d] w fun e w' => e = .returned (.bool (cntB l m)) ∧ w = w' := by
  have HG := Lib.hid hg; clear hg
  by_cases he : m.length = l.length
  · have HV : Hid (cntB l m = allB 0 400 m) := Lib.hid (by unfold cntB; rw [decide_eq_true he]; rfl)
    have hd : ((m.length : Int) == (l.length : Int)) = true := by simp [he]
    clear he
    go_enter Tryd.func32, Tryd.ntmps32
    go_wp2_with fail
    refine (l1All_any m B d 0 400 _ HG.out (by unfold maxLen; omega)).mono ?_
    rintro e w' ⟨rfl, rfl⟩
    go_wp2
    go_ret
    exact ⟨ret_bool HV.out.symm, rfl⟩
  · have HV : Hid (cntB l m = false) := Lib.hid (by unfold cntB; rw [decide_eq_false he]; rfl)
    have hd : ((m.length : Int) == (l.length : Int)) = false := by simp; omega
    clear he
    go_enter Tryd.func32, Tryd.ntmps32
    go_wp2
    go_ret
    exact ⟨ret_bool HV.out.symm, rfl⟩

set_option maxRecDepth 100000 in
theorem areSpaceCounts_any (l : List Int) (A : Option Addr) (c : Nat) (m : List Int) (B : Option Addr) (d : Nat) (w : World) (hf : IntsIn w A l) (hg : IntsIn w B m) (hn : l.length ≤ 1048576) (hm : m.length ≤ 1048576) :
    Calls Tryd.prog 27 #[.slice A l.length c, .slice B m.length d] w fun e w' => e = .returned (.bool (kindsB l && cntB l m)) ∧ w = w' := by
  have HF := Lib.hid hf; have HG := Lib.hid hg; clear hf hg
  go_enter Tryd.func27, Tryd.ntmps27
  go_wp2_with fail
  refine (implAreSpaces_any l A c _ HF.out hn).mono ?_
  rintro e w' ⟨rfl, rfl⟩
  cases hk : kindsB l
  · have HK := Lib.hid hk; clear hk
    go_wp2
    go_ret
    exact ⟨ret_bool (by rw [HK.out]; rfl), rfl⟩
  · have HK := Lib.hid hk; clear hk
    by_cases he : m.length = l.length
    · have HV : Hid (cntB l m = allB 0 400 m) := Lib.hid (by unfold cntB; rw [decide_eq_true he]; rfl)
      have hd : ((m.length : Int) != (l.length : Int)) = false := by simp [he]
      clear he
      go_wp2
      go_loop [19] (fun i => ∃ k : Nat, k ≤ m.length ∧ i = .int .i64 (k : Int) ∧ allB 0 400 (m.take k) = true) (fun i => m.length - (intOf i).toNat)
      case atStart => exact ⟨0, Nat.zero_le _, rfl, rfl⟩
      case round =>
        obtain ⟨k, hk, rfl, hs⟩ := hrel
        have HS := Lib.hid hs; clear hs
        by_cases hlt : k < m.length
        · obtain ⟨b, off, rfl, hbl, hc⟩ := HG.out (by omega)
          have hc0 := hc k hlt
          clear hc
          have HST : Hid (allB 0 400 (m.take (k + 1)) = inB 0 400 m[k]) := Lib.hid (by rw [List.take_succ_eq_append_getElem hlt, allB_snoc, HS.out]; rfl)
          have HNO := Lib.hid (allB_no (lo := 0) (hi := 400) hlt)
          generalize m[k] = x at *
          rcases (by omega : (0 ≤ x ∧ x ≤ 400) ∨ x < 0 ∨ (0 ≤ x ∧ 400 < x)) with ⟨h1, h2⟩ | h1 | ⟨h1, h2⟩
          · have HR : Hid (inB 0 400 x = true) := Lib.hid (inB_iff.2 ⟨h1, h2⟩)
            go_wp2
            go_round
            case rel => exact ⟨k + 1, by omega, by go_num, by rw [HST.out, HR.out]⟩
            case measure => simp [intOf]; omega
          · have HR : Hid (inB 0 400 x = false) := Lib.hid (by simp [inB]; omega)
            go_wp2
            go_ret
            exact ⟨ret_bool (by rw [HK.out, HV.out, HNO.out HR.out]; rfl), rfl⟩
          · have HR : Hid (inB 0 400 x = false) := Lib.hid (by simp [inB]; omega)
            go_wp2
            go_ret
            exact ⟨ret_bool (by rw [HK.out, HV.out, HNO.out HR.out]; rfl), rfl⟩
        · obtain rfl : k = m.length := by omega
          go_wp2
          go_ret
          exact ⟨ret_bool (by rw [HK.out, HV.out]; have e := HS.out; rw [List.take_length] at e; rw [e]; rfl), rfl⟩
    · have HV : Hid (cntB l m = false) := Lib.hid (by unfold cntB; rw [decide_eq_false he]; rfl)
      have hd : ((m.length : Int) != (l.length : Int)) = true := by simp; omega
      clear he
      go_wp2
      go_ret
      exact ⟨ret_bool (by rw [HK.out, HV.out]; rfl), rfl⟩
end Go.Proofs.YthhmbcgamcbfdaaDoor

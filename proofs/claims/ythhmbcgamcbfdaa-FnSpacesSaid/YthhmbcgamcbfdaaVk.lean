/-
  The contracts of impl.appendNumbers and impl.MissingSums.
-/
import Derived.Test.YthhmbcgamcbfdaaVj
namespace Go.Proofs.Ythhmbcgamcbfdaa
open Go.RowKit Go.Shelf
set_option linter.unusedVariables false

/-- The numbers from a on that are less than b. -/
def numsT (a : Nat) : Nat → List Int
  | 0 => []
  | k + 1 => numsT a k ++ [((a + k : Nat) : Int)]
theorem numsT_len (a : Nat) : ∀ k, (numsT a k).length = k
  | 0 => rfl
  | k + 1 => by rw [numsT, List.length_append, numsT_len a k]; rfl
theorem ints_app (l m : List Int) : intsZ (l ++ m) = intsZ l ++ intsZ m := by simp [intsZ]

theorem grown_chain {w u u' : World} {r r2 : Option Nat} (h : w.grownBy u r) (h2 : u.grownBy u' r2) (hr : ∀ q, r2 = some q → r = some q ∨ w.heap.size ≤ q) : w.grownBy u' r :=
  ⟨h2.os.trans h.os, h2.tape.trans h.tape, h2.output.trans h.output, Nat.le_trans h.size h2.size, fun i hi hne => (h2.block i (Nat.lt_of_lt_of_le hi h.size) (fun e => by
    rcases hr i e.symm with h3 | h3
    · exact hne h3.symm
    · omega)).trans (h.block i hi hne)⟩
set_option maxRecDepth 100000 in
theorem appendNumbers_any (base : Nat) (v : Value) (L : List Int) (a b : Nat) (w : World) (hv : w.ownsRow base 3 1 v L.length (intsZ L)) (hb : base ≤ w.heap.size) (hL : L.length ≤ 200000) (ha : a ≤ 402) (hb4 : b ≤ 402) :
    Calls Try.prog 27 #[v, .int .i64 (a : Int), .int .i64 (b : Int)] w fun e w' => ∃ v', e = .returned v' ∧ w'.ownsRow base 3 1 v' (L ++ numsT a (b - a)).length (intsZ (L ++ numsT a (b - a))) ∧ w.grownBy w' v.ownBlock := by
  obtain ⟨i0, hi, hz0, hz1, hz2⟩ := info_parts info_int
  have HI := Lib.hid hi; have HZ0 := Lib.hid hz0; have HZ1 := Lib.hid hz1; have HZ2 := Lib.hid hz2
  clear hi hz0 hz1 hz2
  have HV := Lib.hid hv; clear hv
  go_enter Try.func27, Try.ntmps27
  go_wp2
  go_loopw [0, 7] (fun v' i wr => ∃ k : Nat, (k ≤ b - a) ∧ i = .int .i64 ((a + k : Nat) : Int) ∧ wr.ownsRow base 3 1 v' (L ++ numsT a k).length (intsZ (L ++ numsT a k)) ∧ w.grownBy wr v.ownBlock ∧ (∀ q, v'.ownBlock = some q → v.ownBlock = some q ∨ w.heap.size ≤ q)) (fun _ i _ => a + b - (intOf i).toNat)
  case atStart => exact ⟨0, by omega, by simp, by simpa [numsT] using HV.out, World.grownBy.refl _ _, fun q h => .inl h⟩
  case round =>
    obtain ⟨k, hk, rfl, hv, hg, ho⟩ := hrel
    have hnl := numsT_len a k
    have hmx : (L ++ numsT a k).length + 1 ≤ maxLen := by rw [List.length_append, hnl]; unfold maxLen; omega
    have hmx2 : (L ++ numsT a k).length ≤ 200500 := by rw [List.length_append, hnl]; omega
    have HVV := Lib.hid hv; have HG := Lib.hid hg; have HO := Lib.hid ho
    clear hv hg ho hnl
    by_cases hlt : a + k < b
    · obtain ⟨x, hx⟩ : ∃ x, x = a + k := ⟨_, rfl⟩
      have HX : Hid (x + 1 = a + (k + 1)) := Lib.hid (by omega)
      have HN : Hid (L ++ numsT a (k + 1) = (L ++ numsT a k) ++ [(x : Int)]) := Lib.hid (by rw [hx, numsT, List.append_assoc])
      have HK : Hid (k + 1 ≤ b - a) := Lib.hid (by omega)
      have HM : Hid (a + b - (x + 1) < a + b - x) := Lib.hid (by omega)
      have hxb : (x : Int) < (b : Int) := by omega
      have hx4 : x ≤ 402 := by omega
      rw [← hx]
      clear hx hlt hk
      have hwz := HG.out.size
      have hbr : base ≤ wr.heap.size := by omega
      have hmx3 := hmx
      generalize hQ : L ++ numsT a k = Q at *
      clear hQ
      go_wp2_with (at_builtin; refine wpList_append_own_at _ rfl _ _ 23 rfl base 3 i0 (.int .i64 0) 1 8 Try.underlying23 HI.out HZ0.out HZ1.out HZ2.out rfl (by decide) _ _ _ rfl (HVV.out.alloc _) ⟨wr.heap.size, 0, none⟩ 1 1 [.int .i64 (x : Int)] rfl rfl (cell_one_new _ _ _) (by simp [Value.oneCell']) hmx (by omega) (by first | (simp; done) | (simp; omega) | omega) ?_)
      intro v' w5 hown' hgrow _ hat
      have HG5 := Lib.hid (grown_chain (grown_chain HG.out (World.grownBy_alloc wr (.cells #[.int .i64 (x : Int)] 3) none) (fun q h => by cases h)) hgrow HO.out)
      have HO5 : Hid (w5.ownsRow base 3 1 v' (L ++ numsT a (k + 1)).length (intsZ (L ++ numsT a (k + 1)))) := by
        show World.ownsRow _ _ _ _ _ _ _
        rw [HN.out, List.length_append, intsZ_snoc]; exact hown'
      have HA5 : Hid (∀ q, v'.ownBlock = some q → v.ownBlock = some q ∨ w.heap.size ≤ q) := Lib.hid (fun q hq => by
        rcases hat with e | e
        · exact HO.out q (by rw [← e]; exact hq)
        · rw [e] at hq; have : wr.heap.size + 1 = q := Option.some.inj hq; omega)
      clear hown' hgrow hat
      go_wp2
      go_roundw
      case rel => exact ⟨k + 1, HK.out, by rw [← HX.out]; go_num, HO5.out, HG5.out, HA5.out⟩
      case measure => simp [intOf]; first | exact HM.out | omega
    · have HE : Hid (numsT a k = numsT a (b - a)) := Lib.hid (by
        obtain rfl | h0 : k = b - a ∨ False := by omega
        · rfl
        · exact h0.elim)
      have hxb : ¬ ((a + k : Nat) : Int) < (b : Int) := by omega
      rw [HE.out] at HVV
      generalize hy : a + k = y at *
      clear hy
      go_wp2
      go_ret
      exact ⟨_, rfl, by have h := HVV.out; rw [List.length_append] at h; first | exact h | (rw [List.length_append]; exact h), HG.out⟩

attribute [local go_sem] Oper.semAt_some encS
/-- Behind the sums that have come: the next number, and what is missing below it. -/
def missF : List Sum4 → Nat × List Int := fun pre => pre.foldl (fun s x => (x.val + 1, s.2 ++ numsT s.1 (x.val - s.1))) (0, [])
theorem missF_snoc (pre : List Sum4) (x : Sum4) : missF (pre ++ [x]) = (x.val + 1, (missF pre).2 ++ numsT (missF pre).1 (x.val - (missF pre).1)) := by simp [missF]
theorem missF_nil : missF [] = (0, []) := rfl
theorem missF_le (pre : List Sum4) : (missF pre).1 ≤ 401 := by
  rcases List.eq_nil_or_concat pre with rfl | ⟨q, x, rfl⟩
  · exact Nat.zero_le _
  · rw [List.concat_eq_append, missF_snoc]; have := x.le; show x.val + 1 ≤ 401; omega
theorem missF_len : ∀ (m : Nat) (pre : List Sum4), pre.length = m → (missF pre).2.length ≤ 401 * m
  | 0, pre, h => by rw [List.length_eq_zero_iff.1 h]; exact Nat.zero_le _
  | m + 1, pre, h => by
    rcases List.eq_nil_or_concat pre with rfl | ⟨q, x, rfl⟩
    · simp at h
    · rw [List.concat_eq_append, missF_snoc]
      have h1 : q.length = m := by simpa using h
      have := missF_len m q h1
      have := x.le
      simp only [List.length_append, numsT_len]; omega
/-- What is missing from a number on. -/
theorem missT_nums {l : List Int} {a : Nat} : ∀ k : Nat, (∀ j, a ≤ j → j < a + k → ¬ Can l (j : Int)) → missT l (a + k) = missT l a ++ numsT a k
  | 0, _ => by simp [numsT]
  | k + 1, h => by
    rw [show a + (k + 1) = (a + k) + 1 from rfl, missT_no (h (a + k) (by omega) (by omega)), missT_nums k (fun j h1 h2 => h j h1 (by omega)), numsT, List.append_assoc]
theorem missF_sums {l : List Int} (hp : Pos l) : ∀ n : Nat, n ≤ 401 → (missF (sumL (stT l (rep4 l) l.length) n)).1 ≤ n ∧ (∀ j, (missF (sumL (stT l (rep4 l) l.length) n)).1 ≤ j → j < n → ¬ Can l (j : Int)) ∧ (missF (sumL (stT l (rep4 l) l.length) n)).2 = missT l (missF (sumL (stT l (rep4 l) l.length) n)).1
  | 0, _ => ⟨Nat.le_refl _, fun j _ h => absurd h (by omega), rfl⟩
  | n + 1, h => by
    obtain ⟨h1, h2, h3⟩ := missF_sums hp n (by omega)
    by_cases hc : Can l (n : Int)
    · rw [sumL_yes (by rw [stT_full hp (by omega)]; exact canB_iff.2 hc) (by omega), missF_snoc]
      refine ⟨Nat.le_refl _, fun j h4 h5 => absurd h5 (by show ¬ j < n + 1; have : n + 1 ≤ j := h4; omega), ?_⟩
      show _ ++ _ = missT l (n + 1)
      rw [missT_yes hc, h3]
      show missT l _ ++ numsT _ (n - _) = missT l n
      rw [← missT_nums _ (fun j h4 h5 => h2 j h4 (by omega)), show (missF (sumL (stT l (rep4 l) l.length) n)).1 + (n - (missF (sumL (stT l (rep4 l) l.length) n)).1) = n from by omega]
    · rw [sumL_no (by rw [stT_full hp (by omega)]; exact canB_no.2 hc)]
      refine ⟨by omega, fun j h4 h5 => ?_, h3⟩
      rcases Nat.lt_or_ge j n with h6 | h6
      · exact h2 j h4 h6
      · obtain rfl : j = n := by omega
        exact hc
/-- All that is missing. -/
theorem missF_all {l : List Int} (hp : Pos l) {N : Nat} (hN : N ≤ 400) : (missF (sumL (stT l (rep4 l) l.length) (N + 1))).2 ++ numsT (missF (sumL (stT l (rep4 l) l.length) (N + 1))).1 (N + 1 - (missF (sumL (stT l (rep4 l) l.length) (N + 1))).1) = missT l (N + 1) := by
  obtain ⟨h1, h2, h3⟩ := missF_sums hp (N + 1) (by omega)
  rw [h3, ← missT_nums _ (fun j h4 h5 => h2 j h4 (by omega))]
  congr 1; omega
end Go.Proofs.Ythhmbcgamcbfdaa

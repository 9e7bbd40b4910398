/-
  What spec.l1Read and impl.parseDecimal read is the same, for the numbers from 1 on that six digits hold.
-/
import Derived.Test.YtljakcfdjcjdbaaDoorRd
import Derived.Test.YtljakcfdjcjdbaaDoorDcp
namespace Go.Proofs.YtljakcfdjcjdbaaDoor.T1
open Go.RowKit
set_option linter.unusedVariables false

theorem digU_isDig {n : Nat} (h : n < 10) : isDig (digU n) = true := by
  rw [isDig_int, digU_int h]; simp; omega
theorem dec_digs (v : Nat) : digs (Lib.decDigits v) = true := by
  induction v using Nat.strongRecOn with
  | _ v ih =>
    rw [Lib.decDigits]
    split
    · show digs [digU v] = true
      simp [digs, digU_isDig (by omega)]
    · show digs (Lib.decDigits (v / 10) ++ [digU (v % 10)]) = true
      rw [digs_snoc, ih (v / 10) (by omega), digU_isDig (by omega)]; rfl
theorem dec_val (v : Nat) : valL (Lib.decDigits v) = v := by
  induction v using Nat.strongRecOn with
  | _ v ih =>
    rw [Lib.decDigits]
    split
    · show valL [digU v] = _
      show (10 * 0 + (((digU v).toNat : Int) - 48)) = _
      rw [digU_int (by omega)]; omega
    · show valL (Lib.decDigits (v / 10) ++ [digU (v % 10)]) = _
      rw [valL_snoc, ih (v / 10) (by omega), digU_int (by omega)]; omega
theorem dec_head (v : Nat) (h : 1 ≤ v) : (Lib.decDigits v).head? ≠ some 48 := by
  induction v using Nat.strongRecOn with
  | _ v ih =>
    rw [Lib.decDigits]
    split
    · show [digU v].head? ≠ some 48
      intro e
      have e1 : digU v = 48 := by simpa using e
      have := digU_int (n := v) (by omega)
      rw [e1] at this
      have : (48 : Int) = 48 + (v : Int) := this
      omega
    · show (Lib.decDigits (v / 10) ++ [digU (v % 10)]).head? ≠ some 48
      have hne : Lib.decDigits (v / 10) ≠ [] := by
        intro e
        have := Lib.decDigits_length (v / 10)
        rw [e] at this
        have h1 : 1 ≤ Lib.nDigits (v / 10) := by rw [Lib.nDigits]; split <;> omega
        simp at this; omega
      obtain ⟨x, r, hx⟩ := List.exists_cons_of_ne_nil hne
      have ihv := ih (v / 10) (by omega) (by omega)
      rw [hx] at ihv ⊢
      simpa using ihv
theorem dig_nat {c : UInt8} (h : isDig c = true) : 48 ≤ c.toNat ∧ c.toNat ≤ 57 := by
  rw [isDig_int] at h
  simp only [Bool.and_eq_true, decide_eq_true_eq] at h
  omega
theorem dig_is {c : UInt8} {n : Nat} (h : c.toNat = 48 + n) (hn : n < 10) : digU n = c := by
  apply UInt8.toNat_inj.1
  have := digU_int hn
  omega
theorem canon (m : Nat) : ∀ l : List UInt8, l.length = m → digs l = true → l ≠ [] → l.head? ≠ some 48 → 1 ≤ valL l ∧ Lib.decDigits (valL l).toNat = l := by
  induction m with
  | zero => intro l hl _ hne; simp at hl; exact absurd hl hne
  | succ m ih =>
    intro l hl hd hne hh
    rcases List.eq_nil_or_concat l with rfl | ⟨L, b, rfl⟩
    · exact absurd rfl hne
    rw [List.concat_eq_append] at *
    rw [digs_snoc, Bool.and_eq_true] at hd
    obtain ⟨c1, c2⟩ := dig_nat hd.2
    rw [valL_snoc]
    by_cases hL : L = []
    · subst hL
      have hb : b ≠ 48 := by simpa using hh
      have hb' : b.toNat ≠ 48 := fun e => hb (UInt8.toNat_inj.1 e)
      have e0 : valL [] = 0 := rfl
      refine ⟨by rw [e0]; omega, ?_⟩
      obtain ⟨n, hn⟩ : ∃ n : Nat, b.toNat = 48 + n := ⟨b.toNat - 48, by omega⟩
      rw [e0, hn, show (10 * 0 + (((48 + n : Nat) : Int) - 48)).toNat = n from by omega, Lib.decDigits_one (by omega)]
      show [digU n] = [b]
      rw [dig_is hn (by omega)]
    · have hh' : L.head? ≠ some 48 := by
        obtain ⟨x, r, hx⟩ := List.exists_cons_of_ne_nil hL
        rw [hx] at hh ⊢
        simpa using hh
      obtain ⟨i1, i2⟩ := ih L (by simpa using hl) hd.1 hL hh'
      refine ⟨by omega, ?_⟩
      obtain ⟨q, hq⟩ := Int.eq_ofNat_of_zero_le (show 0 ≤ valL L by omega)
      obtain ⟨n, hn⟩ : ∃ n : Nat, b.toNat = 48 + n := ⟨b.toNat - 48, by omega⟩
      rw [hq] at i2 i1 ⊢
      rw [hn, show (10 * (q : Int) + (((48 + n : Nat) : Int) - 48)).toNat = 10 * q + n from by omega, Lib.decDigits, dif_neg (by omega)]
      show Lib.decDigits ((10 * q + n) / 10) ++ [digU ((10 * q + n) % 10)] = L ++ [b]
      rw [show (10 * q + n) / 10 = q from by omega, show (10 * q + n) % 10 = n from by omega, dig_is hn (by omega)]
      rw [show ((q : Int)).toNat = q from rfl] at i2
      rw [i2]
theorem parse_digs : ∀ (l : List UInt8) (acc : Nat), digs l = true → (acc + 1) * 10 ^ l.length ≤ 1000000000000000000 → Lib.parseUint10 acc l = .ok (l.foldl (fun n c => 10 * n + ((c.toNat : Int) - 48)) (acc : Int)).toNat
  | [], acc, _, _ => by simp [Lib.parseUint10]
  | c :: r, acc, hd, hb => by
    have hd' : isDig c = true ∧ digs r = true := by simpa [digs] using hd
    obtain ⟨c1, c2⟩ := dig_nat hd'.1
    have hp : 1 ≤ 10 ^ r.length := Nat.one_le_pow _ _ (by decide)
    rw [List.length_cons, Nat.pow_succ] at hb
    have hb1 : (acc + 1) * 10 * 10 ^ r.length ≤ 1000000000000000000 := by rw [Nat.mul_assoc, Nat.mul_comm 10]; exact hb
    have hb2 : (acc + 1) * 10 ≤ 1000000000000000000 := Nat.le_trans (Nat.le_mul_of_pos_right _ hp) hb1
    have hb3 : (acc * 10 + (c.toNat - 48) + 1) * 10 ^ r.length ≤ 1000000000000000000 := Nat.le_trans (Nat.mul_le_mul_right _ (by omega)) hb1
    unfold Lib.parseUint10
    rw [if_pos ⟨c1, c2⟩, if_neg (by omega), if_neg (by omega), parse_digs r _ hd'.2 hb3]
    simp only [List.foldl_cons]
    congr 3
    omega
theorem nDig_pow : ∀ (k v : Nat), v < 10 ^ (k + 1) → Lib.nDigits v ≤ k + 1
  | 0, v, h => by rw [Lib.nDigits, dif_pos (by simpa using h)]; omega
  | k + 1, v, h => by
    rw [Lib.nDigits]
    split
    · omega
    · have := nDig_pow k (v / 10) (by rw [Nat.pow_succ] at h; omega)
      omega
theorem atoi_digs {s : ByteArray} (h1 : 1 ≤ s.size) (h6 : s.size ≤ 6) (hd : digs s.data.toList = true) (hv : 0 ≤ valL s.data.toList) : Lib.atoiAll s.data.toList = .ok (valL s.data.toList) := by
  have hl : s.data.toList.length = s.size := Array.length_toList
  have hp := parse_digs s.data.toList 0 hd (by
    rw [hl]
    have hc : s.size = 1 ∨ s.size = 2 ∨ s.size = 3 ∨ s.size = 4 ∨ s.size = 5 ∨ s.size = 6 := by omega
    rcases hc with h | h | h | h | h | h <;> rw [h] <;> decide)
  have hm : Lib.parseMag s.data.toList = .ok (valL s.data.toList).toNat := by
    unfold Lib.parseMag
    rw [if_neg (by intro e; rw [e] at hl; simp at hl; omega), hp]; rfl
  cases hs : s.data.toList with
  | nil => rw [hs] at hl; simp at hl; omega
  | cons c r =>
    rw [hs] at hd hm hv
    have hd' : isDig c = true ∧ digs r = true := by simpa [digs] using hd
    obtain ⟨c1, c2⟩ := dig_nat hd'.1
    rw [Lib.atoiAll_plain c r (by omega) (by omega), hm]
    have hb := val_bound s s.size (Nat.le_refl _) h6 (by rw [List.take_of_length_le (by rw [hl]; exact Nat.le_refl _), hs]; exact hd)
    rw [List.take_of_length_le (by rw [hl]; exact Nat.le_refl _), hs] at hb
    unfold Lib.signless
    simp only []
    rw [if_neg (by omega), Int.toNat_of_nonneg hv]
theorem read_dec {s : ByteArray} {v : Int} (h : readF s = v) (h1 : 1 ≤ v) : decP s = (v, true) := by
  unfold readF at h
  split at h
  · rename_i hc
    obtain ⟨⟨s1, s6⟩, hh, hd⟩ := hc
    have hl : s.data.toList.length = s.size := Array.length_toList
    have hne : s.data.toList ≠ [] := by intro e; rw [e] at hl; simp at hl; omega
    have hh' : s.data.toList.head? ≠ some 48 := by
      intro e
      have hz : ¬ 1 < s.size := fun h' => hh ⟨e, h'⟩
      obtain ⟨c, r, hx⟩ := List.exists_cons_of_ne_nil hne
      rw [hx] at hl h e
      obtain rfl : r = [] := by
        cases r with
        | nil => rfl
        | cons _ _ => simp at hl; omega
      obtain rfl : c = 48 := by simpa using e
      have : valL [48] = 0 := by decide
      omega
    obtain ⟨_, i2⟩ := canon _ s.data.toList rfl hd hne hh'
    rw [h] at i2
    refine decP_ok (by rw [atoi_digs s1 s6 hd (by omega), h]) ?_
    obtain ⟨n, hn⟩ := Int.eq_ofNat_of_zero_le (show 0 ≤ v by omega)
    rw [hn, Lib.itoa_nonneg, ← show (v.toNat : Nat) = n by omega, i2, ba_data]
  · omega
theorem dec_read {s : ByteArray} {v : Int} (h : decP s = (v, true)) (h1 : 1 ≤ v) (h9 : v ≤ 999999) : readF s = v := by
  have he : baOf (Lib.itoa v) = s := by
    unfold decP at h
    split at h
    · split at h
      · rename_i u _ hu
        have : u = v := by simpa using h
        rw [← this]; exact hu
      · simp at h
    · simp at h
  obtain ⟨n, rfl⟩ := Int.eq_ofNat_of_zero_le (show 0 ≤ v by omega)
  rw [Lib.itoa_nonneg] at he
  have hs : s.data.toList = Lib.decDigits n := by rw [← he]; rfl
  have hl : s.data.toList.length = s.size := Array.length_toList
  rw [hs, Lib.decDigits_length] at hl
  have h6 := nDig_pow 5 n (by omega)
  have h0 : 1 ≤ Lib.nDigits n := by rw [Lib.nDigits]; split <;> omega
  unfold readF
  rw [if_pos ⟨⟨by omega, by omega⟩, fun hx => dec_head n (by omega) (by rw [← hs]; exact hx.1), by rw [hs]; exact dec_digs n⟩, hs, dec_val]
end Go.Proofs.YtljakcfdjcjdbaaDoor.T1

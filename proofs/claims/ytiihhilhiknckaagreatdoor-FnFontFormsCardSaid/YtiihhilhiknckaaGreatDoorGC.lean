import Derived.Test.YtiihhilhiknckaaGreatDoorGB
import Derived.Test.YtiihhilhiknckaaGreatDoorShp
import Derived.Test.YtiihhilhiknckaaGreatDoorFont
import Derived.Lib.AppendIntMem
import Derived.Lib.AtoiAllCases
import Derived.Lib.AtoiErrMem
import Derived.Lib.ItoaLen
import Derived.Test.YtiihhilhiknckaaGreatDoorQf
import Derived.Lib.IndexAny
import Derived.Lib.DecodeN
import Derived.Lib.OthersKept
import Derived.Laws.Runes
import Derived.Laws.RangeAny
import Derived.Deep.LoopGhost
import Derived.RegionTactic
import Derived.WalkMore
import Derived.Lib.CutLaws
import Derived.Lib.MapLaws
import Derived.Lib.RuneCountTail
/-
  The contract of impl.parseDecimal: it answers what the plain word decP says, given the library's tables and its two sentinels, and changes nothing that was there.
-/
namespace Go.Proofs.YtiihhilhiknckaaGreatDoor.P
open Go.RowKit
set_option linter.unusedVariables false

/-- What parseDecimal answers. -/
def decP (s : ByteArray) : Int × Bool := match Lib.atoiAll s.data.toList with
  | .ok v => if baOf (Lib.itoa v) = s then (v, true) else (0, false)
  | _ => (0, false)
theorem decP_ok {s : ByteArray} {v : Int} (h : Lib.atoiAll s.data.toList = .ok v) (he : baOf (Lib.itoa v) = s) : decP s = (v, true) := by unfold decP; rw [h]; simp [he]
theorem decP_other {s : ByteArray} {v : Int} (h : Lib.atoiAll s.data.toList = .ok v) (he : ¬ baOf (Lib.itoa v) = s) : decP s = (0, false) := by unfold decP; rw [h]; simp [he]
theorem decP_bad {s : ByteArray} (h : Lib.atoiAll s.data.toList = Lib.atoiAll []) : decP s = (0, false) := by unfold decP; rw [h]; rfl
theorem decP_range {s : ByteArray} (h : Lib.atoiAll s.data.toList = .range) : decP s = (0, false) := by unfold decP; rw [h]
/-- The sentinel variable g holds an error, or nil. -/
def Sent (w : World) (g : Nat) : Prop := ∃ ev, w.cell? ⟨g, 0, none⟩ = some ev ∧ (ev = .nilIface ∨ ∃ te pe, ev = .iface te pe)
theorem ret_ib' {p : Int × Bool} {v : Int} {b : Bool} (h : p = (v, b)) : Ending.returned (.tuple #[.int .i64 v, .bool b]) = .returned (.tuple #[.int .i64 p.1, .bool p.2]) := by rw [h]

set_option maxRecDepth 100000 in
set_option maxHeartbeats 2000000 in
theorem parseDec_any (s : ByteArray) (w : World) (hs : s.size ≤ 281474976710656) (ht : Tab w) (h2 : Sent w 2) (h3 : Sent w 3) :
    Calls Tryz.prog 62 #[.string s] w fun e w' => e = .returned (.tuple #[.int .i64 (decP s).1, .bool (decP s).2]) ∧ Below w.heap.size w w' := by
  have HT := Lib.hid ht; clear ht
  rcases h : Lib.atoiAll s.data.toList with v | _ | _
  · obtain ⟨r1, r2⟩ := Lib.atoiAll_bounds h
    have HITOA : Hid (∀ W, Tab W → Calls Tryz.prog 34 #[.int .i64 v] W fun e w' => e = .returned (.string (baOf (Lib.itoa v))) ∧ Below W.heap.size W w') := by
      intro W hW
      refine (Tryz.strconv_Itoa v r1 r2 W hW).mono ?_
      rintro e w' ⟨rfl, q, os, rfl⟩
      exact ⟨rfl, Lib.below_grow _ _ (Nat.le_refl _) _ _⟩
    have HA : Hid (∀ W, Calls Tryz.prog 77 #[.string s] W fun e w' => e = .returned (.tuple #[.int .i64 v, .nilIface]) ∧ Below W.heap.size W w') := by
      intro W
      refine (Tryz.strconv_Atoi_ok s (by omega) v h W).mono ?_
      rintro e w' ⟨rfl, hw | ⟨t, hw⟩⟩
      · subst hw; exact ⟨rfl, Below.refl _ _⟩
      · subst hw; exact ⟨rfl, Lib.bytesWorld_below _ _ _⟩
    have HYES := Lib.hid (decP_ok h); have HNO := Lib.hid (decP_other h)
    clear h
    generalize baOf (Lib.itoa v) = t at *
    go_enter Tryz.func62, Tryz.ntmps62
    go_wp2_with fail
    refine (HA.out _).mono ?_
    rintro e w1 ⟨rfl, hb1⟩
    have HB1 := Lib.hid hb1; clear hb1
    go_wp2_with fail
    refine (HITOA.out _ (HT.out.below HB1.out)).mono ?_
    rintro e w2 ⟨rfl, hb2⟩
    have HB2 := Lib.hid (HB1.out.trans (hb2.mono HB1.out.size)); clear hb2
    by_cases he : t = s
    · have HV := Lib.hid (HYES.out he)
      subst he
      have hq : (!(t.toList == t.toList)) = false := by simp
      go_wp2
      go_ret2
      exact ⟨ret_ib' HV.out, HB2.out⟩
    · have HV := Lib.hid (HNO.out he)
      have hq := str_ne he
      have HE := Lib.hid he; clear he
      go_wp2
      go_ret2
      exact ⟨ret_ib' HV.out, HB2.out⟩
  · obtain ⟨ev, hv, hev⟩ := h2
    have HA := Lib.hid (Tryz.strconv_Atoi_syntax s hs h ev w hv hev)
    have HV := Lib.hid (decP_bad h)
    clear h hv hev h3
    go_enter Tryz.func62, Tryz.ntmps62
    go_wp2_with fail
    refine HA.out.mono ?_
    rintro e w1 ⟨N, rfl, _, _, hb1⟩
    have HB1 := Lib.hid hb1; clear hb1
    go_wp2
    go_ret2
    exact ⟨ret_ib' HV.out, HB1.out⟩
  · obtain ⟨ev, hv, hev⟩ := h3
    have HA := Lib.hid (Tryz.strconv_Atoi_range s hs h ev w hv hev)
    have HV := Lib.hid (decP_range h)
    clear h hv hev h2
    go_enter Tryz.func62, Tryz.ntmps62
    go_wp2_with fail
    refine HA.out.mono ?_
    rintro e w1 ⟨N, rfl, _, _, hb1⟩
    have HB1 := Lib.hid hb1; clear hb1
    go_wp2
    go_ret2
    exact ⟨ret_ib' HV.out, HB1.out⟩
end Go.Proofs.YtiihhilhiknckaaGreatDoor.P

/-
  What spec.l1Read and impl.parseDecimal read is the same, for the numbers from 1 on that six digits hold.
-/
namespace Go.Proofs.YtiihhilhiknckaaGreatDoor.P
open Go.RowKit
set_option linter.unusedVariables false

theorem digU_isDig {n : Nat} (h : n < 10) : isDig (digU n) = true := by
  rw [isDig_int, digU_int h]; simp; omega
theorem dec_digs (v : Nat) : digs (Lib.decDigits v) = true := by
  induction v using Nat.strongRecOn with
  | _ v ih =>
    rw [Lib.decDigits]
    split
    · show digs [digU v] = true
      simp [digs, digU_isDig (by omega)]
    · show digs (Lib.decDigits (v / 10) ++ [digU (v % 10)]) = true
      rw [digs_snoc, ih (v / 10) (by omega), digU_isDig (by omega)]; rfl
theorem dec_val (v : Nat) : valL (Lib.decDigits v) = v := by
  induction v using Nat.strongRecOn with
  | _ v ih =>
    rw [Lib.decDigits]
    split
    · show valL [digU v] = _
      show (10 * 0 + (((digU v).toNat : Int) - 48)) = _
      rw [digU_int (by omega)]; omega
    · show valL (Lib.decDigits (v / 10) ++ [digU (v % 10)]) = _
      rw [valL_snoc, ih (v / 10) (by omega), digU_int (by omega)]; omega
theorem dec_head (v : Nat) (h : 1 ≤ v) : (Lib.decDigits v).head? ≠ some 48 := by
  induction v using Nat.strongRecOn with
  | _ v ih =>
    rw [Lib.decDigits]
    split
    · show [digU v].head? ≠ some 48
      intro e
      have e1 : digU v = 48 := by simpa using e
      have := digU_int (n := v) (by omega)
      rw [e1] at this
      have : (48 : Int) = 48 + (v : Int) := this
      omega
    · show (Lib.decDigits (v / 10) ++ [digU (v % 10)]).head? ≠ some 48
      have hne : Lib.decDigits (v / 10) ≠ [] := by
        intro e
        have := Lib.decDigits_length (v / 10)
        rw [e] at this
        have h1 : 1 ≤ Lib.nDigits (v / 10) := by rw [Lib.nDigits]; split <;> omega
        simp at this; omega
      obtain ⟨x, r, hx⟩ := List.exists_cons_of_ne_nil hne
      have ihv := ih (v / 10) (by omega) (by omega)
      rw [hx] at ihv ⊢
      simpa using ihv
theorem dig_nat {c : UInt8} (h : isDig c = true) : 48 ≤ c.toNat ∧ c.toNat ≤ 57 := by
  rw [isDig_int] at h
  simp only [Bool.and_eq_true, decide_eq_true_eq] at h
  omega
theorem dig_is {c : UInt8} {n : Nat} (h : c.toNat = 48 + n) (hn : n < 10) : digU n = c := by
  apply UInt8.toNat_inj.1
  have := digU_int hn
  omega
theorem canon (m : Nat) : ∀ l : List UInt8, l.length = m → digs l = true → l ≠ [] → l.head? ≠ some 48 → 1 ≤ valL l ∧ Lib.decDigits (valL l).toNat = l := by
  induction m with
  | zero => intro l hl _ hne; simp at hl; exact absurd hl hne
  | succ m ih =>
    intro l hl hd hne hh
    rcases List.eq_nil_or_concat l with rfl | ⟨L, b, rfl⟩
    · exact absurd rfl hne
    rw [List.concat_eq_append] at *
    rw [digs_snoc, Bool.and_eq_true] at hd
    obtain ⟨c1, c2⟩ := dig_nat hd.2
    rw [valL_snoc]
    by_cases hL : L = []
    · subst hL
      have hb : b ≠ 48 := by simpa using hh
      have hb' : b.toNat ≠ 48 := fun e => hb (UInt8.toNat_inj.1 e)
      have e0 : valL [] = 0 := rfl
      refine ⟨by rw [e0]; omega, ?_⟩
      obtain ⟨n, hn⟩ : ∃ n : Nat, b.toNat = 48 + n := ⟨b.toNat - 48, by omega⟩
      rw [e0, hn, show (10 * 0 + (((48 + n : Nat) : Int) - 48)).toNat = n from by omega, Lib.decDigits_one (by omega)]
      show [digU n] = [b]
      rw [dig_is hn (by omega)]
    · have hh' : L.head? ≠ some 48 := by
        obtain ⟨x, r, hx⟩ := List.exists_cons_of_ne_nil hL
        rw [hx] at hh ⊢
        simpa using hh
      obtain ⟨i1, i2⟩ := ih L (by simpa using hl) hd.1 hL hh'
      refine ⟨by omega, ?_⟩
      obtain ⟨q, hq⟩ := Int.eq_ofNat_of_zero_le (show 0 ≤ valL L by omega)
      obtain ⟨n, hn⟩ : ∃ n : Nat, b.toNat = 48 + n := ⟨b.toNat - 48, by omega⟩
      rw [hq] at i2 i1 ⊢
      rw [hn, show (10 * (q : Int) + (((48 + n : Nat) : Int) - 48)).toNat = 10 * q + n from by omega, Lib.decDigits, dif_neg (by omega)]
      show Lib.decDigits ((10 * q + n) / 10) ++ [digU ((10 * q + n) % 10)] = L ++ [b]
      rw [show (10 * q + n) / 10 = q from by omega, show (10 * q + n) % 10 = n from by omega, dig_is hn (by omega)]
      rw [show ((q : Int)).toNat = q from rfl] at i2
      rw [i2]
theorem parse_digs : ∀ (l : List UInt8) (acc : Nat), digs l = true → (acc + 1) * 10 ^ l.length ≤ 1000000000000000000 → Lib.parseUint10 acc l = .ok (l.foldl (fun n c => 10 * n + ((c.toNat : Int) - 48)) (acc : Int)).toNat
  | [], acc, _, _ => by simp [Lib.parseUint10]
  | c :: r, acc, hd, hb => by
    have hd' : isDig c = true ∧ digs r = true := by simpa [digs] using hd
    obtain ⟨c1, c2⟩ := dig_nat hd'.1
    have hp : 1 ≤ 10 ^ r.length := Nat.one_le_pow _ _ (by decide)
    rw [List.length_cons, Nat.pow_succ] at hb
    have hb1 : (acc + 1) * 10 * 10 ^ r.length ≤ 1000000000000000000 := by rw [Nat.mul_assoc, Nat.mul_comm 10]; exact hb
    have hb2 : (acc + 1) * 10 ≤ 1000000000000000000 := Nat.le_trans (Nat.le_mul_of_pos_right _ hp) hb1
    have hb3 : (acc * 10 + (c.toNat - 48) + 1) * 10 ^ r.length ≤ 1000000000000000000 := Nat.le_trans (Nat.mul_le_mul_right _ (by omega)) hb1
    unfold Lib.parseUint10
    rw [if_pos ⟨c1, c2⟩, if_neg (by omega), if_neg (by omega), parse_digs r _ hd'.2 hb3]
    simp only [List.foldl_cons]
    congr 3
    omega
theorem nDig_pow : ∀ (k v : Nat), v < 10 ^ (k + 1) → Lib.nDigits v ≤ k + 1
  | 0, v, h => by rw [Lib.nDigits, dif_pos (by simpa using h)]; omega
  | k + 1, v, h => by
    rw [Lib.nDigits]
    split
    · omega
    · have := nDig_pow k (v / 10) (by rw [Nat.pow_succ] at h; omega)
      omega
theorem atoi_digs {s : ByteArray} (h1 : 1 ≤ s.size) (h6 : s.size ≤ 6) (hd : digs s.data.toList = true) (hv : 0 ≤ valL s.data.toList) : Lib.atoiAll s.data.toList = .ok (valL s.data.toList) := by
  have hl : s.data.toList.length = s.size := Array.length_toList
  have hp := parse_digs s.data.toList 0 hd (by
    rw [hl]
    have hc : s.size = 1 ∨ s.size = 2 ∨ s.size = 3 ∨ s.size = 4 ∨ s.size = 5 ∨ s.size = 6 := by omega
    rcases hc with h | h | h | h | h | h <;> rw [h] <;> decide)
  have hm : Lib.parseMag s.data.toList = .ok (valL s.data.toList).toNat := by
    unfold Lib.parseMag
    rw [if_neg (by intro e; rw [e] at hl; simp at hl; omega), hp]; rfl
  cases hs : s.data.toList with
  | nil => rw [hs] at hl; simp at hl; omega
  | cons c r =>
    rw [hs] at hd hm hv
    have hd' : isDig c = true ∧ digs r = true := by simpa [digs] using hd
    obtain ⟨c1, c2⟩ := dig_nat hd'.1
    rw [Lib.atoiAll_plain c r (by omega) (by omega), hm]
    have hb := val_bound s s.size (Nat.le_refl _) h6 (by rw [List.take_of_length_le (by rw [hl]; exact Nat.le_refl _), hs]; exact hd)
    rw [List.take_of_length_le (by rw [hl]; exact Nat.le_refl _), hs] at hb
    unfold Lib.signless
    simp only []
    rw [if_neg (by omega), Int.toNat_of_nonneg hv]
theorem read_dec {s : ByteArray} {v : Int} (h : readF s = v) (h1 : 1 ≤ v) : decP s = (v, true) := by
  unfold readF at h
  split at h
  · rename_i hc
    obtain ⟨⟨s1, s6⟩, hh, hd⟩ := hc
    have hl : s.data.toList.length = s.size := Array.length_toList
    have hne : s.data.toList ≠ [] := by intro e; rw [e] at hl; simp at hl; omega
    have hh' : s.data.toList.head? ≠ some 48 := by
      intro e
      have hz : ¬ 1 < s.size := fun h' => hh ⟨e, h'⟩
      obtain ⟨c, r, hx⟩ := List.exists_cons_of_ne_nil hne
      rw [hx] at hl h e
      obtain rfl : r = [] := by
        cases r with
        | nil => rfl
        | cons _ _ => simp at hl; omega
      obtain rfl : c = 48 := by simpa using e
      have : valL [48] = 0 := by decide
      omega
    obtain ⟨_, i2⟩ := canon _ s.data.toList rfl hd hne hh'
    rw [h] at i2
    refine decP_ok (by rw [atoi_digs s1 s6 hd (by omega), h]) ?_
    obtain ⟨n, hn⟩ := Int.eq_ofNat_of_zero_le (show 0 ≤ v by omega)
    rw [hn, Lib.itoa_nonneg, ← show (v.toNat : Nat) = n by omega, i2, ba_data]
  · omega
theorem dec_read {s : ByteArray} {v : Int} (h : decP s = (v, true)) (h1 : 1 ≤ v) (h9 : v ≤ 999999) : readF s = v := by
  have he : baOf (Lib.itoa v) = s := by
    unfold decP at h
    split at h
    · split at h
      · rename_i u _ hu
        have : u = v := by simpa using h
        rw [← this]; exact hu
      · simp at h
    · simp at h
  obtain ⟨n, rfl⟩ := Int.eq_ofNat_of_zero_le (show 0 ≤ v by omega)
  rw [Lib.itoa_nonneg] at he
  have hs : s.data.toList = Lib.decDigits n := by rw [← he]; rfl
  have hl : s.data.toList.length = s.size := Array.length_toList
  rw [hs, Lib.decDigits_length] at hl
  have h6 := nDig_pow 5 n (by omega)
  have h0 : 1 ≤ Lib.nDigits n := by rw [Lib.nDigits]; split <;> omega
  unfold readF
  rw [if_pos ⟨⟨by omega, by omega⟩, fun hx => dec_head n (by omega) (by rw [← hs]; exact hx.1), by rw [hs]; exact dec_digs n⟩, hs, dec_val]
end Go.Proofs.YtiihhilhiknckaaGreatDoor.P

/-
  The two readings of one sort's text: what spec.ParseFont reads of a piece, what impl.parseSort reads of it. (For ParseFont.)
-/
namespace Go.Proofs.YtiihhilhiknckaaGreatDoor.P
open Go.RowKit
set_option linter.unusedVariables false

theorem num_read {n : Int} (h1 : 1 ≤ n) (h9 : n ≤ 999999) : readF (baOf (numL n)) = n := by
  obtain ⟨m, rfl⟩ := Int.eq_ofNat_of_zero_le (show 0 ≤ n by omega)
  have hs : (baOf (numL (m : Int))).data.toList = Lib.decDigits m := rfl
  have hl : (baOf (numL (m : Int))).size = Lib.nDigits m := by
    have : (baOf (numL (m : Int))).data.toList.length = (baOf (numL (m : Int))).size := Array.length_toList
    rw [← this, hs, Lib.decDigits_length]
  have h6 := nDig_pow 5 m (by omega)
  have h0 : 1 ≤ Lib.nDigits m := by rw [Lib.nDigits]; split <;> omega
  unfold readF
  rw [if_pos ⟨⟨by omega, by omega⟩, fun hx => dec_head m (by omega) (by rw [← hs]; exact hx.1), by rw [hs]; exact dec_digs m⟩, hs, dec_val]
theorem num_dec {n : Int} (h1 : 1 ≤ n) (h9 : n ≤ 999999) : decP (baOf (numL n)) = (n, true) := read_dec (num_read h1 h9) h1
theorem dec_num {s : ByteArray} {n : Int} (h : decP s = (n, true)) (h1 : 1 ≤ n) : s = baOf (numL n) := by
  have he : baOf (Lib.itoa n) = s := by
    unfold decP at h
    split at h
    · split at h
      · rename_i u _ hu
        have : u = n := by simpa using h
        rw [← this]; exact hu
      · simp at h
    · simp at h
  obtain ⟨m, rfl⟩ := Int.eq_ofNat_of_zero_le (show 0 ≤ n by omega)
  rw [← he, Lib.itoa_nonneg]; rfl

/-- The text of one sort. -/
def pieceB (r : ByteArray × Int) : ByteArray := r.1 ++ baOf (numL r.2)
theorem piece_list (r : ByteArray × Int) : (pieceB r).data.toList = r.1.data.toList ++ numL r.2 := by
  unfold pieceB; simp [baOf]
def letN (p : ByteArray) : Nat := (p.data.toList.takeWhile isLet).length
/-- What spec.ParseFont reads of a piece. -/
def rowOf (p : ByteArray) : ByteArray × Int := (p.extract 0 (letN p), readF (p.extract (letN p) p.size))
theorem dig_not_let {c : UInt8} (h : isDig c = true) : isLet c = false := by
  rw [isDig_int] at h; rw [isLet_int]
  simp only [Bool.and_eq_true, decide_eq_true_eq] at h
  simp; omega
theorem num_head {n : Int} (h1 : 1 ≤ n) : ∃ x r, numL n = x :: r ∧ isDig x = true := by
  obtain ⟨m, rfl⟩ := Int.eq_ofNat_of_zero_le (show 0 ≤ n by omega)
  have hd := dec_digs m
  have hl := Lib.decDigits_length m
  have h0 : 1 ≤ Lib.nDigits m := by rw [Lib.nDigits]; split <;> omega
  cases hx : Lib.decDigits m with
  | nil => rw [hx] at hl; simp at hl; omega
  | cons x r =>
    rw [hx] at hd
    exact ⟨x, r, hx, by simp [digs] at hd; exact hd.1⟩
theorem piece_let {c : ByteArray} {n : Int} (hc : lets c.data.toList = true) (h1 : 1 ≤ n) : letN (pieceB (c, n)) = c.size := by
  obtain ⟨x, r, hx, hd⟩ := num_head h1
  have e : c.data.toList.length = c.size := Array.length_toList
  unfold letN
  rw [piece_list, List.takeWhile_append_of_pos (fun a ha => List.all_eq_true.1 hc a ha), hx, List.takeWhile_cons, dig_not_let hd]
  simp [e]
theorem piece_cut (c : ByteArray) (n : Int) : (pieceB (c, n)).extract 0 c.size = c ∧ (pieceB (c, n)).extract c.size (pieceB (c, n)).size = baOf (numL n) := by
  have e : c.data.toList.length = c.size := Array.length_toList
  refine ⟨ba_ext ?_, ba_ext ?_⟩
  · rw [ex_list, piece_list]; simp [e]
  · rw [ex_rest, piece_list, ← e]; simp [baOf]
theorem row_piece {c : ByteArray} {n : Int} (hc : lets c.data.toList = true) (h1 : 1 ≤ n) (h9 : n ≤ 999999) : rowOf (pieceB (c, n)) = (c, n) := by
  obtain ⟨p1, p2⟩ := piece_cut c n
  unfold rowOf
  rw [piece_let hc h1, p1, p2, num_read h1 h9]
theorem sort_facts {c : ByteArray} {n : Int} (h : tySortF c n = true) : lets c.data.toList = true ∧ 1 ≤ n ∧ n ≤ 54 := by
  unfold tySortF tyLettersF at h
  simp only [Bool.and_eq_true, decide_eq_true_eq] at h
  exact ⟨h.1.1, by omega, by omega⟩
theorem row_sort {c : ByteArray} {n : Int} (h : tySortF c n = true) : rowOf (pieceB (c, n)) = (c, n) := by
  obtain ⟨h1, h2, h3⟩ := sort_facts h
  exact row_piece h1 h2 (by omega)
/-- A piece cut at its first digit whose rest spells a number from 1 on is that code and that number's digits. -/
theorem piece_of_cut {p : ByteArray} {i : Nat} {n : Int} (hi : i ≤ p.size) (h : decP (p.extract i p.size) = (n, true)) (h1 : 1 ≤ n) : p = pieceB (p.extract 0 i, n) := by
  have e := dec_num h h1
  apply ba_ext
  rw [piece_list]
  have e2 : numL n = p.data.toList.drop i := by
    rw [← ex_rest, e]; rfl
  show _ = (p.extract 0 i).data.toList ++ numL n
  rw [e2, ex_list]; simp
/-- The text of a font is its sorts' texts, each with ';' behind it. -/
theorem text_pieces (F : List (ByteArray × Int)) : ∀ k, k ≤ F.length → ftK F k = withC 59 ((F.take k).map fun r => (pieceB r).data.toList)
  | 0, _ => rfl
  | k + 1, h => by
    have ih := text_pieces F k (by omega)
    rw [ftK_step (by omega), ih, List.take_succ_eq_append_getElem (by omega), List.map_append]
    unfold withC
    rw [List.flatMap_append]
    simp [piece_list]
theorem piece_no59 {c : ByteArray} {n : Int} (h : tySortF c n = true) : ∀ x ∈ (pieceB (c, n)).data.toList, ¬ x = 59 := by
  obtain ⟨h1, h2, h3⟩ := sort_facts h
  intro x hx e
  subst e
  rw [piece_list] at hx
  rcases List.mem_append.1 hx with hx | hx
  · have := List.all_eq_true.1 h1 _ hx
    revert this; decide
  · obtain ⟨m, rfl⟩ := Int.eq_ofNat_of_zero_le (show 0 ≤ n by omega)
    have := List.all_eq_true.1 (dec_digs m) _ hx
    revert this; decide
end Go.Proofs.YtiihhilhiknckaaGreatDoor.P

/-
  spec.ParseFont and impl.ParseFont, in plain words, answer the same. (For ParseFont.)
-/
namespace Go.Proofs.YtiihhilhiknckaaGreatDoor.P
open Go.RowKit
set_option linter.unusedVariables false

def digitsL : List UInt8 := [48, 49, 50, 51, 52, 53, 54, 55, 56, 57]
/-- What impl.parseSort takes of a piece. -/
def sortOf (p : ByteArray) : Option (ByteArray × Int) :=
  if Lib.indexAny p.data.toList digitsL < 0 then none
  else if (decP (p.extract (Lib.indexAny p.data.toList digitsL).toNat p.size)).2 && tySortF (p.extract 0 (Lib.indexAny p.data.toList digitsL).toNat) (decP (p.extract (Lib.indexAny p.data.toList digitsL).toNat p.size)).1 then
    some (p.extract 0 (Lib.indexAny p.data.toList digitsL).toNat, (decP (p.extract (Lib.indexAny p.data.toList digitsL).toNat p.size)).1)
  else none
theorem digits_isDig (c : UInt8) : digitsL.contains c = isDig c := by
  rw [Bool.eq_iff_iff, isDig_int]
  simp only [digitsL, List.contains_iff_mem, List.mem_cons, List.not_mem_nil, or_false, Bool.and_eq_true, decide_eq_true_eq, ← UInt8.toNat_inj]
  have e : ∀ n : Nat, n < 256 → (UInt8.ofNat n).toNat = n := fun n h => by simp; omega
  show (c.toNat = 48 ∨ c.toNat = 49 ∨ c.toNat = 50 ∨ c.toNat = 51 ∨ c.toNat = 52 ∨ c.toNat = 53 ∨ c.toNat = 54 ∨ c.toNat = 55 ∨ c.toNat = 56 ∨ c.toNat = 57) ↔ _
  omega
theorem let_not_dig {c : UInt8} (h : isLet c = true) : isDig c = false := by
  cases hd : isDig c
  · rfl
  · rw [dig_not_let hd] at h; cases h
theorem piece_index {c : ByteArray} {n : Int} (hc : lets c.data.toList = true) (h1 : 1 ≤ n) : Lib.indexAny (pieceB (c, n)).data.toList digitsL = c.size := by
  obtain ⟨x, r, hx, hd⟩ := num_head h1
  have e : c.data.toList.length = c.size := Array.length_toList
  rw [← e]
  refine Lib.indexAny_hit (x := x) (fun j y hj hy => ?_) ?_ (by rw [digits_isDig]; exact hd)
  · rw [piece_list, List.getElem?_append_left hj] at hy
    rw [digits_isDig]
    exact let_not_dig (List.all_eq_true.1 hc y (List.mem_of_getElem? hy))
  · rw [piece_list, List.getElem?_append_right (Nat.le_refl _), hx]; simp
theorem sort_piece {c : ByteArray} {n : Int} (h : tySortF c n = true) : sortOf (pieceB (c, n)) = some (c, n) := by
  obtain ⟨h1, h2, h3⟩ := sort_facts h
  obtain ⟨p1, p2⟩ := piece_cut c n
  unfold sortOf
  rw [piece_index h1 h2, if_neg (by omega), Int.toNat_natCast, p1, p2, num_dec h2 (by omega)]
  simp [h]
theorem index_le (p : ByteArray) (h : ¬ Lib.indexAny p.data.toList digitsL < 0) : (Lib.indexAny p.data.toList digitsL).toNat ≤ p.size := by
  have e : p.data.toList.length = p.size := Array.length_toList
  rcases Nat.lt_or_ge p.size (Lib.indexAny p.data.toList digitsL).toNat with hl | hl
  · exfalso
    have : ∀ l : List UInt8, Lib.indexAny l digitsL ≤ l.length := by
      intro l
      induction l with
      | nil => simp [Lib.indexAny]
      | cons b l ih =>
        unfold Lib.indexAny
        split
        · simp; omega
        · split
          · simp; omega
          · simp; omega
    have := this p.data.toList
    omega
  · exact hl
theorem piece_sort {p c : ByteArray} {n : Int} (h : sortOf p = some (c, n)) : p = pieceB (c, n) ∧ tySortF c n = true := by
  unfold sortOf at h
  split at h
  · cases h
  · rename_i hi
    split at h
    · rename_i hb
      rw [Bool.and_eq_true] at hb
      have hle := index_le p hi
      generalize (Lib.indexAny p.data.toList digitsL).toNat = i at *
      have h' := Option.some.inj h
      have e1 : p.extract 0 i = c := congrArg Prod.fst h'
      have e2 : (decP (p.extract i p.size)).1 = n := congrArg Prod.snd h'
      rw [e1, e2] at hb
      obtain ⟨g1, g2, g3⟩ := sort_facts hb.2
      have e3 : decP (p.extract i p.size) = (n, true) := by rw [← e2, ← hb.1]
      have := piece_of_cut hle e3 g2
      rw [e1] at this
      exact ⟨this, hb.2⟩
    · cases h

def impF : List ByteArray → List (ByteArray × Int) → Option (List (ByteArray × Int))
  | [], acc => none
  | [p], acc => if p = ⟨#[]⟩ then some acc else none
  | p :: q :: r, acc => match sortOf p with
    | none => none
    | some f => if acc.length = 32 then none else impF (q :: r) (acc ++ [f])
theorem imp_some : ∀ (L : List ByteArray) (acc F : List (ByteArray × Int)), impF L acc = some F → ∃ G, F = acc ++ G ∧ L = G.map pieceB ++ [⟨#[]⟩]
  | [], acc, F, h => by cases h
  | [p], acc, F, h => by
    unfold impF at h
    split at h
    · rename_i hp
      exact ⟨[], by rw [← Option.some.inj h]; simp, by rw [hp]; rfl⟩
    · cases h
  | p :: q :: r, acc, F, h => by
    unfold impF at h
    cases hs : sortOf p with
    | none => rw [hs] at h; cases h
    | some f =>
      rw [hs] at h
      simp only at h
      split at h
      · cases h
      · obtain ⟨G, h1, h2⟩ := imp_some (q :: r) _ F h
        obtain ⟨c, n⟩ := f
        refine ⟨(c, n) :: G, by rw [h1]; simp, ?_⟩
        rw [h2, (piece_sort hs).1]; rfl
theorem imp_of : ∀ (G acc : List (ByteArray × Int)), (∀ r ∈ G, tySortF r.1 r.2 = true) → acc.length + G.length ≤ 32 → impF (G.map pieceB ++ [⟨#[]⟩]) acc = some (acc ++ G)
  | [], acc, _, _ => by simp [impF]
  | (c, n) :: G, acc, h, hl => by
    have hs := sort_piece (h (c, n) (List.mem_cons_self ..))
    have ih := imp_of G (acc ++ [(c, n)]) (fun r hr => h r (List.mem_cons_of_mem _ hr)) (by simp at hl ⊢; omega)
    have hne : ¬ acc.length = 32 := by simp at hl; omega
    cases hG : G.map pieceB ++ [(⟨#[]⟩ : ByteArray)] with
    | nil => simp at hG
    | cons q r =>
      rw [hG] at ih
      show impF (pieceB (c, n) :: (G.map pieceB ++ [⟨#[]⟩])) acc = _
      rw [hG]
      unfold impF
      rw [hs]
      simp only
      rw [if_neg hne, ih]; simp
noncomputable def impP (s : ByteArray) : Option (List (ByteArray × Int)) := (impF (pcs 59 s) []).bind fun F => if fontB F then some F else none
def specR (s : ByteArray) : List (ByteArray × Int) := (pcs 59 s).dropLast.map rowOf
noncomputable def specP (s : ByteArray) : Option (List (ByteArray × Int)) := @ite _ ((pcs 59 s).length ≤ 33 ∧ fontB (specR s) = true ∧ baOf (ftK (specR s) (specR s).length) = s) (Classical.propDecidable _) (some (specR s)) none
theorem font_sorts {F : List (ByteArray × Int)} (h : fontB F = true) : (∀ r ∈ F, tySortF r.1 r.2 = true) ∧ F.length ≤ 32 := by
  have hF := fontB_iff.1 h
  refine ⟨fun r hr => ?_, hF.2.2⟩
  obtain ⟨k, hk, rfl⟩ := List.getElem_of_mem hr
  have := hF.1 k hk
  unfold okAt at this
  simp only [Bool.and_eq_true] at this
  exact this.1
theorem list_of {L : List ByteArray} {M : List (List UInt8)} (h : L.map (·.data.toList) = M) : L = M.map fun l => (⟨l.toArray⟩ : ByteArray) := by
  rw [← h, List.map_map]
  conv => lhs; rw [← List.map_id L]
  refine List.map_congr_left fun x _ => ?_
  show x = ⟨x.data.toList.toArray⟩
  first | rfl | simp
theorem pcs_text {F : List (ByteArray × Int)} (h : ∀ r ∈ F, tySortF r.1 r.2 = true) : pcs 59 (baOf (ftK F F.length)) = F.map pieceB ++ [⟨#[]⟩] := by
  have e : (baOf (ftK F F.length)).data.toList = withC 59 (F.map fun r => (pieceB r).data.toList) := by
    have := text_pieces F F.length (Nat.le_refl _)
    rw [List.take_length] at this
    exact this
  have h1 := pcs_lp 59 (baOf (ftK F F.length))
  rw [e, lp_withC 59 _ (fun p hp => by
    obtain ⟨r, hr, rfl⟩ := List.mem_map.1 hp
    exact piece_no59 (h r hr))] at h1
  rw [list_of h1, List.map_append, List.map_map]
  rfl
theorem rows_of {F : List (ByteArray × Int)} (h : ∀ r ∈ F, tySortF r.1 r.2 = true) : (F.map pieceB).map rowOf = F := by
  rw [List.map_map]
  conv => rhs; rw [← List.map_id F]
  exact List.map_congr_left fun r hr => row_sort (h r hr)
theorem text_of {s : ByteArray} {F : List (ByteArray × Int)} (h : pcs 59 s = F.map pieceB ++ [⟨#[]⟩]) : baOf (ftK F F.length) = s := by
  have h1 := pcs_lp 59 s
  have h2 := lp_all 59 s.data.toList
  rw [← h1, h, List.map_append, List.map_map] at h2
  have h3 : withC 59 (F.map ((·.data.toList) ∘ pieceB) ++ [[]]) = withC 59 (F.map fun r => (pieceB r).data.toList) ++ [59] := by
    unfold withC; rw [List.flatMap_append]; rfl
  have h4 : withC 59 (F.map fun r => (pieceB r).data.toList) ++ [59] = s.data.toList ++ [59] := h3.symm.trans h2
  have h5 := List.append_cancel_right h4
  have h6 := text_pieces F F.length (Nat.le_refl _)
  rw [List.take_length] at h6
  apply ba_ext
  show ftK F F.length = _
  rw [h6, h5]
/-- The two parsers say the same. -/
theorem parse_same (s : ByteArray) : impP s = specP s := by
  unfold impP specP
  by_cases hc : (pcs 59 s).length ≤ 33 ∧ fontB (specR s) = true ∧ baOf (ftK (specR s) (specR s).length) = s
  · rw [if_pos hc]
    obtain ⟨h1, h2, h3⟩ := hc
    obtain ⟨g1, g2⟩ := font_sorts h2
    have h4 := pcs_text g1
    rw [h3] at h4
    rw [h4, imp_of _ [] g1 (by simpa using g2)]
    simp [h2]
  · rw [if_neg hc]
    cases hF : impF (pcs 59 s) [] with
    | none => rfl
    | some F =>
      show (if fontB F then some F else none) = none
      cases hg : fontB F
      · rfl
      · exfalso
        obtain ⟨G, h1, h2⟩ := imp_some _ _ _ hF
        obtain rfl : F = G := by simpa using h1
        obtain ⟨g1, g2⟩ := font_sorts hg
        have e1 : specR s = F := by
          unfold specR
          rw [h2, List.dropLast_concat, rows_of g1]
        refine hc ⟨by rw [h2]; simp; omega, by rw [e1]; exact hg, by rw [e1]; exact text_of h2⟩
end Go.Proofs.YtiihhilhiknckaaGreatDoor.P

/-
  strings.IndexRune at an ASCII text of four bytes or more and a rune from 128 on: it answers -1. (For ParseFont.)
-/
namespace Go.Proofs.YtiihhilhiknckaaGreatDoor.P
open Go.RowKit
set_option linter.unusedVariables false

/-- All bytes are below 128. -/
def Asc (s : ByteArray) : Prop := ∀ (j : Nat) (h : j < s.size), (s[j]).toNat < 128
theorem asc_no {s : ByteArray} {y : UInt8} (h : Asc s) (hy : 128 ≤ y.toNat) (a : Nat) : Lib.indexByte (s.extract a s.size).data.toList y = -1 := by
  refine ix_no (fun j e => ?_)
  rw [ex_rest, List.getElem?_drop] at e
  have hl : a + j < s.size := by
    have := (List.getElem?_eq_some_iff.1 e).1
    simpa using this
  rw [list_at hl] at e
  have := h (a + j) hl
  rw [Option.some.inj e] at this
  omega
theorem iter_below (w : World) (s : ByteArray) (i : Nat) : Below w.heap.size w (w.iter s i) := (Below.refl _ _).alloc (Nat.le_refl _) _

set_option maxRecDepth 100000 in
set_option maxHeartbeats 2000000 in
theorem idxRune_err (s : ByteArray) (w : World) (ha : Asc s) (hs : s.size ≤ 1000) :
    Calls Tryz.prog 73 #[.string s, .int .i32 65533] w fun e w' => e = .returned (.int .i64 (-1)) ∧ Below w.heap.size w w' := by
  have HA := Lib.hid ha; clear ha
  go_enter Tryz.func73, Tryz.ntmps73
  go_wp2
  go_loopg [5, 6] s.size (fun g _ _ wx => ∃ i : Nat, i + g = s.size ∧ wx = w.iter s i)
  case atStart => exact ⟨0, by omega, rfl⟩
  case round =>
    obtain ⟨i, hig, rfl⟩ := hrel
    cases gk with
    | zero =>
      obtain rfl : i = s.size := by omega
      have hnx := run_next_end (P := Tryz.prog) w s s.size
      go_wp2
      go_ret
      exact ⟨rfl, iter_below _ _ _⟩
    | succ g =>
      have hi : i < s.size := by omega
      have hx := HA.out i hi
      have hnx := fun ty => run_next_ascii (P := Tryz.prog) w s i ty hi hx
      have hne : ((s[i]).toNat : Int) ≠ 65533 := by omega
      generalize s[i] = x at *
      go_wp2
      go_roundg g
      case measure => omega
      case rel => exact ⟨i + 1, by omega, rfl⟩

set_option maxRecDepth 100000 in
set_option maxHeartbeats 2000000 in
theorem idxRune_far (s : ByteArray) (r : Int) (w : World) (ha : Asc s) (h4 : 4 ≤ s.size) (hs : s.size ≤ 1000) (hr : 128 ≤ r) (hr2 : r ≤ 1114111) :
    Calls Tryz.prog 73 #[.string s, .int .i32 r] w fun e w' => e = .returned (.int .i64 (-1)) ∧ Below w.heap.size w w' := by
  by_cases he : r = 65533
  · subst he; exact idxRune_err s w ha hs
  have hV := Tryz.utf8_ValidRune r w
  have hnr : ¬ r < 128 := by omega
  cases hv : Lib.validRune r
  · rw [hv] at hV
    go_enter Tryz.func73, Tryz.ntmps73
    go_wp2_with fail
    refine hV.mono ?_
    rintro e w' ⟨rfl, rfl⟩
    go_wp2
    go_ret
    exact ⟨rfl, Below.refl _ _⟩
  · rw [hv] at hV
    have hv2 : Utf8.valid r = true := by
      unfold Lib.validRune at hv
      unfold Utf8.valid
      simp at hv ⊢
      omega
    obtain ⟨e2, e4, el⟩ := encode_facts r hv2 hr
    obtain ⟨k, hk⟩ : ∃ k, (Utf8.encode r).size = k + 1 := ⟨(Utf8.encode r).size - 1, by omega⟩
    have hk1 : k < (Utf8.encode r).size := by omega
    have hyl : 128 ≤ ((Utf8.encode r)[k]'hk1).toNat := by
      have := el (by omega)
      have hkk : (Utf8.encode r).size - 1 = k := by omega
      simpa [hkk] using this
    have HIB : Hid (∀ (y : UInt8) (W : World), 128 ≤ y.toNat → Calls Tryz.prog 87 #[.string (s.extract (k + 1) s.size), .int .u8 (y.toNat : Int)] W fun e w' => e = .returned (.int .i64 (-1)) ∧ W = w') := Lib.hid (fun y W hy => by
      refine (Tryz.strings_IndexByte (s.extract (k + 1) s.size) (y.toNat : Int) W).mono ?_
      rintro e w' ⟨rfl, hw⟩
      refine ⟨?_, hw.symm⟩
      have := asc_no ha hy (k + 1)
      rw [show ((y.toNat : Int)).toNat.toUInt8 = y by simp, this])
    have hks : k < s.size := by omega
    have hx := ha k hks
    have hxy : ((s[k]).toNat : Int) ≠ (((Utf8.encode r)[k]'hk1).toNat : Int) := by omega
    have hcv : ∀ W : World, (convert 21 9 (.int .i32 r)).run Tryz.prog W = .ok (.string (Utf8.encode r)) W := fun W => run_convert_int_string (P := Tryz.prog) W _ _ _ _ (by kernel_rfl) (by kernel_rfl)
    generalize Utf8.encode r = E at *
    obtain ⟨x, hx1⟩ : ∃ x, s[k]'hks = x := ⟨_, rfl⟩
    obtain ⟨y, hy1⟩ : ∃ y, E[k]'hk1 = y := ⟨_, rfl⟩
    rw [hx1] at hxy hx; rw [hy1] at hxy hyl
    have HY := Lib.hid hyl
    have hxyb : (((x.toNat : Int)) != (y.toNat : Int)) = true := by simp; omega
    have hkk1 : (k : Int) < (s.size : Int) := by omega
    have hkl : (k : Int) + 1 ≤ (s.size : Int) := by omega
    go_enter Tryz.func73, Tryz.ntmps73
    go_wp2_with fail
    refine hV.mono ?_
    rintro e w' ⟨rfl, rfl⟩
    go_wp2_with fail
    go_step3
    go_wp2_with fail
    refine wp_loop_rounds 1 ?_
    rw [rounds_succ]
    go_wp2_with fail
    go_step3
    go_wp2_with fail
    go_region
    all_goals
      go_wp2_with fail
      refine region_kept (World.drew w').heap.size (by kernel_rfl) (by kernel_rfl) ?_
      repeat (go_big_quiet_step (fail))
      go_big_quiet_step ((go_at_call 87; exact kept_same _ (HIB.out y _ HY.out)))
      repeat (go_big_quiet_step (fail))
      refine wpQuiet_nil ?_
      intro w2 hb2
      have HB : Hid (Below w'.heap.size w' w2) := Lib.hid ((Below.refl _ _).drew.trans (hb2.mono (Nat.le_refl _)))
      clear hb2
      go_wp2_with fail
      rw [Exit.noGoto_ret]
      simp only [go_sem]
      go_ret
      exact ⟨rfl, HB.out⟩
end Go.Proofs.YtiihhilhiknckaaGreatDoor.P

/-
  strings.Cut at a byte, in the words of the pieces: the first piece and the rest's pieces, or no such byte. (For ParseFont.)
-/
namespace Go.Proofs.YtiihhilhiknckaaGreatDoor.P
open Go.RowKit
set_option linter.unusedVariables false

/-- The variable that the library's searching reads holds a number. -/
def MaxL (w : World) : Prop := ∃ m, w.cell? ⟨0, 0, none⟩ = some (.int .i64 m)
theorem MaxL.below {w w' : World} (h : MaxL w) (hb : Below w.heap.size w w') : MaxL w' := by
  obtain ⟨m, hm⟩ := h
  refine ⟨m, (hb.cell (p := ⟨0, 0, none⟩) ?_).trans hm⟩
  show (0 : Nat) < w.heap.size
  rcases Nat.lt_or_ge 0 w.heap.size with h' | h'
  · exact h'
  · simp only [World.cell?, Array.getElem?_eq_none h'] at hm; cases hm
def CutTo (c : UInt8) (s : ByteArray) (e : Ending) : Prop :=
  (pcs c s = [s] ∧ e = .returned (.tuple #[.string s, .string ⟨#[]⟩, .bool false])) ∨
  ∃ p r, pcs c s = p :: pcs c r ∧ p.size + r.size < s.size ∧ e = .returned (.tuple #[.string p, .string r, .bool true])
theorem below_drewN (w : World) : ∀ n, Below w.heap.size w (w.drewN n)
  | n => ⟨rfl, rfl, rfl, Nat.le_refl _, fun _ _ => rfl⟩
theorem pcs_hit {c : UInt8} {s : ByteArray} {i : Nat} (h : Lib.indexB s (sepB c) = i) (hr : i + 1 ≤ s.size) : pcs c s = s.extract 0 i :: pcs c (s.extract (i + 1) s.size) := by
  obtain ⟨n, hn⟩ : ∃ n, s.size = n + 1 := ⟨s.size - 1, by omega⟩
  have e : pcs c s = Lib.splitB (sepB c) 0 (n + 1) s := by unfold pcs; rw [hn]
  rw [e, Lib.splitB_hit _ _ _ _ i h, sep_size]
  congr 1
  exact cut_many c _ _ _ (by rw [ByteArray.size_extract]; omega) (Nat.le_refl _)
theorem cut_any (c : UInt8) (s : ByteArray) (w : World) (hs : s.size ≤ 1048576) (hm : MaxL w) :
    Calls Tryz.prog 39 #[.string s, .string (sepB c)] w fun e w' => CutTo c s e ∧ Below w.heap.size w w' := by
  obtain ⟨m, hm⟩ := hm
  refine (Tryz.strings_Cut s (sepB c) m w (by omega) hm).mono ?_
  rintro e w' ⟨rfl, n, rfl⟩
  refine ⟨?_, below_drewN _ _⟩
  rcases Lib.indexB_cases s (sepB c) with h | ⟨i, h, hr⟩
  · left
    obtain ⟨h1, h2, h3⟩ := Lib.cutB_miss s (sepB c) h
    refine ⟨Lib.splitB_miss _ _ _ _ h, ?_⟩
    rw [h1, h2, h3]; rfl
  · right
    obtain ⟨h1, h2, h3⟩ := Lib.cutB_hit s (sepB c) i h
    rw [sep_size] at hr h2
    refine ⟨_, _, pcs_hit h hr, ?_, by rw [h1, h2, h3]⟩
    rw [ByteArray.size_extract, ByteArray.size_extract]; omega
end Go.Proofs.YtiihhilhiknckaaGreatDoor.P

/-
  strings.IndexAny at the ten digits answers the place of the first digit, whatever the bytes. (For ParseFont.)
-/
namespace Go.Proofs.YtiihhilhiknckaaGreatDoor.P
open Go.RowKit
set_option linter.unusedVariables false

def digitsB : ByteArray := ⟨#[48, 49, 50, 51, 52, 53, 54, 55, 56, 57]⟩
theorem get_at (s : ByteArray) {i : Nat} (h : i < s.size) : s.get! i = s[i] := by
  have e := Lib.getD_get!' s i
  rw [← e, List.getD_eq_getElem?_getD, list_at h]; rfl
theorem dec_far (s : ByteArray) {i : Nat} (h : i < s.size) (h0 : 128 ≤ (s[i]).toNat) : 128 ≤ (Utf8.decode s i).1 ∧ (Utf8.decode s i).1 ≤ 1114111 ∧ 1 ≤ (Utf8.decode s i).2 ∧ i + (Utf8.decode s i).2 ≤ s.size ∧
    ∀ j, i ≤ j → j < i + (Utf8.decode s i).2 → 128 ≤ (s.get! j).toNat := by
  rw [Lib.decode_at]
  have g0 : 128 ≤ (s.get! i).toNat := by rw [get_at s h]; exact h0
  have hlt := UInt8.toNat_lt (s.get! i)
  have e0 : ∀ j, i ≤ j → j < i + 1 → s.get! j = s.get! i := fun j h1 h2 => by rw [show j = i by omega]
  generalize hb0 : (s.get! i).toNat = b0 at *
  generalize hb1 : (s.get! (i + 1)).toNat = b1 at *
  generalize hb2 : (s.get! (i + 2)).toNat = b2 at *
  generalize hb3 : (s.get! (i + 3)).toNat = b3 at *
  rcases Lib.decodeN_shape (s.size - i) b0 b1 b2 b3 with ⟨h1, e⟩ | ⟨h1, h2, h3, h4, e⟩ | ⟨h1, h2, h3, h4, h5, h6, e⟩ | ⟨h1, h2, h3, h4, h5, h6, h7, e⟩ | e
  · omega
  all_goals
    rw [e]
    dsimp only
    refine ⟨by omega, by omega, by omega, by omega, fun j h8 h9 => ?_⟩
    rcases (by omega : j = i ∨ j = i + 1 ∨ j = i + 2 ∨ j = i + 3) with rfl | rfl | rfl | rfl <;> omega
theorem far_no {y : UInt8} (h : 128 ≤ y.toNat) : digitsL.contains y = false := by
  rw [digits_isDig]
  cases hd : isDig y
  · rfl
  · have := (dig_nat hd).2; omega
theorem noAny_far {s : ByteArray} {i n : Nat} (h : Lib.NoAny s.data.toList digitsL i) (hb : ∀ j, i ≤ j → j < i + n → 128 ≤ (s.get! j).toNat) : Lib.NoAny s.data.toList digitsL (i + n) := fun j b hj he => by
  by_cases h1 : j < i
  · exact h j b h1 he
  · have hl : j < s.size := by
      have := (List.getElem?_eq_some_iff.1 he).1
      simpa using this
    rw [list_at hl] at he
    rw [← Option.some.inj he]
    have := hb j (by omega) hj
    rw [get_at s hl] at this
    exact far_no this
theorem asc_digits : Asc digitsB := fun j h => by
  have hm : digitsB[j] ∈ digitsL := List.mem_of_getElem? (list_at (s := digitsB) h)
  have ha : ∀ b ∈ digitsL, b.toNat < 128 := by decide
  exact ha _ hm
theorem digits_list : digitsB.data.toList = digitsL := rfl
theorem iterAt_below {w wr : World} {p : ByteArray} {i : Nat} (h : Below w.heap.size w wr) : Below w.heap.size w (wr.iterAt w.heap.size p i) := by
  refine ⟨h.os, h.tape, h.output, ?_, fun k hk => ?_⟩
  · show w.heap.size ≤ (wr.heap.setIfInBounds _ _).size
    rw [Array.size_setIfInBounds]; exact h.size
  · show (wr.heap.setIfInBounds _ _)[k]? = _
    rw [Array.getElem?_setIfInBounds, if_neg (by omega)]
    exact h.block k hk
/-- What is asked of strings.IndexAny. -/
def IxTo (p : ByteArray) (w w' : World) (e : Ending) : Prop := e = .returned (.int .i64 (Lib.indexAny p.data.toList digitsL)) ∧ Below w.heap.size w w'

set_option maxRecDepth 100000 in
set_option maxHeartbeats 2000000 in
theorem indexAny_small (p : ByteArray) (w : World) (h8 : p.size ≤ 8) :
    Calls Tryz.prog 61 #[.string p, .string digitsB] w fun e w' => IxTo p w w' e := by
  have HUSE := Tryz.strings_shouldUseASCIISet (p.size : Int) w
  rw [show decide ((8 : Int) < (p.size : Int)) = false from decide_eq_false (by omega)] at HUSE
  have HR : Hid (∀ (r : Int) (W : World), 128 ≤ r → r ≤ 1114111 → Calls Tryz.prog 73 #[.string ⟨#[48, 49, 50, 51, 52, 53, 54, 55, 56, 57]⟩, .int .i32 r] W fun e w' => e = .returned (.int .i64 (-1)) ∧ Below W.heap.size W w') := Lib.hid (fun r W h1 h2 => idxRune_far digitsB r W asc_digits (by decide) (by decide) h1 h2)
  have HC : Hid (∀ (x : UInt8) (W : World), x.toNat < 128 → Calls Tryz.prog 73 #[.string ⟨#[48, 49, 50, 51, 52, 53, 54, 55, 56, 57]⟩, .int .i32 (x.toNat : Int)] W fun e w' => e = .returned (.int .i64 (Lib.indexByte digitsL x)) ∧ w' = W) := Lib.hid (fun x W h => by
    have := Tryz.strings_IndexRune_ascii digitsB (x.toNat : Int) W (by omega) (by omega)
    rw [show ((x.toNat : Int)).toNat.toUInt8 = x by simp] at this
    exact this)
  show Calls Tryz.prog 61 #[.string p, .string ⟨#[48, 49, 50, 51, 52, 53, 54, 55, 56, 57]⟩] w _
  go_enter Tryz.func61, Tryz.ntmps61
  go_wp2_with fail
  refine HUSE.mono ?_
  rintro e w' ⟨rfl, rfl⟩
  clear HUSE
  go_wp2
  go_loopg [9, 10] p.size (fun g _ _ wx => ∃ i : Nat, i + g = p.size ∧ wx.heap[w'.heap.size]? = some (.stringIter p i) ∧ Below w'.heap.size w' wx ∧ Lib.NoAny p.data.toList digitsL i)
  case atStart => exact ⟨0, by omega, World.iter_heap _ _ _, iter_below _ _ _, Lib.NoAny.zero _ _⟩
  case round =>
    obtain ⟨i, hig, hit, hb, hno⟩ := hrel
    have HIT := Lib.hid hit; have HB := Lib.hid hb; have HNO := Lib.hid hno
    clear hit hb hno
    cases gk with
    | zero =>
      obtain rfl : i = p.size := by omega
      have hnx := fun ty => Lib.run_next_end_at (P := Tryz.prog) wr w'.heap.size p p.size ty HIT.out (by omega)
      go_wp2
      go_ret
      exact ⟨by rw [Lib.indexAny_none (by rw [← Lib.size_eq]; exact HNO.out)]; rfl, HB.out⟩
    | succ g =>
      have hi : i < p.size := by omega
      have hxl : p.data.toList[i]? = some p[i] := list_at hi
      have HXL := Lib.hid hxl
      clear hxl
      by_cases hx : (p[i]).toNat < 128
      · have hnx := fun ty => Lib.run_next_ascii_at (P := Tryz.prog) wr w'.heap.size p i ty HIT.out hi hx
        have HIT2 := Lib.hid (Lib.iterAt_heap wr w'.heap.size p i (i + 1) HIT.out)
        have HB2 : Hid (Below w'.heap.size w' (wr.iterAt w'.heap.size p (i + 1))) := Lib.hid (iterAt_below HB.out)
        generalize p[i] = x at *
        have HCX := Lib.hid (HC.out x (wr.iterAt w'.heap.size p (i + 1)) hx)
        have hcon := Lib.contains_iff_indexByte digitsL x
        cases hin : digitsL.contains x
        · rw [hin] at hcon
          have hlt : ¬ ((0 : Int) ≤ Lib.indexByte digitsL x) := of_decide_eq_false hcon.symm
          have HSU := Lib.hid (HNO.out.succ HXL.out hin)
          clear hcon hin
          go_wp2_with fail
          refine HCX.out.mono ?_
          rintro e wy ⟨rfl, rfl⟩
          generalize Lib.indexByte digitsL x = z at *
          go_wp2
          go_roundg g
          case measure => omega
          case rel => exact ⟨i + 1, by omega, HIT2.out, HB2.out, HSU.out⟩
        · rw [hin] at hcon
          have hge : (0 : Int) ≤ Lib.indexByte digitsL x := of_decide_eq_true hcon.symm
          have HHT := Lib.hid (Lib.indexAny_hit HNO.out HXL.out hin)
          clear hcon hin
          go_wp2_with fail
          refine HCX.out.mono ?_
          rintro e wy ⟨rfl, rfl⟩
          generalize Lib.indexByte digitsL x = z at *
          go_wp2
          go_ret
          exact ⟨by rw [HHT.out]; rfl, HB2.out⟩
      · obtain ⟨f1, f2, f3, f4, f5⟩ := dec_far p hi (by omega)
        have hnx := fun ty => Lib.run_next_any_at (P := Tryz.prog) wr w'.heap.size p i ty HIT.out hi
        have HSU := Lib.hid (noAny_far HNO.out f5)
        clear f5 hx HXL
        generalize (Utf8.decode p i).1 = r at *
        generalize (Utf8.decode p i).2 = n at *
        have HIT2 := Lib.hid (Lib.iterAt_heap wr w'.heap.size p i (i + n) HIT.out)
        have HB2 : Hid (Below w'.heap.size w' (wr.iterAt w'.heap.size p (i + n))) := Lib.hid (iterAt_below HB.out)
        have HCX := Lib.hid (HR.out (r : Int) (wr.iterAt w'.heap.size p (i + n)) (by omega) (by omega))
        go_wp2_with fail
        refine HCX.out.mono ?_
        rintro e wy ⟨rfl, hby⟩
        have HIT3 : Hid (wy.heap[w'.heap.size]? = some (.stringIter p (i + n))) := Lib.hid ((hby.block _ (lt_of_heap HIT2.out)).trans HIT2.out)
        have HB3 : Hid (Below w'.heap.size w' wy) := Lib.hid (HB2.out.trans (hby.mono HB2.out.size))
        clear hby HIT HB HIT2 HB2 hnx HCX
        go_wp2
        go_roundg (p.size - (i + n))
        case measure => omega
        case rel => exact ⟨i + n, by omega, HIT3.out, HB3.out, HSU.out⟩
end Go.Proofs.YtiihhilhiknckaaGreatDoor.P

/-
  strings.IndexAny at the ten digits, at texts of every length. (For ParseFont.)
-/
namespace Go.Proofs.YtiihhilhiknckaaGreatDoor.P
open Go.RowKit
set_option linter.unusedVariables false

set_option maxRecDepth 100000 in
theorem indexAny_any (p : ByteArray) (w : World) (hs : p.size ≤ 1048576) :
    Calls Tryz.prog 61 #[.string p, .string digitsB] w fun e w' => IxTo p w w' e := by
  by_cases h8 : p.size ≤ 8
  · exact indexAny_small p w h8
  · refine (Tryz.strings_IndexAny_long (zero_of_info (t := 98) (n := 256) (by kernel_rfl)).1 p digitsB w (by decide) (by omega) (by omega) (by decide) (fun j b hb => ?_)).mono ?_
    · have hm : b ∈ digitsL := List.mem_of_getElem? hb
      have ha : ∀ b ∈ digitsL, b.toNat < 128 := by decide
      exact ha _ hm
    · rintro e w' ⟨rfl, rfl⟩
      exact ⟨rfl, ((Below.refl _ _).alloc (Nat.le_refl _) _).alloc (by simp) _⟩
end Go.Proofs.YtiihhilhiknckaaGreatDoor.P

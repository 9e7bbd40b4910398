/-
  The contracts of math/bits.Mul at 1 and a number of at most 401, of slices.Repeat at one number, and of slices.Clone at ints.
-/
import Derived.Test.YtljakcfdjcjdbaaPg
import Derived.Laws.CopyRow
import Derived.BigRegion
namespace Go.Proofs.Ytljakcfdjcjdbaa
open Go.RowKit
set_option linter.unusedVariables false

theorem andM (y : Nat) (hy : y ≤ 1000000) : bits .and .u64 (y : Int) 4294967295 = (y : Int) := by
  rw [show (4294967295 : Int) = ((4294967295 : Nat) : Int) from rfl, bits_and_u64_nat _ _ (by omega) (by omega), show (4294967295 : Nat) = 2 ^ 32 - 1 from rfl, Nat.and_two_pow_sub_one_eq_mod]
  congr 1; omega
theorem mulR64_any (y : Nat) (hy : y ≤ 401) (w : World) :
    Calls Try.prog 105 #[.int .u64 1, .int .u64 (y : Int)] w fun e w' => e = .returned (.tuple #[.int .u64 0, .int .u64 (y : Int)]) ∧ w = w' := by
  have hy2 : (y : Int) ≤ 401 := by omega
  have a1 : bits .and .u64 1 4294967295 = (1 : Int) := andM 1 (by omega)
  have a2 : bits .and .u64 (y : Int) 4294967295 = (y : Int) := andM y (by omega)
  have a3 : bits .and .u64 0 4294967295 = (0 : Int) := andM 0 (by omega)
  have a4 : (y : Int) / 4294967296 = 0 := by omega
  go_enter Try.func105, Try.ntmps105
  go_wp2_with fail
  have HA1 := Lib.hid a1; have HA2 := Lib.hid a2; have HA3 := Lib.hid a3; have HA4 := Lib.hid a4
  go_ret2
  exact ⟨by simp [HA1.out, HA2.out, HA3.out, HA4.out, IntKind.wrap, IntKind.bits, IntKind.signed], rfl⟩
theorem mulR_any (y : Nat) (hy : y ≤ 401) (w : World) :
    Calls Try.prog 92 #[.int .u64 1, .int .u64 (y : Int)] w fun e w' => e = .returned (.tuple #[.int .u64 0, .int .u64 (y : Int)]) ∧ w = w' := by
  go_enter Try.func92, Try.ntmps92
  go_wp2_with fail
  refine (mulR64_any y hy _).mono ?_
  rintro e w' ⟨rfl, rfl⟩
  go_wp2
  go_ret2
  exact ⟨rfl, rfl⟩
def repR (m : Nat) : Nat → Value := fun j => .int .i64 (if j < m then 401 else 0)
theorem info_intR : (Try.prog.info? 3).map (·.size) = some 1 := by kernel_rfl
theorem run_copy_repR (w : World) (ty : TypeId) (g y m k dC sC : Nat) (a : Addr) (sLen dLen : Nat) (h : Tb w g 3 y (repR m)) (hk : k = Nat.min sLen dLen) (hmk : m + k ≤ y) (hs : ∀ j, j < k → w.cell? (a.add j) = some (.int .i64 401)) :
    ∃ w', (Builtin.copy_ #[31, 31] ty #[.slice (some ⟨g, m, none⟩) dLen dC, .slice (some a) sLen sC]).run Try.prog w = .ok (goInt k) w' ∧ Tb w' g 3 y (repR (m + k)) ∧ w.grownBy w' (some g) := by
  obtain ⟨cur, h1, h2, h3⟩ := h
  have hrun := run_copy_row (P := Try.prog) w 31 31 ty 3 g m dLen dC a sLen sC cur 3 (List.replicate k (.int .i64 401)) Try.underlying31 info_intR h1 (by simpa using hk)
    (fun j v hj => by
      have hjk : j < k := by have := (List.getElem?_eq_some_iff.1 hj).1; simpa using this
      rw [List.getElem?_replicate, if_pos hjk] at hj
      rw [hs j hjk]; exact hj) (by simp; omega) (by intro v hv; rw [List.eq_of_mem_replicate hv]; rfl)
  rw [List.length_replicate] at hrun
  refine ⟨_, hrun, ⟨_, setRow_heap w g cur _ _ _ h1, by simp; omega, fun j hj => ?_⟩, ⟨rfl, rfl, rfl, by simp [World.setRow], fun i hi hne => setRow_other w g i _ (fun e => hne (by rw [e]))⟩⟩
  unfold repR
  rw [List.getElem?_toArray, List.append_assoc, List.getElem?_append]
  have ht : (cur.toList.take m).length = m := by simp; omega
  rw [ht]
  by_cases h4 : j < m
  · rw [if_pos h4, if_pos (by omega), List.getElem?_take_of_lt h4]
    have := h3 j hj
    unfold repR at this
    rw [if_pos h4] at this
    simpa using this
  · rw [if_neg h4, List.getElem?_append, List.length_replicate]
    by_cases h5 : j - m < k
    · rw [if_pos h5, if_pos (by omega), List.getElem?_replicate, if_pos h5]
    · rw [if_neg h5, if_neg (by omega), List.getElem?_drop, show m + k + (j - m - k) = j from by omega]
      have := h3 j hj
      unfold repR at this
      rw [if_neg h4] at this
      simpa using this

set_option maxRecDepth 100000 in
theorem repeatR_any (b y : Nat) (hy : y ≤ 401) (w : World) (hb : w.cell? ⟨b, 0, none⟩ = some (.int .i64 401)) (hbl : b < w.heap.size) :
    Calls Try.prog 87 #[.slice (some ⟨b, 0, none⟩) 1 1, .int .i64 (y : Int)] w fun e w' => e = .returned (.slice (some ⟨w.heap.size, 0, none⟩) y y) ∧ Below w.heap.size w w' ∧ Tb w' w.heap.size 3 y (repR y) := by
  obtain ⟨w1, hw1⟩ : ∃ x : World, x = w.alloc (.cells (madeCells #[.int .i64 0] (y * 1)) 3) := ⟨_, rfl⟩
  have hmk : (Instr.makeSlice 31 (.int .i64 (y : Int)) (.int .i64 (y : Int))).run Try.prog w = .ok (.slice (some ⟨w.heap.size, 0, none⟩) y y) w1 := by rw [hw1]; exact run_makeI y (by omega) w
  have ht : Tb w1 w.heap.size 3 y (repR 0) := by rw [hw1]; exact made_int _ _ _
  have hb1 : Below w.heap.size w w1 := by rw [hw1]; exact (Below.refl _ _).alloc (Nat.le_refl _) _
  have hc1 := (hb1.cell (p := ⟨b, 0, none⟩) hbl).trans hb
  obtain ⟨k, hk⟩ : ∃ k, k = Nat.min 1 y := ⟨_, rfl⟩
  have hk1 : k ≤ 1 ∧ k ≤ y := by rw [hk]; exact ⟨Nat.min_le_left _ _, Nat.min_le_right _ _⟩
  have hk2 : y = 0 ∨ k = 1 := by rcases Nat.eq_zero_or_pos y with h | h; · exact .inl h
                                 · right; rw [hk]; exact Nat.min_eq_left h
  obtain ⟨w2, hcp, ht2, hg2⟩ := run_copy_repR w1 3 w.heap.size y 0 k y 1 ⟨b, 0, none⟩ 1 y ht hk (by omega) (by
    intro j hj
    obtain rfl : j = 0 := by omega
    exact hc1)
  rw [Nat.zero_add] at ht2
  have HB2 := Lib.hid (hb1.grown hg2 hb1.size (fun q e => by cases e; exact Nat.le_refl _))
  have HT2 := Lib.hid ht2
  have HK := Lib.hid hk
  clear hw1 hb1 ht ht2 hg2 hc1 hk
  have hn0 : ¬ (y : Int) < 0 := by omega
  have h80 : ¬ (y : Int) > 9223372036854775807 := by omega
  go_enter Try.func87, Try.ntmps87
  go_wp2_with fail
  refine (mulR_any y hy _).mono ?_
  rintro e w' ⟨rfl, rfl⟩
  go_wp2
  go_loopw [8] (fun i wr => ∃ m : Nat, m ≤ y ∧ (y = 0 ∨ 1 ≤ m) ∧ i = .int .i64 (m : Int) ∧ Tb wr w.heap.size 3 y (repR m) ∧ Below w.heap.size w wr) (fun i _ => y - (intOf i).toNat)
  case atStart => exact ⟨k, hk1.2, by omega, rfl, HT2.out, HB2.out⟩
  case round =>
    obtain ⟨m, hm, hm1, rfl, ht, hb⟩ := hrel
    clear hmk hcp
    by_cases hlt : m < y
    · obtain ⟨q, hq⟩ : ∃ q, q = Nat.min m (y - m) := ⟨_, rfl⟩
      have hq1 : q ≤ m ∧ q ≤ y - m := by rw [hq]; exact ⟨Nat.min_le_left _ _, Nat.min_le_right _ _⟩
      have hq2 : 1 ≤ q := by rw [hq]; exact Nat.le_min.2 ⟨by omega, by omega⟩
      have src : ∀ W, Tb W w.heap.size 3 y (repR m) → ∀ j, j < q → W.cell? ((⟨w.heap.size, 0, none⟩ : Addr).add j) = some (.int .i64 401) := fun W hW j hj => by
        rw [add_flat, Nat.zero_add, hW.cell (by omega)]
        unfold repR; rw [if_pos (by omega)]
      have htd := ht.next ((Below.refl _ _).drew)
      obtain ⟨w3, hc3, ht3, hg3⟩ := run_copy_repR wr 3 w.heap.size y m q (y - m) y ⟨w.heap.size, 0, none⟩ m (y - m) ht hq (by omega) (src _ ht)
      obtain ⟨w4, hc4, ht4, hg4⟩ := run_copy_repR wr.drew 3 w.heap.size y m q (y - m) y ⟨w.heap.size, 0, none⟩ m (y - m) htd hq (by omega) (src _ htd)
      have HB3 := Lib.hid (hb.grown hg3 hb.size (fun q e => by cases e; exact Nat.le_refl _))
      have HB4 := Lib.hid (hb.drew.grown hg4 hb.drew.size (fun q e => by cases e; exact Nat.le_refl _))
      have HT3 := Lib.hid ht3; have HT4 := Lib.hid ht4
      have HQ : Hid (m + q ≤ y) := Lib.hid (by omega)
      have HM : Hid (y - (m + q) < y - m) := Lib.hid (by omega)
      have hmy : (m : Int) < (y : Int) := by omega
      have hmy1 : (m : Int) ≤ (y : Int) := by omega
      have hm0 : (0 : Int) ≤ (m : Int) := by omega
      clear ht hb htd ht3 ht4 hg3 hg4 src hq
      go_wp2_with fail
      go_region
      go_wp2
      go_roundw
      case rel => exact ⟨m + q, HQ.out, .inr (by omega), by go_num, (by first | exact HT3.out | exact HT4.out), (by first | exact HB3.out | exact HB4.out)⟩
      case measure => simp [intOf]; omega
    · obtain rfl : m = y := by omega
      have HT := Lib.hid ht; have HB := Lib.hid hb
      clear ht hb
      go_wp2
      go_ret
      exact ⟨rfl, HB.out, HT.out⟩

/-- A table of ints as a list. -/
def tcL (F : Nat → Int) (M : Nat) : List Int := (List.range M).map F
theorem tcL_len (F : Nat → Int) (M : Nat) : (tcL F M).length = M := by simp [tcL]
theorem own_none1 (w : World) {g base : Nat} {e : TypeId} (h : w.heap[g]? = some (.cells #[] e (0, 0))) (hb : base ≤ g) : w.ownsRow base e 1 (.slice (some ⟨g, 0, none⟩) 0 0) 0 [] :=
  ⟨rfl, .inr ⟨g, 0, #[], rfl, hb, h, Nat.le_refl _, Nat.zero_le _, rfl, rfl⟩⟩
theorem tc_news {w : World} {g M : Nat} {t : TypeId} {F : Nat → Int} (h : Tc w g t M (fun j => .int .i64 (F j))) : ∀ j u, (intsZ (tcL F M))[j]? = some u → w.cell? ((⟨g, 0, none⟩ : Addr).add j) = some u := by
  intro j u hu
  have hj : j < M := by
    rcases Nat.lt_or_ge j M with h | h
    · exact h
    · rw [List.getElem?_eq_none (by rw [intsZ_len, tcL_len]; exact h)] at hu; cases hu
  rw [add_flat, Nat.zero_add, h.cell hj]
  rw [← hu]
  simp [intsZ, tcL, hj]
set_option maxHeartbeats 1000000 in
theorem cloneI_any (g M c : Nat) (F : Nat → Int) (w : World) (h : Tc w g 3 M (fun j => .int .i64 (F j))) (h0 : 1 ≤ M) (hM : M ≤ 1048576) :
    Calls Try.prog 88 #[.slice (some ⟨g, 0, none⟩) M c] w fun e w' => ∃ g' c', e = .returned (.slice (some ⟨g', 0, none⟩) M c') ∧ M ≤ c' ∧ w.heap.size ≤ g' ∧ Below w.heap.size w w' ∧ Tc w' g' 3 M (fun j => .int .i64 (F j)) := by
  have qT : ∀ (w : World) (a : Option Addr) (n c n' c' : Nat), (binOp .eql 31 (.slice a n c) (.slice none n' c')).run Try.prog w = .ok (.bool a.isNone) w := fun w a n c n' c' => Lib.run_eql_slice_nil w _ _ a n c n' c' Try.underlying31
  obtain ⟨i0, hi, hz0, hz1, hz2⟩ := info_parts info_int
  have HI0 := Lib.hid hi; have HZ0 := Lib.hid hz0; have HZ1 := Lib.hid hz1; have HZ2 := Lib.hid hz2
  clear hi hz0 hz1 hz2
  have HNW := Lib.hid (tc_news (h.next ((Below.refl w.heap.size w).alloc (Nat.le_refl _) (.cells #[] 3))))
  have HOW := Lib.hid (own_none1 (base := w.heap.size) (w.alloc (.cells #[] 3)) (heap_new _ _) (Nat.le_refl _))
  have hmx : 0 + M ≤ maxLen := by unfold maxLen; omega
  clear h
  go_enter Try.func88, Try.ntmps88
  go_wp2_with (at_builtin; refine wpList_append_own _ rfl _ _ 31 rfl w.heap.size 3 i0 (.int .i64 0) 1 8 Try.underlying31 HI0.out HZ0.out HZ1.out HZ2.out rfl (by decide) _ _ _ rfl HOW.out ⟨g, 0, none⟩ M c (intsZ (tcL F M)) rfl (by rw [intsZ_len, tcL_len]; omega) HNW.out (by intro u hu; simp only [intsZ, List.mem_map] at hu; obtain ⟨z, _, rfl⟩ := hu; rfl) hmx (by omega) (by simp) ?_)
  intro v' w4 hown' hgrow hnil
  have HB1 : Hid (Below w.heap.size w w4) := Lib.hid (((Below.refl _ _).alloc (Nat.le_refl _) _).grown hgrow (by simp) (own_lt HOW.out))
  have HO : Hid (w4.ownsRow w.heap.size 3 1 v' (tcL F M).length (intsZ (tcL F M))) := Lib.hid (by rw [tcL_len]; simpa using hown')
  obtain ⟨g', c', rfl, hg, hc, ht⟩ := own_tc HO.out (by rw [tcL_len]; omega)
  rw [tcL_len] at hc ht
  have HT : Hid (Tc w4 g' 3 M (fun j => .int .i64 (F j))) := Lib.hid (ht.cong (fun j hj => by
    rw [getI (by rw [tcL_len]; exact hj)]; simp [tcL]))
  rw [tcL_len]
  clear hown' hgrow hnil HO ht
  go_wp2
  go_ret
  exact ⟨_, _, rfl, hc, hg, HB1.out, HT.out⟩
end Go.Proofs.Ytljakcfdjcjdbaa

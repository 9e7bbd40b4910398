/-
  The contracts of impl.placesOfHyphens, impl.oddPlaces, and of slices.DeleteFunc over ints with the function of impl.HyphenPlaces.
-/
import Derived.Test.YtcbhhbcfnaekpaaDoorHym
import Derived.Lib.SliceRun
import Derived.Laws.IdiomCopy
namespace Go.Proofs.YtcbhhbcfnaekpaaDoor
open Go.RowKit
set_option linter.unusedVariables false

set_option maxRecDepth 100000 in
set_option maxHeartbeats 1000000 in
theorem placesOf_any (s : ByteArray) (w : World) (hs : s.size ≤ 1048576) :
    Calls Tryd.prog 53 #[.string s] w fun e w' => ∃ v, e = .returned v ∧ Below w.heap.size w w' ∧ w'.ownsRow w.heap.size 3 1 v (placeL s.data.toList).length (intsZ (placeL s.data.toList)) := by
  obtain ⟨i0, hi, hz0, hz1, hz2⟩ := info_parts info3
  have HI0 := Lib.hid hi; have HZ0 := Lib.hid hz0; have HZ1 := Lib.hid hz1; have HZ2 := Lib.hid hz2
  clear hi hz0 hz1 hz2
  go_enter Tryd.func53, Tryd.ntmps53
  go_wp2
  go_loopw [3, 7] (fun t3 t7 wr => ∃ (k : Nat) (A : Option Addr) (n c : Nat), k ≤ s.size ∧ t7 = .int .i64 k ∧ t3 = .slice A n c ∧ Hid (n = (placeL (s.data.toList.take k)).length) ∧ Hid (wr.ownsRow w.heap.size 3 1 (.slice A n c) n (intsZ (placeL (s.data.toList.take k)))) ∧ Hid (Below w.heap.size w wr)) (fun _ i _ => s.size - (intOf i).toNat)
  case atStart => exact ⟨0, none, 0, 0, Nat.zero_le _, rfl, rfl, Lib.hid rfl, Lib.hid (own_nil _ _ _ _), Lib.hid (Below.refl _ _)⟩
  case round =>
    obtain ⟨k, A, n, c, hk, rfl, rfl, HN, HO, HB⟩ := hrel
    have hBS := HB.out.size
    by_cases hlt : k < s.size
    · have hbp := bare_place (s.data.toList.take k) 0
      rw [List.length_take, len_list] at hbp
      have HBP : Hid ((k : Int) - (n : Int) = ((bareL (s.data.toList.take k)).length : Int)) := Lib.hid (by have h1 := HN.out; unfold placeL at h1; omega)
      have hnk : n ≤ k := by have h1 := HN.out; unfold placeL at h1; omega
      clear hbp
      by_cases h45 : s[k] = 45
      · have hc : ((s[k].toNat : Int) == 45) = true := by rw [h45]; rfl
        have HT : Hid (s.data.toList.take (k + 1) = s.data.toList.take k ++ [45]) := Lib.hid (by rw [take_snoc s k hlt, h45])
        have HPL : Hid (intsZ (placeL (s.data.toList.take (k + 1))) = intsZ (placeL (s.data.toList.take k)) ++ [.int .i64 ((k : Int) - (n : Int))]) := Lib.hid (by rw [HT.out, placeL_hyph, intsZ_snoc, HBP.out])
        have hmx : n + 1 ≤ maxLen := by unfold maxLen; omega
        have hin : -9223372036854775808 ≤ (k : Int) - (n : Int) ∧ (k : Int) - (n : Int) ≤ 9223372036854775807 := by omega
        clear h45
        go_wp2_with (at_builtin; refine wpList_append_own _ rfl _ _ 28 rfl w.heap.size 3 i0 (.int .i64 0) 1 8 Tryd.underlying28 HI0.out HZ0.out HZ1.out HZ2.out rfl (by decide) _ _ _ rfl (HO.out.alloc _) ⟨wr.heap.size, 0, none⟩ 1 1 [.int .i64 ((k : Int) - (n : Int))] rfl rfl (cell_one_new _ _ _) (by simp [Value.oneCell']) hmx (by omega) (by simp; omega) ?_)
        intro v' w4 hown' hgrow _
        have hb4 : Below w.heap.size w w4 := below_append HB.out hgrow HB.out.size (own_lt HO.out)
        rw [← HPL.out] at hown'
        obtain ⟨A4, c4, hv4⟩ := own_shape hown'
        subst hv4
        have HO4 := Lib.hid hown'; have HB4 := Lib.hid hb4
        clear hown' hgrow hb4
        go_wp2
        go_roundw
        case rel => exact ⟨k + 1, A4, n + 1, c4, by omega, by go_num, rfl, Lib.hid (by rw [HT.out, placeL_hyph, List.length_append, ← HN.out]; rfl), HO4, HB4⟩
        case measure => simp [intOf]; omega
      · have hc : ((s[k].toNat : Int) == 45) = false := by
          rw [beq_eq_false_iff_ne]
          intro e
          apply h45
          apply UInt8.toNat_inj.1
          show s[k].toNat = 45
          omega
        have HPN : Hid (placeL (s.data.toList.take (k + 1)) = placeL (s.data.toList.take k)) := Lib.hid (by rw [take_snoc s k hlt, placeL_other h45])
        clear h45
        go_wp2
        go_roundw
        case rel => exact ⟨k + 1, A, n, c, by omega, by go_num, rfl, Lib.hid (by rw [HPN.out]; exact HN.out), Lib.hid (by rw [HPN.out]; exact HO.out), HB⟩
        case measure => simp [intOf]; omega
    · obtain rfl : k = s.size := by omega
      have hT : s.data.toList.take s.size = s.data.toList := List.take_of_length_le (by rw [len_list]; exact Nat.le_refl _)
      rw [hT] at HN HO
      have HOF : Hid (wr.ownsRow w.heap.size 3 1 (.slice A n c) (placeL s.data.toList).length (intsZ (placeL s.data.toList))) := Lib.hid (by rw [← HN.out]; exact HO.out)
      clear hT
      go_wp2
      go_ret
      exact ⟨_, rfl, HB.out, HOF.out⟩
def oddG : Nat → List Int → List Int
  | _, [] => []
  | n, x :: r => if x % 2 = 1 then (n : Int) :: oddG (n + 1) r else oddG (n + 1) r
/-- The places whose values are odd. -/
def oddL (l : List Int) : List Int := oddG 1 l
theorem oddG_snoc : ∀ (l : List Int) (n : Nat) (x : Int), oddG n (l ++ [x]) = if x % 2 = 1 then oddG n l ++ [((n + l.length : Nat) : Int)] else oddG n l
  | [], n, x => by simp [oddG]
  | y :: r, n, x => by
    simp only [List.cons_append, oddG, oddG_snoc r (n + 1) x, List.length_cons]
    rw [show n + 1 + r.length = n + (r.length + 1) from by omega]
    by_cases h : x % 2 = 1 <;> by_cases h2 : y % 2 = 1 <;> simp [h, h2]
theorem oddL_yes {l : List Int} {k : Nat} (h : k < l.length) (hx : l[k] % 2 = 1) : oddL (l.take (k + 1)) = oddL (l.take k) ++ [(k : Int) + 1] := by
  unfold oddL
  rw [List.take_succ_eq_append_getElem h, oddG_snoc, if_pos hx, List.length_take]
  congr 2; omega
theorem oddL_no {l : List Int} {k : Nat} (h : k < l.length) (hx : ¬ l[k] % 2 = 1) : oddL (l.take (k + 1)) = oddL (l.take k) := by
  unfold oddL
  rw [List.take_succ_eq_append_getElem h, oddG_snoc, if_neg hx]
theorem oddG_mem : ∀ (l : List Int) (n : Nat) (x : Int), x ∈ oddG n l → (n : Int) ≤ x ∧ x < n + l.length
  | [], n, x, h => by simp [oddG] at h
  | y :: r, n, x, h => by
    have ih := oddG_mem r (n + 1) x
    unfold oddG at h
    simp only [List.length_cons]
    split at h
    · rcases List.mem_cons.1 h with rfl | h
      · omega
      · have := ih h; omega
    · have := ih h; omega
theorem oddG_len : ∀ (l : List Int) (n : Nat), (oddG n l).length ≤ l.length
  | [], _ => by simp [oddG]
  | y :: r, n => by
    have := oddG_len r (n + 1)
    unfold oddG
    split <;> simp <;> omega
set_option maxRecDepth 100000 in
set_option maxHeartbeats 1000000 in
theorem oddPlaces_any (l : List Int) (B : Option Addr) (d : Nat) (w : World) (hf : IntsIn w B l) (hl : ∀ x ∈ l, 0 ≤ x ∧ x ≤ 9) (hn : l.length ≤ 1048576) :
    Calls Tryd.prog 52 #[.slice B l.length d] w fun e w' => ∃ v, e = .returned v ∧ Below w.heap.size w w' ∧ w'.ownsRow w.heap.size 3 1 v (oddL l).length (intsZ (oddL l)) := by
  have HF := Lib.hid hf; have HL := Lib.hid hl; clear hf hl
  obtain ⟨i0, hi, hz0, hz1, hz2⟩ := info_parts info3
  have HI0 := Lib.hid hi; have HZ0 := Lib.hid hz0; have HZ1 := Lib.hid hz1; have HZ2 := Lib.hid hz2
  clear hi hz0 hz1 hz2
  go_enter Tryd.func52, Tryd.ntmps52
  go_wp2
  go_loopw [3, 8] (fun t3 t8 wr => ∃ (k : Nat) (A : Option Addr) (n c : Nat), k ≤ l.length ∧ t8 = .int .i64 k ∧ t3 = .slice A n c ∧ Hid (n = (oddL (l.take k)).length) ∧ Hid (wr.ownsRow w.heap.size 3 1 (.slice A n c) n (intsZ (oddL (l.take k)))) ∧ Hid (Below w.heap.size w wr)) (fun _ i _ => l.length - (intOf i).toNat)
  case atStart => exact ⟨0, none, 0, 0, Nat.zero_le _, rfl, rfl, Lib.hid rfl, Lib.hid (own_nil _ _ _ _), Lib.hid (Below.refl _ _)⟩
  case round =>
    obtain ⟨k, A, n, c, hk, rfl, rfl, HN, HO, HB⟩ := hrel
    have hBS := HB.out.size
    by_cases hlt : k < l.length
    · obtain ⟨b, off, hB, hbl, hc⟩ := HF.out (by omega)
      subst hB
      have hc0 := (HB.out.cell (p := ⟨b, off + k, none⟩) hbl).trans (hc k hlt)
      clear hc
      have hbd := HL.out l[k] (List.getElem_mem hlt)
      have hnk : n ≤ k := by
        have h1 := HN.out
        have h2 := oddG_len (l.take k) 1
        rw [List.length_take] at h2
        unfold oddL at h1; omega
      have htm : l[k].tmod 2 = l[k] % 2 := Int.tmod_eq_emod_of_nonneg hbd.1
      by_cases hx : l[k] % 2 = 1
      · have HOY := Lib.hid (oddL_yes hlt hx)
        have ht : (l[k] % 2 == 1) = true := by rw [hx]; rfl
        have HPL : Hid (intsZ (oddL (l.take (k + 1))) = intsZ (oddL (l.take k)) ++ [.int .i64 ((k : Int) + 1)]) := Lib.hid (by rw [HOY.out, intsZ_snoc])
        have hmx : n + 1 ≤ maxLen := by unfold maxLen; omega
        clear hx htm
        generalize l[k] = y at *
        go_wp2_with (at_builtin; refine wpList_append_own _ rfl _ _ 28 rfl w.heap.size 3 i0 (.int .i64 0) 1 8 Tryd.underlying28 HI0.out HZ0.out HZ1.out HZ2.out rfl (by decide) _ _ _ rfl (HO.out.alloc _) ⟨wr.heap.size, 0, none⟩ 1 1 [.int .i64 ((k : Int) + 1)] rfl rfl (cell_one_new _ _ _) (by simp [Value.oneCell']) hmx (by omega) (by simp; omega) ?_)
        intro v' w4 hown' hgrow _
        have hb4 : Below w.heap.size w w4 := below_append HB.out hgrow HB.out.size (own_lt HO.out)
        rw [← HPL.out] at hown'
        obtain ⟨A4, c4, hv4⟩ := own_shape hown'
        subst hv4
        have HO4 := Lib.hid hown'; have HB4 := Lib.hid hb4
        clear hown' hgrow hb4
        go_wp2
        go_roundw
        case rel => exact ⟨k + 1, A4, n + 1, c4, by omega, by go_num, rfl, Lib.hid (by rw [HOY.out, List.length_append, ← HN.out]; rfl), HO4, HB4⟩
        case measure => simp [intOf]; omega
      · have HON := Lib.hid (oddL_no hlt hx)
        have ht : (l[k] % 2 == 1) = false := by rw [beq_eq_false_iff_ne]; exact hx
        clear hx htm
        generalize l[k] = y at *
        go_wp2
        go_roundw
        case rel => exact ⟨k + 1, A, n, c, by omega, by go_num, rfl, Lib.hid (by rw [HON.out]; exact HN.out), Lib.hid (by rw [HON.out]; exact HO.out), HB⟩
        case measure => simp [intOf]; omega
    · obtain rfl : k = l.length := by omega
      rw [List.take_length] at HN HO
      have HOF : Hid (wr.ownsRow w.heap.size 3 1 (.slice A n c) (oddL l).length (intsZ (oddL l))) := Lib.hid (by rw [← HN.out]; exact HO.out)
      go_wp2
      go_ret
      exact ⟨_, rfl, HB.out, HOF.out⟩
/-- The place has at least two letters before and behind it. -/
def kpB (n x : Int) : Bool := decide (2 ≤ x) && decide (x ≤ n - 2)
theorem clos_keep (wd : ByteArray) (bx : Nat) (x : Int) (b : Bool) (w : World) (hc : w.cell? ⟨bx, 0, none⟩ = some (.string wd)) (hx : 0 ≤ x ∧ x ≤ 2000000) (hw : wd.size ≤ 1048576) (h : Hid (kpB wd.size x = b)) :
    Calls Tryd.prog 55 #[.int .i64 x, .pointer (some ⟨bx, 0, none⟩)] w fun e w' => e = .returned (.bool (!b)) ∧ w' = w := by
  rcases (by omega : x < 2 ∨ (¬ x < 2 ∧ (wd.size : Int) - x < 2) ∨ (¬ x < 2 ∧ ¬ (wd.size : Int) - x < 2)) with h1 | ⟨h1, h2⟩ | ⟨h1, h2⟩
  · have HB : Hid (b = false) := Lib.hid (by rw [← h.out]; unfold kpB; rw [decide_eq_false (by omega : ¬ (2 : Int) ≤ x)]; rfl)
    go_enter Tryd.func55, Tryd.ntmps55
    go_wp2
    go_ret
    exact ⟨ret_bool (by rw [HB.out]; rfl), rfl⟩
  · have HB : Hid (b = false) := Lib.hid (by rw [← h.out]; unfold kpB; rw [decide_eq_false (by omega : ¬ x ≤ (wd.size : Int) - 2)]; simp)
    go_enter Tryd.func55, Tryd.ntmps55
    go_wp2
    go_ret
    exact ⟨ret_bool (by rw [HB.out]; rfl), rfl⟩
  · have HB : Hid (b = true) := Lib.hid (by rw [← h.out]; unfold kpB; rw [decide_eq_true (by omega : (2 : Int) ≤ x), decide_eq_true (by omega : x ≤ (wd.size : Int) - 2)]; rfl)
    go_enter Tryd.func55, Tryd.ntmps55
    go_wp2
    go_ret
    exact ⟨ret_bool (by rw [HB.out]; rfl), rfl⟩
/-- The first that goes, from k on; -1 if none goes. -/
def idxD (n : Int) : List Int → Nat → Int
  | [], _ => -1
  | x :: r, k => if kpB n x then idxD n r (k + 1) else (k : Int)
theorem idxD_drop (n : Int) (l : List Int) (k : Nat) (h : k < l.length) : idxD n (l.drop k) k = if kpB n l[k] then idxD n (l.drop (k + 1)) (k + 1) else (k : Int) := by
  rw [List.drop_eq_getElem_cons h]; rfl
theorem idxD_cases (n : Int) : ∀ (l : List Int) (k : Nat), (idxD n l k = -1 ∧ ∀ x ∈ l, kpB n x = true) ∨ ∃ i, ∃ h : i < l.length, idxD n l k = ((k + i : Nat) : Int) ∧ kpB n l[i] = false ∧ ∀ x ∈ l.take i, kpB n x = true
  | [], k => .inl ⟨rfl, fun x hx => by simp at hx⟩
  | y :: r, k => by
    cases hy : kpB n y
    · exact .inr ⟨0, by simp, by simp [idxD, hy], by simpa using hy, fun x hx => by simp at hx⟩
    · rcases idxD_cases n r (k + 1) with ⟨h1, h2⟩ | ⟨i, hi, h1, h2, h3⟩
      · refine .inl ⟨by simp [idxD, hy, h1], fun x hx => ?_⟩
        rcases List.mem_cons.1 hx with rfl | hx
        · exact hy
        · exact h2 x hx
      · refine .inr ⟨i + 1, by simp; omega, by simp only [idxD, hy, if_true, h1]; congr 1; omega, by simpa using h2, fun x hx => ?_⟩
        rw [List.take_succ_cons] at hx
        rcases List.mem_cons.1 hx with rfl | hx
        · exact hy
        · exact h3 x hx
set_option maxRecDepth 100000 in
theorem indexFunc_any (l : List Int) (B : Option Addr) (d : Nat) (wd : ByteArray) (bx : Nat) (w : World) (hf : IntsIn w B l) (hc : w.cell? ⟨bx, 0, none⟩ = some (.string wd)) (hl : ∀ x ∈ l, 0 ≤ x ∧ x ≤ 2000000) (hn : l.length ≤ 2000000) (hw : wd.size ≤ 1048576) :
    Calls Tryd.prog 82 #[.slice B l.length d, .func (.func 55) #[] #[.pointer (some ⟨bx, 0, none⟩)]] w fun e w' => e = .returned (.int .i64 (idxD wd.size l 0)) ∧ w' = w := by
  have HF := Lib.hid hf; have HL := Lib.hid hl; have HC := Lib.hid hc; clear hf hl hc
  go_enter Tryd.func82, Tryd.ntmps82
  go_wp2
  go_loopw [8] (fun i wr => ∃ k : Nat, k ≤ l.length ∧ i = .int .i64 k ∧ idxD wd.size l 0 = idxD wd.size (l.drop k) k ∧ wr = w) (fun i _ => l.length - (intOf i).toNat)
  case atStart => exact ⟨0, Nat.zero_le _, rfl, rfl, rfl⟩
  case round =>
    obtain ⟨k, hk, rfl, hs, hwr⟩ := hrel
    subst hwr
    have HS := Lib.hid hs; clear hs
    by_cases hlt : k < l.length
    · obtain ⟨b, off, hB, hbl, hcl⟩ := HF.out (by omega)
      subst hB
      have hc0 := hcl k hlt
      clear hcl
      have hbd := HL.out l[k] (List.getElem_mem hlt)
      have HD := Lib.hid (idxD_drop wd.size l k hlt)
      cases hkp : kpB wd.size l[k]
      · have HK := Lib.hid hkp
        have HE : Hid (idxD wd.size l 0 = (k : Int)) := Lib.hid (by rw [HS.out, HD.out, hkp]; rfl)
        clear hkp
        generalize l[k] = y at *
        go_wp2_with fail
        refine (clos_keep wd bx y false _ HC.out hbd hw HK).mono ?_
        rintro e w1 ⟨rfl, rfl⟩
        go_wp2
        go_ret
        exact ⟨by first | exact ret_int HE.out.symm | exact HE.out.symm | exact HE.out, by first | rfl | trivial⟩
      · have HK := Lib.hid hkp
        have HE : Hid (idxD wd.size l 0 = idxD wd.size (l.drop (k + 1)) (k + 1)) := Lib.hid (by rw [HS.out, HD.out, hkp]; rfl)
        clear hkp
        generalize l[k] = y at *
        go_wp2_with fail
        refine (clos_keep wd bx y true _ HC.out hbd hw HK).mono ?_
        rintro e w1 ⟨rfl, rfl⟩
        go_wp2
        go_roundw
        case rel => exact ⟨k + 1, by omega, by go_num, HE.out, by first | rfl | trivial⟩
        case measure => simp [intOf]; omega
    · obtain rfl : k = l.length := by omega
      have HE : Hid (idxD wd.size l 0 = -1) := Lib.hid (by rw [HS.out, List.drop_length]; rfl)
      go_wp2
      go_ret
      exact ⟨by first | exact ret_int HE.out.symm | exact HE.out.symm | exact HE.out, by first | rfl | trivial⟩
end Go.Proofs.YtcbhhbcfnaekpaaDoor

import Derived.Test.YtnbnegkoanidmaaGreatDoorMwb
import Derived.OwnWalk
import Derived.Maps.AppendAt
/-
  The contracts of slices.stableCmpFunc (up to 32 rows) and slices.SortStableFunc, given that of slices.symMergeCmpFunc (SymTo).
-/
namespace Go.Proofs.YtnbnegkoanidmaaGreatDoor
open Go.RowKit
set_option linter.unusedVariables false

/-- What slices.symMergeCmpFunc does. -/
def SymTo (fuel : Nat) : Prop := ∀ (b N c : Nat) (a m hi : Nat) (f : Nat → Rq) (w : World), hi - a ≤ fuel → RowsF w b N f → N ≤ 1000 → hi ≤ N → Mg a m hi f →
  Calls Tryz.prog 81 #[.slice (some ⟨b, 0, none⟩) N c, .int .i64 (a : Int), .int .i64 (m : Int), .int .i64 (hi : Int), .func (.func 47) #[] #[]] w fun e w' => ∃ f', SortTo w w' b N f' e ∧ Same a hi f f' ∧ Srt a hi f'
set_option maxRecDepth 100000 in
set_option maxHeartbeats 4000000 in
theorem stable_any (hsym : ∀ n, SymTo n) (b N c : Nat) (f : Nat → Rq) (w : World) (h : RowsF w b N f) (hN : N ≤ 32) (hasc : Asc 0 N f) :
    Calls Tryz.prog 66 #[.slice (some ⟨b, 0, none⟩) N c, .int .i64 (N : Int), .func (.func 47) #[] #[]] w fun e w' => ∃ f', SortTo w w' b N f' e ∧ Same 0 N f f' ∧ Srt 0 N f' := by
  have HR := Lib.hid h; have HA := Lib.hid hasc; have HSYM := Lib.hid hsym; clear h hasc hsym
  by_cases h20 : N < 20
  · have hi1 : ¬ (20 : Int) ≤ (N : Int) := by omega
    have hi2 : ¬ (20 : Int) < (N : Int) := by omega
    go_enter Tryz.func66, Tryz.ntmps66
    go_wp2
    refine wp_loop_rounds 1 ?_
    rw [rounds_succ]
    go_wp2_with fail
    refine (insertion_any b N c 0 N f _ HR.out (by omega) (by omega) (by omega) HA.out).mono ?_
    rintro e w1 ⟨f1, ⟨rfl, hr1, hg1⟩, hs1, ht1⟩
    have HR1 := Lib.hid hr1; have HG1 := Lib.hid hg1; have HS1 := Lib.hid hs1; have HT1 := Lib.hid ht1
    clear hr1 hg1 hs1 ht1
    go_wp2
    refine wp_loop_rounds 1 ?_
    rw [rounds_succ]
    go_wp2
    go_end0
    exact ⟨f1, ⟨rfl, HR1.out, HG1.out⟩, HS1.out, HT1.out⟩
  · have hi1 : (20 : Int) ≤ (N : Int) := by omega
    have hi3 : ¬ (40 : Int) ≤ (N : Int) := by omega
    have HA1 : Hid (Asc 0 20 f) := Lib.hid (fun i j h1 h2 h3 => HA.out i j h1 h2 (by omega))
    go_enter Tryz.func66, Tryz.ntmps66
    go_wp2
    refine wp_loop_rounds 2 ?_
    rw [rounds_succ]
    go_wp2_with fail
    refine (insertion_any b N c 0 20 f _ HR.out (by omega) (by omega) (by omega) HA1.out).mono ?_
    rintro e w1 ⟨f1, ⟨rfl, hr1, hg1⟩, hs1, ht1⟩
    have HR1 := Lib.hid hr1; have HG1 := Lib.hid hg1; have HS1 := Lib.hid hs1; have HT1 := Lib.hid ht1
    have HA2 : Hid (Asc 20 N f1) := Lib.hid (fun i j h1 h2 h3 => by rw [hs1.1 i (by omega), hs1.1 j (by omega)]; exact HA.out i j (by omega) h2 h3)
    clear hr1 hg1 hs1 ht1
    go_wp2
    rw [rounds_succ]
    go_wp2_with fail
    refine (insertion_any b N c 20 N f1 _ HR1.out (by omega) (by omega) (by omega) HA2.out).mono ?_
    rintro e w2 ⟨f2, ⟨rfl, hr2, hg2⟩, hs2, ht2⟩
    have HR2 := Lib.hid hr2; have HG2 := Lib.hid (gr_trans HG1.out hg2); have HT2 := Lib.hid ht2
    have HS : Hid (Same 0 N f f2) := Lib.hid ((HS1.out.wide (Nat.le_refl _) (by omega)).trans (hs2.wide (by omega) (Nat.le_refl _)))
    have HT0 : Hid (Srt 0 20 f2) := Lib.hid (fun i j h1 h2 h3 => by rw [hs2.1 i (by omega), hs2.1 j (by omega)]; exact HT1.out i j h1 h2 h3)
    have HORD : Hid (∀ k l, 0 ≤ k → k < 20 → 20 ≤ l → l < N → (f2 k).i < (f2 l).i) := Lib.hid (fun k l h1 h2 h3 h4 => by
      rw [hs2.1 k (by omega)]
      obtain ⟨k', k1, k2, ek⟩ := HS1.out.back h1 h2
      obtain ⟨l', l1, l2, el⟩ := hs2.back h3 h4
      rw [← ek, ← el, HS1.out.1 l' (by omega)]
      exact HA.out k' l' k1 (by omega) l2)
    clear hr2 hg2 hs2 ht2
    by_cases h20' : N = 20
    · have hi4 : ¬ (20 : Int) < (N : Int) := by omega
      have HSR : Hid (Srt 0 N f2) := Lib.hid (by rw [h20']; exact HT0.out)
      clear h20'
      go_wp2
      refine wp_loop_rounds 1 ?_
      rw [rounds_succ]
      go_wp2
      go_end0
      exact ⟨f2, ⟨rfl, HR2.out, HG2.out⟩, HS.out, HSR.out⟩
    · have hi4 : (20 : Int) < (N : Int) := by omega
      have HMG : Hid (Mg 0 20 N f2) := Lib.hid ⟨by omega, by omega, HT0.out, HT2.out, HORD.out⟩
      have hi5 : ¬ (40 : Int) < (N : Int) := by omega
      go_wp2
      refine wp_loop_rounds 2 ?_
      rw [rounds_succ]
      go_wp2
      refine wp_loop_rounds 1 ?_
      rw [rounds_succ]
      go_wp2_with fail
      refine (HSYM.out N b N c 0 20 N f2 _ (by omega) HR2.out (by omega) (Nat.le_refl _) HMG.out).mono ?_
      rintro e w3 ⟨f3, ⟨rfl, hr3, hg3⟩, hs3, ht3⟩
      have HR3 := Lib.hid hr3; have HG3 := Lib.hid (gr_trans HG2.out hg3); have HS3 := Lib.hid (HS.out.trans hs3); have HT3 := Lib.hid ht3
      clear hr3 hg3 hs3 ht3
      go_wp2
      rw [rounds_succ]
      go_wp2
      go_end0
      exact ⟨f3, ⟨rfl, HR3.out, HG3.out⟩, HS3.out, HT3.out⟩

theorem sortStable_any (hsym : ∀ n, SymTo n) (b N c : Nat) (f : Nat → Rq) (w : World) (h : RowsF w b N f) (hN : N ≤ 32) (hasc : Asc 0 N f) :
    Calls Tryz.prog 46 #[.slice (some ⟨b, 0, none⟩) N c, .func (.func 47) #[] #[]] w fun e w' => ∃ f', SortTo w w' b N f' e ∧ Same 0 N f f' ∧ Srt 0 N f' := by
  go_enter Tryz.func46, Tryz.ntmps46
  go_wp2_with fail
  refine (stable_any hsym b N c f _ h hN hasc).mono ?_
  rintro e w1 ⟨f1, ⟨rfl, hr1, hg1⟩, hs1, ht1⟩
  have HR1 := Lib.hid hr1; have HG1 := Lib.hid hg1; have HS1 := Lib.hid hs1; have HT1 := Lib.hid ht1
  clear hr1 hg1 hs1 ht1 h hasc
  go_wp2
  go_end0
  exact ⟨f1, ⟨rfl, HR1.out, HG1.out⟩, HS1.out, HT1.out⟩
end Go.Proofs.YtnbnegkoanidmaaGreatDoor

/-
  The contract of impl.tableOfCounts at ints, and of impl.greatestFirst, given that of slices.symMergeCmpFunc.
-/
namespace Go.Proofs.YtnbnegkoanidmaaGreatDoor
open Go.RowKit
set_option linter.unusedVariables false

def flatR (l : List Rq) : List Value := l.flatMap fun r => [.int .i64 r.i, .int .i64 r.v]
theorem flatR_len (l : List Rq) : (flatR l).length = 2 * l.length := by
  induction l with
  | nil => rfl
  | cons x r ih => simp [flatR] at ih ⊢; omega
theorem flatR_snoc (l : List Rq) (x : Rq) : flatR (l ++ [x]) = flatR l ++ [.int .i64 x.i, .int .i64 x.v] := by simp [flatR]
theorem flatR_get : ∀ (l : List Rq) (k : Nat) (h : k < l.length), (flatR l)[k * 2]? = some (.int .i64 l[k].i) ∧ (flatR l)[k * 2 + 1]? = some (.int .i64 l[k].v)
  | x :: r, 0, _ => ⟨rfl, rfl⟩
  | x :: r, k + 1, h => by
    have ih := flatR_get r k (by simpa using h)
    have e : flatR (x :: r) = .int .i64 x.i :: .int .i64 x.v :: flatR r := rfl
    rw [e, show (k + 1) * 2 = k * 2 + 1 + 1 from by omega]
    simpa using ih
/-- The numbers that are not 0, with their indices. -/
def gtT (R : List Int) : Nat → List Rq
  | 0 => []
  | k + 1 => if R.getD k 0 = 0 then gtT R k else gtT R k ++ [⟨k, R.getD k 0⟩]
theorem gtT_len (R : List Int) (k : Nat) : (gtT R k).length ≤ k := by
  induction k with
  | zero => exact Nat.le_refl _
  | succ k ih =>
    simp only [gtT]
    split
    · omega
    · rw [List.length_append]; show _ + 1 ≤ _; omega
theorem getI_of {ks : List Int} {i : Nat} (h : i < ks.length) : ks.getD i 0 = ks[i] := by rw [List.getD_eq_getElem?_getD, List.getElem?_eq_getElem h]; rfl
theorem infoR2 : (Tryz.prog.info? 56).map (fun i => (i.zero, i.size, i.bytes)) = some (some (.agg #[.int .i64 0, .int .i64 0]), 2, 16) := by kernel_rfl
theorem news_2 {a b : Value} (w : World) {g : Nat} {t : TypeId} (h : w.heap[g]? = some (.cells #[a, b] t (0, 0))) : ∀ j u, [a, b][j]? = some u → w.cell? ((⟨g, 0, none⟩ : Addr).add j) = some u := by
  intro j u hu
  rw [show (⟨g, 0, none⟩ : Addr).add j = ⟨g, 0 + j, none⟩ from by unfold Addr.add; by_cases hk : j = 0 <;> simp [hk], Nat.zero_add, cell_of_heap h]
  simpa using hu
theorem lit_any (i n : Int) (w : World) : Calls Tryz.prog 45 #[.int .i64 i, .int .i64 n] w fun e w' => e = .returned (.int .i64 n) ∧ w = w' := by
  go_enter Tryz.func45, Tryz.ntmps45
  go_wp2
  go_ret
  exact ⟨rfl, rfl⟩
theorem info_partsR {P : Program} {t : TypeId} {z : Value} {a b : Nat} (h : (P.info? t).map (fun i => (i.zero, i.size, i.bytes)) = some (some z, a, b)) : ∃ i, P.info? t = some i ∧ i.zero = some z ∧ i.size = a ∧ i.bytes = b := by
  cases hi : P.info? t with
  | none => rw [hi] at h; cases h
  | some i => rw [hi] at h; simp at h; exact ⟨i, rfl, h.1, h.2.1, h.2.2⟩

set_option maxRecDepth 100000 in
set_option maxHeartbeats 1000000 in
theorem table_any (N : List Int) (A : Option Addr) (c : Nat) (w : World) (hA : IntsIn w A N) (hs : N.length ≤ 32) :
    Calls Tryz.prog 44 #[.slice A N.length c, .func (.func 45) #[] #[]] w fun e w' => ∃ v, e = .returned v ∧ Below w.heap.size w w' ∧ w'.ownsRow w.heap.size 56 2 v (gtT N N.length).length (flatR (gtT N N.length)) := by
  have HA := Lib.hid hA
  clear hA
  obtain ⟨i0, hi, hz0, hz1, hz2⟩ := info_partsR infoR2
  have HI0 := Lib.hid hi; have HZ0 := Lib.hid hz0; have HZ1 := Lib.hid hz1; have HZ2 := Lib.hid hz2
  clear hi hz0 hz1 hz2
  go_enter Tryz.func44, Tryz.ntmps44
  go_wp2
  go_loopw [5, 10] (fun v i wr => ∃ (k : Nat), k ≤ N.length ∧ i = .int .i64 k ∧ wr.ownsRow w.heap.size 56 2 v (gtT N k).length (flatR (gtT N k)) ∧ Below w.heap.size w wr) (fun _ i _ => N.length - (intOf i).toNat)
  case atStart => exact ⟨0, Nat.zero_le _, rfl, own_nil _ _ _ _, Below.refl _ _⟩
  case round =>
    obtain ⟨k, hk, rfl, hown, hb⟩ := hrel
    have HOWN := Lib.hid hown; clear hown
    have HBW := Lib.hid hb; clear hb
    by_cases hlt : k < N.length
    · obtain ⟨b, off, rfl, hbl, hc⟩ := HA.out (by omega)
      have hc0 := (HBW.out.cell (p := ⟨b, off + k, none⟩) hbl).trans (hc k hlt)
      clear hc
      have hSTEP : gtT N (k + 1) = if N[k] = 0 then gtT N k else gtT N k ++ [⟨k, N[k]⟩] := by simp only [gtT]; rw [getI_of hlt]
      have HST := Lib.hid hSTEP; clear hSTEP
      have hlen := gtT_len N k
      generalize hx : N[k] = x at *
      by_cases hx0 : x = 0
      · have hxb : (x != 0) = false := by simp [hx0]
        have HE : Hid (gtT N (k + 1) = gtT N k) := Lib.hid (by rw [HST.out, if_pos hx0])
        clear hx0
        go_wp2
        go_roundw
        case rel => exact ⟨k + 1, by omega, by go_num, by rw [HE.out]; exact HOWN.out, HBW.out⟩
        case measure => simp [intOf]; omega
      · have hxb : (x != 0) = true := by simp [hx0]
        have HE : Hid (gtT N (k + 1) = gtT N k ++ [⟨k, x⟩]) := Lib.hid (by rw [HST.out, if_neg hx0])
        clear hx0 HST
        have hownw := HOWN.out
        have hmx : (gtT N k).length + 1 ≤ maxLen := by unfold maxLen; omega
        have hsz := HBW.out.size
        go_wp2_with fail
        refine (lit_any _ _ _).mono ?_
        rintro e w3 ⟨rfl, rfl⟩
        clear hc0
        go_wp2_with (at_builtin; refine wpList_append_own _ rfl _ _ 53 rfl w.heap.size 56 i0 (.agg #[.int .i64 0, .int .i64 0]) 2 16 Tryz.underlying53 HI0.out HZ0.out HZ1.out HZ2.out rfl (by decide) _ _ _ rfl (hownw.alloc _) ⟨wr.heap.size, 0, none⟩ 1 1 [.int .i64 (k : Int), .int .i64 x] rfl rfl (news_2 _ (heap_new _ _)) (by simp [Value.oneCell']) hmx (by omega) (by simp; omega) ?_)
        intro v' w4 hown' hgrow _
        have HB1 : Hid (Below w.heap.size w w4) := Lib.hid ((HBW.out.alloc HBW.out.size _).grown hgrow (by simp; omega) (own_lt hownw))
        have HO3 : Hid (w4.ownsRow w.heap.size 56 2 v' (gtT N (k + 1)).length (flatR (gtT N (k + 1)))) := Lib.hid (by
          rw [HE.out, flatR_snoc, List.length_append]; exact hown')
        clear hown' hgrow hownw HOWN HBW
        go_wp2
        go_roundw
        case rel => exact ⟨k + 1, by omega, by go_num, HO3.out, HB1.out⟩
        case measure => simp [intOf]; omega
    · obtain rfl : k = N.length := by omega
      go_wp2
      go_ret
      exact ⟨_, rfl, HBW.out, HOWN.out⟩

def rowAt (l : List Rq) : Nat → Rq := fun k => l.getD k ⟨0, 0⟩
theorem rowAt_of {l : List Rq} {k : Nat} (h : k < l.length) : rowAt l k = l[k] := by unfold rowAt; rw [List.getD_eq_getElem?_getD, List.getElem?_eq_getElem h]; rfl
theorem own_rowsF {w : World} {base n : Nat} {v : Value} {l : List Rq} (h : w.ownsRow base 56 2 v n (flatR l)) (h0 : 0 < l.length) : ∃ g c, v = .slice (some ⟨g, 0, none⟩) l.length c ∧ base ≤ g ∧ RowsF w g l.length (rowAt l) := by
  have hn : n = l.length := by have := h.1; rw [flatR_len] at this; omega
  subst hn
  rcases h.2 with ⟨rfl, h1⟩ | ⟨g, cap, cur, rfl, hg, hh, h1, h2, h3, h4⟩
  · omega
  · refine ⟨g, cap, rfl, hg, cur, hh, by omega, fun k hk => ?_⟩
    have e : ∀ j, j < l.length * 2 → cur[j]? = (flatR l)[j]? := fun j hj => by
      rw [← h4, List.getElem?_take_of_lt (by omega), ← Array.getElem?_toList]
    obtain ⟨g1, g2⟩ := flatR_get l k hk
    rw [e _ (by omega), e _ (by omega), rowAt_of hk]
    exact ⟨g1, g2⟩
theorem gtT_asc (R : List Int) : ∀ k, (∀ x, x ∈ gtT R k → x.i < (k : Int)) ∧ ∀ i j (hi : i < (gtT R k).length) (hj : j < (gtT R k).length), i < j → (gtT R k)[i].i < (gtT R k)[j].i
  | 0 => ⟨fun x h => by simp [gtT] at h, fun i j hi => by simp [gtT] at hi⟩
  | k + 1 => by
    obtain ⟨h1, h2⟩ := gtT_asc R k
    by_cases hz : R.getD k 0 = 0
    · have e : gtT R (k + 1) = gtT R k := by simp only [gtT]; rw [if_pos hz]
      rw [e]
      exact ⟨fun x hx => by have := h1 x hx; omega, h2⟩
    · have e : gtT R (k + 1) = gtT R k ++ [⟨k, R.getD k 0⟩] := by simp only [gtT]; rw [if_neg hz]
      rw [e]
      refine ⟨fun x hx => ?_, fun i j hi hj hij => ?_⟩
      · rcases List.mem_append.1 hx with hx | hx
        · have := h1 x hx; omega
        · simp at hx; subst hx; show (k : Int) < _; omega
      · rw [List.length_append] at hi hj
        simp only [List.length_singleton] at hi hj
        by_cases c : j < (gtT R k).length
        · rw [List.getElem_append_left (by omega), List.getElem_append_left c]; exact h2 i j _ _ hij
        · have : i < (gtT R k).length := by omega
          rw [List.getElem_append_left this, List.getElem_append_right (by omega)]
          simp only [List.getElem_singleton]
          exact h1 _ (List.getElem_mem _)
end Go.Proofs.YtnbnegkoanidmaaGreatDoor

/-
  The contract of impl.greatestFirst, given that of slices.symMergeCmpFunc; that there is one sorted order of the rows, and one alone.
-/
namespace Go.Proofs.YtnbnegkoanidmaaGreatDoor
open Go.RowKit
set_option linter.unusedVariables false

theorem insertion_none (A : Option Addr) (c : Nat) (F : Value) (w : World) :
    Calls Tryz.prog 80 #[.slice A 0 c, .int .i64 0, .int .i64 0, F] w fun e w' => e = .returned (.tuple #[]) ∧ w = w' := by
  go_enter Tryz.func80, Tryz.ntmps80
  go_wp2
  refine wp_loop_rounds 1 ?_
  rw [rounds_succ]
  go_wp2
  go_end0
  exact ⟨rfl, rfl⟩
theorem stable_none (A : Option Addr) (c : Nat) (F : Value) (w : World) :
    Calls Tryz.prog 66 #[.slice A 0 c, .int .i64 0, F] w fun e w' => e = .returned (.tuple #[]) ∧ w = w' := by
  go_enter Tryz.func66, Tryz.ntmps66
  go_wp2
  refine wp_loop_rounds 1 ?_
  rw [rounds_succ]
  go_wp2_with fail
  refine (insertion_none A c F _).mono ?_
  rintro e w1 ⟨rfl, rfl⟩
  go_wp2
  refine wp_loop_rounds 1 ?_
  rw [rounds_succ]
  go_wp2
  go_end0
  exact ⟨rfl, rfl⟩
theorem sortStable_none (A : Option Addr) (c : Nat) (F : Value) (w : World) :
    Calls Tryz.prog 46 #[.slice A 0 c, F] w fun e w' => e = .returned (.tuple #[]) ∧ w = w' := by
  go_enter Tryz.func46, Tryz.ntmps46
  go_wp2_with fail
  refine (stable_none A c F _).mono ?_
  rintro e w1 ⟨rfl, rfl⟩
  go_wp2
  go_end0
  exact ⟨rfl, rfl⟩

theorem insert_ex {i : Nat} : ∀ (j : Nat) (g : Nat → Rq), Inn 0 i j g → ∃ h, Same 0 (i + 1) g h ∧ Srt 0 (i + 1) h
  | 0, g, hg => ⟨g, Same.refl _ _ _, hg.front⟩
  | j + 1, g, hg => by
    by_cases hl : (g j).v < (g (j + 1)).v
    · obtain ⟨h, h1, h2⟩ := insert_ex j _ (hg.step (Nat.zero_le _) hl)
      have := hg.hi
      exact ⟨h, (sw_same (Nat.zero_le _) (by omega) (Nat.zero_le _) (by omega)).trans h1, h2⟩
    · exact ⟨g, Same.refl _ _ _, hg.stop (Nat.zero_le _) hl⟩
theorem sort_ex {f : Nat → Rq} : ∀ (n : Nat), Asc 0 n f → ∃ g, Same 0 n f g ∧ Srt 0 n g
  | 0, _ => ⟨f, Same.refl _ _ _, fun i j h1 h2 h3 => by omega⟩
  | n + 1, h => by
    obtain ⟨g, h1, h2⟩ := sort_ex n (fun i j a b c => h i j a b (by omega))
    have ho : Out 0 n f g := ⟨h1, h2⟩
    obtain ⟨h', h3, h4⟩ := insert_ex n g (ho.start h (by omega) (Nat.zero_le _))
    exact ⟨h', (h1.wide (Nat.le_refl _) (by omega)).trans h3, h4⟩
theorem sort_uniq {n : Nat} {f g h : Nat → Rq} (sg : Same 0 n f g) (tg : Srt 0 n g) (sh : Same 0 n f h) (th : Srt 0 n h) : ∀ k, k < n → g k = h k := fun k => by
  induction k using Nat.strongRecOn with
  | _ k ih =>
    intro hk
    obtain ⟨a, _, a1, ea⟩ := sg.back (Nat.zero_le k) hk
    obtain ⟨l, _, l1, el⟩ := (sh.2 (g k)).1 ⟨a, Nat.zero_le _, a1, ea⟩
    obtain ⟨c, _, c1, ec⟩ := sh.back (Nat.zero_le k) hk
    obtain ⟨m, _, m1, em⟩ := (sg.2 (h k)).1 ⟨c, Nat.zero_le _, c1, ec⟩
    rcases (by omega : l < k ∨ l = k ∨ k < l) with c2 | c2 | c2
    · have e := ih l c2 l1
      rw [el] at e
      have := tg l k (Nat.zero_le _) c2 hk
      rw [e] at this
      exact absurd this ah_irr
    · rw [← el, c2]
    · have g1 := th k l (Nat.zero_le _) c2 l1
      rw [el, ← em] at g1
      rcases (by omega : m < k ∨ m = k ∨ k < m) with c3 | c3 | c3
      · have e := ih m c3 m1
        rw [em] at e
        have := th m k (Nat.zero_le _) c3 hk
        rw [← e] at this
        exact absurd this ah_irr
      · rw [c3] at g1; exact absurd g1 ah_irr
      · exact absurd (g1.trans (tg k m (Nat.zero_le _) c3 m1)) ah_irr
theorem rows_asc (R : List Int) : Asc 0 (gtT R R.length).length (rowAt (gtT R R.length)) := fun i j h1 h2 h3 => by
  rw [rowAt_of (by omega), rowAt_of h3]
  exact (gtT_asc R R.length).2 i j _ _ h2
/-- The rows of the numbers that are not 0, the greatest first. -/
noncomputable def topF (R : List Int) : Nat → Rq := Classical.choose (sort_ex _ (rows_asc R))
theorem topF_same (R : List Int) : Same 0 (gtT R R.length).length (rowAt (gtT R R.length)) (topF R) := (Classical.choose_spec (sort_ex _ (rows_asc R))).1
theorem topF_srt (R : List Int) : Srt 0 (gtT R R.length).length (topF R) := (Classical.choose_spec (sort_ex _ (rows_asc R))).2

/-- What impl.greatestFirst answers. -/
def GrTo (w w' : World) (e : Ending) (R : List Int) : Prop :=
  ∃ (B : Option Addr) (d : Nat), e = .returned (.slice B (gtT R R.length).length d) ∧ Below w.heap.size w w' ∧ ((gtT R R.length).length ≤ d ∧ (B = none → d = 0)) ∧
    (0 < (gtT R R.length).length → ∃ g, B = some ⟨g, 0, none⟩ ∧ w.heap.size ≤ g ∧ RowsF w' g (gtT R R.length).length (topF R))
theorem own_form2 {w : World} {base n : Nat} {e : TypeId} {v : Value} {xs : List Value} (h : w.ownsRow base e 2 v n xs) : ∃ B d, v = .slice B n d ∧ n ≤ d ∧ (B = none → d = 0) := by
  rcases h.2 with ⟨rfl, hz⟩ | ⟨G, cap, cur, rfl, hg, hh, h1, _⟩
  · exact ⟨none, 0, by rw [hz], by omega, fun _ => rfl⟩
  · exact ⟨_, cap, rfl, h1, fun h => by cases h⟩
theorem RowsF.same {w : World} {b n : Nat} {f g : Nat → Rq} (h : RowsF w b n f) (he : ∀ k, k < n → f k = g k) : RowsF w b n g := by
  obtain ⟨cur, h1, h2, h3⟩ := h
  exact ⟨cur, h1, h2, fun k hk => by rw [← he k hk]; exact h3 k hk⟩
theorem greatestFirst_any (hsym : ∀ n, SymTo n) (R : List Int) (A : Option Addr) (c : Nat) (w : World) (hA : IntsIn w A R) (hs : R.length ≤ 32) :
    Calls Tryz.prog 23 #[.slice A R.length c] w fun e w' => GrTo w w' e R := by
  go_enter Tryz.func23, Tryz.ntmps23
  go_wp2_with fail
  refine (table_any R A c _ hA hs).mono ?_
  rintro e w1 ⟨v, rfl, hb, ho⟩
  have HO := Lib.hid ho; have HB := Lib.hid hb
  have hl := gtT_len R R.length
  clear hA ho hb
  obtain ⟨B, d, rfl, hd, hdn⟩ := own_form2 HO.out
  by_cases h0 : 0 < (gtT R R.length).length
  · obtain ⟨g, c2, hv, hg, hr⟩ := own_rowsF HO.out h0
    injection hv with hv1 _ hv3
    subst hv1 hv3
    have HR := Lib.hid hr
    clear hr
    go_wp2_with fail
    refine (sortStable_any hsym g _ _ _ _ HR.out (by omega) (rows_asc R)).mono ?_
    rintro e w2 ⟨f1, ⟨rfl, hr1, hg1⟩, hs1, ht1⟩
    have HR2 : Hid (RowsF w2 g (gtT R R.length).length (topF R)) := Lib.hid (hr1.same (sort_uniq hs1 ht1 (topF_same R) (topF_srt R)))
    have HB2 : Hid (Below w.heap.size w w2) := Lib.hid (HB.out.grown hg1 HB.out.size (fun k hk => by have h9 : g = k := Option.some.inj hk; omega))
    clear hr1 hg1 hs1 ht1
    go_wp2
    go_ret
    exact ⟨_, _, rfl, HB2.out, ⟨hd, hdn⟩, fun _ => ⟨g, rfl, hg, HR2.out⟩⟩
  · have hz : (gtT R R.length).length = 0 := by omega
    have HZ := Lib.hid hz
    rw [hz]
    clear hz
    go_wp2_with fail
    refine (sortStable_none B d _ _).mono ?_
    rintro e w2 ⟨rfl, rfl⟩
    go_wp2
    go_ret
    exact ⟨B, d, by show Ending.returned (Value.slice B 0 d) = _; rw [HZ.out], HB.out, ⟨by omega, hdn⟩, fun h => absurd h h0⟩
end Go.Proofs.YtnbnegkoanidmaaGreatDoor

/-
  Plain words on the division by weights.
-/
namespace Go.Proofs.YtnbnegkoanidmaaGreatDoor
open Go.RowKit
set_option linter.unusedVariables false

def dq (l : List Int) (T S : Int) (i : Nat) : Int := (T * l.getD i 0).tdiv S
def dr (l : List Int) (T S : Int) (i : Nat) : Int := (T * l.getD i 0).tmod S
def sumW (l : List Int) : Nat → Int
  | 0 => 0
  | k + 1 => sumW l k + l.getD k 0
def lefT (l : List Int) (T S : Int) : Nat → Int
  | 0 => T
  | k + 1 => lefT l T S k - dq l T S k
def remL (l : List Int) (T S : Int) : List Int := (List.range l.length).map (dr l T S)
theorem remL_len (l : List Int) (T S : Int) : (remL l T S).length = l.length := by simp [remL]
theorem remL_get {l : List Int} {T S : Int} {i : Nat} (h : i < l.length) : (remL l T S).getD i 0 = dr l T S i := by
  rw [getI_of (by rw [remL_len]; exact h)]; simp [remL]
theorem inB_iffW {a b c : Int} : inB a b c = true ↔ a ≤ c ∧ c ≤ b := by simp [inB]
structure GoodW (l : List Int) (T S : Int) : Prop where
  len : 1 ≤ l.length ∧ l.length ≤ 32
  all : ∀ j (h : j < l.length), 0 ≤ l[j] ∧ l[j] ≤ 1000000
  tot : 0 ≤ T ∧ T ≤ 100000
  sum : S = sumW l l.length
  pos : 0 < S
theorem sumW_range {l : List Int} (h : ∀ j (h : j < l.length), 0 ≤ l[j] ∧ l[j] ≤ 1000000) : ∀ k, k ≤ l.length → 0 ≤ sumW l k ∧ sumW l k ≤ 1000000 * (k : Int)
  | 0, _ => by simp [sumW]
  | k + 1, hk => by
    have ih := sumW_range h k (by omega)
    have := h k (by omega)
    show 0 ≤ sumW l k + l.getD k 0 ∧ _
    rw [getI_of (show k < l.length by omega)]
    show _ ∧ sumW l k + l.getD k 0 ≤ _
    rw [getI_of (show k < l.length by omega)]
    omega
theorem GoodW.mul {l : List Int} {T S : Int} (h : GoodW l T S) {i : Nat} (hi : i < l.length) : 0 ≤ T * l.getD i 0 ∧ T * l.getD i 0 ≤ 100000000000 := by
  rw [getI_of hi]
  have h1 := h.all i hi
  have h2 := h.tot
  have a := Int.mul_nonneg h2.1 h1.1
  have b := Int.mul_le_mul h2.2 h1.2 h1.1 (by omega)
  omega
theorem GoodW.parts {l : List Int} {T S : Int} (h : GoodW l T S) {i : Nat} (hi : i < l.length) : T * l.getD i 0 = S * dq l T S i + dr l T S i ∧ (0 ≤ dr l T S i ∧ dr l T S i < S) ∧ 0 ≤ dq l T S i ∧ dq l T S i ≤ 100000000000 := by
  obtain ⟨h1, h2⟩ := h.mul hi
  have hp := h.pos
  unfold dq dr
  rw [Int.tdiv_eq_ediv_of_nonneg h1, Int.tmod_eq_emod_of_nonneg h1]
  generalize T * l.getD i 0 = p at *
  have e := Int.mul_ediv_add_emod p S
  have m0 := Int.emod_nonneg p (show S ≠ 0 by omega)
  have m1 := Int.emod_lt_of_pos p hp
  have d0 : 0 ≤ p / S := Int.ediv_nonneg h1 (by omega)
  have d1 : p / S ≤ p := Int.ediv_le_self S h1
  refine ⟨e.symm, ⟨m0, m1⟩, d0, by omega⟩
def sumR (l : List Int) (T S : Int) : Nat → Int
  | 0 => 0
  | k + 1 => sumR l T S k + dr l T S k
theorem GoodW.left {l : List Int} {T S : Int} (h : GoodW l T S) : ∀ k, k ≤ l.length → S * lefT l T S k = S * T - T * sumW l k + sumR l T S k
  | 0, _ => by show S * T = S * T - T * 0 + 0; rw [Int.mul_zero]; omega
  | k + 1, hk => by
    have ih := h.left k (by omega)
    have hp := (h.parts (show k < l.length by omega)).1
    show S * (lefT l T S k - dq l T S k) = S * T - T * (sumW l k + l.getD k 0) + (sumR l T S k + dr l T S k)
    rw [Int.mul_sub, Int.mul_add]
    omega
theorem GoodW.leftR {l : List Int} {T S : Int} (h : GoodW l T S) : ∀ k, k ≤ l.length → T - 100000000000 * (k : Int) ≤ lefT l T S k ∧ lefT l T S k ≤ T
  | 0, _ => by simp [lefT]
  | k + 1, hk => by
    have ih := h.leftR k (by omega)
    have hp := (h.parts (show k < l.length by omega)).2.2
    show T - _ ≤ lefT l T S k - dq l T S k ∧ lefT l T S k - dq l T S k ≤ T
    omega
theorem GoodW.sumR {l : List Int} {T S : Int} (h : GoodW l T S) : ∀ k, k ≤ l.length → 0 ≤ sumR l T S k ∧ sumR l T S k ≤ ((gtT (remL l T S) k).length : Int) * (S - 1)
  | 0, _ => by simp [Proofs.YtnbnegkoanidmaaGreatDoor.sumR, gtT]
  | k + 1, hk => by
    have ih := h.sumR k (by omega)
    have hp := (h.parts (show k < l.length by omega)).2.1
    show 0 ≤ Proofs.YtnbnegkoanidmaaGreatDoor.sumR l T S k + dr l T S k ∧ Proofs.YtnbnegkoanidmaaGreatDoor.sumR l T S k + dr l T S k ≤ _
    have hg : (remL l T S).getD k 0 = dr l T S k := remL_get (by omega)
    by_cases hz : dr l T S k = 0
    · have e : gtT (remL l T S) (k + 1) = gtT (remL l T S) k := by simp only [gtT]; rw [hg, if_pos hz]
      rw [e]; omega
    · have e : gtT (remL l T S) (k + 1) = gtT (remL l T S) k ++ [⟨k, dr l T S k⟩] := by simp only [gtT]; rw [hg, if_neg hz]
      rw [e, List.length_append, List.length_singleton]
      have : (((gtT (remL l T S) k).length + 1 : Nat) : Int) * (S - 1) = ((gtT (remL l T S) k).length : Int) * (S - 1) + (S - 1) := by
        rw [show (((gtT (remL l T S) k).length + 1 : Nat) : Int) = ((gtT (remL l T S) k).length : Int) + 1 from by omega, Int.add_mul, Int.one_mul]
      rw [this]; omega
theorem GoodW.cnt {l : List Int} {T S : Int} (h : GoodW l T S) : 0 ≤ lefT l T S l.length ∧ lefT l T S l.length ≤ ((gtT (remL l T S) l.length).length : Int) := by
  have h1 := h.left l.length (Nat.le_refl _)
  have h2 := h.sumR l.length (Nat.le_refl _)
  have hp := h.pos
  rw [← h.sum, Int.mul_comm T S] at h1
  generalize lefT l T S l.length = L at *
  have hC : (0 : Int) ≤ ((gtT (remL l T S) l.length).length : Int) := by omega
  generalize ((gtT (remL l T S) l.length).length : Int) = C at *
  rw [Int.mul_sub, Int.mul_one, Int.mul_comm C S] at h2
  constructor
  · rcases Int.lt_or_le L 0 with c | c
    · have := Int.mul_le_mul_of_nonneg_left (show L ≤ -1 by omega) (show 0 ≤ S by omega)
      omega
    · exact c
  · rcases Int.lt_or_le C L with c | c
    · have := Int.mul_le_mul_of_nonneg_left (show C + 1 ≤ L by omega) (show 0 ≤ S by omega)
      rw [Int.mul_add, Int.mul_one] at this
      omega
    · exact c

def rowI (R : List Int) (i : Nat) : Rq := ⟨(i : Int), R.getD i 0⟩
theorem mem_gt {R : List Int} {x : Rq} : ∀ k, x ∈ gtT R k ↔ ∃ i, i < k ∧ R.getD i 0 ≠ 0 ∧ x = rowI R i
  | 0 => by simp [gtT]
  | k + 1 => by
    have ih := mem_gt (R := R) (x := x) k
    by_cases hz : R.getD k 0 = 0
    · have e : gtT R (k + 1) = gtT R k := by simp only [gtT]; rw [if_pos hz]
      rw [e, ih]
      constructor
      · rintro ⟨i, h1, h2⟩; exact ⟨i, by omega, h2⟩
      · rintro ⟨i, h1, h2, h3⟩
        rcases Nat.lt_or_ge i k with c | c
        · exact ⟨i, c, h2, h3⟩
        · rw [show i = k from by omega] at h2; exact absurd hz h2
    · have e : gtT R (k + 1) = gtT R k ++ [rowI R k] := by simp only [gtT]; rw [if_neg hz]; rfl
      rw [e, List.mem_append, ih, List.mem_singleton]
      constructor
      · rintro (⟨i, h1, h2⟩ | rfl)
        · exact ⟨i, by omega, h2⟩
        · exact ⟨k, by omega, hz, rfl⟩
      · rintro ⟨i, h1, h2, h3⟩
        rcases Nat.lt_or_ge i k with c | c
        · exact .inl ⟨i, c, h2, h3⟩
        · exact .inr (by rw [h3, show i = k from by omega])
theorem top_mem {R : List Int} {k : Nat} (hk : k < (gtT R R.length).length) : ∃ i, i < R.length ∧ R.getD i 0 ≠ 0 ∧ topF R k = rowI R i := by
  obtain ⟨j, _, h2, h3⟩ := (topF_same R).back (Nat.zero_le k) hk
  rw [rowAt_of h2] at h3
  rw [← h3]
  exact (mem_gt _).1 (List.getElem_mem h2)
theorem top_all {R : List Int} {i : Nat} (hi : i < R.length) (hz : R.getD i 0 ≠ 0) : ∃ k, k < (gtT R R.length).length ∧ topF R k = rowI R i := by
  have hm : rowI R i ∈ gtT R R.length := (mem_gt _).2 ⟨i, hi, hz, rfl⟩
  obtain ⟨j, hj, e⟩ := List.mem_iff_getElem.1 hm
  obtain ⟨k, _, h2, h3⟩ := ((topF_same R).2 (rowI R i)).1 ⟨j, Nat.zero_le _, hj, by rw [rowAt_of hj]; exact e⟩
  exact ⟨k, h2, h3⟩
/-- i is among the first t rows. -/
def Gvn (R : List Int) (t i : Nat) : Prop := ∃ k, k < t ∧ (topF R k).i = (i : Int)
theorem gvn_zero (R : List Int) (i : Nat) : ¬ Gvn R 0 i := fun ⟨k, h, _⟩ => by omega
theorem gvn_succ {R : List Int} {t b : Nat} (h : topF R t = rowI R b) (j : Nat) : Gvn R (t + 1) j ↔ Gvn R t j ∨ j = b := by
  constructor
  · rintro ⟨k, h1, h2⟩
    rcases Nat.lt_or_ge k t with c | c
    · exact .inl ⟨k, c, h2⟩
    · rw [show k = t from by omega, h] at h2
      exact .inr (by have : (b : Int) = (j : Int) := h2; omega)
  · rintro (⟨k, h1, h2⟩ | rfl)
    · exact ⟨k, by omega, h2⟩
    · exact ⟨t, by omega, by rw [h]; rfl⟩
theorem gvn_fresh {R : List Int} {t b : Nat} (ht : t < (gtT R R.length).length) (h : topF R t = rowI R b) : ¬ Gvn R t b := fun ⟨k, h1, h2⟩ => by
  obtain ⟨i, _, _, e⟩ := top_mem (R := R) (show k < _ by omega)
  rw [e] at h2
  have hib : i = b := by have : (i : Int) = (b : Int) := h2; omega
  subst hib
  have := topF_srt R k t (Nat.zero_le _) h1 ht
  rw [e, h] at this
  exact ah_irr this
theorem best_is {R : List Int} {t b : Nat} (ht : t < (gtT R R.length).length) (hb : b < R.length) (hg : ¬ Gvn R t b) (hbest : ∀ j, j < R.length → ¬ Gvn R t j → j = b ∨ Ah (rowI R b) (rowI R j)) (hnn : ∀ j, 0 ≤ R.getD j 0) : topF R t = rowI R b := by
  obtain ⟨i, hi, hz, e⟩ := top_mem ht
  rcases hbest i hi (gvn_fresh ht e) with c | c
  · rw [e, c]
  · have hbz : R.getD b 0 ≠ 0 := by
      have h1 := hnn i
      unfold Ah rowI at c
      simp only at c
      omega
    obtain ⟨m, hm, em⟩ := top_all hb hbz
    rcases (by omega : m < t ∨ m = t ∨ t < m) with d | d | d
    · exact absurd ⟨m, d, by rw [em]; rfl⟩ hg
    · rw [← d]; exact em
    · have := topF_srt R t m (Nat.zero_le _) d hm
      rw [e, em] at this
      exact absurd (c.trans this) ah_irr
open Classical in
noncomputable def outF (l : List Int) (T S : Int) (t i : Nat) : Int := dq l T S i + (if Gvn (remL l T S) t i then 1 else 0)
theorem out_zero (l : List Int) (T S : Int) (i : Nat) : outF l T S 0 i = dq l T S i := by unfold outF; rw [if_neg (gvn_zero _ _)]; omega
theorem out_here {l : List Int} {T S : Int} {t b : Nat} (h : topF (remL l T S) t = rowI (remL l T S) b) (hf : ¬ Gvn (remL l T S) t b) : outF l T S (t + 1) b = outF l T S t b + 1 := by
  unfold outF; rw [if_neg hf, if_pos ((gvn_succ h b).2 (.inr rfl))]; omega
theorem out_else {l : List Int} {T S : Int} {t b j : Nat} (h : topF (remL l T S) t = rowI (remL l T S) b) (hj : j ≠ b) : outF l T S (t + 1) j = outF l T S t j := by
  unfold outF
  by_cases hg : Gvn (remL l T S) t j
  · rw [if_pos hg, if_pos ((gvn_succ h j).2 (.inl hg))]
  · rw [if_neg hg, if_neg (fun h2 => by rcases (gvn_succ h j).1 h2 with c | c; exact hg c; exact hj c)]
theorem out_range {l : List Int} {T S : Int} (h : GoodW l T S) (t : Nat) {i : Nat} (hi : i < l.length) : 0 ≤ outF l T S t i ∧ outF l T S t i ≤ 100000000001 := by
  have := (h.parts hi).2.2
  unfold outF; split <;> omega
noncomputable def outL (l : List Int) (T S : Int) (t : Nat) : List Int := (List.range l.length).map (outF l T S t)
theorem outL_len (l : List Int) (T S : Int) (t : Nat) : (outL l T S t).length = l.length := by simp [outL]
theorem outL_get {l : List Int} {T S : Int} {t i : Nat} (h : i < (outL l T S t).length) : (outL l T S t)[i] = outF l T S t i := by simp [outL]
/-- Whether the question is valid, and the answer. -/
noncomputable def divB (l : List Int) (T : Int) : Bool := inB 1 32 (l.length : Int) && allB 0 1000000 l && inB 0 100000 T && decide (0 < sumW l l.length)
noncomputable def divL (l : List Int) (T : Int) : List Int := if divB l T then outL l T (sumW l l.length) (lefT l T (sumW l l.length) l.length).toNat else []
theorem divB_iff {l : List Int} {T : Int} : divB l T = true ↔ GoodW l T (sumW l l.length) := by
  unfold divB
  rw [Bool.and_eq_true, Bool.and_eq_true, Bool.and_eq_true, decide_eq_true_iff]
  constructor
  · rintro ⟨⟨⟨h1, h2⟩, h3⟩, h4⟩
    have h1 := inB_iffW.1 h1; have h3 := inB_iffW.1 h3
    refine ⟨by omega, fun j hj => ?_, h3, rfl, h4⟩
    unfold allB at h2
    rw [List.all_eq_true] at h2
    have := inB_iffW.1 (h2 _ (List.getElem_mem hj))
    exact this
  · rintro ⟨h1, h2, h3, _, h5⟩
    refine ⟨⟨⟨inB_iffW.2 (by omega), ?_⟩, inB_iffW.2 h3⟩, h5⟩
    unfold allB
    rw [List.all_eq_true]
    intro x hx
    obtain ⟨j, hj, rfl⟩ := List.mem_iff_getElem.1 hx
    exact inB_iffW.2 (h2 j hj)
theorem divL_no {l : List Int} {T : Int} (h : divB l T = false) : divL l T = [] := by unfold divL; rw [h]; simp
theorem divL_yes {l : List Int} {T : Int} (h : divB l T = true) : divL l T = outL l T (sumW l l.length) (lefT l T (sumW l l.length) l.length).toNat := by unfold divL; rw [if_pos h]
theorem divL_len {l : List Int} {T : Int} : (divL l T).length ≤ 32 := by
  cases h : divB l T with
  | false => rw [divL_no h]; simp
  | true => rw [divL_yes h, outL_len]; exact (divB_iff.1 h).len.2
end Go.Proofs.YtnbnegkoanidmaaGreatDoor

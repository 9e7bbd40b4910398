/-
  The contract of impl.tableOfCounts at ints, and of impl.greatestFirst, given that of slices.symMergeCmpFunc.
-/
import Derived.Test.YtdlobjjfakffaaaJk
import Derived.OwnWalk
import Derived.Maps.AppendAt
namespace Go.Proofs.Ytdlobjjfakffaaa
open Go.RowKit
set_option linter.unusedVariables false

def flatR (l : List Rq) : List Value := l.flatMap fun r => [.int .i64 r.i, .int .i64 r.v]
theorem flatR_len (l : List Rq) : (flatR l).length = 2 * l.length := by
  induction l with
  | nil => rfl
  | cons x r ih => simp [flatR] at ih ⊢; omega
theorem flatR_snoc (l : List Rq) (x : Rq) : flatR (l ++ [x]) = flatR l ++ [.int .i64 x.i, .int .i64 x.v] := by simp [flatR]
theorem flatR_get : ∀ (l : List Rq) (k : Nat) (h : k < l.length), (flatR l)[k * 2]? = some (.int .i64 l[k].i) ∧ (flatR l)[k * 2 + 1]? = some (.int .i64 l[k].v)
  | x :: r, 0, _ => ⟨rfl, rfl⟩
  | x :: r, k + 1, h => by
    have ih := flatR_get r k (by simpa using h)
    have e : flatR (x :: r) = .int .i64 x.i :: .int .i64 x.v :: flatR r := rfl
    rw [e, show (k + 1) * 2 = k * 2 + 1 + 1 from by omega]
    simpa using ih
/-- The numbers that are not 0, with their indices. -/
def gtT (R : List Int) : Nat → List Rq
  | 0 => []
  | k + 1 => if R.getD k 0 = 0 then gtT R k else gtT R k ++ [⟨k, R.getD k 0⟩]
theorem gtT_len (R : List Int) (k : Nat) : (gtT R k).length ≤ k := by
  induction k with
  | zero => exact Nat.le_refl _
  | succ k ih =>
    simp only [gtT]
    split
    · omega
    · rw [List.length_append]; show _ + 1 ≤ _; omega
theorem getI_of {ks : List Int} {i : Nat} (h : i < ks.length) : ks.getD i 0 = ks[i] := by rw [List.getD_eq_getElem?_getD, List.getElem?_eq_getElem h]; rfl
theorem infoR2 : (Try.prog.info? 38).map (fun i => (i.zero, i.size, i.bytes)) = some (some (.agg #[.int .i64 0, .int .i64 0]), 2, 16) := by kernel_rfl
theorem news_2 {a b : Value} (w : World) {g : Nat} {t : TypeId} (h : w.heap[g]? = some (.cells #[a, b] t (0, 0))) : ∀ j u, [a, b][j]? = some u → w.cell? ((⟨g, 0, none⟩ : Addr).add j) = some u := by
  intro j u hu
  rw [show (⟨g, 0, none⟩ : Addr).add j = ⟨g, 0 + j, none⟩ from by unfold Addr.add; by_cases hk : j = 0 <;> simp [hk], Nat.zero_add, cell_of_heap h]
  simpa using hu
theorem lit_any (i n : Int) (w : World) : Calls Try.prog 15 #[.int .i64 i, .int .i64 n] w fun e w' => e = .returned (.int .i64 n) ∧ w = w' := by
  go_enter Try.func15, Try.ntmps15
  go_wp2
  go_ret
  exact ⟨rfl, rfl⟩
theorem info_partsR {P : Program} {t : TypeId} {z : Value} {a b : Nat} (h : (P.info? t).map (fun i => (i.zero, i.size, i.bytes)) = some (some z, a, b)) : ∃ i, P.info? t = some i ∧ i.zero = some z ∧ i.size = a ∧ i.bytes = b := by
  cases hi : P.info? t with
  | none => rw [hi] at h; cases h
  | some i => rw [hi] at h; simp at h; exact ⟨i, rfl, h.1, h.2.1, h.2.2⟩

set_option maxRecDepth 100000 in
set_option maxHeartbeats 1000000 in
theorem table_any (N : List Int) (A : Option Addr) (c : Nat) (w : World) (hA : IntsIn w A N) (hs : N.length ≤ 32) :
    Calls Try.prog 14 #[.slice A N.length c, .func (.func 15) #[] #[]] w fun e w' => ∃ v, e = .returned v ∧ Below w.heap.size w w' ∧ w'.ownsRow w.heap.size 38 2 v (gtT N N.length).length (flatR (gtT N N.length)) := by
  have HA := Lib.hid hA
  clear hA
  obtain ⟨i0, hi, hz0, hz1, hz2⟩ := info_partsR infoR2
  have HI0 := Lib.hid hi; have HZ0 := Lib.hid hz0; have HZ1 := Lib.hid hz1; have HZ2 := Lib.hid hz2
  clear hi hz0 hz1 hz2
  go_enter Try.func14, Try.ntmps14
  go_wp2
  go_loopw [5, 10] (fun v i wr => ∃ (k : Nat), k ≤ N.length ∧ i = .int .i64 k ∧ wr.ownsRow w.heap.size 38 2 v (gtT N k).length (flatR (gtT N k)) ∧ Below w.heap.size w wr) (fun _ i _ => N.length - (intOf i).toNat)
  case atStart => exact ⟨0, Nat.zero_le _, rfl, own_nil _ _ _ _, Below.refl _ _⟩
  case round =>
    obtain ⟨k, hk, rfl, hown, hb⟩ := hrel
    have HOWN := Lib.hid hown; clear hown
    have HBW := Lib.hid hb; clear hb
    by_cases hlt : k < N.length
    · obtain ⟨b, off, rfl, hbl, hc⟩ := HA.out (by omega)
      have hc0 := (HBW.out.cell (p := ⟨b, off + k, none⟩) hbl).trans (hc k hlt)
      clear hc
      have hSTEP : gtT N (k + 1) = if N[k] = 0 then gtT N k else gtT N k ++ [⟨k, N[k]⟩] := by simp only [gtT]; rw [getI_of hlt]
      have HST := Lib.hid hSTEP; clear hSTEP
      have hlen := gtT_len N k
      generalize hx : N[k] = x at *
      by_cases hx0 : x = 0
      · have hxb : (x != 0) = false := by simp [hx0]
        have HE : Hid (gtT N (k + 1) = gtT N k) := Lib.hid (by rw [HST.out, if_pos hx0])
        clear hx0
        go_wp2
        go_roundw
        case rel => exact ⟨k + 1, by omega, by go_num, by rw [HE.out]; exact HOWN.out, HBW.out⟩
        case measure => simp [intOf]; omega
      · have hxb : (x != 0) = true := by simp [hx0]
        have HE : Hid (gtT N (k + 1) = gtT N k ++ [⟨k, x⟩]) := Lib.hid (by rw [HST.out, if_neg hx0])
        clear hx0 HST
        have hownw := HOWN.out
        have hmx : (gtT N k).length + 1 ≤ maxLen := by unfold maxLen; omega
        have hsz := HBW.out.size
        go_wp2_with fail
        refine (lit_any _ _ _).mono ?_
        rintro e w3 ⟨rfl, rfl⟩
        clear hc0
        go_wp2_with (at_builtin; refine wpList_append_own _ rfl _ _ 35 rfl w.heap.size 38 i0 (.agg #[.int .i64 0, .int .i64 0]) 2 16 Try.underlying35 HI0.out HZ0.out HZ1.out HZ2.out rfl (by decide) _ _ _ rfl (hownw.alloc _) ⟨wr.heap.size, 0, none⟩ 1 1 [.int .i64 (k : Int), .int .i64 x] rfl rfl (news_2 _ (heap_new _ _)) (by simp [Value.oneCell']) hmx (by omega) (by simp; omega) ?_)
        intro v' w4 hown' hgrow _
        have HB1 : Hid (Below w.heap.size w w4) := Lib.hid ((HBW.out.alloc HBW.out.size _).grown hgrow (by simp; omega) (own_lt hownw))
        have HO3 : Hid (w4.ownsRow w.heap.size 38 2 v' (gtT N (k + 1)).length (flatR (gtT N (k + 1)))) := Lib.hid (by
          rw [HE.out, flatR_snoc, List.length_append]; exact hown')
        clear hown' hgrow hownw HOWN HBW
        go_wp2
        go_roundw
        case rel => exact ⟨k + 1, by omega, by go_num, HO3.out, HB1.out⟩
        case measure => simp [intOf]; omega
    · obtain rfl : k = N.length := by omega
      go_wp2
      go_ret
      exact ⟨_, rfl, HBW.out, HOWN.out⟩

def rowAt (l : List Rq) : Nat → Rq := fun k => l.getD k ⟨0, 0⟩
theorem rowAt_of {l : List Rq} {k : Nat} (h : k < l.length) : rowAt l k = l[k] := by unfold rowAt; rw [List.getD_eq_getElem?_getD, List.getElem?_eq_getElem h]; rfl
theorem own_rowsF {w : World} {base n : Nat} {v : Value} {l : List Rq} (h : w.ownsRow base 38 2 v n (flatR l)) (h0 : 0 < l.length) : ∃ g c, v = .slice (some ⟨g, 0, none⟩) l.length c ∧ base ≤ g ∧ RowsF w g l.length (rowAt l) := by
  have hn : n = l.length := by have := h.1; rw [flatR_len] at this; omega
  subst hn
  rcases h.2 with ⟨rfl, h1⟩ | ⟨g, cap, cur, rfl, hg, hh, h1, h2, h3, h4⟩
  · omega
  · refine ⟨g, cap, rfl, hg, cur, hh, by omega, fun k hk => ?_⟩
    have e : ∀ j, j < l.length * 2 → cur[j]? = (flatR l)[j]? := fun j hj => by
      rw [← h4, List.getElem?_take_of_lt (by omega), ← Array.getElem?_toList]
    obtain ⟨g1, g2⟩ := flatR_get l k hk
    rw [e _ (by omega), e _ (by omega), rowAt_of hk]
    exact ⟨g1, g2⟩
theorem gtT_asc (R : List Int) : ∀ k, (∀ x, x ∈ gtT R k → x.i < (k : Int)) ∧ ∀ i j (hi : i < (gtT R k).length) (hj : j < (gtT R k).length), i < j → (gtT R k)[i].i < (gtT R k)[j].i
  | 0 => ⟨fun x h => by simp [gtT] at h, fun i j hi => by simp [gtT] at hi⟩
  | k + 1 => by
    obtain ⟨h1, h2⟩ := gtT_asc R k
    by_cases hz : R.getD k 0 = 0
    · have e : gtT R (k + 1) = gtT R k := by simp only [gtT]; rw [if_pos hz]
      rw [e]
      exact ⟨fun x hx => by have := h1 x hx; omega, h2⟩
    · have e : gtT R (k + 1) = gtT R k ++ [⟨k, R.getD k 0⟩] := by simp only [gtT]; rw [if_neg hz]
      rw [e]
      refine ⟨fun x hx => ?_, fun i j hi hj hij => ?_⟩
      · rcases List.mem_append.1 hx with hx | hx
        · have := h1 x hx; omega
        · simp at hx; subst hx; show (k : Int) < _; omega
      · rw [List.length_append] at hi hj
        simp only [List.length_singleton] at hi hj
        by_cases c : j < (gtT R k).length
        · rw [List.getElem_append_left (by omega), List.getElem_append_left c]; exact h2 i j _ _ hij
        · have : i < (gtT R k).length := by omega
          rw [List.getElem_append_left this, List.getElem_append_right (by omega)]
          simp only [List.getElem_singleton]
          exact h1 _ (List.getElem_mem _)
end Go.Proofs.Ytdlobjjfakffaaa

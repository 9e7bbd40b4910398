/-
  The contracts of spec.CanFill, NearestFill, MissingSums and ThinnestNeeded.
-/
import Derived.Test.YthhmbcgamcbfdaaVd
import Derived.OwnWalk
import Derived.Maps.AppendAt
namespace Go.Proofs.Ythhmbcgamcbfdaa
open Go.RowKit
set_option linter.unusedVariables false

noncomputable def canV (l : List Int) (n : Int) : Bool := wAsk l n && canB l n
theorem canV_iff {l : List Int} {n : Int} : canV l n = true ↔ wAsk l n = true ∧ Can l n := by unfold canV; rw [Bool.and_eq_true, canB_iff]
/-- The greatest number of at most n that is a sum. -/
noncomputable def nearN (l : List Int) : Nat → Nat
  | 0 => 0
  | n + 1 => if canB l ((n + 1 : Nat) : Int) = true then n + 1 else nearN l n
theorem nearN_can {l : List Int} {n : Nat} (h : Can l (n : Int)) : nearN l n = n := by
  cases n with
  | zero => rfl
  | succ n => unfold nearN; rw [if_pos (canB_iff.2 h)]
theorem nearN_no {l : List Int} {n : Nat} (h : ¬ Can l ((n + 1 : Nat) : Int)) : nearN l (n + 1) = nearN l n := by
  show (if _ then _ else _) = _; rw [if_neg (fun h' => h (canB_iff.1 h'))]
theorem nearN_le (l : List Int) : ∀ n : Nat, nearN l n ≤ n
  | 0 => Nat.le_refl _
  | n + 1 => by unfold nearN; split; · omega
                · have := nearN_le l n; omega
noncomputable def nearV (l : List Int) (n : Int) : Int := if wAsk l n = true then (nearN l n.toNat : Int) else 0
theorem nearV_no {l : List Int} {n : Int} (h : wAsk l n = false) : nearV l n = 0 := by unfold nearV; rw [h]; simp
theorem nearV_yes {l : List Int} {n : Nat} (h : wAsk l (n : Int) = true) : nearV l (n : Int) = nearN l n := by unfold nearV; rw [h]; simp
/-- The numbers below k that are no sums. -/
noncomputable def missT (l : List Int) : Nat → List Int
  | 0 => []
  | k + 1 => if canB l (k : Int) = true then missT l k else missT l k ++ [(k : Int)]
theorem missT_yes {l : List Int} {k : Nat} (h : Can l (k : Int)) : missT l (k + 1) = missT l k := by show (if _ then _ else _) = _; rw [if_pos (canB_iff.2 h)]
theorem missT_no {l : List Int} {k : Nat} (h : ¬ Can l (k : Int)) : missT l (k + 1) = missT l k ++ [(k : Int)] := by show (if _ then _ else _) = _; rw [if_neg (fun h' => h (canB_iff.1 h'))]
theorem missT_len (l : List Int) : ∀ k, (missT l k).length ≤ k
  | 0 => Nat.le_refl _
  | k + 1 => by have := missT_len l k; unfold missT; split; · omega
                · simp; omega
noncomputable def missV (l : List Int) (n : Int) : List Int := if wAsk l n = true then missT l (n.toNat + 1) else []
theorem missV_no {l : List Int} {n : Int} (h : wAsk l n = false) : missV l n = [] := by unfold missV; rw [h]; simp
theorem missV_yes {l : List Int} {n : Nat} (h : wAsk l (n : Int) = true) : missV l (n : Int) = missT l (n + 1) := by unfold missV; rw [h]; simp
theorem missV_len (l : List Int) (n : Int) : (missV l n).length ≤ 1048576 := by
  cases h : wAsk l n
  · rw [missV_no h]; simp
  · obtain ⟨_, h0, h4⟩ := wAsk_iff.1 h
    unfold missV; rw [if_pos h]
    have := missT_len l (n.toNat + 1); omega
/-- c of the first width leave a sum of the others. -/
def ThinP (l : List Int) (n : Int) (c : Nat) : Prop := Can l.tail (n - c * l.headD 0)
theorem can_thin {l : List Int} (hl : 1 ≤ l.length) {n : Int} : Can l n ↔ ∃ c, ThinP l n c := by
  cases l with
  | nil => simp at hl
  | cons k r =>
    unfold ThinP
    rw [← can_snoc (ks := (k :: r).tail)]
    constructor
    · rintro ⟨m, h⟩; exact ⟨m, rep_sub (fun j hj => by simpa [or_comm] using hj) h⟩
    · rintro ⟨m, h⟩; exact ⟨m, rep_sub (fun j hj => by simpa [or_comm] using hj) h⟩
open Classical in
noncomputable def thinV (l : List Int) (n : Int) : Int := if h : wAsk l n = true ∧ ∃ c, ThinP l n c then ((Classical.choose (least_ex h.2) : Nat) : Int) else 0
theorem thinV_eq {l : List Int} {n : Int} {c : Nat} (h : wAsk l n = true) (hc : ThinP l n c) (hl : ∀ k, k < c → ¬ ThinP l n k) : thinV l n = c := by
  have hh : wAsk l n = true ∧ ∃ c, ThinP l n c := ⟨h, c, hc⟩
  unfold thinV
  rw [dif_pos hh]
  obtain ⟨h1, h2⟩ := Classical.choose_spec (least_ex hh.2)
  have h3 := h2 c hc
  rcases Nat.lt_or_ge (Classical.choose (least_ex hh.2)) c with h4 | h4
  · exact absurd h1 (hl _ h4)
  · congr 1; omega
theorem thinV_no {l : List Int} {n : Int} (h : canV l n = false) : thinV l n = 0 := by
  unfold thinV
  rw [dif_neg]
  rintro ⟨h1, c, h2⟩
  have hg := (wAsk_iff.1 h1).1
  have := canV_iff.2 ⟨h1, (can_thin hg.one).2 ⟨c, h2⟩⟩
  rw [h] at this; cases this

set_option maxRecDepth 100000 in
theorem specCanFill_any (l : List Int) (A : Option Addr) (c : Nat) (n : Int) (w : World) (hf : IntsIn w A l) (hlen : l.length ≤ 1048576) :
    Calls Try.prog 8 #[.slice A l.length c, .int .i64 n] w fun e w' => e = .returned (.tuple #[.bool (canV l n), .bool (wAsk l n)]) ∧ Below w.heap.size w w' := by
  have HF := Lib.hid hf; clear hf
  cases ha : wAsk l n
  · have HV : Hid (canV l n = false) := Lib.hid (by unfold canV; rw [ha]; rfl)
    have HA := Lib.hid ha; clear ha
    go_enter Try.func8, Try.ntmps8
    go_wp2_with fail
    refine (wsAsked_any l A c n _ HF.out hlen).mono ?_
    rintro e w' ⟨rfl, rfl⟩
    rw [HA.out]
    go_wp2
    go_ret2
    exact ⟨by rw [HV.out]; rfl, Below.refl _ _⟩
  · skip
    have HA := Lib.hid ha
    obtain ⟨hg, h0, h4⟩ := wAsk_iff.1 ha
    obtain ⟨N, rfl⟩ : ∃ N : Nat, n = (N : Int) := ⟨n.toNat, by omega⟩
    have hN4 : N ≤ 400 := by omega
    have hN1 : (N : Int) < (N : Int) + 1 := by omega
    have hN2 : ((N + 1 : Nat) : Int) = (N : Int) + 1 := by omega
    have HG := Lib.hid hg; clear hg ha
    go_enter Try.func8, Try.ntmps8
    go_wp2_with fail
    refine (wsAsked_any l A c (N : Int) _ HF.out hlen).mono ?_
    rintro e w' ⟨rfl, rfl⟩
    rw [HA.out]
    go_wp2_with fail
    refine (wsFew_any l A c N _ HF.out hlen HG.out.pos (fun j hj => HG.out.le hj) hN4).mono ?_
    intro e w1 hto
    obtain ⟨rfl, hb1, ht1⟩ := hto
    have HB := Lib.hid hb1
    have e0 := ht1.cell (j := N) (by omega)
    have HV : Hid (decide (0 ≤ fewV l (N : Int)) = canV l (N : Int)) := Lib.hid (by
      unfold canV; rw [HA.out]
      by_cases hc : Can l (N : Int)
      · rw [canB_iff.2 hc]; simp [fewV_can.2 hc]
      · rw [canB_no.2 hc]; simp; exact fewV_neg.2 hc)
    generalize fewV l (N : Int) = q at *
    clear ht1 hb1
    go_wp2
    go_ret2
    exact ⟨by rw [← HV.out]; first | rfl | simp, HB.out⟩

set_option maxRecDepth 100000 in
theorem specNearestFill_any (l : List Int) (A : Option Addr) (c : Nat) (n : Int) (w : World) (hf : IntsIn w A l) (hlen : l.length ≤ 1048576) :
    Calls Try.prog 14 #[.slice A l.length c, .int .i64 n] w fun e w' => e = .returned (.tuple #[.int .i64 (nearV l n), .bool (wAsk l n)]) ∧ Below w.heap.size w w' := by
  have HF := Lib.hid hf; clear hf
  cases ha : wAsk l n
  · have HV := Lib.hid (nearV_no ha)
    have HA := Lib.hid ha; clear ha
    go_enter Try.func14, Try.ntmps14
    go_wp2_with fail
    refine (wsAsked_any l A c n _ HF.out hlen).mono ?_
    rintro e w' ⟨rfl, rfl⟩
    rw [HA.out]
    go_wp2
    go_ret2
    exact ⟨by rw [HV.out]; rfl, Below.refl _ _⟩
  · skip
    have HA := Lib.hid ha
    obtain ⟨hg, h0, h4⟩ := wAsk_iff.1 ha
    obtain ⟨N, rfl⟩ : ∃ N : Nat, n = (N : Int) := ⟨n.toNat, by omega⟩
    have hN4 : N ≤ 400 := by omega
    have hN1 : (N : Int) < (N : Int) + 1 := by omega
    have hN2 : ((N + 1 : Nat) : Int) = (N : Int) + 1 := by omega
    have HG := Lib.hid hg; clear hg ha
    go_enter Try.func14, Try.ntmps14
    go_wp2_with fail
    refine (wsAsked_any l A c (N : Int) _ HF.out hlen).mono ?_
    rintro e w' ⟨rfl, rfl⟩
    rw [HA.out]
    go_wp2_with fail
    refine (wsFew_any l A c N _ HF.out hlen HG.out.pos (fun j hj => HG.out.le hj) hN4).mono ?_
    intro e w1 hto
    obtain ⟨rfl, hb1, ht1⟩ := hto
    have HB := Lib.hid hb1
    have HV := Lib.hid (nearV_yes HA.out)
    have HT := Lib.hid ht1
    clear ht1 hb1
    go_wp2
    go_loop [1] (fun i => ∃ x : Nat, x ≤ N ∧ i = .int .i64 (x : Int) ∧ nearN l x = nearN l N) (fun i => (intOf i).toNat)
    case atStart => exact ⟨N, Nat.le_refl _, rfl, rfl⟩
    case round =>
      obtain ⟨x, hx, rfl, hs⟩ := hrel
      have HS := Lib.hid hs; clear hs
      have hxN : (x : Int) < (N : Int) + 1 := by omega
      have e0 := HT.out.cell (j := x) (by omega)
      by_cases hc : Can l (x : Int)
      · have hq := fewV_can.2 hc
        have HE := Lib.hid (nearN_can hc)
        clear hc
        generalize fewV l (x : Int) = q at *
        go_wp2
        go_ret2
        exact ⟨by rw [HV.out, ← HS.out, HE.out]; rfl, HB.out⟩
      · have hq := fewV_neg.2 hc
        cases x with
        | zero => exact absurd (can_zero l) hc
        | succ y =>
          have HE := Lib.hid (nearN_no hc)
          have hyx : ((y + 1 : Nat) : Int) - 1 = (y : Int) := by omega
          clear hc
          generalize fewV l ((y + 1 : Nat) : Int) = q at *
          go_wp2
          go_round
          case rel => exact ⟨y, by omega, by first | rfl | go_num, by rw [← HE.out]; exact HS.out⟩
          case measure => simp [intOf] <;> omega

set_option maxRecDepth 100000 in
theorem specMissingSums_any (l : List Int) (A : Option Addr) (c : Nat) (n : Int) (w : World) (hf : IntsIn w A l) (hlen : l.length ≤ 1048576) :
    Calls Try.prog 10 #[.slice A l.length c, .int .i64 n] w fun e w' => ∃ v T, e = .returned (.tuple #[v, .bool (wAsk l n)]) ∧ Below w.heap.size w w' ∧ w'.ownsRow w.heap.size T 1 v (missV l n).length (intsZ (missV l n)) := by
  have HF := Lib.hid hf; clear hf
  obtain ⟨i0, hi, hz0, hz1, hz2⟩ := info_parts info_int
  have HI := Lib.hid hi; have HZ0 := Lib.hid hz0; have HZ1 := Lib.hid hz1; have HZ2 := Lib.hid hz2
  clear hi hz0 hz1 hz2
  cases ha : wAsk l n
  · have HV := Lib.hid (missV_no ha)
    have HA := Lib.hid ha; clear ha
    go_enter Try.func10, Try.ntmps10
    go_wp2_with fail
    refine (wsAsked_any l A c n _ HF.out hlen).mono ?_
    rintro e w' ⟨rfl, rfl⟩
    rw [HA.out]
    go_wp2
    go_ret2
    exact ⟨_, 3, rfl, Below.refl _ _, by rw [HV.out]; exact own_nil _ _ _ _⟩
  · skip
    have HA := Lib.hid ha
    obtain ⟨hg, h0, h4⟩ := wAsk_iff.1 ha
    obtain ⟨N, rfl⟩ : ∃ N : Nat, n = (N : Int) := ⟨n.toNat, by omega⟩
    have hN4 : N ≤ 400 := by omega
    have hN1 : (N : Int) < (N : Int) + 1 := by omega
    have hN2 : ((N + 1 : Nat) : Int) = (N : Int) + 1 := by omega
    have HG := Lib.hid hg; clear hg ha
    go_enter Try.func10, Try.ntmps10
    go_wp2_with fail
    refine (wsAsked_any l A c (N : Int) _ HF.out hlen).mono ?_
    rintro e w' ⟨rfl, rfl⟩
    rw [HA.out]
    have HV := Lib.hid (missV_yes HA.out)
    go_wp2_with fail
    refine (wsFew_any l A c N _ HF.out hlen HG.out.pos (fun j hj => HG.out.le hj) hN4).mono ?_
    intro e w1 hto
    obtain ⟨rfl, hb1, ht1⟩ := hto
    have HB := Lib.hid hb1
    have HT := Lib.hid ht1
    clear ht1 hb1
    go_wp2
    go_loopw [6, 17] (fun v i wr => ∃ k : Nat, k ≤ N + 1 ∧ i = .int .i64 (k : Int) ∧ wr.ownsRow (w.heap.size + 1) 3 1 v (missT l k).length (intsZ (missT l k)) ∧ Tb wr w.heap.size 3 (N + 1) (fun j => .int .i64 (fewV l (j : Int))) ∧ Below w.heap.size w wr) (fun _ i _ => 1 + N - (intOf i).toNat)
    case atStart => exact ⟨0, by omega, rfl, own_nil _ _ _ _, HT.out, HB.out⟩
    case round =>
      obtain ⟨k, hk, rfl, hv, ht, hb⟩ := hrel
      by_cases hlt : k < N + 1
      · have hkN : (k : Int) < (N : Int) + 1 := by omega
        have hk0 : (0 : Int) ≤ (k : Int) := by omega
        have e0 := ht.cell hlt
        have hgl := ht.lt
        by_cases hc : Can l (k : Int)
        · have hq := fewV_can.2 hc
          have HE := Lib.hid (missT_yes hc)
          have HVV := Lib.hid hv; have HTT := Lib.hid ht; have HBB := Lib.hid hb
          clear hc hv ht hb
          generalize fewV l (k : Int) = q at *
          go_wp2
          go_roundw
          case rel => exact ⟨k + 1, by omega, by go_num, by rw [HE.out]; exact HVV.out, HTT.out, HBB.out⟩
          case measure => simp [intOf]; omega
        · have hq := fewV_neg.2 hc
          have HE := Lib.hid (missT_no hc)
          have HVV := Lib.hid hv; have HTT := Lib.hid ht; have HBB := Lib.hid hb
          have hmx : (missT l k).length + 1 ≤ maxLen := by have := missT_len l k; unfold maxLen; omega
          have hmx2 : (missT l k).length ≤ 401 := by have := missT_len l k; omega
          clear hc hv ht hb
          generalize fewV l (k : Int) = q at *
          have hwz := HBB.out.size
          go_wp2_with (at_builtin; refine wpList_append_own_at _ rfl _ _ 23 rfl (w.heap.size + 1) 3 i0 (.int .i64 0) 1 8 Try.underlying23 HI.out HZ0.out HZ1.out HZ2.out rfl (by decide) _ _ _ rfl (HVV.out.alloc _) ⟨wr.heap.size, 0, none⟩ 1 1 [.int .i64 (k : Int)] rfl rfl (cell_one_new _ _ _) (by simp [Value.oneCell']) hmx (by omega) (by first | (simp; done) | (simp; omega) | omega) ?_)
          intro v' w5 hown' hgrow _ hat
          have HB5 := Lib.hid ((HBB.out.alloc HBB.out.size (.cells #[.int .i64 (k : Int)] 3)).grown hgrow (by simp; omega) (fun q hq => by have := own_lt HVV.out q hq; omega))
          have HT5 := Lib.hid ((HTT.out.alloc (.cells #[.int .i64 (k : Int)] 3)).grown hgrow (fun e => by have := own_lt HVV.out _ e.symm; omega))
          have HO5 : Hid (w5.ownsRow (w.heap.size + 1) 3 1 v' (missT l (k + 1)).length (intsZ (missT l (k + 1)))) := by
            show World.ownsRow _ _ _ _ _ _ _
            rw [HE.out, List.length_append, intsZ_snoc]; exact hown'
          clear hown' hgrow hat
          go_wp2
          go_roundw
          case rel => exact ⟨k + 1, by omega, by go_num, HO5.out, HT5.out, HB5.out⟩
          case measure => simp [intOf]; omega
      · obtain rfl : k = N + 1 := by omega
        have HVV := Lib.hid hv; have HBB := Lib.hid hb
        clear hv ht hb
        go_wp2
        go_ret2
        exact ⟨_, 3, rfl, HBB.out, by rw [HV.out]; exact Joins.ownsRow_le HVV.out (by omega)⟩
end Go.Proofs.Ythhmbcgamcbfdaa

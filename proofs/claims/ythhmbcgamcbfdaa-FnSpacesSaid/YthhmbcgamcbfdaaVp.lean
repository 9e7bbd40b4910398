/-
  The contract of impl.fewestForWidths.
-/
import Derived.Test.YthhmbcgamcbfdaaVb
import Derived.BigRegion
namespace Go.Proofs.Ythhmbcgamcbfdaa
open Go.RowKit
set_option linter.unusedVariables false

noncomputable def twF (ks : List Int) (x : Nat) : Nat → Value := fun j => .int .i64 (if j < x then fewW ks (j : Int) else 0)
noncomputable def twX (ks : List Int) (x : Nat) (v : Int) : Nat → Value := fun j => .int .i64 (if j < x then fewW ks (j : Int) else if j = x then v else 0)
theorem twF_set (ks : List Int) (x : Nat) (v : Int) : (fun j => if j = x then Value.int .i64 v else twF ks x j) = twX ks x v := by
  funext j; unfold twF twX
  by_cases h : j = x
  · subst h; simp
  · rw [if_neg h]; split <;> simp
theorem twX_set (ks : List Int) (x : Nat) (v v' : Int) : (fun j => if j = x then Value.int .i64 v' else twX ks x v j) = twX ks x v' := by
  funext j; unfold twX
  by_cases h : j = x
  · subst h; simp
  · rw [if_neg h]; split <;> simp
theorem twX_done {ks : List Int} {x : Nat} {v : Int} (h : v = fewW ks (x : Int)) : twX ks x v = twF ks (x + 1) := by
  funext j; unfold twX twF
  by_cases h1 : j < x
  · rw [if_pos h1, if_pos (by omega)]
  · by_cases h2 : j = x
    · subst h2; rw [if_neg h1, if_pos rfl, if_pos (by omega), h]
    · rw [if_neg h1, if_neg h2, if_neg (by omega)]
theorem twF_one (ks : List Int) (j : Nat) : Value.int .i64 0 = twF ks 1 j := by
  unfold twF
  by_cases h : j < 1
  · obtain rfl : j = 0 := by omega
    rw [if_pos (by omega)]; simp [fewW_zero]
  · rw [if_neg h]
def FewWTo (ks : List Int) (N : Nat) (w w' : World) (e : Ending) : Prop := e = .returned (.slice (some ⟨w.heap.size, 0, none⟩) (N + 1) (N + 1)) ∧ Below w.heap.size w w' ∧ Tb w' w.heap.size 3 (N + 1) (fun j => .int .i64 (fewW ks (j : Int)))

set_option maxRecDepth 100000 in
set_option maxHeartbeats 1000000 in
theorem fewestForWidths_any (l : List Int) (A : Option Addr) (c : Nat) (N : Nat) (w : World) (hf : IntsIn w A l) (hlen : l.length ≤ 1048576) (hp : Pos l) (h54 : ∀ j (h : j < l.length), l[j] ≤ 54) (hN : N ≤ 400) :
    Calls Try.prog 21 #[.slice A l.length c, .int .i64 (N : Int)] w fun e w' => FewWTo l N w w' e := by
  have HF := Lib.hid hf; clear hf
  have HP := Lib.hid hp; clear hp
  have H54 := Lib.hid h54; clear h54
  obtain ⟨w1, hw1⟩ : ∃ x : World, x = w.alloc (.cells (madeCells #[.int .i64 0] ((N + 1) * 1)) 3) := ⟨_, rfl⟩
  have hmk : (Instr.makeSlice 23 (.int .i64 ((N : Int) + 1)) (.int .i64 ((N : Int) + 1))).run Try.prog w = .ok (.slice (some ⟨w.heap.size, 0, none⟩) (N + 1) (N + 1)) w1 := by rw [hw1]; exact run_makeI (N + 1) (by omega) w
  have ht : Tb w1 w.heap.size 3 (N + 1) (fun _ => .int .i64 0) := by rw [hw1]; exact made_int _ _ _
  have hb1 : Below w.heap.size w w1 := by rw [hw1]; exact (Below.refl _ _).alloc (Nat.le_refl _) _
  have HT : Hid (Tb w1 w.heap.size 3 (N + 1) (twF l 1)) := Lib.hid (ht.cong (fun j _ => twF_one l j))
  have HB := Lib.hid hb1
  clear ht hb1 hw1
  have hN1 : ((N + 1 : Nat) : Int) = (N : Int) + 1 := by omega
  go_enter Try.func21, Try.ntmps21
  go_wp2
  go_loopw [6] (fun i wr => ∃ (x : Nat), 1 ≤ x ∧ x ≤ N + 1 ∧ i = .int .i64 (x : Int) ∧ Tb wr w.heap.size 3 (N + 1) (twF l x) ∧ Below w.heap.size w wr) (fun i _ => 1 + N - (intOf i).toNat)
  case atStart => exact ⟨1, Nat.le_refl _, by omega, rfl, HT.out, HB.out⟩
  case round =>
    obtain ⟨x, hx1, hxN, rfl, ht, hb⟩ := hrel
    clear hmk
    by_cases hlt : x ≤ N
    · have hxN' : (x : Int) ≤ (N : Int) := by omega
      have hxN1 : (x : Int) < (N : Int) + 1 := by omega
      have hx0 : (0 : Int) ≤ (x : Int) := by omega
      have e0 := ht.cell (j := x) (by omega)
      have e2 := ht.free x
      have HT := Lib.hid (by have h := ht.set x (.int .i64 401); rw [twF_set] at h; exact h)
      have HB := Lib.hid (hb.setCell (p := ⟨w.heap.size, x, none⟩) (Nat.le_refl _) (.int .i64 401))
      have hgl : w.heap.size < wr.heap.size := ht.lt
      clear ht hb
      generalize hwx : wr = wx at *
      clear hwx
      go_wp2
      go_loopw [22] (fun i wr => ∃ (k : Nat) (v : Int), k ≤ l.length ∧ i = .int .i64 (k : Int) ∧ MinIs (fewW l) (x : Int) (l.take k) v ∧ (0 ≤ v ∧ v ≤ 401) ∧ Tb wr w.heap.size 3 (N + 1) (twX l x v) ∧ Below w.heap.size w wr) (fun i _ => l.length - (intOf i).toNat)
      case atStart => exact ⟨0, 401, Nat.zero_le _, rfl, MinIs.start _ _, by omega, HT.out, HB.out⟩
      case round =>
        obtain ⟨k, v, hk, rfl, hfw, hv, ht, hb⟩ := hrel
        clear e0 e2
        by_cases hlk : k < l.length
        · obtain ⟨b, off, rfl, hbl, hc⟩ := HF.out (by omega)
          have hc0 := (hb.cell (p := ⟨b, off + k, none⟩) hbl).trans (hc k hlk)
          clear hc
          have h1 := HP.out.get hlk
          have h2 := H54.out k hlk
          have HNX := Lib.hid (by have h := hfw.step l[k]; rw [← List.take_succ_eq_append_getElem hlk] at h; exact h)
          obtain ⟨u, hu⟩ : ∃ u : Nat, l[k] = (u : Int) := ⟨l[k].toNat, by omega⟩
          rw [hu] at hc0 h1 h2 HNX
          clear hu hfw
          have hgl : w.heap.size < wr.heap.size := ht.lt
          by_cases hux : u ≤ x
          · obtain ⟨d, hd⟩ : ∃ d, d = x - u := ⟨_, rfl⟩
            have hix : (x : Int) - (u : Int) = (d : Int) := by omega
            have hux' : (u : Int) ≤ (x : Int) := by omega
            have hdN : (d : Int) < (N : Int) + 1 := by omega
            have hd0 : (0 : Int) ≤ (d : Int) := by omega
            have e0 := ht.cell (j := x) (by omega)
            have e1 := ht.cell (j := d) (by omega)
            have f0 := ht.free x
            have hr := fewW_range (ks := l) HP.out (n := (d : Int)) hd0 (by omega)
            unfold twX at e0 e1
            rw [if_neg (by omega), if_pos rfl] at e0
            rw [if_pos (by omega)] at e1
            have HST : Hid (minStep (fewW l) (x : Int) v (u : Int) = if v ≤ fewW l (d : Int) + 1 then v else fewW l (d : Int) + 1) := Lib.hid (by
              unfold minStep; rw [hix, if_pos hux'])
            obtain ⟨q, hq⟩ : ∃ q, q = fewW l (d : Int) := ⟨_, rfl⟩
            rw [← hq] at e1 hr HST
            clear hq hd
            obtain ⟨m, hm⟩ : ∃ m, m = min v (q + 1) := ⟨_, rfl⟩
            have hmm : min v (q + 1) = m := hm.symm
            have hm1 : 0 ≤ m ∧ m ≤ 401 := by omega
            have HN : Hid (MinIs (fewW l) (x : Int) (l.take (k + 1)) m) := Lib.hid (by
              have h := HNX.out
              rw [HST.out, show (if v ≤ q + 1 then v else q + 1) = m from by rw [hm]; split <;> omega] at h
              exact h)
            have HT := Lib.hid (by have h := ht.set x (.int .i64 m); rw [twX_set] at h; exact h)
            have HB := Lib.hid (hb.setCell (p := ⟨w.heap.size, x, none⟩) (Nat.le_refl _) (.int .i64 m))
            clear ht hb HNX HST hm
            go_wp2_with fail
            go_region
            go_wp2
            go_roundw
            case rel => exact ⟨k + 1, _, by omega, by go_num, HN.out, hm1, (by first | exact HT.out | exact HT.out.next ((Below.refl _ _).drew)), (by first | exact HB.out | exact HB.out.drew)⟩
            case measure => simp [intOf]; omega
          · have hux' : ¬ (u : Int) ≤ (x : Int) := by omega
            have HN : Hid (MinIs (fewW l) (x : Int) (l.take (k + 1)) v) := Lib.hid (by have h := HNX.out; unfold minStep at h; rw [if_neg hux'] at h; exact h)
            have HT := Lib.hid ht; have HB := Lib.hid hb
            clear ht hb HNX
            go_wp2
            go_roundw
            case rel => exact ⟨k + 1, _, by omega, by go_num, HN.out, hv, HT.out, HB.out⟩
            case measure => simp [intOf]; omega
        · obtain rfl : k = l.length := by omega
          have HE := Lib.hid (by have h := hfw; rw [List.take_length] at h; exact twX_done (h.all HP.out (by omega) (by omega)))
          have HT := Lib.hid (by have h := ht; rw [HE.out] at h; exact h)
          have HB := Lib.hid hb
          clear hfw ht hb HE
          go_wp2
          go_roundw
          case rel => exact ⟨x + 1, by omega, by omega, by go_num, HT.out, HB.out⟩
          case measure => simp [intOf]; omega
    · obtain rfl : x = N + 1 := by omega
      have HT := Lib.hid (ht.cong (g := fun j => .int .i64 (fewW l (j : Int))) (fun j hj => by unfold twF; rw [if_pos hj]))
      have HB := Lib.hid hb
      have hgt : ¬ ((N + 1 : Nat) : Int) ≤ (N : Int) := by omega
      clear ht hb
      go_wp2
      go_ret
      exact ⟨rfl, HB.out, HT.out⟩
end Go.Proofs.Ythhmbcgamcbfdaa

/-
  The laws' own helpers qInts and qSum, and facts on the scarcest sort and on weights.
-/
import Derived.Test.YtnbnegkoanidmaaGreatDoorHb
import Derived.Test.YtnbnegkoanidmaaGreatDoorTim
import Derived.Test.YtnbnegkoanidmaaGreatDoorBmt
namespace Go.Proofs.YtnbnegkoanidmaaGreatDoor
open Go.RowKit
set_option linter.unusedVariables false

def smQ (l : List Int) (k : Nat) : Int := (l.take k).sum
theorem smQ_succ {l : List Int} {k : Nat} (h : k < l.length) : smQ l (k + 1) = smQ l k + l[k] := by
  unfold smQ; rw [List.take_succ_eq_append_getElem h, List.sum_append]; simp only [List.sum_cons, List.sum_nil, Int.add_zero]
theorem qSum_any (l : List Int) (A : Option Addr) (c : Nat) (w : World) (hf : IntsIn w A l) (hn : l.length ≤ 64) (hb : ∀ k (h : k < l.length), 0 ≤ l[k] ∧ l[k] ≤ 100000000001) :
    Calls Tryz.prog 8 #[.slice A l.length c] w fun e w' => e = .returned (.int .i64 l.sum) ∧ w = w' := by
  have HF := Lib.hid hf; clear hf
  have HB := Lib.hid hb; clear hb
  go_enter Tryz.func8, Tryz.ntmps8
  go_wp2
  go_loop [3, 8] (fun q i => ∃ (k : Nat) (S : Int), k ≤ l.length ∧ i = .int .i64 k ∧ q = .int .i64 S ∧ S = smQ l k ∧ 0 ≤ S ∧ S ≤ 100000000001 * (k : Int)) (fun _ i => l.length - (intOf i).toNat)
  case atStart => exact ⟨0, 0, Nat.zero_le _, rfl, rfl, rfl, by omega, by omega⟩
  case round =>
    obtain ⟨k, S, hk, rfl, rfl, hs, h0, h1⟩ := hrel
    have HS := Lib.hid hs; clear hs
    by_cases hlt : k < l.length
    · obtain ⟨b, off, rfl, hbl, hc⟩ := HF.out (by omega)
      have hc0 := hc k hlt
      clear hc
      have hx := HB.out k hlt
      have HST := Lib.hid (smQ_succ hlt)
      generalize l[k] = x at *
      go_wp2
      go_round
      case rel => exact ⟨k + 1, S + x, by omega, by go_num, rfl, by rw [HST.out, HS.out], by omega, by omega⟩
      case measure => simp [intOf]; omega
    · obtain rfl : k = l.length := by omega
      go_wp2
      go_ret
      exact ⟨ret_int (by rw [HS.out]; unfold smQ; rw [List.take_length]), rfl⟩
set_option maxRecDepth 100000 in
theorem qInts_any (l : List Int) (A B : Option Addr) (c d : Nat) (w : World) (hf : IntsIn w A l) (hg : IntsIn w B l) (hn : l.length ≤ 1048576) :
    Calls Tryz.prog 7 #[.slice A l.length c, .slice B l.length d] w fun e w' => e = .returned (.bool true) ∧ Below w.heap.size w w' := by
  have HF := Lib.hid hf; have HG := Lib.hid hg; clear hf hg
  go_enter Tryz.func7, Tryz.ntmps7
  go_wp2
  go_loopw [13] (fun i wr => ∃ k : Nat, k ≤ l.length ∧ i = .int .i64 (k : Int) ∧ Below w.heap.size w wr) (fun i _ => l.length - (intOf i).toNat)
  case atStart => exact ⟨0, Nat.zero_le _, rfl, Below.refl _ _⟩
  case round =>
    obtain ⟨k, hk, rfl, hb⟩ := hrel
    by_cases hlt : k < l.length
    · obtain ⟨b, off, rfl, hbl, hc⟩ := HF.out (by omega)
      obtain ⟨b', off', rfl, hbl', hc'⟩ := HG.out (by omega)
      have k0 := KeptW.cell ((hb.cell (p := ⟨b, off + k, none⟩) hbl).trans (hc k hlt)) (by show b < wr.heap.size; have := hb.size; omega)
      have k1 := KeptW.cell ((hb.cell (p := ⟨b', off' + k, none⟩) hbl').trans (hc' k hlt)) (by show b' < wr.heap.size; have := hb.size; omega)
      have hkl : (k : Int) < (l.length : Int) := by omega
      have hk0 : (0 : Int) ≤ (k : Int) := by omega
      have HB := Lib.hid hb
      clear hc hc' hb
      generalize l[k]'hlt = x at *
      have hne : (x != x) = false := by simp
      go_wp2_with fail
      refine region_kept wr.heap.size (by kernel_rfl) (by kernel_rfl) ?_
      repeat (go_big_quiet_step (fail))
      refine wpQuiet_nil ?_
      intro w9 hb9
      have HB9 := Lib.hid (HB.out.trans (hb9.mono HB.out.size))
      clear k0 k1 hb9
      go_wp2
      go_roundw
      case rel => exact ⟨k + 1, by omega, by go_num, HB9.out⟩
      case measure => simp [intOf]; omega
    · obtain rfl : k = l.length := by omega
      go_wp2
      go_ret
      exact ⟨rfl, hb⟩

/-- What is known where there is a scarcest sort. -/
structure ScaOk (f : List (ByteArray × Int)) (st : List Int) (ws : List ByteArray) (i : Nat) (N : List Int) : Prop where
  sca : S1.scaR f st ws = some (i : Int)
  need : S1.needR f ws = some N
  len : N.length ≤ 32
  stl : st.length = N.length
  at_ : i < N.length
  one : 1 ≤ N.getD i 0
  nb : ∀ j (h : j < N.length), 0 ≤ N[j] ∧ N[j] ≤ 640
  sb : ∀ j (h : j < st.length), 0 ≤ st[j] ∧ st[j] ≤ 100000
  least : ∀ j (h : j < N.length) (h' : j < st.length), st.getD i 0 * N[j] ≤ st[j] * N.getD i 0
theorem sca_ok {f : List (ByteArray × Int)} {st : List Int} {ws : List ByteArray} {v : Int} (h : S1.scaR f st ws = some v) : ∃ i, v = ((i : Nat) : Int) ∧ ScaOk f st ws i (S1.needF f ws) := by
  obtain ⟨m, hm, hv⟩ : ∃ m, S1.scR f st ws = some m ∧ m.i = v := by
    unfold S1.scaR at h
    cases hs : S1.scR f st ws with
    | none => rw [hs] at h; cases h
    | some m => rw [hs] at h; exact ⟨m, rfl, Option.some.inj h⟩
  obtain ⟨ha, -, hall⟩ := S1.sc_facts hm
  have hb := S1.sc_bound hm
  obtain ⟨g1, g2, g32, g1l, g3, g4⟩ := S1.need_stock ha
  obtain ⟨i, hi, e0, e1, e2⟩ : ∃ i : Nat, i < (S1.needF f ws).length ∧ m.i = (i : Int) ∧ m.s = st.getD i 0 ∧ m.n = (S1.needF f ws).getD i 0 := by
    unfold S1.scR at hm
    split at hm
    · obtain ⟨i, hi, e0, e1, e2, _⟩ := S1.supTo_mem _ (S1.lastMin_mem hm)
      exact ⟨i, hi, e0, e1, e2⟩
    · cases hm
  refine ⟨i, by rw [← hv, e0], ?_⟩
  constructor
  · rw [h, ← hv, e0]
  · exact S1.need_yes (S1.askB_parts ha).1
  · omega
  · omega
  · exact hi
  · omega
  · exact g3
  · exact fun j hj => S1.allB_at hj g4
  · intro j hj hj'
    have h1 := hall j hj
    rw [e1, e2, S1.getD_of hj, S1.getD_of hj'] at h1
    exact h1
theorem wei_nn {f : List (ByteArray × Int)} {cs : List Int} {body v : Int} (h : S1.weiV f cs body = some v) : 0 ≤ v := by
  unfold S1.weiV at h
  split at h
  · rename_i hc
    simp only [Bool.and_eq_true] at hc
    obtain ⟨⟨hf, hs⟩, hi⟩ := hc
    have hF := S1.fontB_iff.1 hf
    obtain ⟨hl, ha⟩ := S1.stock_parts hs
    have hb : 1 ≤ body ∧ body ≤ 72 := by simpa [S1.inB] using hi
    have h0 : ∀ k, k ≤ cs.length → 0 ≤ S1.sumW f cs k := by
      intro k
      induction k with
      | zero => intro _; exact Int.le_refl _
      | succ k ih =>
        intro hk
        have hk' : k < cs.length := by omega
        have hkf : k < f.length := by omega
        rw [S1.sumW_succ hk' hkf]
        have := ih (by omega)
        have := (S1.allB_at hk' ha).1
        have := (hF.width hkf).1
        have := Int.mul_nonneg (S1.allB_at hk' ha).1 (show 0 ≤ f[k].2 by omega)
        omega
    have h1 := Int.mul_nonneg (h0 _ (Nat.le_refl _)) (show 0 ≤ body by omega)
    have h2 := Option.some.inj h
    omega
  · cases h
end Go.Proofs.YtnbnegkoanidmaaGreatDoor

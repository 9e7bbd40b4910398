/-
  The text of a stock: plain words, and the contracts of spec.ruText and StockText.
-/
import Derived.Test.YtljakcfdjcjdbaaDoorPb
import Derived.Test.YtljakcfdjcjdbaaDoorNum4
namespace Go.Proofs.YtljakcfdjcjdbaaDoor
open Go.RowKit
set_option linter.unusedVariables false

theorem baOf_app (a b : List UInt8) : baOf a ++ baOf b = baOf (a ++ b) := by
  unfold baOf; congr 1
def numL (z : Int) : List UInt8 := Lib.decDigits z.toNat
theorem numL_len {z : Int} (h : z ≤ 100000) : (numL z).length ≤ 100001 := by
  unfold numL; rw [Lib.decDigits_length]; exact Nat.le_trans (nDig_le _) (by omega)
theorem num_is (z : Int) (D : ByteArray) (W : World) (h1 : 0 ≤ z) (h2 : z ≤ 100000) (hD : Hid (baOf (numL z) = D)) : Calls Tryd.prog 29 #[.int .i64 z] W fun e w' => e = .returned (.string D) ∧ Below W.heap.size W w' := by
  have := l1Num_any z.toNat z.toNat W (Nat.le_refl _) (by omega)
  rw [Int.toNat_of_nonneg (by omega)] at this
  rw [← hD.out]
  exact this
def oneT (b : Sl) : List UInt8 := numL b.cnt ++ [120] ++ numL b.len ++ [32]
def txK (l : List Sl) : Nat → List UInt8
  | 0 => []
  | k + 1 => txK l k ++ oneT (l.getD k ⟨0, 0⟩)
noncomputable def txB (l : List Sl) : ByteArray := if stkB l then baOf (txK l l.length) else baOf []
theorem tx_no {l : List Sl} (h : stkB l = false) : txB l = baOf [] := by unfold txB; rw [h]; rfl
theorem tx_yes {l : List Sl} (h : stkB l = true) : txB l = baOf (txK l l.length) := by unfold txB; rw [h]; rfl
theorem txK_step {l : List Sl} {k : Nat} (h : k < l.length) : txK l (k + 1) = txK l k ++ oneT l[k] := by
  show txK l k ++ oneT (l.getD k ⟨0, 0⟩) = _
  rw [List.getD_eq_getElem?_getD, List.getElem?_eq_getElem h]; rfl
theorem oneT_len {b : Sl} (h1 : b.len ≤ 100000) (h2 : b.cnt ≤ 100000) : (oneT b).length ≤ 300010 := by
  have n1 := numL_len h1
  have n2 := numL_len h2
  simp only [oneT, List.length_append, List.length_cons, List.length_nil]
  omega
theorem txK_len {l : List Sl} (h : GoodS l) : ∀ k, k ≤ l.length → (txK l k).length ≤ k * 300010
  | 0, _ => by simp [txK]
  | k + 1, hk => by
    have ih := txK_len h k (by omega)
    have hb := h.bd (j := k) (by omega)
    have := oneT_len (b := l[k]) (by omega) (by omega)
    rw [txK_step (by omega), List.length_append]
    omega
theorem tx_ba {l : List Sl} {k : Nat} (h : k < l.length) : baOf (txK l (k + 1)) = baOf (txK l k) ++ (baOf (numL l[k].cnt) ++ ⟨#[120]⟩ ++ baOf (numL l[k].len) ++ ⟨#[32]⟩) := by
  rw [txK_step h, ← baOf_app]
  all_goals first | rfl | (congr 1; unfold oneT; rw [← baOf_app, ← baOf_app, ← baOf_app]; rfl)
theorem ret_sb {a c : ByteArray} {b d : Bool} (h1 : a = c) (h2 : b = d) : Ending.returned (.tuple #[.string a, .bool b]) = .returned (.tuple #[.string c, .bool d]) := by rw [h1, h2]
set_option maxRecDepth 100000 in
set_option maxHeartbeats 2000000 in
theorem ruText_any (l : List Sl) (A : Option Addr) (c : Nat) (w : World) (hf : SlsIn w A l) (hC : GoodS l) :
    Calls Tryd.prog 15 #[.slice A l.length c] w fun e w' => e = .returned (.string (baOf (txK l l.length))) ∧ Below w.heap.size w w' := by
  have HF := Lib.hid hf; clear hf
  have h8 := hC.eight
  have HC := Lib.hid hC; clear hC
  have HT0 : Hid (baOf (txK l 0) = ⟨#[]⟩) := by show _ = _; rfl
  go_enter Tryd.func15, Tryd.ntmps15
  go_wp2
  rw [← HT0.out]
  go_loopw [3, 8] (fun t i wr => ∃ k : Nat, k ≤ l.length ∧ i = .int .i64 k ∧ t = .string (baOf (txK l k)) ∧ Below w.heap.size w wr) (fun _ i _ => l.length - (intOf i).toNat)
  case atStart => exact ⟨0, Nat.zero_le _, rfl, rfl, Below.refl _ _⟩
  case round =>
    obtain ⟨k, hk, rfl, rfl, hb⟩ := hrel
    by_cases hlt : k < l.length
    · obtain ⟨b, off, rfl, hbl, hc⟩ := HF.out (by omega)
      obtain ⟨hc0, hc1⟩ := hc k hlt
      clear hc
      rw [← hb.cell (p := ⟨b, off + k * 2, none⟩) hbl] at hc0
      rw [← hb.cell (p := ⟨b, off + k * 2 + 1, none⟩) hbl] at hc1
      have hbd := HC.out.bd hlt
      have HY := Lib.hid (tx_ba hlt)
      have n1 : (baOf (numL l[k].cnt)).size ≤ 100001 := numL_len (by omega)
      have n2 : (baOf (numL l[k].len)).size ≤ 100001 := numL_len (by omega)
      have htl : (baOf (txK l k)).size ≤ 9700000 := by have := txK_len HC.out k hk; rw [baOf_size]; omega
      obtain ⟨D1, hD1⟩ : ∃ D, baOf (numL l[k].cnt) = D := ⟨_, rfl⟩
      obtain ⟨D2, hD2⟩ : ∃ D, baOf (numL l[k].len) = D := ⟨_, rfl⟩
      rw [hD1] at n1 HY
      rw [hD2] at n2 HY
      have HD1 := Lib.hid hD1; have HD2 := Lib.hid hD2; clear hD1 hD2
      generalize l[k].cnt = y1 at *
      generalize l[k].len = y2 at *
      generalize baOf (txK l k) = T at *
      have hs1 : ¬ (9223372036854775807 : Nat) < D1.size + 1 := by omega
      have hs2 : ¬ (9223372036854775807 : Nat) < D1.size + 1 + D2.size := by omega
      have hs3 : ¬ (9223372036854775807 : Nat) < D1.size + 1 + D2.size + 1 := by omega
      have hs4 : ¬ (9223372036854775807 : Nat) < T.size + (D1.size + 1 + D2.size + 1) := by omega
      go_wp2_with fail
      obtain ⟨W0, hW0⟩ : ∃ W0 : World, W0 = wr.alloc (.cells #[.int .i64 y2, .int .i64 y1] 37) := ⟨_, rfl⟩
      rw [← hW0]
      have hq0 : W0.cell? ⟨wr.heap.size, 0, none⟩ = some (.int .i64 y2) := by rw [hW0]; simp
      have hq1 : W0.cell? ⟨wr.heap.size, 1, none⟩ = some (.int .i64 y1) := by rw [hW0]; simp
      have hb0 : Below w.heap.size w W0 := by rw [hW0]; exact hb.alloc hb.size _
      have hz0 : wr.heap.size < W0.heap.size := by rw [hW0]; simp
      clear hc0 hc1 hW0
      have hx0 := KeptW.cell hq0 hz0
      have hx1 := KeptW.cell hq1 hz0
      refine region_kept W0.heap.size (by kernel_rfl) (by kernel_rfl) ?_
      repeat (go_big_quiet_step ((go_at_call 29; first | with_reducible exact kept_call _ (Nat.le_refl _) (num_is y1 D1 _ (by omega) (by omega) HD1) | with_reducible exact kept_call _ (Nat.le_refl _) (num_is y2 D2 _ (by omega) (by omega) HD2))))
      refine wpQuiet_nil ?_
      intro w1 hb1
      have hb' : Below w.heap.size w w1 := hb0.trans (hb1.mono hb0.size)
      clear hb hb0 hb1 hx0 hx1 hq0 hq1 hz0
      have HB' := Lib.hid hb'; clear hb'
      go_wp2
      go_roundw
      case rel => exact ⟨k + 1, by omega, by go_num, by rw [HY.out], HB'.out⟩
      case measure => simp [intOf]; omega
    · obtain rfl : k = l.length := by omega
      go_wp2
      go_ret
      exact ⟨rfl, hb⟩
theorem specStockText_any (l : List Sl) (A : Option Addr) (c : Nat) (w : World) (hf : SlsIn w A l) (hn : l.length ≤ 1048576) :
    Calls Tryd.prog 6 #[.slice A l.length c] w fun e w' => e = .returned (.tuple #[.string (txB l), .bool (stkB l)]) ∧ Below w.heap.size w w' := by
  have HF := Lib.hid hf; clear hf
  go_enter Tryd.func6, Tryd.ntmps6
  go_wp2_with fail
  refine (ruGood_any l A c _ HF.out hn).mono ?_
  rintro e w1 ⟨rfl, hb1⟩
  have HB1 := Lib.hid hb1; clear hb1
  cases hg : stkB l
  · have HV := Lib.hid (tx_no hg)
    have HG := Lib.hid hg; clear hg
    go_wp2
    go_ret2
    exact ⟨ret_sb HV.out.symm HG.out.symm, HB1.out⟩
  · have HV := Lib.hid (tx_yes hg)
    have HC := Lib.hid (stkB_iff.1 hg)
    have HG := Lib.hid hg; clear hg
    have HF1 := Lib.hid (HF.out.below HB1.out (Nat.le_refl _))
    go_wp2_with fail
    refine (ruText_any l A c _ HF1.out HC.out).mono ?_
    rintro e w2 ⟨rfl, hb2⟩
    have HB2 := Lib.hid (HB1.out.trans (hb2.mono HB1.out.size)); clear hb2
    go_wp2
    go_ret2
    exact ⟨ret_sb HV.out.symm HG.out.symm, HB2.out⟩
end Go.Proofs.YtljakcfdjcjdbaaDoor

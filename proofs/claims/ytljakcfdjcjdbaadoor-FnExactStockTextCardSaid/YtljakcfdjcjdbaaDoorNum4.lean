/-
  The contract of spec.l1Num: it answers a number's decimal digits, and changes nothing that was there.
-/
import Derived.Test.YtljakcfdjcjdbaaDoorPdb
import Derived.Lib.ItoaNum
import Derived.Lib.ItoaMem
import Derived.Lib.Strings
import Derived.Deep.RegionLaw
import Derived.IntWalk
namespace Go.Proofs.YtljakcfdjcjdbaaDoor
open Go.RowKit
set_option linter.unusedVariables false

theorem conv_dig {n : Nat} (h : n < 10) (g : Nat) (x : Int) (hx : x = 48 + (n : Int)) (W : World) (hW : W.cell? ⟨g, 0, none⟩ = some (.int .u8 x)) :
    (convert 41 9 (.slice (some ⟨g, 0, none⟩) 1 1)).run Tryd.prog W = .ok (.string ⟨#[digU n]⟩) W :=
  run_convert_bytes_back (P := Tryd.prog) W 41 9 5 ⟨g, 0, none⟩ 1 [digU n] Tryd.underlying41 Tryd.underlying5 Tryd.underlying9 (fun i hi => by
    obtain rfl : i = 0 := by simp at hi; omega
    rw [show ([digU n] : List UInt8)[0] = digU n from rfl, digU_int h, ← hx]
    exact hW)
theorem bcell {W w1 : World} (hb : Below W.heap.size W w1) : (∀ b o, b < W.heap.size → w1.cell? ⟨b, o, none⟩ = W.cell? ⟨b, o, none⟩) ∧ (∀ b o, b < W.heap.size → w1.frozen? ⟨b, o, none⟩ = W.frozen? ⟨b, o, none⟩) :=
  ⟨fun b o h => hb.cell (p := ⟨b, o, none⟩) h, fun b o h => hb.frozen (p := ⟨b, o, none⟩) h⟩

theorem ret_cat (a : List UInt8) (b : UInt8) : Ending.returned (.string ((⟨a.toArray⟩ : ByteArray) ++ ⟨#[b]⟩)) = .returned (.string ⟨(a ++ [b]).toArray⟩) := by
  congr 2
theorem nDig_le (u : Nat) : Lib.nDigits u ≤ u + 1 := by
  induction u using Nat.strongRecOn with
  | _ u ih =>
    rw [Lib.nDigits]
    split
    · omega
    · have := ih (u / 10) (by omega)
      omega

set_option maxRecDepth 100000 in
set_option maxHeartbeats 1000000 in
theorem l1Num_small (n : Nat) (w : World) (h : n < 10) :
    Calls Tryd.prog 29 #[.int .i64 n] w fun e w' => e = .returned (.string ⟨(Lib.decDigits n).toArray⟩) ∧ Below w.heap.size w w' := by
  have HD := Lib.hid (Lib.decDigits_one h)
  have h1 : (n : Int) < 10 := by omega
  have h2 : (0 : Int) ≤ (n : Int) := by omega
  have hcv := conv_dig h w.heap.size (48 + (n : Int)) rfl
  go_enter Tryd.func29, Tryd.ntmps29
  go_wp2
  go_ret
  exact ⟨by rw [HD.out]; rfl, (Below.refl _ _).alloc (Nat.le_refl _) _⟩

set_option maxRecDepth 100000 in
set_option maxHeartbeats 2000000 in
theorem l1Num_any (k : Nat) : ∀ (n : Nat) (w : World), n ≤ k → n ≤ 1000000 →
    Calls Tryd.prog 29 #[.int .i64 n] w fun e w' => e = .returned (.string ⟨(Lib.decDigits n).toArray⟩) ∧ Below w.heap.size w w' := by
  induction k with
  | zero =>
    intro n w hk _
    exact l1Num_small n w (by omega)
  | succ k ih =>
    intro n w hk hhi
    by_cases hn : n < 10
    · exact l1Num_small n w hn
    have h1 : ¬ (n : Int) < 10 := by omega
    have h2 : (0 : Int) ≤ (n : Int) := by omega
    obtain ⟨q, hq⟩ : ∃ q, q = n / 10 := ⟨_, rfl⟩
    obtain ⟨r, hr⟩ : ∃ r, r = n % 10 := ⟨_, rfl⟩
    have hr10 : r < 10 := by omega
    have hqn : q ≤ 100000 := by omega
    have HIH := Lib.hid (fun W => ih q W (by omega) (by omega))
    clear ih
    have HD : Hid (Lib.decDigits n = Lib.decDigits q ++ [digU r]) := by
      show _ = _
      rw [Lib.decDigits, dif_neg hn, hq, hr]; rfl
    have hw1 : IntKind.i64.wrap ((n : Int) / 10) = (q : Int) := by rw [IntWalk.i64_in _ (by omega)]; omega
    have hw2 : IntKind.i64.wrap ((n : Int) % 10) = (r : Int) := by rw [IntWalk.i64_in _ (by omega)]; omega
    have hm : (n : Int).tmod 10 = (r : Int) := by rw [Int.tmod_eq_emod_of_nonneg (by omega)]; omega
    have hw1' : IntKind.i64.wrap ((n : Int).tdiv 10) = (q : Int) := by rw [Int.tdiv_eq_ediv_of_nonneg (by omega)]; exact hw1
    have hw3 : IntKind.i64.wrap (48 + (r : Int)) = 48 + (r : Int) := IntWalk.i64_in _ (by omega)
    have hw4 : IntKind.u8.wrap (48 + (r : Int)) = 48 + (r : Int) := by
      rw [show IntKind.u8.wrap (48 + (r : Int)) = (48 + (r : Int)) % 256 from by simp [IntKind.wrap, IntKind.bits, IntKind.signed]]
      omega
    have hcv := fun (g : Nat) (W : World) => conv_dig (n := r) hr10 g (48 + (r : Int)) rfl W
    have hlq : (Lib.decDigits q).length ≤ 1000000 := by rw [Lib.decDigits_length]; exact Nat.le_trans (nDig_le q) (by omega)
    have hlen : ¬ (9223372036854775807 : Nat) < (Lib.decDigits q).length + 1 := by omega
    have HRR := Lib.hid hr; have HQQ := Lib.hid hq
    clear hq hr hn
    go_enter Tryd.func29, Tryd.ntmps29
    go_wp2_with fail
    go_region_law (first
      | (go_simp; go_at_call 29; refine (HIH.out _).mono ?_; rintro e u1 ⟨rfl, hb1⟩; obtain ⟨hcc, hff⟩ := bcell hb1; have hz := hb1.size))
    all_goals
      go_wp2
      go_ret
      refine ⟨by rw [HD.out]; exact ret_cat _ _, ?_⟩
      first
      | exact (((Below.refl w.heap.size w).drew).trans (hb1.mono (Nat.le_refl _))).alloc (by have := hb1.size; simp at this; omega) _
      | exact (((Below.refl w.heap.size w).drew).alloc (Nat.le_refl _) _).trans (hb1.mono (by simp))
end Go.Proofs.YtljakcfdjcjdbaaDoor

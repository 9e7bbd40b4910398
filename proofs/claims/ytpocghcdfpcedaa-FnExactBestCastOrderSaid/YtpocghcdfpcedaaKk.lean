/-
  Shares of castings between two machines: digits, ends; the contract of impl.shareOfNumber.
-/
import Derived.Test.YtpocghcdfpcedaaKj
import Derived.Laws.Shifts
namespace Go.Proofs.Ytpocghcdfpcedaa
open Go.RowKit
set_option linter.unusedVariables false

/-- The lowest digit. -/
def dg (q : Int) : Int := bits .and .i64 q 1
theorem dg_is (q : Int) : dg q = (((BitVec.ofInt 64 q).toNat % 2 : Nat) : Int) := by
  unfold dg bits
  have h : (BitVec.ofInt 64 q &&& BitVec.ofInt 64 1).toNat = (BitVec.ofInt 64 q).toNat % 2 := by
    rw [BitVec.toNat_and]
    show _ &&& 1 = _
    exact Nat.and_one_is_mod _
  show IntKind.i64.wrap ((BitVec.ofInt 64 q &&& BitVec.ofInt 64 1).toNat : Int) = _
  rw [h]
  exact IntWalk.i64_in _ (by omega)
theorem dg_01 (q : Int) : dg q = 0 ∨ dg q = 1 := by rw [dg_is]; omega
theorem dg_zero : dg 0 = 0 := by rw [dg_is]; rfl
def digL (n : Nat) (c : Int) : List Int := (List.range n).map fun i => dg (c / 2 ^ (n - 1 - i))
theorem digL_len (n : Nat) (c : Int) : (digL n c).length = n := by simp [digL]
theorem digL_at (n : Nat) (c : Int) {k : Nat} (h : k < (digL n c).length) : (digL n c)[k] = dg (c / 2 ^ (n - 1 - k)) := by simp [digL]
theorem digL_take (n : Nat) (c : Int) {k : Nat} (h : k < n) : (digL n c).take (k + 1) = (digL n c).take k ++ [dg (c / 2 ^ (n - 1 - k))] := by
  have h' : k < (digL n c).length := by rw [digL_len]; exact h
  rw [List.take_succ_eq_append_getElem h', digL_at]
theorem digL_zero (n : Nat) : digL n 0 = List.replicate n 0 := by
  apply List.ext_getElem
  · simp [digL]
  · intro i h1 h2
    rw [digL_at, Int.zero_ediv, dg_zero]; simp
/-- A list of zeros and ones. -/
def Is01 (l : List Int) : Prop := ∀ k (h : k < l.length), l[k] = 0 ∨ l[k] = 1
theorem digL_01 (n : Nat) (c : Int) : Is01 (digL n c) := fun k h => by rw [digL_at]; exact dg_01 _

set_option maxRecDepth 100000 in
set_option maxHeartbeats 1000000 in
theorem shareOfNumber_any (c : Int) (n : Nat) (w : World) (hn : n ≤ 8) (h0 : 0 ≤ c) (h1 : c ≤ 256) :
    Calls Try.prog 69 #[.int .i64 c, .int .i64 (n : Int)] w fun e w' => ∃ v, e = .returned v ∧ Below w.heap.size w w' ∧ w'.ownsRow w.heap.size 3 1 v n (intsZ (digL n c)) := by
  have hmk := run_makeInt n (by omega)
  have hst : Marked (w.alloc (.cells (madeCells #[.int .i64 0] (n * 1)) 3)) w.heap.size 3 n (intsZ ((digL n c).take 0)) := ⟨_, heap_new _ _, by rw [size_madeCells]; omega, by simp [intsZ]⟩
  generalize hz : madeCells #[.int .i64 0] (n * 1) = cs0 at *
  have HST := Lib.hid hst; clear hst hz
  go_enter Try.func69, Try.ntmps69
  go_wp2
  go_loopw [11] (fun i wr => ∃ k : Nat, k ≤ n ∧ i = .int .i64 k ∧ Marked wr w.heap.size 3 n (intsZ ((digL n c).take k)) ∧ Below w.heap.size w wr) (fun i _ => n - (intOf i).toNat)
  case atStart => exact ⟨0, Nat.zero_le _, rfl, HST.out, (Below.refl _ _).alloc (Nat.le_refl _) _⟩
  case round =>
    obtain ⟨k, hkk, rfl, hmd, hb⟩ := hrel
    have HMD := Lib.hid hmd; have HB := Lib.hid hb
    clear hmd hb hmk
    by_cases hlt : k < n
    · have HTK := Lib.hid (digL_take n c hlt)
      obtain ⟨e, he⟩ : ∃ e : Nat, e = n - 1 - k := ⟨_, rfl⟩
      rw [← he] at HTK
      have hsub : (n : Int) - 1 - (k : Int) = (e : Int) := by omega
      have he7 : e ≤ 7 := by omega
      clear he
      obtain ⟨⟨u0, hu0⟩, hfu⟩ := HMD.out.at_ hlt
      have hkl1 : (k : Int) < (n : Int) := by omega
      have hkl0 : (0 : Int) ≤ (k : Int) := by omega
      have hl : (intsZ ((digL n c).take k)).length = k := by rw [intsZ_len, List.length_take, digL_len]; omega
      have HDf : Hid (Marked (wr.setCell ⟨w.heap.size, k, none⟩ (.int .i64 (dg (c / 2 ^ e)))) w.heap.size 3 n (intsZ ((digL n c).take (k + 1)))) := Lib.hid (by
        rw [HTK.out, intsZ_snoc]
        exact HMD.out.stepAt k hl hlt _)
      have HBf := Lib.hid (HB.out.setCell (p := ⟨w.heap.size, k, none⟩) (Nat.le_refl _) (.int .i64 (dg (c / 2 ^ e))))
      have hgl := HMD.out.lt
      clear hl
      unfold dg at HDf HBf
      go_wp2
      go_roundw
      case rel => exact ⟨k + 1, by omega, by go_num, HDf.out, HBf.out⟩
      case measure => simp [intOf]; omega
    · obtain rfl : k = n := by omega
      have hd := HMD.out
      rw [show (digL k c).take k = digL k c from List.take_of_length_le (by rw [digL_len]; exact Nat.le_refl _)] at hd
      have HO2 := Lib.hid (hd.owns (base := w.heap.size) (by rw [intsZ_len, digL_len]) (Nat.le_refl _) (by unfold maxLen; omega))
      go_wp2
      go_ret
      exact ⟨_, rfl, HB.out, HO2.out⟩
end Go.Proofs.Ytpocghcdfpcedaa

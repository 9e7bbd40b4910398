/-
  The contracts of laws.markText and laws.markSortS: a mark's text is a function of its number; marking a slice of sorts of the call's own writes into that slice alone.
-/
import Derived.Test.YtcbhhbcfnaekpaaDoorGlue
namespace Go.Proofs.YtcbhhbcfnaekpaaDoor
open Go.RowKit
set_option linter.unusedVariables false

def digB (j : Nat) : UInt8 := UInt8.ofNat (48 + j % 10)
theorem digB_int (j : Nat) : ((digB j).toNat : Int) = 48 + (j : Int) % 10 := by
  unfold digB
  rw [UInt8.toNat_ofNat', Nat.mod_eq_of_lt (by omega)]; omega
def digs : Nat → Nat → List UInt8 → List UInt8
  | 0, _, acc => acc
  | n + 1, k, acc => if k = 0 then acc else digs n (k / 10) (digB k :: acc)
theorem digs_step {n j : Nat} (acc : List UInt8) (h : j ≤ n) (hj : 0 < j) : ∃ m, j / 10 ≤ m ∧ digs n j acc = digs m (j / 10) (digB j :: acc) := by
  cases n with
  | zero => omega
  | succ n => exact ⟨n, by omega, by simp only [digs]; rw [if_neg (by omega)]⟩
theorem digs_end (n : Nat) (acc : List UInt8) : digs n 0 acc = acc := by cases n <;> simp [digs]
def markT (k : Nat) : ByteArray := ⟨((109 : UInt8) :: digs k k []).toArray⟩
theorem bytes_cons (a : UInt8) (b : List UInt8) : (⟨#[a]⟩ : ByteArray) ++ ⟨b.toArray⟩ = ⟨(a :: b).toArray⟩ := by
  apply ByteArray.ext
  apply Array.ext'
  simp
theorem ret_str {a b : ByteArray} (h : a = b) : Ending.returned (.string a) = .returned (.string b) := by rw [h]

set_option maxRecDepth 100000 in
theorem markText_any (k : Nat) (w : World) (h0 : 1 ≤ k) (hk : k ≤ 16777216) :
    Calls Tryd.prog 81 #[.int .i64 k] w fun e w' => e = .returned (.string (markT k)) ∧ Below w.heap.size w w' := by
  have h1 : ¬ (k : Int) ≤ 0 := by omega
  go_enter Tryd.func81, Tryd.ntmps81
  go_wp2
  go_loopw [0, 3] (fun q o wr => ∃ (n j : Nat) (acc : List UInt8), j ≤ n ∧ acc.length + j ≤ 16777216 ∧ q = .int .i64 j ∧ o = .string ⟨acc.toArray⟩ ∧ digs k k [] = digs n j acc ∧ Below w.heap.size w wr) (fun q _ _ => (intOf q).toNat)
  case atStart => exact ⟨k, k, [], Nat.le_refl _, by simpa using hk, rfl, rfl, rfl, Below.refl _ _⟩
  case round =>
    obtain ⟨n, j, acc, hj, hjb, rfl, rfl, hd, hb⟩ := hrel
    have HD := Lib.hid hd; clear hd
    by_cases hlt : 0 < j
    · have h2 : 0 < (j : Int) := by omega
      have hbyte := digB_int j
      obtain ⟨m, hm, hst⟩ := digs_step acc hj hlt
      have HM := Lib.hid hst
      have HBY := Lib.hid hbyte
      have hcv : ∀ W : World, W.cell? ⟨wr.heap.size, 0, none⟩ = some (.int .u8 (48 + (j : Int) % 10)) → (convert 22 9 (.slice (some ⟨wr.heap.size, 0, none⟩) 1 1)).run Tryd.prog W = .ok (.string ⟨([digB j] : List UInt8).toArray⟩) W := fun W hW =>
        run_convert_bytes_back (P := Tryd.prog) W 22 9 5 ⟨wr.heap.size, 0, none⟩ 1 [digB j] Tryd.underlying22 Tryd.underlying5 Tryd.underlying9 (fun i hi => by
          obtain rfl : i = 0 := by simp at hi; omega
          rw [show ([digB j] : List UInt8)[0] = digB j from rfl, HBY.out]
          exact hW)
      have hlen : ¬ (9223372036854775807 : Nat) < 1 + acc.length := by omega
      have HB := Lib.hid (hb.alloc hb.size (.cells #[.int .u8 (48 + (j : Int) % 10)] 5))
      clear hbyte hst hb
      go_wp2
      go_roundw
      case rel => exact ⟨m, j / 10, digB j :: acc, hm, by simp; omega, by go_num, congrArg Value.string (bytes_cons _ _), by rw [HD.out, HM.out], HB.out⟩
      case measure => simp [intOf]; omega
    · obtain rfl : j = 0 := by omega
      have hfin : Hid (markT k = ⟨((109 : UInt8) :: acc).toArray⟩) := by show markT k = _; unfold markT; rw [HD.out, digs_end]
      have hlen : ¬ (9223372036854775807 : Nat) < 1 + acc.length := by omega
      go_wp2
      go_ret
      exact ⟨ret_str ((bytes_cons _ _).trans hfin.out.symm), hb⟩

/-- The cells of marked sorts from k on. -/
def markF : Nat → Nat → List (ByteArray × Int)
  | _, 0 => []
  | k, n + 1 => (markT k, (k : Int) + 1) :: markF (k + 2) n
theorem markF_succ : ∀ (n k : Nat), markF k (n + 1) = markF k n ++ [(markT (k + 2 * n), (k : Int) + 2 * (n : Int) + 1)]
  | 0, k => by simp [markF]
  | n + 1, k => by
    rw [markF, markF_succ n (k + 2)]
    simp only [markF, List.cons_append]
    rw [show k + 2 + 2 * n = k + 2 * (n + 1) from by omega, show ((k + 2 : Nat) : Int) + 2 * (n : Int) + 1 = (k : Int) + 2 * ((n + 1 : Nat) : Int) + 1 from by omega]
theorem markF_len (k n : Nat) : (markF k n).length = n := by induction n generalizing k with
  | zero => rfl
  | succ n ih => simp [markF, ih]

end Go.Proofs.YtcbhhbcfnaekpaaDoor

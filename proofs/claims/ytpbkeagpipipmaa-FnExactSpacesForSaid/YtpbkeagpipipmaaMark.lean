/-
  The contracts of laws.markText and laws.markSortS: a mark's text is a function of its number; marking a slice of sorts of the call's own writes into that slice alone.
-/
import Derived.Test.YtpbkeagpipipmaaGlue
namespace Go.Proofs.Ytpbkeagpipipmaa.S1
open Go.RowKit
set_option linter.unusedVariables false

def digB (j : Nat) : UInt8 := UInt8.ofNat (48 + j % 10)
theorem digB_int (j : Nat) : ((digB j).toNat : Int) = 48 + (j : Int) % 10 := by
  unfold digB
  rw [UInt8.toNat_ofNat', Nat.mod_eq_of_lt (by omega)]; omega
def digs : Nat → Nat → List UInt8 → List UInt8
  | 0, _, acc => acc
  | n + 1, k, acc => if k = 0 then acc else digs n (k / 10) (digB k :: acc)
theorem digs_step {n j : Nat} (acc : List UInt8) (h : j ≤ n) (hj : 0 < j) : ∃ m, j / 10 ≤ m ∧ digs n j acc = digs m (j / 10) (digB j :: acc) := by
  cases n with
  | zero => omega
  | succ n => exact ⟨n, by omega, by simp only [digs]; rw [if_neg (by omega)]⟩
theorem digs_end (n : Nat) (acc : List UInt8) : digs n 0 acc = acc := by cases n <;> simp [digs]
def markT (k : Nat) : ByteArray := ⟨((109 : UInt8) :: digs k k []).toArray⟩
theorem bytes_cons (a : UInt8) (b : List UInt8) : (⟨#[a]⟩ : ByteArray) ++ ⟨b.toArray⟩ = ⟨(a :: b).toArray⟩ := by
  apply ByteArray.ext
  apply Array.ext'
  simp
theorem ret_str {a b : ByteArray} (h : a = b) : Ending.returned (.string a) = .returned (.string b) := by rw [h]

set_option maxRecDepth 100000 in
theorem markText_any (k : Nat) (w : World) (h0 : 1 ≤ k) (hk : k ≤ 16777216) :
    Calls Try.prog 80 #[.int .i64 k] w fun e w' => e = .returned (.string (markT k)) ∧ Below w.heap.size w w' := by
  have h1 : ¬ (k : Int) ≤ 0 := by omega
  go_enter Try.func80, Try.ntmps80
  go_wp2
  go_loopw [0, 3] (fun q o wr => ∃ (n j : Nat) (acc : List UInt8), j ≤ n ∧ acc.length + j ≤ 16777216 ∧ q = .int .i64 j ∧ o = .string ⟨acc.toArray⟩ ∧ digs k k [] = digs n j acc ∧ Below w.heap.size w wr) (fun q _ _ => (intOf q).toNat)
  case atStart => exact ⟨k, k, [], Nat.le_refl _, by simpa using hk, rfl, rfl, rfl, Below.refl _ _⟩
  case round =>
    obtain ⟨n, j, acc, hj, hjb, rfl, rfl, hd, hb⟩ := hrel
    have HD := Lib.hid hd; clear hd
    by_cases hlt : 0 < j
    · have h2 : 0 < (j : Int) := by omega
      have hbyte := digB_int j
      obtain ⟨m, hm, hst⟩ := digs_step acc hj hlt
      have HM := Lib.hid hst
      have HBY := Lib.hid hbyte
      have hcv : ∀ W : World, W.cell? ⟨wr.heap.size, 0, none⟩ = some (.int .u8 (48 + (j : Int) % 10)) → (convert 22 9 (.slice (some ⟨wr.heap.size, 0, none⟩) 1 1)).run Try.prog W = .ok (.string ⟨([digB j] : List UInt8).toArray⟩) W := fun W hW =>
        run_convert_bytes_back (P := Try.prog) W 22 9 5 ⟨wr.heap.size, 0, none⟩ 1 [digB j] Try.underlying22 Try.underlying5 Try.underlying9 (fun i hi => by
          obtain rfl : i = 0 := by simp at hi; omega
          rw [show ([digB j] : List UInt8)[0] = digB j from rfl, HBY.out]
          exact hW)
      have hlen : ¬ (9223372036854775807 : Nat) < 1 + acc.length := by omega
      have HB := Lib.hid (hb.alloc hb.size (.cells #[.int .u8 (48 + (j : Int) % 10)] 5))
      clear hbyte hst hb
      go_wp2
      go_roundw
      case rel => exact ⟨m, j / 10, digB j :: acc, hm, by simp; omega, by go_num, congrArg Value.string (bytes_cons _ _), by rw [HD.out, HM.out], HB.out⟩
      case measure => simp [intOf]; omega
    · obtain rfl : j = 0 := by omega
      have hfin : Hid (markT k = ⟨((109 : UInt8) :: acc).toArray⟩) := by show markT k = _; unfold markT; rw [HD.out, digs_end]
      have hlen : ¬ (9223372036854775807 : Nat) < 1 + acc.length := by omega
      go_wp2
      go_ret
      exact ⟨ret_str ((bytes_cons _ _).trans hfin.out.symm), hb⟩

/-- The cells of marked sorts from k on. -/
def markF : Nat → Nat → List (ByteArray × Int)
  | _, 0 => []
  | k, n + 1 => (markT k, (k : Int) + 1) :: markF (k + 2) n
theorem markF_succ : ∀ (n k : Nat), markF k (n + 1) = markF k n ++ [(markT (k + 2 * n), (k : Int) + 2 * (n : Int) + 1)]
  | 0, k => by simp [markF]
  | n + 1, k => by
    rw [markF, markF_succ n (k + 2)]
    simp only [markF, List.cons_append]
    rw [show k + 2 + 2 * n = k + 2 * (n + 1) from by omega, show ((k + 2 : Nat) : Int) + 2 * (n : Int) + 1 = (k : Int) + 2 * ((n + 1 : Nat) : Int) + 1 from by omega]
theorem markF_len (k n : Nat) : (markF k n).length = n := by induction n generalizing k with
  | zero => rfl
  | succ n ih => simp [markF, ih]

theorem markSortS_any (k n base : Nat) (v : Value) (xs : List Value) (w : World) (hown : w.ownsRow base 91 2 v n xs) (h0 : 1 ≤ k) (hn : k + 2 * n ≤ 16777216) :
    Calls Try.prog 51 #[v, .int .i64 k] w fun e w' => e = .returned (.int .i64 ((k + 2 * n : Nat) : Int)) ∧ w.grownBy w' v.ownBlock ∧ w'.ownsRow base 91 2 v n (flat (markF k n)) := by
  rcases hown.2 with ⟨rfl, rfl⟩ | ⟨g, cap, cur, rfl, hg, hh, h1, h2, h3, h4⟩
  · go_enter Try.func51, Try.ntmps51
    go_wp2
    go_loop [1, 5] (fun q i => i = .int .i64 0 ∧ q = .int .i64 k) (fun _ i => 0)
    case atStart => exact ⟨rfl, rfl⟩
    case round =>
      obtain ⟨rfl, rfl⟩ := hrel
      go_wp2
      go_ret
      exact ⟨ret_int (by simp), World.grownBy.refl _ _, own_nil _ _ _ _⟩
  · have hst : Marked w g 91 (cap * 2) (flat (markF k 0)) := ⟨cur, hh, by simpa using h3, by simp [markF, flat]⟩
    have HST := Lib.hid hst
    clear hst hh h3 h4 hown
    go_enter Try.func51, Try.ntmps51
    go_wp2
    go_loopw [1, 5] (fun q i wr => ∃ (j q0 : Nat), j ≤ n ∧ i = .int .i64 j ∧ q = .int .i64 q0 ∧ q0 = k + 2 * j ∧ Marked wr g 91 (cap * 2) (flat (markF k j)) ∧ w.grownBy wr (some g)) (fun _ i _ => n - (intOf i).toNat)
    case atStart => exact ⟨0, k, Nat.zero_le _, rfl, rfl, rfl, HST.out, World.grownBy.refl _ _⟩
    case round =>
      obtain ⟨j, q0, hj, rfl, rfl, hq, hm, hgr⟩ := hrel
      have HQ := Lib.hid hq
      by_cases hlt : j < n
      · have hq1 : q0 + 2 ≤ 16777216 := by omega
        have hq2 : 1 ≤ q0 := by omega
        clear hq
        go_wp2_with fail
        refine (markText_any q0 _ hq2 (by omega)).mono ?_
        rintro e w1 ⟨rfl, hb1⟩
        have hm1 := hm.below hb1
        have hg1 := grown_below hgr hb1
        clear hm hgr hb1
        obtain ⟨⟨u, hu⟩, hfz⟩ := hm1.at_ (j := j * 2) (by omega)
        have hl : (flat (markF k j)).length = j * 2 := by rw [flat_len, markF_len]; omega
        have hst := hm1.step (by rw [hl]; omega) (.string (markT q0))
        rw [hl] at hst
        obtain ⟨⟨u1, hu1⟩, hfz1⟩ := hst.at_ (j := j * 2 + 1) (by omega)
        have hst2 := hst.step (by rw [List.length_append, hl]; show j * 2 + 1 < _; omega) (.int .i64 ((q0 : Int) + 1))
        have HM : Hid (Marked ((w1.setCell ⟨g, j * 2, none⟩ (.string (markT q0))).setCell ⟨g, j * 2 + 1, none⟩ (.int .i64 ((q0 : Int) + 1))) g 91 (cap * 2) (flat (markF k (j + 1)))) := by
          rw [markF_succ, flat_snoc]
          have hq := HQ.out
          rw [show markT (k + 2 * j) = markT q0 from by rw [hq], show (k : Int) + 2 * (j : Int) + 1 = (q0 : Int) + 1 from by omega]
          rw [List.length_append, hl] at hst2
          rw [List.append_assoc] at hst2
          exact hst2
        have HG := Lib.hid (grown_set (grown_set hg1 (j * 2) (.string (markT q0))) (j * 2 + 1) (.int .i64 ((q0 : Int) + 1)))
        clear hm1 hst hst2 hl hg1
        go_wp2
        go_roundw
        case rel => exact ⟨j + 1, q0 + 2, by omega, by go_num, by go_num, by have := HQ.out; omega, HM.out, HG.out⟩
        case measure => simp [intOf]; omega
      · obtain rfl : j = n := by omega
        subst hq
        go_wp2
        go_ret
        refine ⟨rfl, hgr, by rw [flat_len, markF_len]; omega, .inr ?_⟩
        obtain ⟨cur', g1, g2, g3⟩ := hm
        exact ⟨g, cap, cur', rfl, hg, g1, h1, h2, by simpa using g2, by rw [flat_len, markF_len, Nat.mul_comm] at g3; exact g3⟩
end Go.Proofs.Ytpbkeagpipipmaa.S1

/-
  Rows of ints that begin anywhere in their block (what s[1:n] answers): the words, and the law's own mark on them.
-/
import Derived.Test.YtcbhhbcfnaekpaaDoorLaw
namespace Go.Proofs.YtcbhhbcfnaekpaaDoor
open Go.RowKit
set_option linter.unusedVariables false

theorem getI {l : List Int} {k : Nat} (h : k < l.length) : l.getD k 0 = l[k] := by rw [List.getD_eq_getElem?_getD, List.getElem?_eq_getElem h]; rfl
/-- v is a row of its own that reads as L; it begins anywhere in its block. -/
def AtRow (w : World) (base : Nat) (v : Value) (L : List Int) : Prop := ∃ (A : Option Addr) (c : Nat), v = .slice A L.length c ∧ (∀ a, A = some a → base ≤ a.block ∧ a.block < w.heap.size) ∧
  (0 < L.length → ∃ g off t cs, A = some ⟨g, off, none⟩ ∧ w.heap[g]? = some (.cells cs t (0, 0)) ∧ ∀ k (h : k < L.length), cs[off + k]? = some (.int .i64 L[k]))
theorem AtRow.of_own {w : World} {base : Nat} {t : TypeId} {v : Value} {L : List Int} (h : w.ownsRow base t 1 v L.length (intsZ L)) : AtRow w base v L := by
  rcases h.2 with ⟨rfl, h0⟩ | ⟨g, cap, cur, rfl, hg, hh, h1, h2, h3, h4⟩
  · exact ⟨none, 0, by rw [h0], fun a e => (by cases e), fun h => by omega⟩
  · refine ⟨_, cap, rfl, fun a e => ?_, fun h0 => ⟨g, 0, t, cur, rfl, hh, fun k hk => ?_⟩⟩
    · obtain rfl := Option.some.inj e
      exact ⟨hg, lt_of_heap hh⟩
    · rw [Nat.zero_add, ← Array.getElem?_toList]
      have e1 : (cur.toList.take (L.length * 1))[k]? = (intsZ L)[k]? := by rw [h4]
      rw [List.getElem?_take_of_lt (by omega)] at e1
      rw [e1]
      simp [intsZ, hk]
theorem AtRow.form {w : World} {base : Nat} {v : Value} {L : List Int} (h : AtRow w base v L) : ∃ A c, v = .slice A L.length c := by obtain ⟨A, c, h1, _⟩ := h; exact ⟨A, c, h1⟩
theorem AtRow.ints {w : World} {base m c : Nat} {A : Option Addr} {L : List Int} (h : AtRow w base (.slice A m c) L) : IntsIn w A L := fun h0 => by
  obtain ⟨A', c', h1, _, h3⟩ := h
  injection h1 with e1
  subst e1
  obtain ⟨g, off, t, cs, h4, h5, h6⟩ := h3 h0
  exact ⟨g, off, h4, lt_of_heap h5, fun k hk => by rw [cell_of_heap h5]; exact h6 k hk⟩
theorem AtRow.blk {w : World} {base : Nat} {v : Value} {L : List Int} (h : AtRow w base v L) : ∀ k, v.ownBlock = some k → base ≤ k ∧ k < w.heap.size := by
  obtain ⟨A, c, rfl, h2, _⟩ := h
  intro k hk
  cases A with
  | none => simp [Value.ownBlock] at hk
  | some a => obtain rfl : a.block = k := by simpa [Value.ownBlock] using hk
              exact h2 a rfl
theorem AtRow.lo {w : World} {base : Nat} {v : Value} {L : List Int} (h : AtRow w base v L) : ∀ k, v.ownBlock = some k → base ≤ k := fun k hk => (h.blk k hk).1
theorem AtRow.hi {w : World} {base : Nat} {v : Value} {L : List Int} (h : AtRow w base v L) : ∀ k, v.ownBlock = some k → k < w.heap.size := fun k hk => (h.blk k hk).2
theorem AtRow.grown {w w' : World} {base : Nat} {v : Value} {L : List Int} {row : Option Nat} (h : AtRow w base v L) (hg : w.grownBy w' row) (hne : ∀ k, v.ownBlock = some k → row ≠ some k) : AtRow w' base v L := by
  obtain ⟨A, c, rfl, h2, h3⟩ := h
  refine ⟨A, c, rfl, fun a e => ⟨(h2 a e).1, Nat.lt_of_lt_of_le (h2 a e).2 hg.size⟩, fun h0 => ?_⟩
  obtain ⟨g, off, t, cs, rfl, h5, h6⟩ := h3 h0
  exact ⟨g, off, t, cs, rfl, (hg.block g (lt_of_heap h5) (fun e => hne g (by simp [Value.ownBlock]) e.symm)).trans h5, h6⟩
theorem AtRow.below {w w' : World} {base : Nat} {v : Value} {L : List Int} (h : AtRow w base v L) (hb : Below w.heap.size w w') : AtRow w' base v L :=
  h.grown (row := none) ⟨hb.os, hb.tape, hb.output, hb.size, fun k hk _ => hb.block k hk⟩ (fun k _ e => by cases e)
theorem AtRow.up {w : World} {base : Nat} {v : Value} {L : List Int} (h : AtRow w base v L) : AtRow w 0 v L := by
  obtain ⟨A, c, h1, h2, h3⟩ := h
  exact ⟨A, c, h1, fun a e => ⟨Nat.zero_le _, (h2 a e).2⟩, h3⟩
theorem AtRow.low {w : World} {base b2 : Nat} {v : Value} {L : List Int} (h : AtRow w base v L) (hb : b2 ≤ base) : AtRow w b2 v L := by
  obtain ⟨A, c, h1, h2, h3⟩ := h
  exact ⟨A, c, h1, fun a e => ⟨Nat.le_trans hb (h2 a e).1, (h2 a e).2⟩, h3⟩
/-- Block g: n cells from off on are told. -/
def TcO (w : World) (g off : Nat) (t : TypeId) (n : Nat) (f : Nat → Int) : Prop := ∃ cs : Array Value, w.heap[g]? = some (.cells cs t (0, 0)) ∧ ∀ j, j < n → cs[off + j]? = some (.int .i64 (f j))
theorem TcO.set {w : World} {g off n : Nat} {t : TypeId} {f : Nat → Int} (h : TcO w g off t n f) (i : Nat) (x : Int) : TcO (w.setCell ⟨g, off + i, none⟩ (.int .i64 x)) g off t n (fun j => if j = i then x else f j) := by
  obtain ⟨cs, h1, h3⟩ := h
  refine ⟨_, heap_set h1 _, fun j hj => ?_⟩
  have h4 := h3 j hj
  by_cases e : j = i
  · subst e
    have : off + j < cs.size := (Array.getElem?_eq_some_iff.1 h4).1
    simp [this]
  · show _ = some (Value.int .i64 (if j = i then x else f j))
    rw [if_neg e, ← h4]; simp [Ne.symm e]
def mrkF (L : List Int) (k0 : Int) (m : Nat) : Nat → Int := fun j => if j < m then k0 + (j : Int) else L.getD j 0
theorem mrkF_succ (L : List Int) (k0 : Int) (m : Nat) : (fun j => if j = m then k0 + (m : Int) else mrkF L k0 m j) = mrkF L k0 (m + 1) := by
  funext j; unfold mrkF
  by_cases h : j = m
  · subst h; rw [if_pos rfl, if_pos (by omega)]
  · rw [if_neg h]
    by_cases h2 : j < m
    · rw [if_pos h2, if_pos (by omega)]
    · rw [if_neg h2, if_neg (by omega)]
set_option maxRecDepth 100000 in
theorem markAt_any (k0 : Int) (base : Nat) (v : Value) (L : List Int) (w : World) (h : AtRow w base v L) (h0 : 0 ≤ k0) (hn : k0 + (L.length : Int) ≤ 16777216) :
    Calls Tryd.prog 45 #[v, .int .i64 k0] w fun e w' => e = .returned (.int .i64 (k0 + (L.length : Int))) ∧ w.grownBy w' v.ownBlock ∧ AtRow w' base v (marks k0 L.length) := by
  obtain ⟨A, c, rfl, h2, h3⟩ := h
  rcases Nat.eq_zero_or_pos L.length with hz | hz
  · have HH : Hid (AtRow w base (.slice A L.length c) (marks k0 L.length)) := Lib.hid ⟨A, c, by rw [marks_len], h2, fun h => by rw [marks_len] at h; omega⟩
    have HZ := Lib.hid hz
    clear h3 h2
    rw [hz] at HH ⊢
    clear hz
    go_enter Tryd.func45, Tryd.ntmps45
    go_wp2
    go_loop [1, 5] (fun q i => i = .int .i64 0 ∧ q = .int .i64 k0) (fun _ i => 0)
    case atStart => exact ⟨rfl, rfl⟩
    case round =>
      obtain ⟨rfl, rfl⟩ := hrel
      go_wp2
      go_ret
      exact ⟨ret_int (by simp), World.grownBy.refl _ _, HH.out⟩
  · obtain ⟨g, off, t, cs, rfl, h5, h6⟩ := h3 hz
    have HT : Hid (TcO w g off t L.length (mrkF L k0 0)) := Lib.hid ⟨cs, h5, fun j hj => by unfold mrkF; rw [if_neg (by omega), getI hj]; exact h6 j hj⟩
    have HA := Lib.hid h2
    obtain ⟨n, hnn⟩ : ∃ n, n = L.length := ⟨_, rfl⟩
    rw [← hnn] at HT hz hn ⊢
    clear h3 h5 h6 h2 hnn
    go_enter Tryd.func45, Tryd.ntmps45
    go_wp2
    go_loopw [1, 5] (fun q i wr => ∃ (j : Nat), j ≤ n ∧ i = .int .i64 j ∧ q = .int .i64 (k0 + (j : Int)) ∧ TcO wr g off t n (mrkF L k0 j) ∧ w.grownBy wr (some g)) (fun _ i _ => n - (intOf i).toNat)
    case atStart => exact ⟨0, Nat.zero_le _, rfl, by simp, HT.out, World.grownBy.refl _ _⟩
    case round =>
      obtain ⟨j, hj, rfl, rfl, ht, hg⟩ := hrel
      by_cases hlt : j < n
      · have HS := Lib.hid (by have h := ht.set j (k0 + (j : Int)); rw [mrkF_succ] at h; exact h)
        have HG := Lib.hid (grown_set hg (off + j) (.int .i64 (k0 + (j : Int))))
        obtain ⟨cs', q1, q2⟩ := ht
        have hc := (cell_of_heap q1 (off + j)).trans (q2 j hlt)
        have hf := free_of_heap q1 (off + j)
        clear q1 q2 hg
        go_wp2
        go_roundw
        case rel => exact ⟨j + 1, by omega, by go_num, by rw [show k0 + ((j + 1 : Nat) : Int) = k0 + (j : Int) + 1 from by omega], HS.out, HG.out⟩
        case measure => simp [intOf]; omega
      · obtain rfl : j = n := by omega
        have HTT := Lib.hid ht; have HG := Lib.hid hg
        clear ht hg
        go_wp2
        go_ret
        refine ⟨rfl, HG.out, _, c, by rw [marks_len], fun a e => ⟨(HA.out a e).1, Nat.lt_of_lt_of_le (HA.out a e).2 HG.out.size⟩, fun _ => ?_⟩
        obtain ⟨cs', q1, q2⟩ := HTT.out
        refine ⟨g, off, t, cs', rfl, q1, fun k hk => ?_⟩
        rw [marks_len] at hk
        rw [q2 k hk]
        unfold mrkF
        rw [if_pos hk]
        simp [marks]

end Go.Proofs.YtcbhhbcfnaekpaaDoor

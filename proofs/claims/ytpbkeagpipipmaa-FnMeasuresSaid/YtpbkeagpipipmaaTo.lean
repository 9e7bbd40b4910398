/-
  The contract of laws.toSortS: it answers a new slice that holds the same sorts, and changes nothing that was there.
-/
import Derived.Test.YtpbkeagpipipmaaMxe
import Derived.Laws.MakeOwn
namespace Go.Proofs.Ytpbkeagpipipmaa.S1
open Go.RowKit
set_option linter.unusedVariables false

def flat (f : List (ByteArray × Int)) : List Value := f.flatMap fun x => [.string x.1, .int .i64 x.2]
theorem flat_len (f : List (ByteArray × Int)) : (flat f).length = 2 * f.length := by
  induction f with
  | nil => rfl
  | cons x r ih => simp [flat] at ih ⊢; omega
theorem flat_get : ∀ (f : List (ByteArray × Int)) (k : Nat) (h : k < f.length), (flat f)[k * 2]? = some (.string f[k].1) ∧ (flat f)[k * 2 + 1]? = some (.int .i64 f[k].2)
  | x :: r, 0, _ => ⟨rfl, rfl⟩
  | x :: r, k + 1, h => by
    have ih := flat_get r k (by simpa using h)
    have e : flat (x :: r) = .string x.1 :: .int .i64 x.2 :: flat r := rfl
    rw [e, show (k + 1) * 2 = k * 2 + 1 + 1 from by omega]
    simpa using ih
theorem flat_snoc (f : List (ByteArray × Int)) (x : ByteArray × Int) : flat (f ++ [x]) = flat f ++ [.string x.1, .int .i64 x.2] := by simp [flat]

/-- Block b is a row of sorts of the call's own. -/
def Fresh (w : World) (b : Nat) (f : List (ByteArray × Int)) : Prop := w.heap[b]? = some (.cells (flat f).toArray 91 (0, 0))
theorem lt_of_heap {w : World} {b : Nat} {o : Obj} (h : w.heap[b]? = some o) : b < w.heap.size := by
  rcases Nat.lt_or_ge b w.heap.size with h1 | h1
  · exact h1
  · rw [Array.getElem?_eq_none h1] at h; cases h
theorem cell_of_heap {w : World} {b : Nat} {cs : Array Value} {t : TypeId} {fr : Nat × Nat} (h : w.heap[b]? = some (.cells cs t fr)) (i : Nat) : w.cell? ⟨b, i, none⟩ = cs[i]? := by simp [World.cell?, h]
theorem free_of_heap {w : World} {b : Nat} {cs : Array Value} {t : TypeId} (h : w.heap[b]? = some (.cells cs t (0, 0))) (i : Nat) : w.frozen? ⟨b, i, none⟩ = false := by simp [World.frozen?, h]
theorem heap_set {w : World} {b i : Nat} {cs : Array Value} {t : TypeId} {fr : Nat × Nat} (h : w.heap[b]? = some (.cells cs t fr)) (v : Value) : (w.setCell ⟨b, i, none⟩ v).heap[b]? = some (.cells (cs.setIfInBounds i v) t fr) := by
  simp [World.setCell, Array.getElem?_modify, h]
theorem Fresh.sorts {w : World} {b lo : Nat} {f : List (ByteArray × Int)} (h : Fresh w b f) (hl : lo ≤ b) : SortsIn w lo (some ⟨b, 0, none⟩) f := fun _ =>
  ⟨b, 0, rfl, hl, lt_of_heap h, fun k hk => by
    have hg := flat_get f k hk
    rw [cell_of_heap h, cell_of_heap h]
    simpa using hg⟩
theorem Fresh.below {w w' : World} {b B : Nat} {f : List (ByteArray × Int)} (h : Fresh w b f) (hb : Below B w w') (hB : b < B) : Fresh w' b f := (hb.block b hB).trans h

/-- The first k sorts are laid, the rest of the row is as it was made. -/
def Part (w : World) (b : Nat) (f : List (ByteArray × Int)) (k : Nat) : Prop :=
  ∃ rest : List Value, rest.length = 2 * (f.length - k) ∧ w.heap[b]? = some (.cells (flat (f.take k) ++ rest).toArray 91 (0, 0))
theorem Part.below {w w' : World} {b B k : Nat} {f : List (ByteArray × Int)} (h : Part w b f k) (hb : Below B w w') (hB : b < B) : Part w' b f k := by
  obtain ⟨r, h1, h2⟩ := h
  exact ⟨r, h1, (hb.block b hB).trans h2⟩
theorem Part.lt {w : World} {b k : Nat} {f : List (ByteArray × Int)} (h : Part w b f k) : b < w.heap.size := by
  obtain ⟨r, h1, h2⟩ := h
  exact lt_of_heap h2
theorem Part.at_ {w : World} {b k : Nat} {f : List (ByteArray × Int)} (h : Part w b f k) (hk : k < f.length) :
    (∃ u, w.cell? ⟨b, k * 2, none⟩ = some u) ∧ (∃ u, w.cell? ⟨b, k * 2 + 1, none⟩ = some u) ∧ w.frozen? ⟨b, k * 2, none⟩ = false ∧ w.frozen? ⟨b, k * 2 + 1, none⟩ = false := by
  obtain ⟨r, h1, h2⟩ := h
  have hl : (flat (f.take k) ++ r).length = 2 * f.length := by
    rw [List.length_append, flat_len, List.length_take, h1]; omega
  refine ⟨?_, ?_, free_of_heap h2 _, free_of_heap h2 _⟩
  · rw [cell_of_heap h2]
    exact ⟨_, Array.getElem?_eq_getElem (by simp only [List.size_toArray]; omega)⟩
  · rw [cell_of_heap h2]
    exact ⟨_, Array.getElem?_eq_getElem (by simp only [List.size_toArray]; omega)⟩
theorem Part.step {w : World} {b k : Nat} {f : List (ByteArray × Int)} (h : Part w b f k) (hk : k < f.length) :
    Part ((w.setCell ⟨b, k * 2, none⟩ (.string f[k].1)).setCell ⟨b, k * 2 + 1, none⟩ (.int .i64 f[k].2)) b f (k + 1) := by
  obtain ⟨r, h1, h2⟩ := h
  match r, h1 with
  | a :: c :: r', h1 =>
    refine ⟨r', by simp at h1; omega, ?_⟩
    rw [heap_set (heap_set h2 _)]
    have hl : (flat (f.take k)).length = k * 2 := by rw [flat_len, List.length_take]; omega
    congr 2
    apply Array.ext'
    simp only [Array.toList_setIfInBounds]
    rw [List.set_append_right _ _ (by omega), hl]
    simp only [Nat.sub_self, List.set_cons_zero]
    rw [List.set_append_right _ _ (by omega), hl, show k * 2 + 1 - k * 2 = 1 from by omega]
    simp only [List.set_cons_succ, List.set_cons_zero]
    rw [List.take_succ_eq_append_getElem hk, flat_snoc]
    simp
  | [], h1 => simp at h1; omega
  | [_], h1 => simp at h1; omega
theorem Part.done {w : World} {b : Nat} {f : List (ByteArray × Int)} (h : Part w b f f.length) : Fresh w b f := by
  obtain ⟨r, h1, h2⟩ := h
  have : r = [] := List.eq_nil_of_length_eq_zero (by omega)
  subst this
  rw [List.take_length, List.append_nil] at h2
  exact h2

theorem heap_new (w : World) (o : Obj) : (w.alloc o).heap[w.heap.size]? = some o := by
  show (w.heap.push o)[w.heap.size]? = _
  simp
theorem Part.start (w : World) (f : List (ByteArray × Int)) (z : Array Value) : Part (w.alloc (.cells (madeCells z (f.length * 2)) 91)) w.heap.size f 0 := by
  refine ⟨(madeCells z (f.length * 2)).toList, by rw [Array.length_toList, size_madeCells]; omega, ?_⟩
  rw [show (w.alloc (.cells (madeCells z (f.length * 2)) 91)).heap[w.heap.size]? = some (.cells (madeCells z (f.length * 2)) 91) from heap_new _ _]
  simp [flat]
theorem info39 : (Try.prog.info? 91).map (fun i => (i.zero, i.size, i.bytes)) = some (some (.agg #[.string .empty, .int .i64 0]), 2, 24) := by kernel_rfl

theorem run_make39 (n : Nat) (hn : n ≤ 1048576) (w : World) :
    (Instr.makeSlice 43 (.int .i64 (n : Int)) (.int .i64 (n : Int))).run Try.prog w = .ok (.slice (some ⟨w.heap.size, 0, none⟩) n n) (w.alloc (.cells (madeCells #[.string .empty, .int .i64 0] (n * 2)) 91)) := by
  obtain ⟨i0, hi, hz0, hz1, hz2⟩ := info_parts info39
  have h := run_make (P := Try.prog) w 43 91 i0 _ Try.underlying43 hi hz0 .i64 .i64 (n : Int) (n : Int) (by omega) (Int.le_refl _) (by rw [hz2]; omega) (by omega)
  rw [hz1, Int.toNat_natCast] at h
  exact h

theorem toSortS_any (f : List (ByteArray × Int)) (A : Option Addr) (c : Nat) (lo : Nat) (w : World) (hf : SortsIn w lo A f) (hn : f.length ≤ 1048576) :
    Calls Try.prog 47 #[.slice A f.length c] w fun e w' => e = .returned (.slice (some ⟨w.heap.size, 0, none⟩) f.length f.length) ∧ Below w.heap.size w w' ∧ Fresh w' w.heap.size f := by
  have HF := Lib.hid hf; clear hf
  have hmk := run_make39 f.length hn
  have hst := Part.start w f #[.string .empty, .int .i64 0]
  generalize hz : madeCells #[.string .empty, .int .i64 0] (f.length * 2) = cs0 at *
  go_enter Try.func47, Try.ntmps47
  have HST := Lib.hid hst; clear hst hz
  go_wp2
  go_loopw [4] (fun i wr => ∃ (k : Nat), k ≤ f.length ∧ i = .int .i64 k ∧ Part wr w.heap.size f k ∧ Below w.heap.size w wr) (fun i _ => f.length - (intOf i).toNat)
  case atStart => exact ⟨0, Nat.zero_le _, rfl, HST.out, (Below.refl _ _).alloc (Nat.le_refl _) _⟩
  case round =>
    obtain ⟨k, hk, rfl, hp, hb⟩ := hrel
    clear hmk
    by_cases hlt : k < f.length
    · obtain ⟨b, off, rfl, _, hbl, hc⟩ := HF.out (by omega)
      obtain ⟨hc0, hc1⟩ := hc k hlt
      clear hc
      rw [← hb.cell (p := ⟨b, off + k * 2, none⟩) hbl] at hc0
      rw [← hb.cell (p := ⟨b, off + k * 2 + 1, none⟩) hbl] at hc1
      go_wp2_with fail
      refine (toSort_any _ _ _).mono ?_
      rintro e w1 ⟨rfl, hb1⟩
      have hp1 := hp.below hb1 hp.lt
      have hb' : Below w.heap.size w w1 := hb.trans (hb1.mono hb.size)
      obtain ⟨⟨u0, hu0⟩, ⟨u1, hu1⟩, hf0, hf1⟩ := hp1.at_ hlt
      have HP := Lib.hid (hp1.step hlt)
      have HB := Lib.hid ((hb'.setCell (p := ⟨w.heap.size, k * 2, none⟩) (Nat.le_refl _) (.string f[k].1)).setCell (p := ⟨w.heap.size, k * 2 + 1, none⟩) (Nat.le_refl _) (.int .i64 f[k].2))
      clear hb hb1 hc0 hc1 hp hp1 hb'
      go_wp2
      go_roundw
      case rel => exact ⟨k + 1, by omega, by go_num, HP.out, HB.out⟩
      case measure => simp [intOf]; omega
    · obtain rfl : k = f.length := by omega
      go_wp2
      go_ret
      exact ⟨rfl, hb, hp.done⟩
end Go.Proofs.Ytpbkeagpipipmaa.S1

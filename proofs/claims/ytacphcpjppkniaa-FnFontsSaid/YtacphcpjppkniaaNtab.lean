/-
  The tables of spec.NarrowestWay; the contract of spec.tyLess where the first numbers decide.
-/
import Derived.Test.YtacphcpjppkniaaNimp
namespace Go.Proofs.Ytacphcpjppkniaa
open Go.RowKit
set_option linter.unusedVariables false

set_option maxRecDepth 100000 in
theorem tyLess_head (i j b off b' off' n m c d : Nat) (w : World) (hx : w.cell? ⟨b, off, none⟩ = some (.int .i64 (i : Int))) (hy : w.cell? ⟨b', off', none⟩ = some (.int .i64 (j : Int))) (hb : b < w.heap.size) (hb' : b' < w.heap.size)
    (hij : j < i) (hn : 0 < n) (hm : 0 < m) :
    Calls Try.prog 61 #[.slice (some ⟨b, off, none⟩) n c, .slice (some ⟨b', off', none⟩) m d] w fun e w' => e = .returned (.bool false) ∧ Below w.heap.size w w' := by
  have h1 : (0 : Int) < (n : Int) := by omega
  have h2 : (0 : Int) < (m : Int) := by omega
  have h3 : ((i : Int) == (j : Int)) = false := by rw [beq_eq_false_iff_ne]; omega
  have h4 : ¬ (i : Int) < (j : Int) := by omega
  have hkx := KeptW.cell hx hb
  have hky := KeptW.cell hy hb'
  go_enter Try.func61, Try.ntmps61
  go_wp2
  go_loopw [5] (fun i wr => i = .int .i64 0 ∧ wr = w) (fun _ _ => 0)
  case atStart => exact ⟨rfl, rfl⟩
  case round =>
    obtain ⟨rfl, rfl⟩ := hrel
    go_wp2_with fail
    refine region_kept wr.heap.size (by kernel_rfl) (by kernel_rfl) ?_
    repeat (go_big_quiet_step (fail))
    refine wpQuiet_nil ?_
    intro w1 hb1
    have hx1 := (hb1.cell (p := ⟨b, off, none⟩) hb).trans hx
    have hy1 := (hb1.cell (p := ⟨b', off', none⟩) hb').trans hy
    have hz1 : b < w1.heap.size := Nat.lt_of_lt_of_le hb hb1.size
    have hz1' : b' < w1.heap.size := Nat.lt_of_lt_of_le hb' hb1.size
    have hkx := KeptW.cell hx1 hz1
    have hky := KeptW.cell hy1 hz1'
    go_wp2_with fail
    refine region_kept w1.heap.size (by kernel_rfl) (by kernel_rfl) ?_
    repeat (go_big_quiet_step (fail))
    refine wpQuiet_nil ?_
    intro w2 hb2
    go_wp2
    go_ret
    exact ⟨ret_bool (decide_eq_false (by omega)), hb1.trans (hb2.mono hb1.size)⟩

/-- A slice of ints at A reads as l, and lies in a block from lo on. -/
def IntsOver (w : World) (lo : Nat) (A : Option Addr) (l : List Int) : Prop :=
  0 < l.length → ∃ b off, A = some ⟨b, off, none⟩ ∧ lo ≤ b ∧ b < w.heap.size ∧ ∀ k (h : k < l.length), w.cell? ⟨b, off + k, none⟩ = some (.int .i64 l[k])
theorem IntsOver.ints {w : World} {lo : Nat} {A : Option Addr} {l : List Int} (h : IntsOver w lo A l) : IntsIn w A l := fun hn => by
  obtain ⟨b, off, h1, _, h2⟩ := h hn
  exact ⟨b, off, h1, h2⟩
theorem IntsOver.below {w w' : World} {lo : Nat} {A : Option Addr} {l : List Int} (h : IntsOver w lo A l) (hb : Below w.heap.size w w') : IntsOver w' lo A l := fun hn => by
  obtain ⟨b, off, h1, h2, h3, h4⟩ := h hn
  exact ⟨b, off, h1, h2, Nat.lt_of_lt_of_le h3 hb.size, fun k hk => (hb.cell (by show b < _; omega)).trans (h4 k hk)⟩
theorem IntsOver.set {w : World} {lo g q : Nat} {A : Option Addr} {l : List Int} (h : IntsOver w lo A l) (hg : g < lo) (v : Value) : IntsOver (w.setCell ⟨g, q, none⟩ v) lo A l := fun hn => by
  obtain ⟨b, off, h1, h2, h3, h4⟩ := h hn
  refine ⟨b, off, h1, h2, by simpa [World.setCell] using h3, fun k hk => ?_⟩
  rw [← h4 k hk]
  unfold World.cell?
  rw [set_other (by show b ≠ g; omega)]
theorem own_over {w : World} {base n c : Nat} {e : TypeId} {A : Option Addr} {l : List Int} (h : w.ownsRow base e 1 (.slice A l.length c) n (intsZ l)) : IntsOver w base A l := fun hn => by
  have hnn : n = l.length := by have := h.1; simp [intsZ] at this; omega
  rcases h.2 with ⟨hv, h0⟩ | ⟨g, cap, cur, hv, hg, hh, h1, h2, h3, h4⟩
  · injection hv with _ e2 _; omega
  · injection hv with e1 e2 e3
    subst e1
    refine ⟨g, 0, rfl, hg, lt_of_heap hh, fun k hk => ?_⟩
    subst e3
    rw [hnn] at h
    rw [h.cellAt (0 + k) (by omega)]
    simp [intsZ, hk]

def FoundTab (w : World) (g n : Nat) (T : Nat → Option (List Nat)) : Prop := w.heap[g]? = some (.cells ((List.range n).map fun p => Value.bool (T p).isSome).toArray 4 (0, 0))
def WaysTab (w : World) (g lo n : Nat) (T : Nat → Option (List Nat)) : Prop :=
  ∃ vs : Nat → Value, w.heap[g]? = some (.cells ((List.range n).map vs).toArray 26 (0, 0)) ∧
    ∀ p, p < n → ((T p).getD [] = [] → vs p = .slice none 0 0) ∧ ∃ A c, vs p = .slice A ((T p).getD []).length c ∧ IntsOver w lo A (intL ((T p).getD []))
theorem FoundTab.below {w w' : World} {g n : Nat} {T : Nat → Option (List Nat)} (h : FoundTab w g n T) (hb : Below w.heap.size w w') : FoundTab w' g n T := (hb.block g (lt_of_heap h)).trans h
theorem FoundTab.at_ {w : World} {g n p : Nat} {T : Nat → Option (List Nat)} (h : FoundTab w g n T) (hp : p < n) : w.cell? ⟨g, p, none⟩ = some (.bool (T p).isSome) := by
  rw [cell_of_heap h]; simp [hp]
theorem FoundTab.free {w : World} {g n i : Nat} {T : Nat → Option (List Nat)} (h : FoundTab w g n T) : w.frozen? ⟨g, i, none⟩ = false := free_of_heap h i
theorem FoundTab.other {w : World} {g g' q n : Nat} {T : Nat → Option (List Nat)} (h : FoundTab w g n T) (hg : g ≠ g') (v : Value) : FoundTab (w.setCell ⟨g', q, none⟩ v) g n T := (set_other hg v).trans h
theorem FoundTab.set {w : World} {g n p : Nat} {l : List Nat} {T : Nat → Option (List Nat)} (h : FoundTab w g n T) : FoundTab (w.setCell ⟨g, p, none⟩ (.bool true)) g n (updW T p (some l)) := by
  unfold FoundTab
  rw [heap_set h]
  congr 2
  apply Array.ext
  · simp
  · intro q h1 h2
    rw [Array.getElem_setIfInBounds (by simpa using h1)]
    by_cases hq : p = q
    · subst hq; simp [updW]
    · have hq' : ¬ q = p := fun e => hq e.symm
      rw [if_neg hq]; simp [updW, hq']
theorem WaysTab.below {w w' : World} {g lo n : Nat} {T : Nat → Option (List Nat)} (h : WaysTab w g lo n T) (hb : Below w.heap.size w w') : WaysTab w' g lo n T := by
  obtain ⟨vs, h1, h2⟩ := h
  refine ⟨vs, (hb.block g (lt_of_heap h1)).trans h1, fun p hp => ⟨(h2 p hp).1, ?_⟩⟩
  obtain ⟨A, c, h3, h4⟩ := (h2 p hp).2
  exact ⟨A, c, h3, h4.below hb⟩
theorem WaysTab.other {w : World} {g g' lo q n : Nat} {T : Nat → Option (List Nat)} (h : WaysTab w g lo n T) (hg : g ≠ g') (hlo : g' < lo) (v : Value) : WaysTab (w.setCell ⟨g', q, none⟩ v) g lo n T := by
  obtain ⟨vs, h1, h2⟩ := h
  refine ⟨vs, (set_other hg v).trans h1, fun p hp => ⟨(h2 p hp).1, ?_⟩⟩
  obtain ⟨A, c, h3, h4⟩ := (h2 p hp).2
  exact ⟨A, c, h3, h4.set hlo v⟩
theorem WaysTab.at_ {w : World} {g lo n p : Nat} {T : Nat → Option (List Nat)} (h : WaysTab w g lo n T) (hp : p < n) :
    ∃ A c, w.cell? ⟨g, p, none⟩ = some (.slice A ((T p).getD []).length c) ∧ IntsOver w lo A (intL ((T p).getD [])) ∧ ((T p).getD [] = [] → A = none ∧ c = 0) := by
  obtain ⟨vs, h1, h2⟩ := h
  obtain ⟨h5, A, c, h3, h4⟩ := h2 p hp
  refine ⟨A, c, ?_, h4, fun he => ?_⟩
  · rw [cell_of_heap h1, ← h3]; simp [hp]
  · have := h5 he
    rw [h3] at this
    injection this with a1 a2 a3
    exact ⟨a1, a3⟩
theorem WaysTab.free {w : World} {g lo n i : Nat} {T : Nat → Option (List Nat)} (h : WaysTab w g lo n T) : w.frozen? ⟨g, i, none⟩ = false := by
  obtain ⟨vs, h1, h2⟩ := h
  exact free_of_heap h1 i
theorem WaysTab.lt {w : World} {g lo n : Nat} {T : Nat → Option (List Nat)} (h : WaysTab w g lo n T) : g < w.heap.size := by
  obtain ⟨vs, h1, h2⟩ := h
  exact lt_of_heap h1
theorem WaysTab.set {w : World} {g lo n p c : Nat} {A : Option Addr} {l : List Nat} {T : Nat → Option (List Nat)} (h : WaysTab w g lo n T) (hg : g < lo) (hi : IntsOver w lo A (intL l)) (hl : l ≠ []) :
    WaysTab (w.setCell ⟨g, p, none⟩ (.slice A l.length c)) g lo n (updW T p (some l)) := by
  obtain ⟨vs, h1, h2⟩ := h
  refine ⟨fun q => if q = p then .slice A l.length c else vs q, ?_, fun q hq => ?_⟩
  · rw [heap_set h1]
    congr 2
    apply Array.ext
    · simp
    · intro q h1 h2
      rw [Array.getElem_setIfInBounds (by simpa using h1)]
      by_cases hq : p = q
      · subst hq; simp
      · have hq' : ¬ q = p := fun e => hq e.symm
        rw [if_neg hq]; simp [hq']
  · by_cases hqp : q = p
    · subst hqp
      simp only [updW, if_pos]
      exact ⟨fun e => absurd e hl, A, c, rfl, hi.set hg _⟩
    · simp only [updW, if_neg hqp]
      obtain ⟨h5, A', c', h3, h4⟩ := h2 q hq
      exact ⟨h5, A', c', h3, h4.set hg _⟩
theorem WaysTab.start (w : World) (lo n : Nat) : WaysTab (w.alloc (.cells (madeCells #[.slice none 0 0] n) 26)) w.heap.size lo n (fun _ => none) := by
  refine ⟨fun _ => .slice none 0 0, ?_, fun p hp => ⟨fun _ => rfl, none, 0, rfl, fun h => absurd h (by simp [intL])⟩⟩
  rw [heap_new]
  congr 2
  apply Array.ext'
  rw [toList_madeCells_one]
  simp only [List.map_const', List.length_range]
theorem FoundTab.start (w : World) (n : Nat) : FoundTab (w.alloc (.cells (madeCells #[.bool false] n) 4)) w.heap.size n (fun _ => none) := by
  unfold FoundTab
  rw [heap_new]
  congr 2
  apply Array.ext'
  rw [toList_madeCells_one]
  simp only [List.map_const', List.length_range]
  rfl
theorem FoundTab.end_ {f : List (ByteArray × Int)} {s : ByteArray} {w : World} {g n : Nat} (h : FoundTab w g n (fun _ => none)) : FoundTab (w.setCell ⟨g, s.size, none⟩ (.bool true)) g n (tabW f s 0) := by
  have := h.set (p := s.size) (l := [])
  have e : updW (fun _ => none) s.size (some []) = tabW f s 0 := by funext q; rfl
  rwa [e] at this
theorem WaysTab.end_ {f : List (ByteArray × Int)} {s : ByteArray} {w : World} {g lo n : Nat} (h : WaysTab w g lo n (fun _ => none)) : WaysTab w g lo n (tabW f s 0) := by
  obtain ⟨vs, h1, h2⟩ := h
  refine ⟨vs, h1, fun p hp => ?_⟩
  have e : (tabW f s 0 p).getD [] = [] := by
    show (if p = s.size then some [] else none).getD [] = []
    split <;> rfl
  rw [e]
  exact h2 p hp
end Go.Proofs.Ytacphcpjppkniaa

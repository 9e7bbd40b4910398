/-
  The values of a word's places, told plainly.
-/
import Derived.Test.YtcbhhbcfnaekpaaDoorHye
import Derived.Test.YtcbhhbcfnaekpaaDoorChk
namespace Go.Proofs.YtcbhhbcfnaekpaaDoor
open Go.RowKit
set_option linter.unusedVariables false

def setF1 (f : Nat → Int) (k : Nat) (x : Int) : Nat → Int := fun j => if j = k then x else f j
theorem setF1_same (f : Nat → Int) (k : Nat) (x : Int) : setF1 f k x k = x := if_pos rfl
theorem setF1_other {f : Nat → Int} {k j : Nat} {x : Int} (h : j ≠ k) : setF1 f k x j = f j := if_neg h
/-- Block b: n ints, the one at j is f j. -/
def TbI (w : World) (b n : Nat) (f : Nat → Int) : Prop := ∃ cs : Array Value, w.heap[b]? = some (.cells cs 3 (0, 0)) ∧ cs.size = n ∧ ∀ j, j < n → cs[j]? = some (.int .i64 (f j))
theorem TbI.lt {w : World} {b n : Nat} {f : Nat → Int} (h : TbI w b n f) : b < w.heap.size := by obtain ⟨cs, h1, _⟩ := h; exact lt_of_heap h1
theorem TbI.cell {w : World} {b n j : Nat} {f : Nat → Int} (h : TbI w b n f) (hj : j < n) : w.cell? ⟨b, j, none⟩ = some (.int .i64 (f j)) := by
  obtain ⟨cs, h1, _, h3⟩ := h
  rw [cell_of_heap h1]; exact h3 j hj
theorem TbI.free {w : World} {b n : Nat} {f : Nat → Int} (h : TbI w b n f) (j : Nat) : w.frozen? ⟨b, j, none⟩ = false := by
  obtain ⟨cs, h1, _⟩ := h; exact free_of_heap h1 j
theorem TbI.next {w w' : World} {b n : Nat} {f : Nat → Int} (h : TbI w b n f) (hb : Below w.heap.size w w') : TbI w' b n f := by
  obtain ⟨cs, h1, h2⟩ := h; exact ⟨cs, (hb.block b (lt_of_heap h1)).trans h1, h2⟩
theorem TbI.set {w : World} {b n : Nat} {f : Nat → Int} (h : TbI w b n f) (i : Nat) (x : Int) : TbI (w.setCell ⟨b, i, none⟩ (.int .i64 x)) b n (setF1 f i x) := by
  obtain ⟨cs, h1, h2, h3⟩ := h
  refine ⟨_, heap_set h1 _, by simpa using h2, fun j hj => ?_⟩
  by_cases e : j = i
  · subst e
    rw [setF1_same]
    have : j < cs.size := by omega
    simp [this]
  · rw [setF1_other e, ← h3 j hj]; simp [Ne.symm e]
theorem TbI.cong {w : World} {b n : Nat} {f g : Nat → Int} (h : TbI w b n f) (e : ∀ j, j < n → f j = g j) : TbI w b n g := by
  obtain ⟨cs, h1, h2, h3⟩ := h
  exact ⟨cs, h1, h2, fun j hj => by rw [← e j hj]; exact h3 j hj⟩
theorem TbI.made (w : World) (n : Nat) : TbI (w.alloc (.cells (madeCells #[.int .i64 0] (n * 1)) 3)) w.heap.size n (fun _ => 0) := by
  refine ⟨_, heap_new _ _, by rw [size_madeCells]; omega, fun j hj => ?_⟩
  have h : j < (madeCells #[.int .i64 0] (n * 1)).size := by rw [size_madeCells]; omega
  rw [Array.getElem?_eq_getElem h]
  simp [madeCells, Nat.mod_one]
theorem TbI.own {w : World} {b base n : Nat} {f : Nat → Int} (h : TbI w b n f) (hb : base ≤ b) (hn : n ≤ maxLen) : w.ownsRow base 3 1 (.slice (some ⟨b, 0, none⟩) n n) n (intsZ ((List.range n).map f)) := by
  obtain ⟨cs, h1, h2, h3⟩ := h
  refine ⟨by simp [intsZ], .inr ⟨b, n, cs, rfl, hb, h1, Nat.le_refl _, hn, by omega, ?_⟩⟩
  apply List.ext_getElem?
  intro j
  by_cases hj : j < n
  · rw [List.getElem?_take_of_lt (by omega), Array.getElem?_toList, h3 j hj]
    simp [intsZ, hj]
  · rw [List.getElem?_eq_none (by simp; omega), List.getElem?_eq_none (by simp [intsZ]; omega)]
/-- The word has these letters at this place. -/
def occB (wd lt : ByteArray) (a : Nat) : Bool := decide (wd.extract a (a + lt.size) = lt)
theorem occB_long {wd lt : ByteArray} {a : Nat} (h : wd.size < a + lt.size) (h1 : 0 < lt.size) : occB wd lt a = false := by
  apply decide_eq_false
  intro e
  have := congrArg ByteArray.size e
  rw [ByteArray.size_extract] at this
  omega
theorem occB_pre (wd lt : ByteArray) (a : Nat) : preB (wd.extract a wd.size) lt = occB wd lt a := by
  unfold preB occB
  rw [decide_eq_decide, List.prefix_iff_eq_take, rest_list, len_list]
  rw [show (wd.extract a (a + lt.size) = lt) ↔ ((wd.extract a (a + lt.size)).data.toList = lt.data.toList) from
    ⟨fun e => by rw [e], fun e => ByteArray.ext (Array.ext' e)⟩, cut_list]
  exact eq_comm
def raiseV (g : Nat → Int) (a : Nat) (vs : List Int) : Nat → Int := fun j => if a ≤ j ∧ j < a + vs.length then max (g j) (vs.getD (j - a) 0) else g j
theorem raise_nil (g : Nat → Int) (a : Nat) : raiseV g a [] = g := by
  funext j; unfold raiseV; rw [if_neg (by simp)]
theorem raise_out {g : Nat → Int} {a j : Nat} {vs : List Int} (h : ¬ (a ≤ j ∧ j < a + vs.length)) : raiseV g a vs j = g j := if_neg h
theorem raise_snoc (g : Nat → Int) (a : Nat) (vs : List Int) (x : Int) : raiseV g a (vs ++ [x]) = setF1 (raiseV g a vs) (a + vs.length) (max (raiseV g a vs (a + vs.length)) x) := by
  funext j
  by_cases h : j = a + vs.length
  · subst h
    rw [setF1_same, raise_out (vs := vs) (by omega)]
    unfold raiseV
    rw [if_pos (by simp), Nat.add_sub_cancel_left]
    simp [List.getD_eq_getElem?_getD]
  · rw [setF1_other h]
    unfold raiseV
    by_cases h2 : a ≤ j ∧ j < a + vs.length
    · rw [if_pos h2, if_pos (by simp; omega), List.getD_eq_getElem?_getD, List.getD_eq_getElem?_getD, List.getElem?_append_left (by omega)]
    · rw [if_neg h2, if_neg (by simp; omega)]
def atW (wd : ByteArray) (p : ByteArray × List Int) (g : Nat → Int) (a : Nat) : Nat → Int := if occB wd p.1 a then raiseV g a p.2 else g
def patW (wd : ByteArray) (p : ByteArray × List Int) (g : Nat → Int) : Nat → Nat → Int
  | 0 => g
  | a + 1 => atW wd p (patW wd p g a) a
theorem patW_more {wd : ByteArray} {p : ByteArray × List Int} {g : Nat → Int} {m : Nat} (h : ∀ a, m ≤ a → occB wd p.1 a = false) : ∀ n, m ≤ n → patW wd p g n = patW wd p g m
  | 0, hn => by obtain rfl : m = 0 := by omega
                rfl
  | n + 1, hn => by
    by_cases e : m = n + 1
    · rw [e]
    · show atW wd p (patW wd p g n) n = _
      unfold atW
      rw [h n (by omega), patW_more h n (by omega)]
      rfl
def ptT (s : ByteArray) : ByteArray := ⟨(ptLs s).toArray⟩
theorem ptT_size (s : ByteArray) : (ptT s).size = (ptLs s).length := by show (ptLs s).toArray.size = _; simp
def valsG (wd : ByteArray) (ps : List ByteArray) : Nat → Int := ps.foldl (fun g s => patW wd (ptT s, ptVs s) g wd.size) (fun _ => 0)
theorem valsG_step (wd : ByteArray) {ps : List ByteArray} {k : Nat} (h : k < ps.length) : valsG wd (ps.take (k + 1)) = patW wd (ptT ps[k], ptVs ps[k]) (valsG wd (ps.take k)) wd.size := by
  unfold valsG; rw [List.take_succ_eq_append_getElem h, List.foldl_append]; rfl
/-- The values of all places of a word. -/
def valL (ps : List ByteArray) (wd : ByteArray) : List Int := (List.range (wd.size - 1)).map fun k => valsG wd ps (k + 1)
theorem valL_len (ps : List ByteArray) (wd : ByteArray) : (valL ps wd).length = wd.size - 1 := by simp [valL]
theorem raise_bd {g : Nat → Int} {a : Nat} {vs : List Int} (hg : ∀ j, 0 ≤ g j ∧ g j ≤ 9) (hv : ∀ x ∈ vs, 0 ≤ x ∧ x ≤ 9) (j : Nat) : 0 ≤ raiseV g a vs j ∧ raiseV g a vs j ≤ 9 := by
  unfold raiseV
  have h1 := hg j
  split
  · rename_i h
    have h2 : vs.getD (j - a) 0 ∈ vs := by
      rw [List.getD_eq_getElem?_getD, List.getElem?_eq_getElem (by omega)]
      exact List.getElem_mem _
    have h3 := hv _ h2
    omega
  · exact h1
theorem patW_bd {wd : ByteArray} {p : ByteArray × List Int} {g : Nat → Int} (hg : ∀ j, 0 ≤ g j ∧ g j ≤ 9) (hv : ∀ x ∈ p.2, 0 ≤ x ∧ x ≤ 9) : ∀ n j, 0 ≤ patW wd p g n j ∧ patW wd p g n j ≤ 9
  | 0, j => hg j
  | n + 1, j => by
    show 0 ≤ atW wd p (patW wd p g n) n j ∧ atW wd p (patW wd p g n) n j ≤ 9
    unfold atW
    split
    · exact raise_bd (patW_bd hg hv n) hv j
    · exact patW_bd hg hv n j
theorem valsG_bd (wd : ByteArray) {ps : List ByteArray} (h : patsA ps = true) : ∀ k, k ≤ ps.length → ∀ j, 0 ≤ valsG wd (ps.take k) j ∧ valsG wd (ps.take k) j ≤ 9
  | 0, _, j => ⟨show (0 : Int) ≤ 0 by decide, show (0 : Int) ≤ 9 by decide⟩
  | k + 1, hk, j => by
    rw [valsG_step wd (by omega)]
    exact patW_bd (valsG_bd wd h k (by omega)) (pt_good (patsA_mem h (by omega))).2.2.2 _ j
theorem valL_bd {wd : ByteArray} {ps : List ByteArray} (h : patsA ps = true) : ∀ x ∈ valL ps wd, 0 ≤ x ∧ x ≤ 9 := fun x hx => by
  obtain ⟨k, _, rfl⟩ := List.mem_map.1 hx
  have := valsG_bd wd h ps.length (Nat.le_refl _) (k + 1)
  rw [List.take_length] at this; exact this
end Go.Proofs.YtcbhhbcfnaekpaaDoor

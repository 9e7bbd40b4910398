/-
  Hyphens struck out by the library's ReplaceAll, pieces by its Split: the same as this chapter's plain words. The contracts of impl.withoutHyphens, impl.isException.
-/
import Derived.Test.YtcbhhbcfnaekpaaDoorHye
import Derived.Test.YtcbhhbcfnaekpaaDoorHys
import Derived.Lib.SplitLaws
import Derived.Lib.ReplaceLaws
import Derived.Lib.IndexLaws
import Derived.Lib.IndexBytes
namespace Go.Proofs.YtcbhhbcfnaekpaaDoor
open Go.RowKit
set_option linter.unusedVariables false

/-- The variable of internal/bytealg that strings.Index reads has a value. -/
def LayB (w : World) : Prop := ∃ m : Int, w.cell? ⟨0, 0, none⟩ = some (.int .i64 m)
theorem LayB.below {w w' : World} {B : Nat} (h : LayB w) (hb : Below B w w') (hB : w.heap.size ≤ B := by first | exact Nat.le_refl _ | skip) : LayB w' := by
  obtain ⟨m, hm⟩ := h
  have h0 : 0 < w.heap.size := World.block_lt_of_cell? _ _ hm
  exact ⟨m, (hb.cell (p := ⟨0, 0, none⟩) (by show 0 < B; omega)).trans hm⟩
theorem LayB.up {w w' : World} {B : Nat} (h : LayB w) (hb : Below B w w') (hB : 0 < B) : LayB w' := by
  obtain ⟨m, hm⟩ := h
  exact ⟨m, (hb.cell (p := ⟨0, 0, none⟩) hB).trans hm⟩
theorem LayB.pos {w : World} (h : LayB w) : 0 < w.heap.size := by obtain ⟨m, hm⟩ := h; exact World.block_lt_of_cell? _ _ hm
theorem hit45 {s : List UInt8} {i : Nat} (h : Lib.index s [45] = i) : i < s.length ∧ s = s.take i ++ 45 :: s.drop (i + 1) ∧ ∀ x ∈ s.take i, x ≠ 45 := by
  rw [Lib.index_one] at h
  obtain ⟨h1, h2⟩ := Lib.indexByte_some h
  have hl : i < s.length := (List.getElem?_eq_some_iff.1 h1).1
  have he : s[i] = 45 := (List.getElem?_eq_some_iff.1 h1).2
  refine ⟨hl, ?_, fun x hx => ?_⟩
  · conv => lhs; rw [← List.take_append_drop i s, List.drop_eq_getElem_cons hl, he]
  · obtain ⟨j, hj, rfl⟩ := List.mem_iff_getElem.1 hx
    have hji : j < i := by have := List.length_take_le i s; omega
    intro e
    apply h2 j hji
    rw [List.getElem_take] at e
    rw [List.getElem?_eq_getElem (by omega), e]
theorem miss45 {s : List UInt8} (h : Lib.index s [45] = -1) : ∀ x ∈ s, x ≠ 45 := by
  rw [Lib.index_one] at h
  intro x hx e
  obtain ⟨j, hj, rfl⟩ := List.mem_iff_getElem.1 hx
  exact Lib.indexByte_none h j (by rw [List.getElem?_eq_getElem hj, e])
theorem bare_none {s : List UInt8} (h : ∀ x ∈ s, x ≠ 45) : bareL s = s := by
  unfold bareL
  rw [List.filter_eq_self]
  intro x hx; simp [h x hx]
theorem bareL_append (a b : List UInt8) : bareL (a ++ b) = bareL a ++ bareL b := by unfold bareL; rw [List.filter_append]
theorem bareL_cons45 (b : List UInt8) : bareL (45 :: b) = bareL b := by simp [bareL]
theorem replaceK45 : ∀ (k : Nat) (s : List UInt8), Lib.count s [45] = k → Lib.replaceK [45] [] k s = bareL s
  | 0, s, h => by
    rcases Int.lt_or_le (Lib.index s [45]) 0 with h1 | h1
    · have := Lib.index_ge s [45]
      rw [bare_none (miss45 (by omega))]; rfl
    · obtain ⟨i, hi⟩ := Int.eq_ofNat_of_zero_le h1
      have := Lib.count_hit (s := s) (sub := [45]) (by simp) hi
      omega
  | k + 1, s, h => by
    obtain ⟨i, hi⟩ := Lib.index_of_count (s := s) (old := [45]) (by omega)
    have hc := Lib.count_hit (s := s) (sub := [45]) (by simp) hi
    obtain ⟨h1, h2, h3⟩ := hit45 hi
    rw [Lib.replaceK_hit _ _ _ _ _ hi, replaceK45 k _ (by simpa using (by omega : Lib.count (s.drop (i + [(45 : UInt8)].length)) [45] = k))]
    conv => rhs; rw [h2]
    rw [bareL_append, bareL_cons45, bare_none h3]
    simp
theorem replace45 (s : List UInt8) : Lib.replaceAll s [45] [] = bareL s := by
  unfold Lib.replaceAll Lib.replace Lib.replaceNum
  rw [if_neg (by simp), if_pos (by omega)]
  exact replaceK45 _ s rfl
/-- No piece is empty: read from the left, b at the start and behind a hyphen. -/
def gdB : Bool → List UInt8 → Bool
  | b, [] => !b
  | b, c :: r => if c = 45 then !b && gdB true r else gdB false r
theorem gd_plain : ∀ (p r : List UInt8) (b : Bool), p ≠ [] → (∀ x ∈ p, x ≠ 45) → gdB b (p ++ r) = gdB false r
  | [], _, _, h, _ => absurd rfl h
  | [c], r, b, _, h => by
    have hc : c ≠ 45 := h c (by simp)
    simp [gdB, hc]
  | c :: d :: p, r, b, _, h => by
    have hc : c ≠ 45 := h c (by simp)
    have := gd_plain (d :: p) r false (by simp) (fun x hx => h x (by simp [List.mem_cons.1 hx]))
    simp only [List.cons_append, gdB, if_neg hc] at this ⊢
    exact this
theorem gd_pieces : ∀ (k : Nat) (s : List UInt8), Lib.count s [45] = k → (([] : List UInt8) ∈ Lib.splitK [45] 0 k s ↔ gdB true s = false) := by
  intro k
  induction k with
  | zero =>
    intro s h
    have hm : Lib.index s [45] = -1 := by
      rcases Int.lt_or_le (Lib.index s [45]) 0 with h1 | h1
      · have := Lib.index_ge s [45]; omega
      · obtain ⟨i, hi⟩ := Int.eq_ofNat_of_zero_le h1
        have := Lib.count_hit (s := s) (sub := [45]) (by simp) hi
        omega
    have hn := miss45 hm
    show [] ∈ [s] ↔ _
    by_cases he : s = []
    · subst he; simp [gdB]
    · have := gd_plain s [] true he hn
      rw [List.append_nil] at this
      rw [this]
      simp [gdB, Ne.symm he]
  | succ k ih =>
    intro s h
    obtain ⟨i, hi⟩ := Lib.index_of_count (s := s) (old := [45]) (by omega)
    have hc := Lib.count_hit (s := s) (sub := [45]) (by simp) hi
    obtain ⟨h1, h2, h3⟩ := hit45 hi
    have hd : Lib.count (s.drop (i + 1)) [45] = k := by simp at hc; omega
    have hs : Lib.splitK [45] 0 (k + 1) s = s.take i :: Lib.splitK [45] 0 k (s.drop (i + 1)) := by
      have e : (Lib.index s [45]).toNat = i := by omega
      rw [show Lib.splitK [45] 0 (k + 1) s = if Lib.index s [45] == -1 then [s] else s.take ((Lib.index s [45]).toNat + 0) :: Lib.splitK [45] 0 k (s.drop ((Lib.index s [45]).toNat + [(45 : UInt8)].length)) from rfl, if_neg (by intro e2; have := beq_iff_eq.1 e2; omega), e]; rfl
    rw [hs, List.mem_cons, ih _ hd]
    by_cases hp : s.take i = []
    · have : gdB true s = false := by rw [h2, hp]; simp [gdB]
      simp [hp, this]
    · have : gdB true s = gdB true (s.drop (i + 1)) := by
        conv => lhs; rw [h2]
        rw [gd_plain _ _ _ hp h3]; simp [gdB]
      rw [this]
      simp [Ne.symm hp]
theorem gd_ok : ∀ (s : List UInt8) (b : Bool), gdB b s = true ↔ (s = [] → b = false) ∧ ∀ i, i < s.length → s.getD i 0 = 45 → (i = 0 → b = false) ∧ i + 1 < s.length ∧ (0 < i → s.getD (i - 1) 0 ≠ 45)
  | [], b => by simp [gdB]
  | c :: r, b => by
    by_cases hc : c = 45
    · have e : gdB b (c :: r) = (!b && gdB true r) := by simp [gdB, hc]
      rw [e, Bool.and_eq_true, gd_ok r true]
      constructor
      · rintro ⟨h1, h2, h3⟩
        refine ⟨fun h => by simp at h, fun i hi hg => ?_⟩
        cases i with
        | zero => exact ⟨fun _ => by simpa using h1, by
            cases r with
            | nil => have := h2 rfl; cases this
            | cons x y => simp, fun h => by omega⟩
        | succ j =>
          have hg' : r.getD j 0 = 45 := by simpa using hg
          obtain ⟨q1, q2, q3⟩ := h3 j (by simpa using hi) hg'
          refine ⟨fun h => by omega, by simp; omega, fun _ => ?_⟩
          cases j with
          | zero => have := q1 rfl; cases this
          | succ m => have := q3 (by omega); simpa using this
      · rintro ⟨h1, h2⟩
        have h0 := h2 0 (by simp) (by simpa using hc)
        refine ⟨by simp [h0.1 rfl], fun h => by subst h; simp at h0, fun i hi hg => ?_⟩
        obtain ⟨q1, q2, q3⟩ := h2 (i + 1) (by simp; omega) (by simpa using hg)
        have q4 := q3 (by omega)
        simp only [Nat.add_sub_cancel] at q4
        refine ⟨fun h => by subst h; exact absurd hc (by simpa using q4), by simpa using q2, fun hi0 => ?_⟩
        obtain ⟨m, rfl⟩ : ∃ m, i = m + 1 := ⟨i - 1, by omega⟩
        simpa using q4
    · have e : gdB b (c :: r) = gdB false r := by simp [gdB, hc]
      rw [e, gd_ok r false]
      constructor
      · rintro ⟨h1, h3⟩
        refine ⟨fun h => by simp at h, fun i hi hg => ?_⟩
        cases i with
        | zero => exact absurd (by simpa using hg) hc
        | succ j =>
          obtain ⟨q1, q2, q3⟩ := h3 j (by simpa using hi) (by simpa using hg)
          refine ⟨fun h => by omega, by simp; omega, fun _ => ?_⟩
          cases j with
          | zero => simpa using hc
          | succ m => have := q3 (by omega); simpa using this
      · rintro ⟨h1, h2⟩
        refine ⟨fun _ => rfl, fun i hi hg => ?_⟩
        obtain ⟨q1, q2, q3⟩ := h2 (i + 1) (by simp; omega) (by simpa using hg)
        refine ⟨fun _ => rfl, by simpa using q2, fun hi0 => ?_⟩
        have q4 := q3 (by omega)
        obtain ⟨m, rfl⟩ : ∃ m, i = m + 1 := ⟨i - 1, by omega⟩
        simpa using q4
theorem gd_hy {s : List UInt8} (h : s ≠ []) : gdB true s = decide (HyOk s) := by
  rw [Bool.eq_iff_iff, decide_eq_true_iff, gd_ok s true]
  unfold HyOk HyAt
  constructor
  · rintro ⟨_, h2⟩ i hi hg
    obtain ⟨q1, q2, q3⟩ := h2 i hi hg
    have h0 : 0 < i := by
      rcases Nat.eq_zero_or_pos i with e | e
      · have := q1 e; cases this
      · exact e
    exact ⟨h0, q2, q3 h0⟩
  · intro h2
    refine ⟨fun e => absurd e h, fun i hi hg => ?_⟩
    obtain ⟨q1, q2, q3⟩ := h2 i hi hg
    exact ⟨fun e => by omega, q2, fun _ => q3⟩
def hyS : ByteArray := ⟨#[45]⟩
theorem split_has (s : ByteArray) (h : s.size ≠ 0) : Lib.containsS (Lib.splitB hyS 0 (Lib.countB s hyS) s) ⟨#[]⟩ = !decide (HyOk s.data.toList) := by
  have h1 := gd_pieces (Lib.count s.data.toList [45]) s.data.toList rfl
  have h2 := Lib.splitB_data hyS 0 (Lib.countB s hyS) s
  have hne : s.data.toList ≠ [] := fun e => h (by rw [← len_list, e]; rfl)
  have e1 : (⟨#[]⟩ : ByteArray) ∈ Lib.splitB hyS 0 (Lib.countB s hyS) s ↔ ([] : List UInt8) ∈ Lib.splitK [45] 0 (Lib.count s.data.toList [45]) s.data.toList := by
    have e2 : Lib.splitK [45] 0 (Lib.count s.data.toList [45]) s.data.toList = (Lib.splitB hyS 0 (Lib.countB s hyS) s).map (·.data.toList) := h2.symm
    rw [e2, List.mem_map]
    constructor
    · intro h; exact ⟨_, h, rfl⟩
    · rintro ⟨x, hx, hx2⟩
      have : x = ⟨#[]⟩ := ByteArray.ext (Array.ext' (by simpa using hx2))
      rw [← this]; exact hx
  rw [← gd_hy hne, Bool.eq_iff_iff, Lib.containsS_iff, e1, h1]
  cases gdB true s.data.toList <;> simp
set_option maxRecDepth 100000 in
theorem without_any (s : ByteArray) (w : World) (hs : s.size ≤ 1048576) (hy : LayB w) :
    Calls Tryd.prog 75 #[.string s] w fun e w' => e = .returned (.string (bareB s)) ∧ Below w.heap.size w w' := by
  obtain ⟨m, hm⟩ := hy
  have HC := Lib.hid (Tryd.strings_ReplaceAll s hyS ⟨#[]⟩ m w (by omega) hm (Nat.le_refl _) (by show s.size + _ * 0 ≤ _; omega))
  have HE : Hid ((⟨(Lib.replaceAll s.data.toList hyS.data.toList (⟨#[]⟩ : ByteArray).data.toList).toArray⟩ : ByteArray) = bareB s) := Lib.hid (by
    show (⟨(Lib.replaceAll s.data.toList [45] []).toArray⟩ : ByteArray) = _
    rw [replace45]; rfl)
  clear hm
  go_enter Tryd.func75, Tryd.ntmps75
  go_wp2_with fail
  refine HC.out.mono ?_
  rintro e w1 ⟨rfl, hb1⟩
  rw [HE.out]
  have HB := Lib.hid hb1
  clear hb1
  go_wp2
  go_ret
  exact ⟨rfl, HB.out⟩
set_option maxRecDepth 100000 in
set_option maxHeartbeats 1000000 in
theorem isException_any (s : ByteArray) (w : World) (hs : s.size ≤ 1048576) (hy : LayB w) :
    Calls Tryd.prog 74 #[.string s] w fun e w' => e = .returned (.bool (exB s)) ∧ Below w.heap.size w w' := by
  have HY := Lib.hid hy; clear hy
  have hbz := bareB_size s
  have hwm : (bareB s).size ≤ maxLen := by unfold maxLen; omega
  have HE : Hid (exB s = (decide (HyOk s.data.toList) && (isWordF (bareB s) && decide (1 < ((bareB s).size : Int))))) := Lib.hid rfl
  have HSP := Lib.hid (split_has s)
  go_enter Tryd.func74, Tryd.ntmps74
  go_wp2_with fail
  refine (without_any s _ hs HY.out).mono ?_
  rintro e w1 ⟨rfl, hb1⟩
  have HB1 := Lib.hid hb1
  have HY1 := Lib.hid (HY.out.below hb1)
  clear hb1
  generalize bareB s = wd at *
  cases hw : isWordF wd
  · have HW := Lib.hid hw
    have HF : Hid (exB s = false) := Lib.hid (by rw [HE.out, hw]; simp)
    clear hw
    go_wp2_with fail
    refine (isWord_is _ _ _ hwm HW).mono ?_
    rintro e w2 ⟨rfl, hb2⟩
    have HB2 := Lib.hid (HB1.out.trans (hb2.mono HB1.out.size))
    clear hb2
    go_wp2
    go_ret
    exact ⟨ret_bool HF.out.symm, HB2.out⟩
  have HW := Lib.hid hw
  have hwl := isWord_len hw
  by_cases h2 : (2 : Int) ≤ (wd.size : Int)
  · have HF : Hid (exB s = decide (HyOk s.data.toList)) := Lib.hid (by rw [HE.out, hw, decide_eq_true (by omega : (1 : Int) < (wd.size : Int))]; simp)
    have HSP2 := Lib.hid (HSP.out (by omega))
    have hlen : (Lib.splitB hyS 0 (Lib.countB s hyS) s).length = Lib.countB s hyS + 1 := Lib.splitB_all hyS (Nat.le_refl _) 0 _ s rfl
    have hcl := Lib.countB_le hyS (Nat.le_refl _) s.size s (Nat.le_refl _)
    have HLN := Lib.hid hlen
    clear hw hlen
    go_wp2_with fail
    refine (isWord_is _ _ _ hwm HW).mono ?_
    rintro e w2 ⟨rfl, hb2⟩
    have HB2 := Lib.hid (HB1.out.trans (hb2.mono HB1.out.size))
    have HY2 := Lib.hid (HY1.out.below hb2)
    clear hb2
    obtain ⟨m, hm⟩ := HY2.out
    have HC := Lib.hid (Tryd.strings_Split s hyS m w2 (by omega) hm (Nat.le_refl _))
    clear hm
    go_wp2_with fail
    refine HC.out.mono ?_
    rintro e w3 ⟨rfl, hw3⟩
    have HB3 : Hid (Below w.heap.size w w3) := Lib.hid (by rw [hw3]; exact HB2.out.alloc HB2.out.size _)
    have HCT := Lib.hid (Tryd.slices_Contains_string w2.heap.size 0 (Lib.countB s hyS + 1) (Lib.countB s hyS + 1) (Lib.splitB hyS 0 (Lib.countB s hyS) s) ⟨#[]⟩ w3 (by rw [HLN.out]; exact Nat.le_refl _) (by omega) (fun j hj => by
      rw [hw3, Nat.zero_add, cell_of_heap (heap_new _ _)]
      simp [List.getD_eq_getElem?_getD, hj]))
    have HTK : Hid ((Lib.splitB hyS 0 (Lib.countB s hyS) s).take (Lib.countB s hyS + 1) = Lib.splitB hyS 0 (Lib.countB s hyS) s) := Lib.hid (List.take_of_length_le (by rw [HLN.out]; exact Nat.le_refl _))
    clear hw3
    go_wp2_with fail
    refine HCT.out.mono ?_
    rintro e w4 ⟨rfl, rfl⟩
    rw [HTK.out, HSP2.out]
    go_wp2
    go_ret
    exact ⟨ret_bool (by rw [HF.out]), HB3.out⟩
  · have HF : Hid (exB s = false) := Lib.hid (by rw [HE.out, decide_eq_false (by omega : ¬ (1 : Int) < wd.size)]; simp)
    clear hw
    go_wp2_with fail
    refine (isWord_is _ _ _ hwm HW).mono ?_
    rintro e w2 ⟨rfl, hb2⟩
    have HB2 := Lib.hid (HB1.out.trans (hb2.mono HB1.out.size))
    clear hb2
    go_wp2
    go_ret
    exact ⟨ret_bool HF.out.symm, HB2.out⟩
end Go.Proofs.YtcbhhbcfnaekpaaDoor

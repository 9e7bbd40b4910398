/-
  The contracts of spec.l1Abs, spec.caAsked, spec.caWay, spec.HandWay: the way of the hand.
-/
import Derived.Test.YtllafkeheppkjaaDoorTi
namespace Go.Proofs.YtllafkeheppkjaaDoor
open Go.RowKit
set_option linter.unusedVariables false

def absI (a : Int) : Int := if 0 < a then a else -a
theorem absI_range {a b : Int} (h1 : 0 ≤ a ∧ a ≤ 9) (h2 : 0 ≤ b ∧ b ≤ 9) : 0 ≤ absI (a - b) ∧ absI (a - b) ≤ 9 := by
  unfold absI; split <;> omega
/-- The hand goes on: its place, and the way so far. -/
def stepW (st : Int × Int × Int) (q : Int × Int) : Int × Int × Int := (q.1, q.2, st.2.2 + (absI (q.1 - st.1) + absI (q.2 - st.2.1)))
def runW (qs : List (Int × Int)) : Int × Int × Int := qs.foldl stepW (0, 0, 0)
theorem runW_snoc (qs : List (Int × Int)) (q : Int × Int) : runW (qs ++ [q]) = stepW (runW qs) q := by unfold runW; rw [List.foldl_append]; rfl
def InTen (q : Int × Int) : Prop := (0 ≤ q.1 ∧ q.1 ≤ 9) ∧ 0 ≤ q.2 ∧ q.2 ≤ 9
theorem runW_range (qs : List (Int × Int)) (h : ∀ q ∈ qs, InTen q) : ∀ (n : Nat), n ≤ qs.length → InTen ((runW (qs.take n)).1, (runW (qs.take n)).2.1) ∧ 0 ≤ (runW (qs.take n)).2.2 ∧ (runW (qs.take n)).2.2 ≤ 18 * n
  | 0, _ => ⟨by simp [runW, InTen], by simp [runW], by simp [runW]⟩
  | n + 1, hn => by
    have ih := runW_range qs h n (by omega)
    have hq := h _ (List.getElem_mem (l := qs) (n := n) (by omega))
    rw [List.take_succ_eq_append_getElem (by omega), runW_snoc]
    obtain ⟨⟨i1, i2⟩, i3, i4⟩ := ih
    have a1 := absI_range hq.1 i1
    have a2 := absI_range hq.2 i2
    dsimp only at a1 a2
    refine ⟨hq, ?_, ?_⟩
    · show 0 ≤ _ + (_ + _); omega
    · show _ + (_ + _) ≤ _; omega
/-- The place of the box with an index. -/
def plG (l : List Bx) (i : Nat) : Int × Int := ((l.getD i default).row, (l.getD i default).col)
theorem plG_at {l : List Bx} {i : Nat} (h : i < l.length) : plG l i = (l[i].row, l[i].col) := by
  unfold plG; rw [List.getD_eq_getElem?_getD, List.getElem?_eq_getElem h]; rfl
/-- The way over boxes with some indices. -/
def wayI (l : List Bx) (is : List Nat) : Int := (runW (is.map (plG l))).2.2
def ixs (l : List Bx) (cs : List ByteArray) : List Nat := cs.map (kI l)
def Places (l : List Bx) : Prop := ∀ k (h : k < l.length), InTen (l[k].row, l[k].col)
theorem CaseOk.places {l : List Bx} (h : CaseOk l) : Places l := fun k hk => ⟨(h.range hk).1, (h.range hk).2.1⟩
/-- All Codes are there. -/
def AllIn (l : List Bx) (cs : List ByteArray) : Prop := ∀ k (h : k < cs.length), 0 ≤ caI l cs[k]
theorem kI_lt {l : List Bx} {c : ByteArray} (h : 0 ≤ caI l c) : kI l c < l.length ∧ caI l c = (kI l c : Int) := by
  rcases caI_cases l c with ⟨e, _⟩ | ⟨k, hk, _, e⟩
  · omega
  · unfold kI; rw [e]; exact ⟨by simpa using hk, by simp⟩
theorem ten_of {l : List Bx} {cs : List ByteArray} (hp : Places l) (ha : AllIn l cs) : ∀ q ∈ (ixs l cs).map (plG l), InTen q := by
  intro q hq
  simp only [ixs, List.map_map, List.mem_map] at hq
  obtain ⟨c, hc, rfl⟩ := hq
  obtain ⟨k, hk, rfl⟩ := List.mem_iff_getElem.1 hc
  have hl := (kI_lt (ha k hk)).1
  show InTen (plG l (kI l cs[k]))
  rw [plG_at hl]
  exact hp _ hl
theorem askB2_all {l : List Bx} {cs : List ByteArray} (h : askB2 l cs = true) : CaseOk l ∧ AllIn l cs ∧ cs.length ≤ 60 := by
  unfold askB2 at h
  simp only [Bool.and_eq_true, decide_eq_true_eq, List.all_eq_true] at h
  exact ⟨caseB_iff.1 h.2.1, fun k hk => h.1 _ (List.getElem_mem hk), h.2.2⟩

theorem caAsked_any (l : List Bx) (A : Option Addr) (c : Nat) (cs : List ByteArray) (B : Option Addr) (d : Nat) (w : World) (hf : BxsIn w A l) (hn : l.length ≤ 1048576) (ho : BxsOk l) (hcap : l.length ≤ c) (hs : StrsIn w B cs) (hso : StrsOk cs) (hm : cs.length ≤ 1048576) :
    Calls Tryd.prog 40 #[.slice A l.length c, .slice B cs.length d] w fun e w' => e = .returned (.bool (askB2 l cs)) ∧ Below w.heap.size w w' := by
  have HF := Lib.hid hf; clear hf
  have HO := Lib.hid ho; clear ho
  have HS := Lib.hid hs; clear hs
  have HAS : Hid (∀ b, (cs.all fun c => decide (0 ≤ caI l c)) = b → askB2 l cs = (b && (caseB l && decide (cs.length ≤ 60)))) := Lib.hid (fun b h => by unfold askB2; rw [h])
  go_enter Tryd.func40, Tryd.ntmps40
  go_wp2
  go_loopw [9] (fun i wr => ∃ (k : Nat), k ≤ cs.length ∧ i = .int .i64 k ∧ (∀ j (h : j < cs.length), j < k → 0 ≤ caI l cs[j]) ∧ Below w.heap.size w wr) (fun i _ => cs.length - (intOf i).toNat)
  case atStart => exact ⟨0, Nat.zero_le _, rfl, fun _ _ h => absurd h (by omega), Below.refl _ _⟩
  case round =>
    obtain ⟨k, hk, rfl, hall, hb⟩ := hrel
    have HALL := Lib.hid hall; clear hall
    by_cases hlt : k < cs.length
    · obtain ⟨b, off, rfl, hbl, hc⟩ := HS.out (by omega)
      have hc0 := hc k hlt
      clear hc
      rw [← hb.cell (p := ⟨b, off + k, none⟩) hbl] at hc0
      have HF1 := Lib.hid (HF.out.below hb (Nat.le_refl _))
      go_wp2_with fail
      refine (caFind_any l A c cs[k] _ HF1.out hn).mono ?_
      rintro e w1 ⟨rfl, hb1⟩
      have hb' := hb.trans (hb1.mono hb.size)
      clear hb hb1 hc0
      by_cases h0 : caI l cs[k] < 0
      · have HE : Hid (askB2 l cs = false) := Lib.hid (by
          rw [HAS.out false (by rw [List.all_eq_false]; exact ⟨cs[k], List.getElem_mem hlt, by simpa using h0⟩)]; rfl)
        go_wp2
        go_ret
        exact ⟨ret_bool HE.out.symm, hb'⟩
      · have HNX : Hid (∀ j (h : j < cs.length), j < k + 1 → 0 ≤ caI l cs[j]) := Lib.hid (fun j h hj => by
          rcases Nat.lt_or_ge j k with h1 | h1
          · exact HALL.out j h h1
          · obtain rfl : j = k := by omega
            omega)
        go_wp2
        go_roundw
        case rel => exact ⟨k + 1, by omega, by go_num, HNX.out, hb'⟩
        case measure => simp [intOf]; omega
    · obtain rfl : k = cs.length := by omega
      have HT := Lib.hid (HAS.out true (by
        rw [List.all_eq_true]
        intro x hx
        obtain ⟨j, hj, rfl⟩ := List.mem_iff_getElem.1 hx
        exact decide_eq_true (HALL.out j hj hj)))
      have HF1 := Lib.hid (HF.out.below hb (Nat.le_refl _))
      cases hv : caseB l
      · have HV := Lib.hid hv; clear hv
        go_wp2_with fail
        refine (caGood_is l _ A c _ HF1.out hn HO.out hcap HV).mono ?_
        rintro e w1 ⟨rfl, hb1⟩
        go_wp2
        go_ret
        exact ⟨ret_bool (by rw [HT.out, HV.out]; rfl), hb.trans (hb1.mono hb.size)⟩
      · have HV := Lib.hid hv; clear hv
        go_wp2_with fail
        refine (caGood_is l _ A c _ HF1.out hn HO.out hcap HV).mono ?_
        rintro e w1 ⟨rfl, hb1⟩
        have hb' := hb.trans (hb1.mono hb.size)
        clear hb hb1
        have HD : Hid (decide ((cs.length : Int) ≤ 60) = decide (cs.length ≤ 60)) := Lib.hid (decide_eq_decide.2 (by omega))
        go_wp2
        go_ret
        exact ⟨ret_bool (by rw [HT.out, HV.out, Bool.true_and, Bool.true_and, HD.out]), hb'⟩

/-- The answer of HandWay. -/
noncomputable def hwR (l : List Bx) (cs : List ByteArray) : Option Int := if askB2 l cs = true then some (wayI l (ixs l cs)) else none
theorem caAsked_is (l : List Bx) (v : Bool) (A : Option Addr) (c : Nat) (cs : List ByteArray) (B : Option Addr) (d : Nat) (w : World) (hf : BxsIn w A l) (hn : l.length ≤ 1048576) (ho : BxsOk l) (hcap : l.length ≤ c) (hs : StrsIn w B cs) (hso : StrsOk cs) (hm : cs.length ≤ 1048576) (h : Hid (askB2 l cs = v)) :
    Calls Tryd.prog 40 #[.slice A l.length c, .slice B cs.length d] w fun e w' => e = .returned (.bool v) ∧ Below w.heap.size w w' := by
  rw [← h.out]; exact caAsked_any l A c cs B d w hf hn ho hcap hs hso hm
end Go.Proofs.YtllafkeheppkjaaDoor

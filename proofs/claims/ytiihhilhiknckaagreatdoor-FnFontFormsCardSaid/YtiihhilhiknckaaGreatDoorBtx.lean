/-
  The text of a bill: what spec.BillText and impl.BillText answer, in plain words, and spec.BillText's contract.
-/
import Derived.Test.YtiihhilhiknckaaGreatDoorNum3
import Derived.Lib.Join
namespace Go.Proofs.YtiihhilhiknckaaGreatDoor
open Go.RowKit
set_option linter.unusedVariables false

def baOf (l : List UInt8) : ByteArray := ⟨l.toArray⟩
theorem baOf_size (l : List UInt8) : (baOf l).size = l.length := rfl
theorem ba_data (c : ByteArray) : baOf c.data.toList = c := by unfold baOf; simp
theorem baOf_app (a b : List UInt8) : baOf a ++ baOf b = baOf (a ++ b) := by
  unfold baOf; congr 1
theorem ba_ext {a b : ByteArray} (h : a.data.toList = b.data.toList) : a = b := ByteArray.ext (Array.ext' h)
def numL (z : Int) : List UInt8 := Lib.decDigits z.toNat
theorem numL_len {z : Int} (h : z ≤ 100000) : (numL z).length ≤ 100001 := by
  unfold numL; rw [Lib.decDigits_length]; exact Nat.le_trans (nDig_le _) (by omega)
theorem num_is (z : Int) (D : ByteArray) (W : World) (h1 : 0 ≤ z) (h2 : z ≤ 100000) (hD : Hid (baOf (numL z) = D)) : Calls Tryz.prog 58 #[.int .i64 z] W fun e w' => e = .returned (.string D) ∧ Below W.heap.size W w' := by
  have := l1Num_any z.toNat z.toNat W (Nat.le_refl _) (by omega)
  rw [Int.toNat_of_nonneg (by omega)] at this
  rw [← hD.out]
  exact this
/-- One place of the bill: the code, '=', the number. -/
def pc (c : ByteArray) (z : Int) : ByteArray := c ++ ⟨#[61]⟩ ++ baOf (numL z)
def btP (f : List (ByteArray × Int)) (st : List Int) : Nat → List ByteArray
  | 0 => []
  | k + 1 => if st.getD k 0 = 0 then btP f st k else btP f st k ++ [pc (f.getD k (⟨#[]⟩, 0)).1 (st.getD k 0)]
def btT (f : List (ByteArray × Int)) (st : List Int) : Nat → ByteArray
  | 0 => ⟨#[]⟩
  | k + 1 => if st.getD k 0 = 0 then btT f st k else btT f st k ++ (pc (f.getD k (⟨#[]⟩, 0)).1 (st.getD k 0) ++ ⟨#[32]⟩)
theorem btP_step {f : List (ByteArray × Int)} {st : List Int} {k : Nat} (h : k < f.length) (h' : k < st.length) : btP f st (k + 1) = if st[k] = 0 then btP f st k else btP f st k ++ [pc f[k].1 st[k]] := by
  show (if st.getD k 0 = 0 then _ else _) = _
  simp [List.getD, h, h']
theorem btT_step {f : List (ByteArray × Int)} {st : List Int} {k : Nat} (h : k < f.length) (h' : k < st.length) : btT f st (k + 1) = if st[k] = 0 then btT f st k else btT f st k ++ (pc f[k].1 st[k] ++ ⟨#[32]⟩) := by
  show (if st.getD k 0 = 0 then _ else _) = _
  simp [List.getD, h, h']
def allT (L : List ByteArray) : List UInt8 := L.flatMap fun x => x.data.toList ++ [32]
theorem bt_all (f : List (ByteArray × Int)) (st : List Int) (k : Nat) : (btT f st k).data.toList = allT (btP f st k) := by
  induction k with
  | zero => rfl
  | succ k ih =>
    show (if st.getD k 0 = 0 then _ else _ : ByteArray).data.toList = allT (if st.getD k 0 = 0 then _ else _)
    split
    · exact ih
    · unfold allT at ih ⊢
      rw [List.flatMap_append, ← ih]
      simp
theorem all_join : ∀ (L : List ByteArray), L ≠ [] → allT L = Lib.join (L.map (·.data.toList)) [32] ++ [32]
  | [], h => absurd rfl h
  | [x], _ => by simp [allT, Lib.join_one]
  | x :: y :: r, _ => by
    have ih := all_join (y :: r) (by simp)
    have e : allT (x :: y :: r) = (x.data.toList ++ [32]) ++ allT (y :: r) := rfl
    rw [e, ih]
    simp [Lib.join, List.intercalate]
def joinB (L : List ByteArray) : ByteArray := ⟨(Lib.join (L.map (·.data.toList)) [32]).toArray⟩
theorem cut_last {t : ByteArray} {l : List UInt8} (h : t.data.toList = l ++ [32]) : t.extract 0 (t.size - 1) = ⟨l.toArray⟩ ∧ 1 ≤ t.size := by
  have hs : t.size = l.length + 1 := by
    have : t.data.toList.length = t.size := Array.length_toList
    rw [← this, h]; simp
  refine ⟨?_, by omega⟩
  apply ba_ext
  rw [Lib.extract_data, h, hs]
  simp
theorem bt_some {f : List (ByteArray × Int)} {st : List Int} {k : Nat} (h : btP f st k ≠ []) : (btT f st k).extract 0 ((btT f st k).size - 1) = joinB (btP f st k) ∧ 1 ≤ (btT f st k).size :=
  cut_last (by rw [bt_all, all_join _ h])
theorem bt_none {f : List (ByteArray × Int)} {st : List Int} {k : Nat} (h : btP f st k = []) : btT f st k = ⟨#[]⟩ ∧ joinB (btP f st k) = ⟨#[]⟩ := by
  refine ⟨ba_ext (by rw [bt_all, h]; rfl), by rw [h]; rfl⟩

noncomputable def billOk (f : List (ByteArray × Int)) (st : List Int) : Bool := fontB f && stockB f st
noncomputable def billT (f : List (ByteArray × Int)) (st : List Int) : ByteArray := if billOk f st then joinB (btP f st st.length) else ⟨#[]⟩
def BillTo (f : List (ByteArray × Int)) (st : List Int) (w w' : World) (e : Ending) : Prop := e = .returned (.tuple #[.string (billT f st), .bool (billOk f st)]) ∧ Below w.heap.size w w'
theorem BillTo.no {f : List (ByteArray × Int)} {st : List Int} {w w' : World} (h : fontB f = false ∨ stockB f st = false) (hb : Below w.heap.size w w') : BillTo f st w w' (.returned (.tuple #[.string ⟨#[]⟩, .bool false])) := by
  have e : billOk f st = false := by unfold billOk; rcases h with h | h <;> simp [h]
  have e2 : billT f st = ⟨#[]⟩ := by unfold billT; rw [e]; rfl
  exact ⟨by rw [e, e2], hb⟩
theorem BillTo.yes {f : List (ByteArray × Int)} {st : List Int} {w w' : World} {t : ByteArray} (h1 : fontB f = true) (h2 : stockB f st = true) (ht : t = joinB (btP f st st.length)) (hb : Below w.heap.size w w') : BillTo f st w w' (.returned (.tuple #[.string t, .bool true])) := by
  have e : billOk f st = true := by unfold billOk; rw [h1, h2]; rfl
  have e2 : billT f st = joinB (btP f st st.length) := by unfold billT; rw [e]; rfl
  exact ⟨by rw [e, e2, ht], hb⟩
theorem sort_size {c : ByteArray} {n : Int} (h : tySortF c n = true) : c.size ≤ 3 := by
  unfold tySortF tyLettersF at h
  simp only [Bool.and_eq_true, decide_eq_true_eq] at h
  have e : c.data.toList.length = c.size := Array.length_toList
  omega
theorem font_size {f : List (ByteArray × Int)} (h : fontB f = true) {k : Nat} (hk : k < f.length) : f[k].1.size ≤ 3 := by
  have := (fontB_iff.1 h).1 k hk
  unfold okAt at this
  simp only [Bool.and_eq_true] at this
  exact sort_size this.1
theorem pc_size {c : ByteArray} {z : Int} (hc : c.size ≤ 3) (hz : z ≤ 100000) : (pc c z).size ≤ 100005 := by
  unfold pc
  rw [ByteArray.size_append, ByteArray.size_append, baOf_size]
  have := numL_len hz
  show c.size + 1 + _ ≤ _
  omega
theorem btT_len {f : List (ByteArray × Int)} {st : List Int} (hg : fontB f = true) (hs : stockB f st = true) : ∀ k, k ≤ st.length → (btT f st k).size ≤ k * 100006
  | 0, _ => Nat.zero_le _
  | k + 1, hk => by
    obtain ⟨hl, ha⟩ := stock_parts hs
    have ih := btT_len hg hs k (by omega)
    have hp := pc_size (font_size hg (k := k) (by omega)) (allB_at (k := k) (by omega) ha).2
    rw [btT_step (by omega) (by omega)]
    split
    · exact Nat.le_trans ih (Nat.mul_le_mul_right _ (Nat.le_succ k))
    · generalize pc f[k].1 st[k] = P at *
      rw [ByteArray.size_append, ByteArray.size_append, show (⟨#[32]⟩ : ByteArray).size = 1 from rfl, Nat.succ_mul]
      exact Nat.add_le_add ih (Nat.succ_le_succ hp)
theorem btP_len (f : List (ByteArray × Int)) (st : List Int) : ∀ k, (btP f st k).length ≤ k
  | 0 => Nat.le_refl _
  | k + 1 => by
    have ih := btP_len f st k
    show (if st.getD k 0 = 0 then _ else _ : List ByteArray).length ≤ _
    split
    · omega
    · rw [List.length_append]; show _ + 1 ≤ _; omega

end Go.Proofs.YtiihhilhiknckaaGreatDoor

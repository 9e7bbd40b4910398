/-
  The text of a bill: what spec.BillText and impl.BillText answer, in plain words, and spec.BillText's contract.
-/
import Derived.Test.YtnbnegkoanidmaaGreatDoorNum3
import Derived.Lib.Join
namespace Go.Proofs.YtnbnegkoanidmaaGreatDoor.S1
open Go.RowKit
set_option linter.unusedVariables false

def baOf (l : List UInt8) : ByteArray := ⟨l.toArray⟩
theorem baOf_size (l : List UInt8) : (baOf l).size = l.length := rfl
theorem ba_data (c : ByteArray) : baOf c.data.toList = c := by unfold baOf; simp
theorem baOf_app (a b : List UInt8) : baOf a ++ baOf b = baOf (a ++ b) := by
  unfold baOf; congr 1
theorem ba_ext {a b : ByteArray} (h : a.data.toList = b.data.toList) : a = b := ByteArray.ext (Array.ext' h)
def numL (z : Int) : List UInt8 := Lib.decDigits z.toNat
theorem numL_len {z : Int} (h : z ≤ 100000) : (numL z).length ≤ 100001 := by
  unfold numL; rw [Lib.decDigits_length]; exact Nat.le_trans (nDig_le _) (by omega)
theorem num_is (z : Int) (D : ByteArray) (W : World) (h1 : 0 ≤ z) (h2 : z ≤ 100000) (hD : Hid (baOf (numL z) = D)) : Calls Tryz.prog 42 #[.int .i64 z] W fun e w' => e = .returned (.string D) ∧ Below W.heap.size W w' := by
  have := l1Num_any z.toNat z.toNat W (Nat.le_refl _) (by omega)
  rw [Int.toNat_of_nonneg (by omega)] at this
  rw [← hD.out]
  exact this
/-- One place of the bill: the code, '=', the number. -/
def pc (c : ByteArray) (z : Int) : ByteArray := c ++ ⟨#[61]⟩ ++ baOf (numL z)
def btP (f : List (ByteArray × Int)) (st : List Int) : Nat → List ByteArray
  | 0 => []
  | k + 1 => if st.getD k 0 = 0 then btP f st k else btP f st k ++ [pc (f.getD k (⟨#[]⟩, 0)).1 (st.getD k 0)]
def btT (f : List (ByteArray × Int)) (st : List Int) : Nat → ByteArray
  | 0 => ⟨#[]⟩
  | k + 1 => if st.getD k 0 = 0 then btT f st k else btT f st k ++ (pc (f.getD k (⟨#[]⟩, 0)).1 (st.getD k 0) ++ ⟨#[32]⟩)
theorem btP_step {f : List (ByteArray × Int)} {st : List Int} {k : Nat} (h : k < f.length) (h' : k < st.length) : btP f st (k + 1) = if st[k] = 0 then btP f st k else btP f st k ++ [pc f[k].1 st[k]] := by
  show (if st.getD k 0 = 0 then _ else _) = _
  simp [List.getD, h, h']
theorem btT_step {f : List (ByteArray × Int)} {st : List Int} {k : Nat} (h : k < f.length) (h' : k < st.length) : btT f st (k + 1) = if st[k] = 0 then btT f st k else btT f st k ++ (pc f[k].1 st[k] ++ ⟨#[32]⟩) := by
  show (if st.getD k 0 = 0 then _ else _) = _
  simp [List.getD, h, h']
def allT (L : List ByteArray) : List UInt8 := L.flatMap fun x => x.data.toList ++ [32]
theorem bt_all (f : List (ByteArray × Int)) (st : List Int) (k : Nat) : (btT f st k).data.toList = allT (btP f st k) := by
  induction k with
  | zero => rfl
  | succ k ih =>
    show (if st.getD k 0 = 0 then _ else _ : ByteArray).data.toList = allT (if st.getD k 0 = 0 then _ else _)
    split
    · exact ih
    · unfold allT at ih ⊢
      rw [List.flatMap_append, ← ih]
      simp
theorem all_join : ∀ (L : List ByteArray), L ≠ [] → allT L = Lib.join (L.map (·.data.toList)) [32] ++ [32]
  | [], h => absurd rfl h
  | [x], _ => by simp [allT, Lib.join_one]
  | x :: y :: r, _ => by
    have ih := all_join (y :: r) (by simp)
    have e : allT (x :: y :: r) = (x.data.toList ++ [32]) ++ allT (y :: r) := rfl
    rw [e, ih]
    simp [Lib.join, List.intercalate]
def joinB (L : List ByteArray) : ByteArray := ⟨(Lib.join (L.map (·.data.toList)) [32]).toArray⟩
theorem cut_last {t : ByteArray} {l : List UInt8} (h : t.data.toList = l ++ [32]) : t.extract 0 (t.size - 1) = ⟨l.toArray⟩ ∧ 1 ≤ t.size := by
  have hs : t.size = l.length + 1 := by
    have : t.data.toList.length = t.size := Array.length_toList
    rw [← this, h]; simp
  refine ⟨?_, by omega⟩
  apply ba_ext
  rw [Lib.extract_data, h, hs]
  simp
theorem bt_some {f : List (ByteArray × Int)} {st : List Int} {k : Nat} (h : btP f st k ≠ []) : (btT f st k).extract 0 ((btT f st k).size - 1) = joinB (btP f st k) ∧ 1 ≤ (btT f st k).size :=
  cut_last (by rw [bt_all, all_join _ h])
theorem bt_none {f : List (ByteArray × Int)} {st : List Int} {k : Nat} (h : btP f st k = []) : btT f st k = ⟨#[]⟩ ∧ joinB (btP f st k) = ⟨#[]⟩ := by
  refine ⟨ba_ext (by rw [bt_all, h]; rfl), by rw [h]; rfl⟩

noncomputable def billOk (f : List (ByteArray × Int)) (st : List Int) : Bool := fontB f && stockB f st
noncomputable def billT (f : List (ByteArray × Int)) (st : List Int) : ByteArray := if billOk f st then joinB (btP f st st.length) else ⟨#[]⟩
def BillTo (f : List (ByteArray × Int)) (st : List Int) (w w' : World) (e : Ending) : Prop := e = .returned (.tuple #[.string (billT f st), .bool (billOk f st)]) ∧ Below w.heap.size w w'
theorem BillTo.no {f : List (ByteArray × Int)} {st : List Int} {w w' : World} (h : fontB f = false ∨ stockB f st = false) (hb : Below w.heap.size w w') : BillTo f st w w' (.returned (.tuple #[.string ⟨#[]⟩, .bool false])) := by
  have e : billOk f st = false := by unfold billOk; rcases h with h | h <;> simp [h]
  have e2 : billT f st = ⟨#[]⟩ := by unfold billT; rw [e]; rfl
  exact ⟨by rw [e, e2], hb⟩
theorem BillTo.yes {f : List (ByteArray × Int)} {st : List Int} {w w' : World} {t : ByteArray} (h1 : fontB f = true) (h2 : stockB f st = true) (ht : t = joinB (btP f st st.length)) (hb : Below w.heap.size w w') : BillTo f st w w' (.returned (.tuple #[.string t, .bool true])) := by
  have e : billOk f st = true := by unfold billOk; rw [h1, h2]; rfl
  have e2 : billT f st = joinB (btP f st st.length) := by unfold billT; rw [e]; rfl
  exact ⟨by rw [e, e2, ht], hb⟩
theorem sort_size {c : ByteArray} {n : Int} (h : tySortF c n = true) : c.size ≤ 3 := by
  unfold tySortF tyLettersF at h
  simp only [Bool.and_eq_true, decide_eq_true_eq] at h
  have e : c.data.toList.length = c.size := Array.length_toList
  omega
theorem font_size {f : List (ByteArray × Int)} (h : fontB f = true) {k : Nat} (hk : k < f.length) : f[k].1.size ≤ 3 := by
  have := (fontB_iff.1 h).1 k hk
  unfold okAt at this
  simp only [Bool.and_eq_true] at this
  exact sort_size this.1
theorem pc_size {c : ByteArray} {z : Int} (hc : c.size ≤ 3) (hz : z ≤ 100000) : (pc c z).size ≤ 100005 := by
  unfold pc
  rw [ByteArray.size_append, ByteArray.size_append, baOf_size]
  have := numL_len hz
  show c.size + 1 + _ ≤ _
  omega
theorem btT_len {f : List (ByteArray × Int)} {st : List Int} (hg : fontB f = true) (hs : stockB f st = true) : ∀ k, k ≤ st.length → (btT f st k).size ≤ k * 100006
  | 0, _ => Nat.zero_le _
  | k + 1, hk => by
    obtain ⟨hl, ha⟩ := stock_parts hs
    have ih := btT_len hg hs k (by omega)
    have hp := pc_size (font_size hg (k := k) (by omega)) (allB_at (k := k) (by omega) ha).2
    rw [btT_step (by omega) (by omega)]
    split
    · exact Nat.le_trans ih (Nat.mul_le_mul_right _ (Nat.le_succ k))
    · generalize pc f[k].1 st[k] = P at *
      rw [ByteArray.size_append, ByteArray.size_append, show (⟨#[32]⟩ : ByteArray).size = 1 from rfl, Nat.succ_mul]
      exact Nat.add_le_add ih (Nat.succ_le_succ hp)
theorem btP_len (f : List (ByteArray × Int)) (st : List Int) : ∀ k, (btP f st k).length ≤ k
  | 0 => Nat.le_refl _
  | k + 1 => by
    have ih := btP_len f st k
    show (if st.getD k 0 = 0 then _ else _ : List ByteArray).length ≤ _
    split
    · omega
    · rw [List.length_append]; show _ + 1 ≤ _; omega

set_option maxRecDepth 100000 in
set_option maxHeartbeats 2000000 in
theorem specBill_any (f : List (ByteArray × Int)) (A : Option Addr) (c : Nat) (st : List Int) (C : Option Addr) (d : Nat) (w : World) (hf : SortsIn w 0 A f) (hn : f.length ≤ 1048576) (ho : CodesOk f) (hi : IntsIn w C st) (hm : st.length ≤ 1048576) :
    Calls Tryz.prog 18 #[.slice A f.length c, .slice C st.length d] w fun e w' => BillTo f st w w' e := by
  have HF := Lib.hid hf; have HI := Lib.hid hi; have HO := Lib.hid ho
  clear hf hi ho
  go_enter Tryz.func18, Tryz.ntmps18
  go_wp2_with fail
  refine (tyFont_any f A c 0 _ HF.out hn HO.out).mono ?_
  rintro e w1 ⟨rfl, hb1⟩
  have HB1 := Lib.hid hb1; clear hb1
  have HI1 := Lib.hid (HI.out.below HB1.out (Nat.le_refl _))
  have HF1 := Lib.hid (HF.out.below HB1.out (Nat.le_refl _))
  clear HI HF
  cases hg : fontB f
  · have HE := Lib.hid hg; clear hg
    go_wp2
    go_ret2
    exact BillTo.no (.inl HE.out) HB1.out
  have HG := Lib.hid hg; clear hg
  go_wp2_with fail
  refine (biStock_any f A c st C d _ HI1.out hn hm).mono ?_
  rintro e w' ⟨rfl, rfl⟩
  cases hs : stockB f st
  · have HE := Lib.hid hs; clear hs
    go_wp2
    go_ret2
    exact BillTo.no (.inr HE.out) HB1.out
  have HS := Lib.hid hs; clear hs
  obtain ⟨hl, ha⟩ := stock_parts HS.out
  have HL := Lib.hid hl; have HA := Lib.hid ha; clear ha hl
  have h32 := (fontB_iff.1 HG.out).2.2
  have hst : st.length ≤ 32 := by have := HL.out; omega
  have HT0 : Hid (btT f st 0 = ⟨#[]⟩) := Lib.hid rfl
  go_wp2
  rw [← HT0.out]
  go_loopw [6, 20] (fun t i wr => ∃ k : Nat, k ≤ st.length ∧ i = .int .i64 k ∧ t = .string (btT f st k) ∧ Below w1.heap.size w1 wr) (fun _ i _ => st.length - (intOf i).toNat)
  case atStart => exact ⟨0, Nat.zero_le _, rfl, rfl, Below.refl _ _⟩
  case round =>
    obtain ⟨k, hk, rfl, rfl, hb⟩ := hrel
    by_cases hlt : k < st.length
    · have hkf : k < f.length := by have := HL.out; omega
      obtain ⟨b, off, rfl, _, hbl, hc⟩ := HF1.out (by omega)
      obtain ⟨hc0, hc1⟩ := hc k hkf
      clear hc
      obtain ⟨b', off', rfl, hbl', hd⟩ := HI1.out (by omega)
      have hd0 := hd k hlt
      clear hd
      rw [← hb.cell (p := ⟨b, off + k * 2, none⟩) hbl] at hc0
      rw [← hb.cell (p := ⟨b, off + k * 2 + 1, none⟩) hbl] at hc1
      rw [← hb.cell (p := ⟨b', off' + k, none⟩) hbl'] at hd0
      obtain ⟨z1, z2⟩ := allB_at hlt HA.out
      have hsz := font_size HG.out hkf
      have HY := Lib.hid (btT_step hkf hlt)
      have htl := btT_len HG.out HS.out k hk
      have htl' : (btT f st k).size ≤ 4000000 := by omega
      have hnl : (baOf (numL st[k])).size ≤ 100001 := numL_len z2
      obtain ⟨D, hD⟩ : ∃ D, baOf (numL st[k]) = D := ⟨_, rfl⟩
      have HPC : Hid (pc f[k].1 st[k] = f[k].1 ++ ⟨#[61]⟩ ++ D) := Lib.hid (by rw [← hD]; rfl)
      rw [hD] at hnl
      have HD := Lib.hid hD; clear hD htl
      rw [HPC.out] at HY
      clear HPC
      generalize f[k].1 = s at *
      generalize f[k].2 = y at *
      generalize st[k] = z at *
      generalize btT f st k = T at *
      by_cases hz : z = 0
      · have HE : Hid (btT f st (k + 1) = T) := Lib.hid (by rw [HY.out, if_pos hz])
        have hng : ¬ (0 : Int) < z := by omega
        have HB := Lib.hid hb
        clear hc0 hc1 HY hz hb
        go_wp2
        go_roundw
        case rel => exact ⟨k + 1, by omega, by go_num, by rw [HE.out], HB.out⟩
        case measure => simp [intOf]; omega
      · have HE : Hid (btT f st (k + 1) = T ++ (s ++ ⟨#[61]⟩ ++ D ++ ⟨#[32]⟩)) := Lib.hid (by rw [HY.out, if_neg hz])
        have hng : (0 : Int) < z := by omega
        have hs0 : ¬ (9223372036854775807 : Nat) < s.size + 1 := by omega
        have hs1 : ¬ (9223372036854775807 : Nat) < (s ++ ⟨#[61]⟩).size + D.size := by rw [ByteArray.size_append]; show ¬ _ < s.size + 1 + _; omega
        have hs2 : ¬ (9223372036854775807 : Nat) < s.size + 1 + D.size := by omega
        have hs3 : ¬ (9223372036854775807 : Nat) < (s ++ ⟨#[61]⟩ ++ D).size + 1 := by rw [ByteArray.size_append, ByteArray.size_append]; show ¬ _ < s.size + 1 + _ + 1; omega
        have hs4 : ¬ (9223372036854775807 : Nat) < s.size + 1 + D.size + 1 := by omega
        have hs5 : ¬ (9223372036854775807 : Nat) < T.size + (s ++ ⟨#[61]⟩ ++ D ++ ⟨#[32]⟩).size := by rw [ByteArray.size_append, ByteArray.size_append, ByteArray.size_append]; show ¬ _ < T.size + (s.size + 1 + _ + 1); omega
        have hs6 : ¬ (9223372036854775807 : Nat) < T.size + (s.size + 1 + D.size + 1) := by omega
        clear HY hz
        go_wp2_with fail
        have hx0 := KeptW.cell hc0 (B := wr.heap.size) (Nat.lt_of_lt_of_le hbl hb.size)
        have hx1 := KeptW.cell hc1 (B := wr.heap.size) (Nat.lt_of_lt_of_le hbl hb.size)
        have hkf' : k < f.length := hkf
        refine region_kept wr.heap.size (by kernel_rfl) (by kernel_rfl) ?_
        repeat (go_big_quiet_step ((go_at_call 42; exact kept_call _ (Nat.le_refl _) (num_is _ _ _ z1 z2 HD))))
        refine wpQuiet_nil ?_
        intro w2 hb2
        have HB' := Lib.hid (hb.trans (hb2.mono hb.size))
        clear hb hb2 hx0 hx1 hc0 hc1
        go_wp2
        go_roundw
        case rel => exact ⟨k + 1, by omega, by go_num, by rw [HE.out], HB'.out⟩
        case measure => simp [intOf]; omega
    · obtain rfl : k = st.length := by omega
      have HBB := Lib.hid (HB1.out.trans (hb.mono HB1.out.size))
      clear hb
      by_cases hp : btP f st st.length = []
      · obtain ⟨e1, e2⟩ := bt_none hp
        rw [e1]
        have HT : Hid (joinB (btP f st st.length) = ⟨#[]⟩) := Lib.hid e2
        clear hp e1 e2
        go_wp2
        go_ret2
        exact BillTo.yes HG.out HS.out HT.out.symm HBB.out
      · obtain ⟨e1, e2⟩ := bt_some hp
        have HT := Lib.hid e1
        have hsz := btT_len HG.out HS.out st.length (Nat.le_refl _)
        have hsz' : (btT f st st.length).size ≤ 4000000 := by omega
        clear hp e1 hsz
        generalize btT f st st.length = T at *
        have hne : T.toList.isEmpty = false := by
          rw [ByteArray.toList_eq]
          have : T.data.toList.length = T.size := Array.length_toList
          cases hl : T.data.toList with
          | nil => rw [hl] at this; simp at this; omega
          | cons _ _ => rfl
        go_wp2
        go_ret2
        exact BillTo.yes HG.out HS.out HT.out HBB.out
end Go.Proofs.YtnbnegkoanidmaaGreatDoor.S1

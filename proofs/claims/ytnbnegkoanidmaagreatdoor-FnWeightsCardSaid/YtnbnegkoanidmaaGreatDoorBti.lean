/-
  impl.BillText: its contract: it answers what spec.BillText does, given the library's table of powers.
-/
import Derived.Test.YtnbnegkoanidmaaGreatDoorBtx
import Derived.Test.YtnbnegkoanidmaaGreatDoorTos
import Derived.Test.YtnbnegkoanidmaaGreatDoorShj
import Derived.OwnWalk
import Derived.Maps.AppendAt
import Derived.Lib.ItoaMem
import Derived.Lib.ItoaLen
import Derived.Lib.AppendIntMem
namespace Go.Proofs.YtnbnegkoanidmaaGreatDoor.S1
open Go.RowKit
set_option linter.unusedVariables false

def Tab (w : World) : Prop := Lib.TabIs Tryz.prog w "internal/strconv.uint64pow10" .u64 Lib.pow10Tab
theorem Tab.below {w w' : World} (h : Tab w) (hb : Below w.heap.size w w') : Tab w' := by
  unfold Tab Lib.TabIs World.var? at h ⊢
  obtain ⟨g, hg⟩ : ∃ g, Tryz.prog.globalNamed "internal/strconv.uint64pow10" = some g := by
    cases hg : Tryz.prog.globalNamed "internal/strconv.uint64pow10" with
    | none => rw [hg] at h; cases h
    | some g => exact ⟨g, rfl⟩
  rw [hg] at h ⊢
  simp only [Option.bind_some] at h ⊢
  have hlt : g < w.heap.size := by
    rcases Nat.lt_or_ge g w.heap.size with h' | h'
    · exact h'
    · rw [Array.getElem?_eq_none h'] at h; cases h
  rw [hb.block g hlt]
  exact h
theorem itoa_is (z : Int) (D : ByteArray) (W : World) (h1 : 0 ≤ z) (h2 : z ≤ 100000) (hD : Hid (baOf (numL z) = D)) (ht : Tab W) : Calls Tryz.prog 39 #[.int .i64 z] W fun e w' => e = .returned (.string D) ∧ Below W.heap.size W w' := by
  refine (Tryz.strconv_Itoa z (by omega) (by omega) W ht).mono ?_
  rintro e w' ⟨rfl, q, os, rfl⟩
  refine ⟨?_, Lib.below_grow _ _ (Nat.le_refl _) _ _⟩
  rw [← hD.out]
  obtain ⟨n, hn⟩ := Int.eq_ofNat_of_zero_le (show 0 ≤ z by omega)
  rw [hn, Lib.itoa_nonneg]; rfl

set_option maxRecDepth 100000 in
set_option maxHeartbeats 1000000 in
theorem pcLit_any (f : List (ByteArray × Int)) (i : Nat) (n : Int) (bs : Nat) (A : Option Addr) (q : Nat) (w : World) (hS : w.cell? ⟨bs, 0, none⟩ = some (.slice A f.length q)) (hf : SortsIn w 0 A f) (hi : i < f.length) (hn : f.length ≤ 32) (hsz : f[i].1.size ≤ 3) (h0 : 0 ≤ n) (h1 : n ≤ 100000) (ht : Tab w) :
    Calls Tryz.prog 38 #[.int .i64 (i : Int), .int .i64 n, .pointer (some ⟨bs, 0, none⟩)] w fun e w' => e = .returned (.string (pc f[i].1 n)) ∧ Below w.heap.size w w' := by
  have HT := Lib.hid ht; clear ht
  obtain ⟨b, off, rfl, _, hbl, hc⟩ := hf (by omega)
  obtain ⟨hc0, hc1⟩ := hc i hi
  have hbs := World.block_lt_of_cell? _ _ hS
  clear hc hf
  have hnl : (baOf (numL n)).size ≤ 100001 := numL_len h1
  obtain ⟨D, hD⟩ : ∃ D, baOf (numL n) = D := ⟨_, rfl⟩
  have HPC : Hid (pc f[i].1 n = f[i].1 ++ ⟨#[61]⟩ ++ D) := Lib.hid (by rw [← hD]; rfl)
  rw [hD] at hnl
  have HD := Lib.hid hD; clear hD
  rw [HPC.out]
  clear HPC
  generalize f[i].1 = s at *
  generalize f[i].2 = y at *
  have hs0 : ¬ (9223372036854775807 : Nat) < s.size + 1 := by omega
  have hs1 : ¬ (9223372036854775807 : Nat) < (s ++ ⟨#[61]⟩).size + D.size := by rw [ByteArray.size_append]; show ¬ _ < s.size + 1 + _; omega
  have hs2 : ¬ (9223372036854775807 : Nat) < s.size + 1 + D.size := by omega
  have hx0 := KeptW.cell hc0 (B := w.heap.size) hbl
  have hx1 := KeptW.cell hc1 (B := w.heap.size) hbl
  have hx2 := KeptW.cell hS (B := w.heap.size) hbs
  go_enter Tryz.func38, Tryz.ntmps38
  go_wp2_with fail
  refine region_kept w.heap.size (by kernel_rfl) (by kernel_rfl) ?_
  repeat (go_big_quiet_step ((go_at_call 39; exact kept_call _ (Nat.le_refl _) (itoa_is _ _ _ h0 h1 HD (HT.out.below (KeptW.below _))))))
  refine wpQuiet_nil ?_
  intro w1 hb1
  clear hx0 hx1 hx2 hc0 hc1 hS
  go_wp2
  go_ret
  exact ⟨rfl, hb1⟩

def flat2 (l : List (Int × ByteArray)) : List Value := l.flatMap fun r => [.int .i64 r.1, .string r.2]
theorem flat2_len (l : List (Int × ByteArray)) : (flat2 l).length = 2 * l.length := by
  induction l with
  | nil => rfl
  | cons x r ih => simp [flat2] at ih ⊢; omega
theorem flat2_snoc (l : List (Int × ByteArray)) (x : Int × ByteArray) : flat2 (l ++ [x]) = flat2 l ++ [.int .i64 x.1, .string x.2] := by simp [flat2]
theorem flat2_get : ∀ (l : List (Int × ByteArray)) (k : Nat) (h : k < l.length), (flat2 l)[k * 2]? = some (.int .i64 l[k].1) ∧ (flat2 l)[k * 2 + 1]? = some (.string l[k].2)
  | x :: r, 0, _ => ⟨rfl, rfl⟩
  | x :: r, k + 1, h => by
    have ih := flat2_get r k (by simpa using h)
    have e : flat2 (x :: r) = .int .i64 x.1 :: .string x.2 :: flat2 r := rfl
    rw [e, show (k + 1) * 2 = k * 2 + 1 + 1 from by omega]
    simpa using ih
def R2In (w : World) (A : Option Addr) (l : List (Int × ByteArray)) : Prop :=
  0 < l.length → ∃ b off, A = some ⟨b, off, none⟩ ∧ b < w.heap.size ∧ ∀ k (h : k < l.length), w.cell? ⟨b, off + k * 2, none⟩ = some (.int .i64 l[k].1) ∧ w.cell? ⟨b, off + k * 2 + 1, none⟩ = some (.string l[k].2)
theorem own_r2 {w : World} {base n : Nat} {e : TypeId} {v : Value} {l : List (Int × ByteArray)} (h : w.ownsRow base e 2 v n (flat2 l)) : ∃ A c, v = .slice A l.length c ∧ n = l.length ∧ R2In w A l := by
  have hn : n = l.length := by have := h.1; rw [flat2_len] at this; omega
  subst hn
  rcases h.2 with ⟨rfl, h0⟩ | ⟨g, cap, cur, rfl, hg, hh, h1, h2, h3, h4⟩
  · exact ⟨none, 0, by rw [h0], rfl, fun h => absurd h (by omega)⟩
  · refine ⟨_, _, rfl, rfl, fun _ => ⟨g, 0, rfl, lt_of_heap hh, fun k hk => ?_⟩⟩
    obtain ⟨g1, g2⟩ := flat2_get l k hk
    rw [Nat.zero_add, h.cellAt (k * 2) (by omega), h.cellAt (k * 2 + 1) (by omega)]
    exact ⟨g1, g2⟩
def btR (f : List (ByteArray × Int)) (st : List Int) : Nat → List (Int × ByteArray)
  | 0 => []
  | k + 1 => if st.getD k 0 = 0 then btR f st k else btR f st k ++ [((k : Int), pc (f.getD k (⟨#[]⟩, 0)).1 (st.getD k 0))]
theorem btR_step {f : List (ByteArray × Int)} {st : List Int} {k : Nat} (h : k < f.length) (h' : k < st.length) : btR f st (k + 1) = if st[k] = 0 then btR f st k else btR f st k ++ [((k : Int), pc f[k].1 st[k])] := by
  show (if st.getD k 0 = 0 then _ else _) = _
  simp [List.getD, h, h']
theorem btR_snd (f : List (ByteArray × Int)) (st : List Int) (k : Nat) : (btR f st k).map Prod.snd = btP f st k := by
  induction k with
  | zero => rfl
  | succ k ih =>
    show List.map Prod.snd (if st.getD k 0 = 0 then _ else _) = (if st.getD k 0 = 0 then _ else _)
    split
    · exact ih
    · rw [List.map_append, ih]; rfl
theorem btR_len (f : List (ByteArray × Int)) (st : List Int) (k : Nat) : (btR f st k).length ≤ k := by
  have := congrArg List.length (btR_snd f st k)
  rw [List.length_map] at this
  rw [this]; exact btP_len f st k
theorem infoSR : (Tryz.prog.info? 100).map (fun i => (i.zero, i.size, i.bytes)) = some (some (.agg #[.int .i64 0, .string .empty]), 2, 24) := by kernel_rfl
theorem news_two {a b : Value} (w : World) {g : Nat} {t : TypeId} (h : w.heap[g]? = some (.cells #[a, b] t (0, 0))) : ∀ j u, [a, b][j]? = some u → w.cell? ((⟨g, 0, none⟩ : Addr).add j) = some u := by
  intro j u hu
  rw [show (⟨g, 0, none⟩ : Addr).add j = ⟨g, 0 + j, none⟩ from by unfold Addr.add; by_cases hk : j = 0 <;> simp [hk], Nat.zero_add, cell_of_heap h]
  simpa using hu
def Rows2To (w w' : World) (e : Ending) (rows : List (Int × ByteArray)) : Prop := ∃ A c, e = .returned (.slice A rows.length c) ∧ Below w.heap.size w w' ∧ R2In w' A rows

set_option maxRecDepth 100000 in
set_option maxHeartbeats 1000000 in
theorem tabStr_any (f : List (ByteArray × Int)) (st : List Int) (A C : Option Addr) (c q bs : Nat) (w : World) (hC : IntsIn w C st) (hS : w.cell? ⟨bs, 0, none⟩ = some (.slice A f.length q)) (hf : SortsIn w 0 A f) (hg : fontB f = true) (hs : stockB f st = true) (ht : Tab w) :
    Calls Tryz.prog 37 #[.slice C st.length c, .func (.func 38) #[] #[.pointer (some ⟨bs, 0, none⟩)]] w fun e w' => Rows2To w w' e (btR f st st.length) := by
  have HC := Lib.hid hC; have HF := Lib.hid hf; have HT := Lib.hid ht; have HG := Lib.hid hg
  have HSC := Lib.hid hS
  have hbs : bs < w.heap.size := World.block_lt_of_cell? _ _ hS
  obtain ⟨hl, ha⟩ := stock_parts hs
  have HL := Lib.hid hl; have HA := Lib.hid ha
  have h32 : f.length ≤ 32 := (fontB_iff.1 hg).2.2
  have hst : st.length ≤ 32 := by omega
  clear hC hS hf ht hg hs hl ha
  obtain ⟨i0, hi, hz0, hz1, hz2⟩ := info_parts infoSR
  have HI0 := Lib.hid hi; have HZ0 := Lib.hid hz0; have HZ1 := Lib.hid hz1; have HZ2 := Lib.hid hz2
  clear hi hz0 hz1 hz2
  go_enter Tryz.func37, Tryz.ntmps37
  go_wp2
  go_loopw [5, 10] (fun v i wr => ∃ (k : Nat), k ≤ st.length ∧ i = .int .i64 k ∧ wr.ownsRow w.heap.size 100 2 v (btR f st k).length (flat2 (btR f st k)) ∧ Below w.heap.size w wr) (fun _ i _ => st.length - (intOf i).toNat)
  case atStart => exact ⟨0, Nat.zero_le _, rfl, own_nil _ _ _ _, Below.refl _ _⟩
  case round =>
    obtain ⟨k, hk, rfl, hown, hb⟩ := hrel
    have HOWN := Lib.hid hown; clear hown
    have HBW := Lib.hid hb; clear hb
    by_cases hlt : k < st.length
    · obtain ⟨b, off, rfl, hbl, hc⟩ := HC.out (by omega)
      have hc0 := (HBW.out.cell (p := ⟨b, off + k, none⟩) hbl).trans (hc k hlt)
      clear hc
      have hkf : k < f.length := by have := HL.out; omega
      have HST := Lib.hid (btR_step hkf hlt)
      have hSc := (HBW.out.cell (p := ⟨bs, 0, none⟩) hbs).trans HSC.out
      have HFw := Lib.hid (HF.out.below HBW.out (Nat.le_refl _))
      have HTw := Lib.hid (HT.out.below HBW.out)
      have hlen := btR_len f st k
      obtain ⟨z1, z2⟩ := allB_at hlt HA.out
      have hfs := font_size HG.out hkf
      generalize st[k] = x at *
      by_cases hx0 : x = 0
      · have hxb : (x != 0) = false := by simp [hx0]
        have HE : Hid (btR f st (k + 1) = btR f st k) := Lib.hid (by rw [HST.out, if_pos hx0])
        clear hx0 hSc hfs HST hkf
        go_wp2
        go_roundw
        case rel => exact ⟨k + 1, by omega, by go_num, by rw [HE.out]; exact HOWN.out, HBW.out⟩
        case measure => simp [intOf]; omega
      · have hxb : (x != 0) = true := by simp [hx0]
        have HE : Hid (btR f st (k + 1) = btR f st k ++ [((k : Int), pc f[k].1 x)]) := Lib.hid (by rw [HST.out, if_neg hx0])
        have HSC1 := Lib.hid hSc
        have HLIT := Lib.hid (pcLit_any f k x bs A q wr HSC1.out HFw.out hkf h32 hfs z1 z2 HTw.out)
        clear hx0 HST hSc hfs
        generalize pc f[k].1 x = s at *
        clear hkf
        go_wp2_with fail
        refine HLIT.out.mono ?_
        rintro e w3 ⟨rfl, hb3⟩
        have HB3 := Lib.hid (HBW.out.trans (hb3.mono HBW.out.size))
        have hownw := own_below HOWN.out hb3
        clear HLIT
        have hmx : (btR f st k).length + 1 ≤ maxLen := by unfold maxLen; omega
        have hsz := HB3.out.size
        clear hb3 HBW hc0
        go_wp2_with (at_builtin; go_loud (refine wpList_append_own _ rfl _ _ 77 rfl w.heap.size 100 i0 (.agg #[.int .i64 0, .string .empty]) 2 24 Tryz.underlying77 HI0.out HZ0.out HZ1.out HZ2.out rfl (by decide) _ _ _ rfl (hownw.alloc _) ⟨w3.heap.size, 0, none⟩ 1 1 [.int .i64 (k : Int), .string s] rfl rfl (news_two _ (heap_new _ _)) (by simp [Value.oneCell']) hmx (by omega) (by simp; omega) ?_))
        intro v' w4 hown' hgrow _
        have HB1 : Hid (Below w.heap.size w w4) := Lib.hid ((HB3.out.alloc HB3.out.size _).grown hgrow (by simp; omega) (own_lt hownw))
        have HO3 : Hid (w4.ownsRow w.heap.size 100 2 v' (btR f st (k + 1)).length (flat2 (btR f st (k + 1)))) := Lib.hid (by
          rw [HE.out, flat2_snoc, List.length_append]; exact hown')
        clear hown' hgrow hownw HOWN HB3
        go_wp2
        go_roundw
        case rel => exact ⟨k + 1, by omega, by go_num, HO3.out, HB1.out⟩
        case measure => simp [intOf]; omega
    · obtain rfl : k = st.length := by omega
      go_wp2
      go_ret
      obtain ⟨A2, c2, rfl, _, h2⟩ := own_r2 HOWN.out
      exact ⟨A2, c2, rfl, HBW.out, h2⟩
end Go.Proofs.YtnbnegkoanidmaaGreatDoor.S1

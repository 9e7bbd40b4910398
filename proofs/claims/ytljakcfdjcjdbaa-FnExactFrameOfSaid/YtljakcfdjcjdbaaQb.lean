/-
  The contracts of slices.Grow of nothing and slices.Concat at slips, and of impl.piecesOfSlips.
-/
import Derived.Test.YtljakcfdjcjdbaaPz
import Derived.Lib.AppendZerosOnto
import Derived.Lib.SliceRun
namespace Go.Proofs.Ytljakcfdjcjdbaa
open Go.RowKit
set_option linter.unusedVariables false

def RowS (w w' : World) (e : Ending) (l : List Sl) : Prop := ∃ v, e = .returned v ∧ Below w.heap.size w w' ∧ w'.ownsRow w.heap.size 57 2 v l.length (flatSl l)
theorem growZ_any (w : World) : Calls Try.prog 84 #[.slice none 0 0, .int .i64 0] w fun e w' => RowS w w' e [] := by
  go_enter Try.func84, Try.ntmps84
  go_wp2
  go_ret
  exact ⟨_, rfl, Below.refl _ _, own_nil _ _ _ _⟩
set_option maxRecDepth 100000 in
set_option maxHeartbeats 2000000 in
theorem growS_any (n : Nat) (w : World) (h1 : 1 ≤ n) (h8 : n ≤ 80) :
    Calls Try.prog 84 #[.slice none 0 0, .int .i64 (n : Int)] w fun e w' => RowS w w' e [] := by
  obtain ⟨i0, hi, hz0, hz1, hz2⟩ := info_parts infoSl
  have hold : (Builtin.firstCells i0.size 0 (.slice none 0 0)).run Try.prog w.drew = .ok ([] : List Value).toArray w.drew := by
    exact run_firstCells_none w.drew i0.size 0 0 0
  have hrz := Lib.run_append_grow_zeros (P := Try.prog) w 25 3 25 57 i0 (.agg #[.int .i64 0, .int .i64 0]) .i64 .i64 Try.underlying25 Try.underlying3 hi hz0 none 0 0 [] hold n (by omega) (by rw [hz1]; decide) (by omega) (by omega) (by rw [hz2]; omega) (by rw [hz2, Nat.zero_add]; exact growslice_fits (by omega) (by omega))
  have hG := grownCap_le_maxLen w (0 + n) 0 57 (by unfold maxLen; omega)
  have hG2 := grownCap_ge w (0 + n) 0 57
  have hsz : (([] : List Value).toArray ++ Builtin.zeroCells (Value.agg #[.int .i64 0, .int .i64 0]).cells n ++ Builtin.zeroCells (Value.agg #[.int .i64 0, .int .i64 0]).cells (grownCap w (0 + n) 0 57 - (0 + n))).size = grownCap w (0 + n) 0 57 * 2 := by
    generalize grownCap w (0 + n) 0 57 = G at *
    simp [Builtin.zeroCells, Value.cells]; omega
  generalize ([] : List Value).toArray ++ Builtin.zeroCells (Value.agg #[.int .i64 0, .int .i64 0]).cells n ++ Builtin.zeroCells (Value.agg #[.int .i64 0, .int .i64 0]).cells (grownCap w (0 + n) 0 57 - (0 + n)) = cs at *
  generalize grownCap w (0 + n) 0 57 = G at *
  rw [Nat.zero_add] at hrz
  have HO : Hid ((w.drew.alloc (.cells cs 57)).ownsRow w.heap.size 57 2 (.slice (some ⟨w.heap.size, 0, none⟩) 0 G) 0 (flatSl [])) := Lib.hid
    ⟨rfl, .inr ⟨w.heap.size, G, cs, rfl, Nat.le_refl _, heap_new _ _, Nat.zero_le _, hG, by omega, by simp [flatSl]⟩⟩
  have HB : Hid (Below w.heap.size w (w.drew.alloc (.cells cs 57))) := Lib.hid ((Below.refl w.heap.size w).drew.alloc (Nat.le_refl _) _)
  have HRZ := Lib.hid hrz
  have hG63 : G ≤ 9223372036854775807 := by unfold maxLen at hG; omega
  have hn1 : (1 : Int) ≤ (n : Int) := by omega
  have hs := slice_headS w.heap.size 0 n G 0 (Nat.zero_le _) (by omega)
  clear hrz hold hi hz0 hz1 hz2 hG hsz hG2
  go_enter Try.func84, Try.ntmps84
  go_wp2_with (at_builtin; refine Lib.wpList_append_run _ rfl _ _ _ _ rfl _ _ rfl rfl _ _ HRZ.out ?_)
  go_wp2
  go_ret
  exact ⟨_, rfl, HB.out, HO.out⟩
/-- Block G holds the headers of lists of slips. -/
def Hdrs (w : World) (G : Nat) (ls : List (List Sl)) : Prop := G < w.heap.size ∧ ∀ i (h : i < ls.length), ∃ A c, w.cell? ⟨G, i, none⟩ = some (.slice (some A) ls[i].length c) ∧ SlsIn w (some A) ls[i]
theorem Hdrs.next {w w' : World} {G : Nat} {ls : List (List Sl)} (h : Hdrs w G ls) (hb : Below w.heap.size w w') : Hdrs w' G ls := ⟨Nat.lt_of_lt_of_le h.1 hb.size, fun i hi => by
  obtain ⟨A, c, h1, h2⟩ := h.2 i hi
  exact ⟨A, c, (hb.cell (p := ⟨G, i, none⟩) h.1).trans h1, h2.below hb (Nat.le_refl _)⟩⟩
def flK (ls : List (List Sl)) (k : Nat) : List Sl := (ls.take k).flatten
theorem flK_succ {ls : List (List Sl)} {k : Nat} (h : k < ls.length) : flK ls (k + 1) = flK ls k ++ ls[k] := by
  unfold flK; rw [List.take_succ_eq_append_getElem h, List.flatten_append]; show _ ++ (ls[k] ++ []) = _; rw [List.append_nil]
theorem flK_all (ls : List (List Sl)) : flK ls ls.length = ls.flatten := by unfold flK; rw [List.take_length]
theorem flK_le (ls : List (List Sl)) : ∀ k, k ≤ ls.length → (flK ls k).length ≤ ls.flatten.length := fun k hk => by
  have e : ls.flatten = flK ls k ++ (ls.drop k).flatten := by unfold flK; rw [← List.flatten_append, List.take_append_drop]
  rw [e, List.length_append]; omega
set_option maxRecDepth 100000 in
set_option maxHeartbeats 2000000 in
theorem concatS_any (ls : List (List Sl)) (G d : Nat) (w : World) (hh : Hdrs w G ls) (hl : ls.length ≤ 8) (hn : ls.flatten.length ≤ 80) :
    Calls Try.prog 76 #[.slice (some ⟨G, 0, none⟩) ls.length d] w fun e w' => RowS w w' e ls.flatten := by
  have HH := Lib.hid hh; clear hh
  obtain ⟨i0, hi, hz0, hz1, hz2⟩ := info_parts infoSl
  have HI0 := Lib.hid hi; have HZ0 := Lib.hid hz0; have HZ1 := Lib.hid hz1; have HZ2 := Lib.hid hz2
  clear hi hz0 hz1 hz2
  have hGl := HH.out.1
  go_enter Try.func76, Try.ntmps76
  go_wp2
  go_loop [3, 11] (fun s i => ∃ k : Nat, k ≤ ls.length ∧ i = .int .i64 (k : Int) ∧ s = .int .i64 ((flK ls k).length : Int)) (fun _ i => ls.length - (RowKit.intOf i).toNat)
  case atStart => exact ⟨0, Nat.zero_le _, rfl, rfl⟩
  case round =>
    obtain ⟨k, hk, rfl, rfl⟩ := hrel
    have hfk := flK_le ls k hk
    by_cases hlt : k < ls.length
    · obtain ⟨A, c, h1, h2⟩ := HH.out.2 k hlt
      have hf1 := flK_le ls (k + 1) (by omega)
      have HS : Hid ((flK ls (k + 1)).length = (flK ls k).length + ls[k].length) := Lib.hid (by rw [flK_succ hlt, List.length_append])
      rw [HS.out] at hf1
      clear h2
      generalize (flK ls k).length = q at *
      generalize ls[k].length = m at *
      go_wp2
      go_round
      case rel => exact ⟨k + 1, by omega, by go_num, by rw [HS.out]; simp⟩
      case measure => simp [RowKit.intOf]; omega
    · obtain rfl : k = ls.length := by omega
      have HFA := Lib.hid (flK_all ls)
      rw [HFA.out]
      obtain ⟨n, hnn⟩ : ∃ n, n = ls.flatten.length := ⟨_, rfl⟩
      rw [← hnn]
      have HNN := Lib.hid hnn
      have hn80 : n ≤ 80 := by omega
      have HGR : Hid (Calls Try.prog 84 #[.slice none 0 0, .int .i64 (n : Int)] w fun e w' => RowS w w' e []) := Lib.hid (by
        rcases Nat.eq_zero_or_pos n with h | h
        · subst h; exact growZ_any w
        · exact growS_any n w h hn80)
      clear hnn hfk
      go_wp2_with fail
      refine HGR.out.mono ?_
      rintro e w1 ⟨v, rfl, hb1, ho1⟩
      have HB1 := Lib.hid hb1; have HO1 := Lib.hid ho1
      clear hb1 ho1
      go_wp2
      go_loopw [6, 27] (fun v i wr => ∃ k : Nat, k ≤ ls.length ∧ i = .int .i64 (k : Int) ∧ wr.ownsRow w.heap.size 57 2 v (flK ls k).length (flatSl (flK ls k)) ∧ Below w.heap.size w wr) (fun _ i _ => ls.length - (RowKit.intOf i).toNat)
      case atStart => exact ⟨0, Nat.zero_le _, rfl, HO1.out, HB1.out⟩
      case round =>
        obtain ⟨k, hk, rfl, hv, hb⟩ := hrel
        by_cases hlt : k < ls.length
        · obtain ⟨A, c, h1, h2⟩ := (HH.out.next hb).2 k hlt
          have hf1 := flK_le ls (k + 1) (by omega)
          have HS : Hid (flK ls (k + 1) = flK ls k ++ ls[k]) := Lib.hid (flK_succ hlt)
          have HSL : Hid ((flK ls k).length + ls[k].length = (flK ls (k + 1)).length) := Lib.hid (by rw [HS.out, List.length_append])
          have hsl : (flK ls k).length + ls[k].length ≤ 80 := by rw [HSL.out]; have := HNN.out; omega
          have hmx : (flK ls k).length + ls[k].length ≤ maxLen := by unfold maxLen; omega
          have HV := Lib.hid hv; have HB := Lib.hid hb
          have HNW := Lib.hid (newsSl h2)
          have HFL : Hid ((flatSl ls[k]).length = ls[k].length * 2) := Lib.hid (by rw [flatSl_len]; omega)
          have HON := Lib.hid (flatSl_one ls[k])
          clear hv hb h2 hf1
          generalize hQ : ls[k] = Q at *
          generalize hR : flK ls k = R at *
          clear hQ hR
          go_wp2_with (at_builtin; refine wpList_append_own _ rfl _ _ 25 rfl w.heap.size 57 i0 (.agg #[.int .i64 0, .int .i64 0]) 2 16 Try.underlying25 HI0.out HZ0.out HZ1.out HZ2.out rfl (by decide) _ _ _ rfl HV.out A Q.length c (flatSl Q) rfl HFL.out HNW.out HON.out hmx (by omega) HB.out.size ?_)
          intro v' w4 hown' hgrow _
          have HB4 := Lib.hid (HB.out.grown hgrow HB.out.size (own_lt HV.out))
          have HO4 : Hid (w4.ownsRow w.heap.size 57 2 v' (flK ls (k + 1)).length (flatSl (flK ls (k + 1)))) := Lib.hid (by rw [← HSL.out, HS.out, flatSl_app]; exact hown')
          clear hown' hgrow
          go_wp2
          go_roundw
          case rel => exact ⟨k + 1, by omega, by go_num, HO4.out, HB4.out⟩
          case measure => simp [RowKit.intOf]; omega
        · obtain rfl : k = ls.length := by omega
          have HV := Lib.hid hv; have HB := Lib.hid hb
          clear hv hb
          go_wp2
          go_ret
          exact ⟨_, rfl, HB.out, by have h := HV.out; rw [HFA.out] at h; exact h⟩
/-- What the first k say is not great. -/
theorem mpF_bd {L : List Sl} (h : ∀ x ∈ L, -20 ≤ x.cnt ∧ x.cnt ≤ 20) : ∀ k, k ≤ L.length → ∀ a, -(20 * (k : Int)) ≤ (mpF L k a).getD 0 ∧ (mpF L k a).getD 0 ≤ 20 * (k : Int)
  | 0, _, a => by show (0 : Int) ≤ 0 ∧ (0 : Int) ≤ 0; omega
  | k + 1, hk, a => by
    have ih := mpF_bd h k (by omega)
    have hx := h L[k] (List.getElem_mem (by omega))
    rw [mpF_succ (by omega)]
    have h1 := ih L[k].len
    have h2 := ih a
    unfold upM
    split
    · show -(20 * ((k + 1 : Nat) : Int)) ≤ (mpF L k L[k].len).getD 0 + L[k].cnt ∧ (mpF L k L[k].len).getD 0 + L[k].cnt ≤ 20 * ((k + 1 : Nat) : Int)
      omega
    · omega
set_option maxRecDepth 100000 in
set_option maxHeartbeats 2000000 in
theorem piecesOfSlips_any (ls : List (List Sl)) (G d : Nat) (w : World) (hh : Hdrs w G ls) (hl : ls.length ≤ 8) (hn : ls.flatten.length ≤ 80) (hc : ∀ x ∈ ls.flatten, -20 ≤ x.cnt ∧ x.cnt ≤ 20) (hw : ∀ x ∈ ls.flatten, WF x.len) :
    Calls Try.prog 66 #[.slice (some ⟨G, 0, none⟩) ls.length d] w fun e w' => ∃ b, e = .returned (.map (some b)) ∧ Below w.heap.size w w' ∧ w.heap.size ≤ b ∧ IsMp w' b ls.flatten.length (fun a => asM (srt ls.flatten) a) := by
  have hal : Below w.heap.size w (w.alloc (.map #[] 0)) := (Below.refl _ _).alloc (Nat.le_refl _) _
  have hcc := concatS_any ls G d (w.alloc (.map #[] 0)) (hh.next hal) hl hn
  obtain ⟨L, hL⟩ : ∃ L, L = ls.flatten := ⟨_, rfl⟩
  rw [← hL] at hcc hn hc hw ⊢
  have HCC := Lib.hid hcc; have HC := Lib.hid hc; have HWF := Lib.hid hw
  have HM0 := Lib.hid (IsMp.made w)
  have HAL := Lib.hid hal
  clear hal hh hL hcc hc hw
  have hmm : ∀ w : World, (Instr.makeMap 76 none).run Try.prog w = .ok (.map (some w.heap.size)) (w.alloc (.map #[] 0)) := fun w => rfl
  go_enter Try.func66, Try.ntmps66
  go_wp2_with fail
  refine HCC.out.mono ?_
  rintro e w1 ⟨v, rfl, hb1, ho1⟩
  obtain ⟨B, cc, rfl, hni, hin⟩ := own_sl ho1
  have HIN : Hid (w1.ownsRow (w.heap.size + 1) 57 2 (.slice B L.length cc) L.length (flatSl L)) := Lib.hid (by have h := ho1; rw [World.size_alloc] at h; exact h)
  have HM1 := Lib.hid (HM0.out.next hb1)
  have HB1 := Lib.hid (HAL.out.trans (hb1.mono HAL.out.size))
  clear hb1 ho1 hni hin HM0 HAL HCC hmm
  go_wp2
  go_loopw [10] (fun i wr => ∃ k : Nat, k ≤ L.length ∧ i = .int .i64 (k : Int) ∧ IsMp wr w.heap.size k (mpF L k) ∧ wr.ownsRow (w.heap.size + 1) 57 2 (.slice B L.length cc) L.length (flatSl L) ∧ Below w.heap.size w wr) (fun i _ => L.length - (RowKit.intOf i).toNat)
  case atStart => exact ⟨0, Nat.zero_le _, rfl, HM1.out, HIN.out, HB1.out⟩
  case round =>
    obtain ⟨k, hk, rfl, hm, how, hb⟩ := hrel
    have hin := own_in_sl how
    by_cases hlt : k < L.length
    · obtain ⟨b, off, hA, hbl, hcl⟩ := hin (by omega)
      subst hA
      obtain ⟨hc0, hc1⟩ := hcl k hlt
      have hbd := mpF_bd HC.out k hk L[k].len
      have hcb := HC.out L[k] (List.getElem_mem hlt)
      have hwf := HWF.out L[k] (List.getElem_mem hlt)
      have HST : Hid (mpF L (k + 1) = upM (mpF L k) L[k].len ((mpF L k L[k].len).getD 0 + L[k].cnt)) := Lib.hid (mpF_succ hlt)
      obtain ⟨W0, hW0⟩ : ∃ W0 : World, W0 = wr.alloc (.cells #[.int .i64 L[k].len, .int .i64 L[k].cnt] 57) := ⟨_, rfl⟩
      have hal : Below wr.heap.size wr W0 := by rw [hW0]; exact (Below.refl _ _).alloc (Nat.le_refl _) _
      have s0 : W0.cell? ⟨wr.heap.size, 0, none⟩ = some (.int .i64 L[k].len) := by rw [hW0]; simp
      have s1 : W0.cell? ⟨wr.heap.size, 1, none⟩ = some (.int .i64 L[k].cnt) := by rw [hW0]; simp
      have HM2 := Lib.hid (hm.next hal)
      have HI2 := Lib.hid (own_below how hal)
      have HB2 := Lib.hid (hb.trans (hal.mono hb.size))
      have HLK := Lib.hid (HM2.out.look hwf)
      have HWK := Lib.hid hwf
      have HW0 := Lib.hid hW0
      have hnl := hm.lt
      clear hcl hal hW0 hm hin hb how
      generalize L[k].len = y at *
      generalize L[k].cnt = x at *
      generalize (mpF L k y).getD 0 = z at *
      clear hwf
      have hw0 := HW0.out
      rw [hw0] at HM2 HI2 HB2 HLK
      clear s0 s1 hw0 HW0
      have hlk := HLK.out
      have hzx : -9223372036854775808 ≤ z + x ∧ z + x ≤ 9223372036854775807 := by omega
      go_wp2_with (at_mapUpdate; refine wpList_put _ rfl _ _ _ rfl w.heap.size k (mpF L k) rfl HM2.out (by unfold maxLen; omega) y (z + x) rfl rfl HWK.out (wf_of hzx.1 hzx.2) ?_)
      intro w5 hm5 hg5
      have HM5 : Hid (IsMp w5 w.heap.size (k + 1) (mpF L (k + 1))) := Lib.hid (by rw [HST.out]; exact hm5)
      have HI5 := Lib.hid (own_grown HI2.out hg5 (fun q hq e => by have h1 := own_lt HI2.out q hq; have h2 := Option.some.inj e; omega))
      have HB5 := Lib.hid (HB2.out.grown hg5 HB2.out.size (fun q e => by cases e; exact Nat.le_refl _))
      clear hm5 hg5
      go_wp2
      go_roundw
      case rel => exact ⟨k + 1, by omega, by go_num, HM5.out, HI5.out, HB5.out⟩
      case measure => simp [RowKit.intOf]; omega
    · obtain rfl : k = L.length := by omega
      have HM5 : Hid (IsMp wr w.heap.size L.length (fun a => asM (srt L) a)) := Lib.hid (hm.cong (mpF_all L))
      have HB5 := Lib.hid hb
      clear hm hin hb how
      go_wp2
      go_ret
      exact ⟨_, rfl, HB5.out, Nat.le_refl _, HM5.out⟩
end Go.Proofs.Ytljakcfdjcjdbaa

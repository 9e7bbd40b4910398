/-
  Several rules one after the other: plain words, and the contract of spec.ruRules.
-/
import Derived.Test.YtljakcfdjcjdbaaRk
namespace Go.Proofs.Ytljakcfdjcjdbaa
open Go.RowKit
set_option linter.unusedVariables false

/-- The stock behind k rules, and number k's rule. -/
def chS (Z : Nat) (f : List Sl) (ls : List Int) : Nat → List Sl
  | 0 => f
  | k + 1 => nxtS Z (chS Z f ls k) (ls.getD k 0).toNat
def ruK (Z : Nat) (f : List Sl) (ls : List Int) (k : Nat) : List Int := ruL Z (chS Z f ls k) (ls.getD k 0).toNat
def OkS (Z : Nat) (f : List Sl) (ls : List Int) (k : Nat) : Prop := ∀ j, j < k → FW Z (chS Z f ls j) (ls.getD j 0).toNat < Z
theorem chS_len (Z : Nat) (f : List Sl) (ls : List Int) : ∀ k, (chS Z f ls k).length = f.length
  | 0 => rfl
  | k + 1 => by show (nxtS _ _ _).length = _; rw [nxtS_len, chS_len Z f ls k]
theorem chS_good {Z : Nat} {f : List Sl} (hG : GoodS f) {ls : List Int} : ∀ k, OkS Z f ls k → GoodS (chS Z f ls k)
  | 0, _ => hG
  | k + 1, h => nxtS_good (chS_good hG k (fun j hj => h j (by omega))) (h k (by omega))
theorem ruK_len (Z : Nat) (f : List Sl) (ls : List Int) (k : Nat) : (ruK Z f ls k).length = f.length := by unfold ruK; rw [ruL_len, chS_len]
open Classical in
noncomputable def okB (Z : Nat) (f : List Sl) (ls : List Int) : Bool := decide (OkS Z f ls ls.length)
theorem okB_iff {Z : Nat} {f : List Sl} {ls : List Int} : okB Z f ls = true ↔ OkS Z f ls ls.length := by unfold okB; exact @decide_eq_true_iff _ (Classical.propDecidable _)
theorem okB_no {Z : Nat} {f : List Sl} {ls : List Int} {k : Nat} (hk : k < ls.length) (h : ¬ FW Z (chS Z f ls k) (ls.getD k 0).toNat < Z) : okB Z f ls = false := by
  cases hb : okB Z f ls with
  | false => rfl
  | true => exact absurd (okB_iff.1 hb k hk) h
def RsTo (Z : Nat) (f : List Sl) (ls : List Int) (w w' : World) (e : Ending) : Prop :=
  (okB Z f ls = false ∧ e = .returned (.tuple #[.slice none 0 0, .bool false]) ∧ Below w.heap.size w w') ∨
  (okB Z f ls = true ∧ ∃ v vs, e = .returned (.tuple #[v, .bool true]) ∧ Below w.heap.size w w' ∧ vs.length = ls.length ∧ w'.ownsRow w.heap.size 31 1 v ls.length vs ∧ TabsAt w' w.heap.size vs f.length (fun i j => (ruK Z f ls i).getD j 0))
set_option maxRecDepth 100000 in
set_option maxHeartbeats 2000000 in
theorem ruRules_any (f : List Sl) (A : Addr) (c : Nat) (ls : List Int) (B : Option Addr) (d : Nat) (w : World) (hf : SlsIn w (some A) f) (hgs : GoodS f) (hl : IntsIn w B ls) (hls : LenB ls) :
    Calls Try.prog 64 #[.slice (some A) f.length c, .slice B ls.length d] w fun e w' => RsTo 1048576 f ls w w' e := by
  have HF := Lib.hid hf; have HG := Lib.hid hgs; have HL := Lib.hid hl; have HLB := Lib.hid hls
  clear hf hgs hl hls
  obtain ⟨i1, hi, hz0, hz1, hz2⟩ := info_parts info_sl
  have HI1 := Lib.hid hi; have HY0 := Lib.hid hz0; have HY1 := Lib.hid hz1; have HY2 := Lib.hid hz2
  clear hi hz0 hz1 hz2
  have h6 := HLB.out.1
  have hn8 := HG.out.eight
  go_enter Try.func64, Try.ntmps64
  go_wp2
  go_loopw [0, 6, 13] (fun lv v i wr => ∃ (k : Nat) (vs : List Value) (A' : Addr) (c' : Nat), k ≤ ls.length ∧ i = .int .i64 (k : Int) ∧ lv = .slice (some A') f.length c' ∧ SlsIn wr (some A') (chS 1048576 f ls k) ∧ OkS 1048576 f ls k ∧ vs.length = k ∧ wr.ownsRow w.heap.size 31 1 v k vs ∧ TabsAt wr w.heap.size vs f.length (fun i j => (ruK 1048576 f ls i).getD j 0) ∧ Below w.heap.size w wr ∧ ∀ q, v.ownBlock = some q → q ≠ A'.block) (fun _ _ i _ => ls.length - (RowKit.intOf i).toNat)
  case atStart => exact ⟨0, [], A, c, Nat.zero_le _, rfl, rfl, HF.out, fun j hj => by omega, rfl, own_nil _ _ _ _, fun i hi => by simp at hi, Below.refl _ _, fun q e => by cases e⟩
  case round =>
    obtain ⟨k, vs, A', c', hk, rfl, rfl, hs, hok, hvl, hv, ht, hb, hap⟩ := hrel
    have HS := Lib.hid hs; have HOK := Lib.hid hok; have HVL := Lib.hid hvl; have HV := Lib.hid hv; have HT := Lib.hid ht; have HB := Lib.hid hb; have HAP := Lib.hid hap
    clear hs hok hvl hv ht hb hap
    by_cases hlt : k < ls.length
    · obtain ⟨b, off, rfl, hbl, hcl⟩ := HL.out (by omega)
      have hc0 := (HB.out.cell (p := ⟨b, off + k, none⟩) hbl).trans (hcl k hlt)
      clear hcl
      have hlk := HLB.out.2 k hlt
      have hgd : ls.getD k 0 = ls[k] := getI hlt
      obtain ⟨n, hn⟩ : ∃ n : Nat, ls[k] = (n : Int) := ⟨ls[k].toNat, by omega⟩
      rw [hn] at hlk hc0
      have hgn : (ls.getD k 0).toNat = n := by rw [hgd, hn]; rfl
      have HGK := Lib.hid (chS_good HG.out k HOK.out)
      have hcl := chS_len 1048576 f ls k
      have HRR : Hid (∀ W, SlsIn W (some A') (chS 1048576 f ls k) → Calls Try.prog 53 #[.slice (some A') f.length c', .int .i64 (n : Int)] W fun e w' => RuTo W w' e (ruV 1048576 (chS 1048576 f ls k) n) (ruB 1048576 (chS 1048576 f ls k) n)) := Lib.hid (fun W h => by
        have h := ruRule_any (chS 1048576 f ls k) (some A') c' n W h HGK.out (by omega) (by omega)
        rw [hcl] at h; exact h)
      have HGN := Lib.hid hgn; have HCL := Lib.hid hcl
      clear hgd hgn hcl hn
      go_wp2_with fail
      refine (HRR.out _ HS.out).mono ?_
      rintro e w2 ⟨v2, rfl, hb2, ho2⟩
      by_cases hfw : FW 1048576 (chS 1048576 f ls k) n < 1048576
      rotate_left
      · have HN := Lib.hid (okB_no (Z := 1048576) (f := f) hlt (by rw [HGN.out]; exact hfw))
        obtain ⟨e1, e2⟩ := ru_no hfw
        rw [e2]
        have HB2 := Lib.hid (HB.out.trans (hb2.mono HB.out.size))
        clear hfw e1 e2 ho2 hb2 hc0
        go_wp2
        go_ret2
        exact .inl ⟨HN.out, rfl, HB2.out⟩
      obtain ⟨e1, e2⟩ := ru_yes hfw
      rw [e2]
      rw [e1] at ho2
      have HOK2 : Hid (OkS 1048576 f ls (k + 1)) := Lib.hid (fun j hj => by
        rcases Nat.lt_or_ge j k with h | h
        · exact HOK.out j h
        · obtain rfl : j = k := by omega
          rw [HGN.out]; exact hfw)
      have HRK : Hid (ruL 1048576 (chS 1048576 f ls k) n = ruK 1048576 f ls k) := Lib.hid (by unfold ruK; rw [HGN.out])
      rw [HRK.out] at ho2
      have hfl : 0 < f.length := by
        rcases Nat.eq_zero_or_pos f.length with h | h
        · have e := List.eq_nil_of_length_eq_zero (show (chS 1048576 f ls k).length = 0 by rw [HCL.out]; exact h)
          rw [e, FW_nil, if_neg (by omega)] at hfw; omega
        · exact h
      have hrl := ruK_len 1048576 f ls k
      obtain ⟨g2, cap2, rfl, hg2, hcap2, htc⟩ := own_tc ho2 (by rw [hrl]; exact hfl)
      rw [hrl] at hcap2 htc
      rw [hrl]
      have HB2 := Lib.hid (HB.out.trans (hb2.mono HB.out.size))
      have HV2 := Lib.hid (own_below HV.out hb2)
      have HT2 := Lib.hid (HT.out.next hb2)
      have HS2 := Lib.hid (HS.out.below hb2 (Nat.le_refl _))
      have HTC := Lib.hid htc
      have hg2b : w.heap.size ≤ g2 := by have := HB.out.size; omega
      have HRN : Hid (∀ j (hj : j < (ruK 1048576 f ls k).length), 0 ≤ (ruK 1048576 f ls k)[j] ∧ ∀ h : j < (chS 1048576 f ls k).length, (ruK 1048576 f ls k)[j] ≤ (chS 1048576 f ls k)[j].cnt) := Lib.hid (fun j hj => by
        have hj' : j < (chS 1048576 f ls k).length := by rw [HCL.out, ← hrl]; exact hj
        have h := ruC_bd HGK.out hfw hj'
        have e : (ruK 1048576 f ls k)[j] = ruC 1048576 (chS 1048576 f ls k) n j := by
          simp only [← HRK.out, ruL_get]
        rw [e]; exact ⟨h.1, fun _ => h.2⟩)
      have hws := HB2.out.size
      have hmx : k + 1 ≤ maxLen := by unfold maxLen; omega
      clear hb2 ho2 htc hc0 e1 e2
      go_wp2_with (at_builtin; refine wpList_append_own_at _ rfl _ _ 45 rfl w.heap.size 31 i1 (.slice none 0 0) 1 24 Try.underlying45 HI1.out HY0.out HY1.out HY2.out rfl (by decide) _ _ _ rfl (HV2.out.alloc _) ⟨w2.heap.size, 0, none⟩ 1 1 [.slice (some ⟨g2, 0, none⟩) f.length cap2] rfl rfl (cell_one_new _ _ _) (by simp [Value.oneCell']) hmx (by omega) (by first | (simp; done) | (simp; omega) | omega) ?_)
      intro v' w5 hown' hgrow _ hat
      have hal : Below w2.heap.size w2 (w2.alloc (.cells #[.slice (some ⟨g2, 0, none⟩) f.length cap2] 31)) := (Below.refl _ _).alloc (Nat.le_refl _) _
      have HB5 := Lib.hid ((HB2.out.alloc HB2.out.size (.cells #[.slice (some ⟨g2, 0, none⟩) f.length cap2] 31)).grown hgrow (by simp; omega) (own_lt HV2.out))
      have HT5 : Hid (TabsAt w5 w.heap.size (vs ++ [.slice (some ⟨g2, 0, none⟩) f.length cap2]) f.length (fun i j => (ruK 1048576 f ls i).getD j 0)) := Lib.hid
        (((HT2.out.snoc hg2b hcap2 (by rw [HVL.out]; exact HTC.out)).next hal).grown (HV2.out.alloc _) hgrow)
      have HO5 : Hid (w5.ownsRow w.heap.size 31 1 v' (k + 1) (vs ++ [.slice (some ⟨g2, 0, none⟩) f.length cap2])) := Lib.hid hown'
      have HV5 : Hid ((vs ++ [Value.slice (some ⟨g2, 0, none⟩) f.length cap2]).length = k + 1) := Lib.hid (by rw [List.length_append, HVL.out]; rfl)
      have HS5 : Hid (SlsIn w5 (some A') (chS 1048576 f ls k)) := Lib.hid (fun h0 => by
        obtain ⟨b0, off0, hA, hbl0, hcl0⟩ := (HS2.out.below hal (Nat.le_refl _)) h0
        have hA' := Option.some.inj hA
        refine ⟨b0, off0, hA, Nat.lt_of_lt_of_le hbl0 hgrow.size, fun j hj => ?_⟩
        have e := hgrow.block b0 hbl0 (fun e => HAP.out b0 e.symm (by rw [hA']))
        have hc := hcl0 j hj
        simp only [World.cell?, e] at hc ⊢
        exact hc)
      have HTC5 : Hid (Tc w5 g2 3 f.length (fun j => .int .i64 ((ruK 1048576 f ls k).getD j 0))) := Lib.hid (by
        have h4 := HTC.out.next hal
        refine h4.grown hgrow (fun e => ?_)
        obtain ⟨cs, h5, _⟩ := h4
        obtain ⟨cur, h6⟩ := row_cells (HV2.out.alloc _) e.symm h5
        simp at h6)
      have HI5 : Hid (IntsIn w5 (some ⟨g2, 0, none⟩) (ruK 1048576 f ls k)) := Lib.hid (fun _ => ⟨g2, 0, rfl, HTC5.out.lt, fun j hj => by
        rw [Nat.zero_add, HTC5.out.cell (by rw [← hrl]; exact hj), getI hj]⟩)
      have HGC : Hid (GoodC (chS 1048576 f ls k) (ruK 1048576 f ls k)) := Lib.hid ⟨HGK.out, by rw [hrl, HCL.out], fun j hj hf _ => ⟨(HRN.out j hj).1, (HRN.out j hj).2 hf⟩⟩
      have HRS : Hid (Calls Try.prog 56 #[.slice (some A') f.length c', .slice (some ⟨g2, 0, none⟩) f.length cap2] w5 fun e w' => SlTo w5 w' e (chS 1048576 f ls (k + 1))) := Lib.hid (by
        have h := ruRest_any (chS 1048576 f ls k) A' c' (ruK 1048576 f ls k) (some ⟨g2, 0, none⟩) cap2 w5 HS5.out HI5.out HGC.out
        rw [HCL.out, hrl] at h
        have e : restK (chS 1048576 f ls k) (ruK 1048576 f ls k) f.length = chS 1048576 f ls (k + 1) := by
          show _ = nxtS _ _ _
          unfold nxtS ruK
          rw [HCL.out]
        rw [e] at h; exact h)
      have HOB := Lib.hid (own_bound hown')
      clear hown' hgrow hat hal hfw hrl
      go_wp2_with fail
      refine HRS.out.mono ?_
      rintro e w6 ⟨g3, cap3, rfl, hb6, hg3, hm6, h61, h62⟩
      have hl3 := chS_len 1048576 f ls (k + 1)
      have HB6 := Lib.hid (HB5.out.trans (hb6.mono HB5.out.size))
      have HT6 := Lib.hid (HT5.out.next hb6)
      have HO6 := Lib.hid (own_below HO5.out hb6)
      have HS6 := Lib.hid hm6.sls
      have HAP6 : Hid (∀ q, v'.ownBlock = some q → q ≠ (⟨g3, 0, none⟩ : Addr).block) := Lib.hid (fun q e => by have := HOB.out q e; show q ≠ g3; omega)
      rw [hl3]
      clear hb6 hm6 hl3
      go_wp2
      go_roundw
      case rel => exact ⟨k + 1, _, ⟨g3, 0, none⟩, cap3, by omega, by go_num, rfl, HS6.out, HOK2.out, HV5.out, HO6.out, HT6.out, HB6.out, HAP6.out⟩
      case measure => simp [RowKit.intOf]; omega
    · obtain rfl : k = ls.length := by omega
      have HN := Lib.hid (okB_iff.2 HOK.out)
      go_wp2
      go_ret2
      exact .inr ⟨HN.out, _, _, rfl, HB.out, HVL.out, HV.out, HT.out⟩
end Go.Proofs.Ytljakcfdjcjdbaa

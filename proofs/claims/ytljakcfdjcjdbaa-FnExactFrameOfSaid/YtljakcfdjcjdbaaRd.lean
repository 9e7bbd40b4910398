/-
  The contract of impl.slipPieces.fewestForLengths.
-/
import Derived.Test.YtljakcfdjcjdbaaRc
import Derived.Test.YtljakcfdjcjdbaaRa
import Derived.Test.YtljakcfdjcjdbaaQd
namespace Go.Proofs.Ytljakcfdjcjdbaa
open Go.RowKit
set_option linter.unusedVariables false

/-- Row k + 1, written up to s. -/
def mixF (Z : Nat) (P : List Sl) (k s j : Nat) : Int := if j < s then fwI Z P (k + 1) j else fwI Z P k j
theorem mixF_zero (Z : Nat) (P : List Sl) (k j : Nat) : mixF Z P k 0 j = fwI Z P k j := by unfold mixF; rw [if_neg (by omega)]
theorem rep_start (P : List Sl) (M : Nat) {j : Nat} (hj : j < M) : (if j = 0 then Value.int .i64 0 else repR M j) = .int .i64 (fwI 401 P 0 j) := by
  unfold fwI repR
  rw [List.take_zero, FW_nil]
  by_cases h : j = 0
  · rw [if_pos h, if_pos h]; rfl
  · rw [if_neg h, if_neg h, if_pos hj]; rfl
theorem tb_tc {w : World} {b n : Nat} {t : TypeId} {f : Nat → Value} (h : Tb w b t n f) : Tc w b t n f := by
  obtain ⟨cs, h1, h2, h3⟩ := h; exact ⟨cs, h1, by omega, h3⟩
theorem tc_other {w : World} {b n : Nat} {t : TypeId} {f : Nat → Value} (h : Tc w b t n f) {c i : Nat} (v : Value) (hc : b ≠ c) : Tc (w.setCell ⟨c, i, none⟩ v) b t n f := by
  obtain ⟨cs, h1, h2⟩ := h; exact ⟨cs, (Below.heap_setCell w ⟨c, i, none⟩ v b hc).trans h1, h2⟩
theorem accS_one (Z : Nat) {g : Nat → Nat} (L n : Nat) (h : g n ≤ Z) : accS Z g L n 1 = g n := by
  show min Z (g (n - 0 * L) + 0) = _
  rw [Nat.zero_mul, Nat.sub_zero]; omega
set_option maxRecDepth 100000 in
set_option maxHeartbeats 4000000 in
theorem fewest_any (P : List Sl) (b NM : Nat) (A : Option Addr) (ck n : Nat) (w : World) (hm : IsMp w b NM (fun a => asM P a)) (hk : IntsIn w A (lensK P)) (hg : GoodS P) (h1 : 1 ≤ n) (hN : n ≤ 400) :
    Calls Try.prog 79 #[.map (some b), .slice A P.length ck, .int .i64 (n : Int)] w fun e w' => ∃ G cap, e = .returned (.slice (some ⟨G, 0, none⟩) (P.length + 1) cap) ∧ P.length + 1 ≤ cap ∧ Below w.heap.size w w' ∧ TabO w' w.heap.size G (P.length + 1) (n + 1) (fwI 401 P) := by
  have HM := Lib.hid hm; have HK := Lib.hid hk; have HG := Lib.hid hg
  clear hm hk hg
  obtain ⟨i1, hi, hz0, hz1, hz2⟩ := info_parts info_sl
  have HI1 := Lib.hid hi; have HY0 := Lib.hid hz0; have HY1 := Lib.hid hz1; have HY2 := Lib.hid hz2
  clear hi hz0 hz1 hz2
  have hn8 := HG.out.eight
  have hKL : (lensK P).length = P.length := lensK_len P
  have HKL := Lib.hid hKL; clear hKL
  obtain ⟨w0, hw0⟩ : ∃ x : World, x = w.alloc (.cells #[.int .i64 401] 3) := ⟨_, rfl⟩
  have HB0 : Hid (Below w.heap.size w w0) := Lib.hid (by rw [hw0]; exact (Below.refl _ _).alloc (Nat.le_refl _) _)
  have HC0 : Hid (w0.cell? ⟨w.heap.size, 0, none⟩ = some (.int .i64 401)) := Lib.hid (by rw [hw0]; simp)
  have HZ0 : Hid (w.heap.size < w0.heap.size) := Lib.hid (by rw [hw0]; simp)
  have HW0 := Lib.hid hw0; clear hw0
  have hrp := repeatR_any w.heap.size (n + 1) (by omega) w0 HC0.out HZ0.out
  rw [show ((n + 1 : Nat) : Int) = (n : Int) + 1 from by omega] at hrp
  have HRP := Lib.hid hrp; clear hrp
  go_enter Try.func79, Try.ntmps79
  go_wp2_with fail
  rw [← HW0.out]
  refine HRP.out.mono ?_
  rintro e w1 ⟨rfl, hb1, ht1⟩
  have hlo : w.heap.size ≤ w0.heap.size := HB0.out.size
  have HB1 := Lib.hid (HB0.out.trans (hb1.mono HB0.out.size))
  have e0 := ht1.cell (j := 0) (by omega)
  have f0 := ht1.free 0
  have hgl := ht1.lt
  have HT := Lib.hid (((tb_tc ht1).set 0 (.int .i64 0)).cong (fun j hj => rep_start P (n + 1) hj))
  have HBS := Lib.hid (HB1.out.setCell (p := ⟨w0.heap.size, 0, none⟩) hlo (.int .i64 0))
  have hx2 : (0 : Int) < ((n + 1 : Nat) : Int) := by omega
  clear ht1 hb1
  obtain ⟨w2, hw2⟩ : ∃ x : World, x = (w1.setCell ⟨w0.heap.size, 0, none⟩ (.int .i64 0)).alloc (.cells #[.slice (some ⟨w0.heap.size, 0, none⟩) (n + 1) (n + 1)] 31) := ⟨_, rfl⟩
  have hsz2 : (w1.setCell ⟨w0.heap.size, 0, none⟩ (.int .i64 0)).heap.size = w1.heap.size := by simp
  have HB2 : Hid (Below w.heap.size w w2) := Lib.hid (by rw [hw2]; exact HBS.out.alloc HBS.out.size _)
  have HO2 : Hid (w2.ownsRow w.heap.size 31 1 (.slice (some ⟨w1.heap.size, 0, none⟩) 1 1) 1 [.slice (some ⟨w0.heap.size, 0, none⟩) (n + 1) (n + 1)]) := Lib.hid (by
    have h := own_one (base := w.heap.size) (heap_new (w1.setCell ⟨w0.heap.size, 0, none⟩ (.int .i64 0)) (.cells #[.slice (some ⟨w0.heap.size, 0, none⟩) (n + 1) (n + 1)] 31)) HBS.out.size
    rw [hsz2, ← hw2] at h; exact h)
  have HT2 : Hid (TabsAt w2 w.heap.size [.slice (some ⟨w0.heap.size, 0, none⟩) (n + 1) (n + 1)] (n + 1) (fwI 401 P)) := Lib.hid (fun i hi => by
    obtain rfl : i = 0 := by simpa using hi
    exact ⟨w0.heap.size, n + 1, rfl, hlo, Nat.le_refl _, by rw [hw2]; exact HT.out.next ((Below.refl _ _).alloc (Nat.le_refl _) _)⟩)
  have HW2 := Lib.hid hw2
  clear hw2 HT HBS hsz2
  generalize hwx : w1 = wx at *
  clear hwx
  go_wp2
  rw [← HW2.out]
  clear e0 f0 hgl
  go_loopw [8, 24] (fun v i wr => ∃ (k : Nat) (vs : List Value), k ≤ P.length ∧ i = .int .i64 (k : Int) ∧ vs.length = k + 1 ∧ wr.ownsRow w.heap.size 31 1 v (k + 1) vs ∧ TabsAt wr w.heap.size vs (n + 1) (fwI 401 P) ∧ Below w.heap.size w wr) (fun _ i _ => P.length - (RowKit.intOf i).toNat)
  case atStart => exact ⟨0, _, Nat.zero_le _, rfl, rfl, HO2.out, HT2.out, HB2.out⟩
  case round =>
    obtain ⟨k, vs, hk, rfl, hvl, hv, ht, hb⟩ := hrel
    obtain ⟨G, capG, rfl, hcg, hO⟩ := tabs_o hv ht (by omega)
    have HVL := Lib.hid hvl; have HV := Lib.hid hv; have HTT := Lib.hid ht; have HBB := Lib.hid hb
    have HOO := Lib.hid hO
    clear hvl hv ht hb hO
    by_cases hlt : k < P.length
    · obtain ⟨kb, koff, rfl, hbl, hc⟩ := HK.out (by rw [HKL.out]; omega)
      have hc0 := hc k (by rw [HKL.out]; exact hlt)
      clear hc
      rw [← HBB.out.cell (p := ⟨kb, koff + k, none⟩) hbl] at hc0
      have hbd := HG.out.bd hlt
      have HE : Hid ((lensK P)[k]'(by rw [HKL.out]; exact hlt) = P[k].len) := Lib.hid (by simp [lensK])
      rw [HE.out] at hc0
      obtain ⟨L, hL⟩ : ∃ L : Nat, P[k].len = (L : Int) := ⟨P[k].len.toNat, by omega⟩
      obtain ⟨C, hC⟩ : ∃ C : Nat, P[k].cnt = (C : Int) := ⟨P[k].cnt.toNat, by omega⟩
      have HFS : Hid (∀ s, FW 401 (P.take (k + 1)) s = accS 401 (FW 401 (P.take k)) L s (rds P[k] s)) := Lib.hid (fun s => by
        rw [FW_succ _ hlt, show lnN P[k] = L from by unfold lnN; omega])
      have HRD : Hid (∀ s c, c < rds P[k] s ↔ c ≤ C ∧ c * L ≤ s) := Lib.hid (fun s c => by
        have e1 : lnN P[k] = L := by unfold lnN; omega
        have e2 : ctN P[k] = C := by unfold ctN; omega
        rw [rds_iff (by omega), e1, e2])
      have HR20 : Hid (∀ s, 1 ≤ rds P[k] s ∧ rds P[k] s ≤ 21) := Lib.hid (fun s => by
        unfold rds
        have : min (ctN P[k]) (s / lnN P[k]) ≤ ctN P[k] := Nat.min_le_left _ _
        have e2 : ctN P[k] = C := by unfold ctN; omega
        exact ⟨Nat.le_add_left _ _, by omega⟩)
      have hwf : WF P[k].len := wf_of (by omega) (by omega)
      have HLK : Hid (∀ W, Below w.heap.size w W → (Instr.lookup 76 (.map (some b)) (.int .i64 (L : Int)) false).run Try.prog W = .ok (.int .i64 (C : Int)) W) := Lib.hid (fun W hW => by
        have h := (HM.out.next hW).look hwf
        rw [asM_mem HG.out.risen (List.getElem_mem hlt)] at h
        rw [← hL, ← hC]; exact h)
      rw [hL] at hc0
      rw [hL, hC] at hbd
      generalize hrd : rds P[k] = rd at *
      clear hrd hL hC HE hwf
      obtain ⟨g1, c1, a1, a2, a3, a4⟩ := HOO.out.2.2 k (by omega)
      have HA4 := Lib.hid a4
      have hCL := fun W (hW : Tc W g1 3 (n + 1) (fun j => .int .i64 (fwI 401 P k j))) => cloneI_any g1 (n + 1) c1 (fwI 401 P k) W hW (by omega) (by omega)
      have HCL := Lib.hid (hCL wr a4)
      have hkk : (k : Int) < ((k + 1 : Nat) : Int) := by omega
      have hk0 : (0 : Int) ≤ (k : Int) := by omega
      have hkP : (k : Int) < (P.length : Int) := by omega
      clear hCL a4
      go_wp2_with fail
      refine HCL.out.mono ?_
      rintro e w3 ⟨g2, cap2, rfl, hcap2, hg2, hb3, ht3⟩
      have HA1 := Lib.hid a1
      have HGW : Hid (G < wr.heap.size ∧ g1 < wr.heap.size) := Lib.hid ⟨HOO.out.2.1, HA4.out.lt⟩
      have HT3 : Hid (Tc w3 g2 3 (n + 1) (fun j => .int .i64 (mixF 401 P k 0 j))) := Lib.hid (ht3.cong (fun j hj => by rw [mixF_zero]))
      have HB3 := Lib.hid hb3
      have hgne : g1 ≠ g2 := by have := HGW.out; omega
      have hGne : G ≠ g2 := by have := HGW.out; omega
      clear hb3 ht3 HCL a1 hc0
      generalize hwy : wr = wy at *
      clear hwy
      go_wp2
      go_loopw [36] (fun i wr => ∃ s : Nat, s ≤ n + 1 ∧ i = .int .i64 (s : Int) ∧ Tc wr g2 3 (n + 1) (fun j => .int .i64 (mixF 401 P k s j)) ∧ Below wy.heap.size wy wr) (fun i _ => n + 1 - (RowKit.intOf i).toNat)
      case atStart => exact ⟨0, Nat.zero_le _, rfl, HT3.out, HB3.out⟩
      case round =>
        obtain ⟨s, hs, rfl, hts, hbs⟩ := hrel
        by_cases hln : s < n + 1
        · have hsn : (s : Int) < (n : Int) + 1 := by omega
          have HTS : Hid (Tc wr g2 3 (n + 1) (fun j => if j = s then .int .i64 ((accS 401 (FW 401 (P.take k)) L s 1 : Nat) : Int) else .int .i64 (mixF 401 P k s j))) := Lib.hid (hts.cong (fun j hj => by
            by_cases e : j = s
            · rw [if_pos e, e, accS_one _ _ _ (FW_le _ _ _)]
              unfold mixF
              rw [if_neg (by omega)]; rfl
            · rw [if_neg e]))
          have HBS := Lib.hid hbs
          have hr1 := (HR20.out s).1
          clear hts hbs
          go_wp2
          go_loopw [13] (fun q wr => ∃ c : Nat, 1 ≤ c ∧ c ≤ rd s ∧ q = .int .i64 (c : Int) ∧ Tc wr g2 3 (n + 1) (fun j => if j = s then .int .i64 ((accS 401 (FW 401 (P.take k)) L s c : Nat) : Int) else .int .i64 (mixF 401 P k s j)) ∧ Below wy.heap.size wy wr) (fun q _ => 30 - (RowKit.intOf q).toNat)
          case atStart => exact ⟨1, Nat.le_refl _, hr1, rfl, HTS.out, HBS.out⟩
          case round =>
            obtain ⟨c, hc1, hcr, rfl, htc, hbc⟩ := hrel
            have hr21 := (HR20.out s).2
            have hbw := HBB.out.trans (hbc.mono HBB.out.size)
            have hlk := HLK.out wr hbw
            obtain ⟨p, hp⟩ : ∃ p : Nat, (c : Int) * (L : Int) = (p : Int) := ⟨c * L, by rw [Int.natCast_mul]⟩
            have HP : Hid (p = c * L) := Lib.hid (by rw [← Int.natCast_mul] at hp; omega)
            have hp4 : (p : Int) ≤ 4200 := by
              have := HP.out
              have : c * L ≤ 21 * 200 := Nat.mul_le_mul (by omega) (by omega)
              omega
            have hc21 : (c : Int) ≤ 21 := by omega
            have HRN := Lib.hid (HRD.out s c)
            by_cases hcc : c < rd s
            · have h1 := HRN.out.1 hcc
              have h2 : p ≤ s := by rw [HP.out]; exact h1.2
              have q1 : (c : Int) ≤ (C : Int) := by omega
              have q2 : (p : Int) ≤ (s : Int) := by omega
              obtain ⟨d, hd⟩ : ∃ d, d = s - p := ⟨_, rfl⟩
              have hix : (s : Int) - (p : Int) = (d : Int) := by omega
              have hdM : (d : Int) < (n : Int) + 1 := by omega
              have hd0 : (0 : Int) ≤ (d : Int) := by omega
              have hs0 : (0 : Int) ≤ (s : Int) := by omega
              have x1 := (hbc.cell (p := ⟨G, k, none⟩) HGW.out.1).trans HA1.out
              have x2 := ((HA4.out.next hbc).cell (j := d) (by omega))
              have hfe : fwI 401 P k d = (FW 401 (P.take k) d : Int) := rfl
              rw [hfe] at x2
              have x3 := htc.cell (j := s) (by omega)
              rw [if_pos rfl] at x3
              have x4 := htc.free s
              have hgl := htc.lt
              have hle := FW_le 401 (P.take k) d
              have hac := accS_le 401 (FW 401 (P.take k)) L s c
              have HAC : Hid (accS 401 (FW 401 (P.take k)) L s (c + 1) = min (accS 401 (FW 401 (P.take k)) L s c) (FW 401 (P.take k) d + c)) := Lib.hid (by rw [hd, HP.out]; rfl)
              have HTC := Lib.hid htc; have HBC := Lib.hid hbc
              clear hfe hd h1 h2 htc hbc hbw hp4
              generalize accS 401 (FW 401 (P.take k)) L s c = ac at *
              generalize FW 401 (P.take k) d = fd at *
              have hmi : min (ac : Int) ((fd : Int) + (c : Int)) = ((min ac (fd + c) : Nat) : Int) := by omega
              have HN : Hid (Tc ((wr.setCell ⟨g2, s, none⟩ (.int .i64 (min (ac : Int) ((fd : Int) + (c : Int))))).drew) g2 3 (n + 1) (fun j => if j = s then .int .i64 ((accS 401 (FW 401 (P.take k)) L s (c + 1) : Nat) : Int) else .int .i64 (mixF 401 P k s j))) := Lib.hid (by
                have h := (HTC.out.set s (.int .i64 (min (ac : Int) ((fd : Int) + (c : Int))))).next ((Below.refl _ _).drew)
                refine h.cong (fun j hj => ?_)
                by_cases e : j = s
                · rw [if_pos e, if_pos e, HAC.out, hmi]
                · rw [if_neg e, if_neg e, if_neg e])
              have HBN := Lib.hid ((HBC.out.setCell (p := ⟨g2, s, none⟩) hg2 (.int .i64 (min (ac : Int) ((fd : Int) + (c : Int))))).drew)
              clear hmi HTC HBC
              go_wp2_with fail
              go_region
              clear x1 x2 x3 x4 hlk
              go_wp2
              go_roundw
              case rel => exact ⟨c + 1, by omega, by omega, by go_num, HN.out, HBN.out⟩
              case measure => simp [RowKit.intOf]; omega
            · have hce : c = rd s := by omega
              have hno : ¬ (c ≤ C ∧ p ≤ s) := by rw [HP.out]; exact fun h => hcc (HRN.out.2 h)
              have HTC : Hid (Tc wr g2 3 (n + 1) (fun j => .int .i64 (mixF 401 P k (s + 1) j))) := Lib.hid (htc.cong (fun j hj => by
                by_cases e : j = s
                · rw [if_pos e, e, hce, ← HFS.out]
                  unfold mixF
                  rw [if_pos (by omega)]; rfl
                · rw [if_neg e]
                  unfold mixF
                  by_cases e2 : j < s
                  · rw [if_pos e2, if_pos (by omega)]
                  · rw [if_neg e2, if_neg (by omega)]))
              have HBC := Lib.hid hbc
              clear htc hbc hbw hce HP
              rcases (by omega : ¬ (c : Int) ≤ (C : Int) ∨ ((c : Int) ≤ (C : Int) ∧ ¬ (p : Int) ≤ (s : Int))) with q1 | ⟨q1, q2⟩
              all_goals
                go_wp2
                go_roundw
                case rel => exact ⟨s + 1, by omega, by go_num, HTC.out, HBC.out⟩
                case measure => simp [RowKit.intOf]; omega
        · obtain rfl : s = n + 1 := by omega
          have HTC : Hid (Tc wr g2 3 (n + 1) (fun j => .int .i64 (fwI 401 P (k + 1) j))) := Lib.hid (hts.cong (fun j hj => by unfold mixF; rw [if_pos hj]))
          have HVW := Lib.hid (own_below HV.out hbs)
          have HTW := Lib.hid (HTT.out.next hbs)
          have HBW := Lib.hid (HBB.out.trans (hbs.mono HBB.out.size))
          have hg2b : w.heap.size ≤ g2 := by have := HBB.out.size; omega
          have hsn : ¬ ((n + 1 : Nat) : Int) < (n : Int) + 1 := by omega
          have hws := HBW.out.size
          have hmx : k + 1 + 1 ≤ maxLen := by unfold maxLen; omega
          clear hts hbs
          go_wp2_with (at_builtin; refine wpList_append_own_at _ rfl _ _ 45 rfl w.heap.size 31 i1 (.slice none 0 0) 1 24 Try.underlying45 HI1.out HY0.out HY1.out HY2.out rfl (by decide) _ _ _ rfl (HVW.out.alloc _) ⟨wr.heap.size, 0, none⟩ 1 1 [.slice (some ⟨g2, 0, none⟩) (n + 1) cap2] rfl rfl (cell_one_new _ _ _) (by simp [Value.oneCell']) hmx (by omega) (by first | (simp; done) | (simp; omega) | omega) ?_)
          intro v' w5 hown' hgrow _ hat
          have HB5 := Lib.hid ((HBW.out.alloc HBW.out.size (.cells #[.slice (some ⟨g2, 0, none⟩) (n + 1) cap2] 31)).grown hgrow (by simp; omega) (own_lt HVW.out))
          have HT5 : Hid (TabsAt w5 w.heap.size (vs ++ [.slice (some ⟨g2, 0, none⟩) (n + 1) cap2]) (n + 1) (fwI 401 P)) := Lib.hid (by
            have hal : Below wr.heap.size wr (wr.alloc (.cells #[.slice (some ⟨g2, 0, none⟩) (n + 1) cap2] 31)) := (Below.refl _ _).alloc (Nat.le_refl _) _
            exact ((HTW.out.snoc hg2b hcap2 (by rw [HVL.out]; exact HTC.out)).next hal).grown (HVW.out.alloc _) hgrow)
          have HO5 : Hid (w5.ownsRow w.heap.size 31 1 v' (k + 1 + 1) (vs ++ [.slice (some ⟨g2, 0, none⟩) (n + 1) cap2])) := Lib.hid hown'
          have HV5 : Hid ((vs ++ [Value.slice (some ⟨g2, 0, none⟩) (n + 1) cap2]).length = k + 1 + 1) := Lib.hid (by rw [List.length_append, HVL.out]; rfl)
          clear hown' hgrow hat
          go_wp2
          go_roundw
          case rel => exact ⟨k + 1, _, by omega, by go_num, HV5.out, HO5.out, HT5.out, HB5.out⟩
          case measure => simp [RowKit.intOf]; omega
    · obtain rfl : k = P.length := by omega
      go_wp2
      go_ret
      exact ⟨_, _, rfl, hcg, HBB.out, HOO.out⟩
end Go.Proofs.Ytljakcfdjcjdbaa

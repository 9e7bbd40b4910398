/-
  The contract of spec.ShareOfMachines: the first share with the least later end.
-/
import Derived.Test.YtpocghcdfpcedaaKo
namespace Go.Proofs.Ytpocghcdfpcedaa
open Go.RowKit
set_option linter.unusedVariables false

/-- The best one before number c: nothing before the first. -/
def blL (m n : Mc) (f : List Ca) (c : Nat) : List Int := if c = 0 then [] else digL f.length ((bestC m n f c : Nat) : Int)
def blV (m n : Mc) (f : List Ca) (c : Nat) : Int := if c = 0 then -1 else nE m n f (bestC m n f c)
theorem bl_zero (m n : Mc) (f : List Ca) : blL m n f 0 = [] ∧ blV m n f 0 = -1 := ⟨rfl, rfl⟩
theorem bl_pos {m n : Mc} {f : List Ca} {c : Nat} (h : 0 < c) : blL m n f c = digL f.length ((bestC m n f c : Nat) : Int) ∧ blV m n f c = nE m n f (bestC m n f c) := by
  unfold blL blV; rw [if_neg (by omega), if_neg (by omega)]; exact ⟨rfl, rfl⟩
theorem bl_yes {m n : Mc} {f : List Ca} {c : Nat} (h : blV m n f c < 0 ∨ nE m n f c < blV m n f c) (hp : ∀ c, 0 ≤ nE m n f c) : blL m n f (c + 1) = digL f.length (c : Int) ∧ blV m n f (c + 1) = nE m n f c := by
  rcases Nat.eq_zero_or_pos c with rfl | h0
  · have := bl_pos (m := m) (n := n) (f := f) (c := 1) (by omega)
    rw [bestC_one] at this; exact this
  · have h1 := bl_pos (m := m) (n := n) (f := f) h0
    rw [h1.2] at h
    have hq := hp (bestC m n f c)
    have h2 := bl_pos (m := m) (n := n) (f := f) (c := c + 1) (by omega)
    rw [bestC_lt (by omega)] at h2
    exact h2
theorem bl_no {m n : Mc} {f : List Ca} {c : Nat} (h1 : ¬ blV m n f c < 0) (h2 : ¬ nE m n f c < blV m n f c) : blL m n f (c + 1) = blL m n f c ∧ blV m n f (c + 1) = blV m n f c := by
  rcases Nat.eq_zero_or_pos c with rfl | h0
  · exact absurd (show blV m n f 0 < 0 by rw [(bl_zero m n f).2]; decide) h1
  · have h3 := bl_pos (m := m) (n := n) (f := f) h0
    rw [h3.2] at h2
    have h4 := bl_pos (m := m) (n := n) (f := f) (c := c + 1) (by omega)
    rw [bestC_ge h2] at h4
    rw [h4.1, h4.2, h3.1, h3.2]; exact ⟨rfl, rfl⟩
theorem blV_range {m n : Mc} {f : List Ca} (hp : ∀ c, 0 ≤ nE m n f c ∧ nE m n f c ≤ 50000000) (c : Nat) : -1 ≤ blV m n f c ∧ blV m n f c ≤ 50000000 := by
  unfold blV; split
  · omega
  · have := hp (bestC m n f c); omega

set_option maxRecDepth 100000 in
set_option maxHeartbeats 4000000 in
theorem specShare_any (m n : Mc) (f : List Ca) (A : Option Addr) (c : Nat) (w : World) (hf : CasIn w A f) (hn : f.length ≤ 1048576) :
    Calls Try.prog 42 #[.agg #[.int .i64 m.bod, .int .i64 m.hou, .int .i64 m.cha], .agg #[.int .i64 n.bod, .int .i64 n.hou, .int .i64 n.cha], .slice A f.length c] w fun e w' => ShTo w w' e (smL m n f) (smV m n f) (askM m n f) := by
  have HF := Lib.hid hf; clear hf
  obtain ⟨i0, hi, hz0, hz1, hz2⟩ := info_parts info3
  have HI := Lib.hid hi; have HZ0 := Lib.hid hz0; have HZ1 := Lib.hid hz1; have HZ2 := Lib.hid hz2
  clear hi hz0 hz1 hz2
  have HA : Hid (Below w.heap.size w ((w.alloc (.cells #[.int .i64 m.bod, .int .i64 m.hou, .int .i64 m.cha] 32)).alloc (.cells #[.int .i64 n.bod, .int .i64 n.hou, .int .i64 n.cha] 32))) := Lib.hid (((Below.refl _ _).alloc (Nat.le_refl _) _).alloc (by simp) _)
  have HM : Hid (McAt ((w.alloc (.cells #[.int .i64 m.bod, .int .i64 m.hou, .int .i64 m.cha] 32)).alloc (.cells #[.int .i64 n.bod, .int .i64 n.hou, .int .i64 n.cha] 32)) w.heap.size 32 m) := Lib.hid ((McAt.new _ _ _).alloc _)
  have HN : Hid (McAt ((w.alloc (.cells #[.int .i64 m.bod, .int .i64 m.hou, .int .i64 m.cha] 32)).alloc (.cells #[.int .i64 n.bod, .int .i64 n.hou, .int .i64 n.cha] 32)) (w.heap.size + 1) 32 n) := Lib.hid (heap_alloc2_new _ _ _)
  go_enter Try.func42, Try.ntmps42
  go_wp2_with fail
  refine (csMachine_any m _).mono ?_
  rintro e w1 ⟨rfl, hb⟩
  have HB1 := Lib.hid (HA.out.trans (hb.mono HA.out.size))
  have HM1 := Lib.hid (HM.out.next hb); have HN1 := Lib.hid (HN.out.next hb)
  clear hb HA HM HN
  cases hg : goodMc m
  · have HV : Hid (askM m n f = false) := Lib.hid (by unfold askM; rw [hg]; rfl)
    clear hg
    go_wp2
    refine bodyPost_ret (v := .tuple #[.slice none 0 0, .int .i64 (0), .bool false]) (by simp [results, Try.results42, go_sem]) rfl ?_
    exact ShTo.no (sm_no HV.out).1 (sm_no HV.out).2 HV.out HB1.out
  have HG := Lib.hid hg; clear hg
  obtain ⟨n0, n1, n2⟩ := HN1.out.cells
  have nl := HN1.out.lt
  go_wp2_with fail
  refine (csMachine_any n _).mono ?_
  rintro e w2 ⟨rfl, hb⟩
  clear n0 n1 n2 nl
  have HB2 := Lib.hid (HB1.out.trans (hb.mono HB1.out.size))
  have HM2 := Lib.hid (HM1.out.next hb); have HN2 := Lib.hid (HN1.out.next hb)
  clear hb HB1 HM1 HN1
  cases hg : goodMc n
  · have HV : Hid (askM m n f = false) := Lib.hid (by unfold askM; rw [hg]; simp)
    clear hg
    go_wp2
    refine bodyPost_ret (v := .tuple #[.slice none 0 0, .int .i64 (0), .bool false]) (by simp [results, Try.results42, go_sem]) rfl ?_
    exact ShTo.no (sm_no HV.out).1 (sm_no HV.out).2 HV.out HB2.out
  have HG2 := Lib.hid hg; clear hg
  go_wp2_with fail
  refine (csGood_any f A c _ (HF.out.below HB2.out (Nat.le_refl _)) hn).mono ?_
  rintro e w3 ⟨rfl, hb⟩
  have HB3 := Lib.hid (HB2.out.trans (hb.mono HB2.out.size))
  have HM3 := Lib.hid (HM2.out.next hb); have HN3 := Lib.hid (HN2.out.next hb)
  clear hb HB2 HM2 HN2
  cases hg : goodL f
  · have HV : Hid (askM m n f = false) := Lib.hid (by unfold askM; rw [hg]; simp)
    clear hg
    go_wp2
    refine bodyPost_ret (v := .tuple #[.slice none 0 0, .int .i64 (0), .bool false]) (by simp [results, Try.results42, go_sem]) rfl ?_
    exact ShTo.no (sm_no HV.out).1 (sm_no HV.out).2 HV.out HB3.out
  have h8 := (goodL_all hg).2
  have HL := Lib.hid hg
  have HAM : Hid (askM m n f = true) := Lib.hid (by unfold askM; rw [HG.out, HG2.out, hg]; rfl)
  have HNE := Lib.hid (nE_range HG.out HG2.out hg)
  clear hg
  have hp := pow_le8 h8
  obtain ⟨N, hN⟩ : ∃ N : Nat, N = 2 ^ f.length := ⟨_, rfl⟩
  have HNN := Lib.hid hN
  rw [← hN] at hp
  have HV := sm_yes HAM.out
  rw [← hN] at HV
  have HVV := Lib.hid HV
  clear HV hN
  have hsh : (2 : Int) ^ f.length = (N : Int) := by rw [HNN.out]; simp
  have HNP : Hid (0 < N) := Lib.hid (by rw [HNN.out]; exact Nat.two_pow_pos _)
  go_wp2
  go_loopw [9, 10, 11] (fun v t i wr => ∃ q : Nat, q ≤ N ∧ i = .int .i64 q ∧ t = .int .i64 (blV m n f q) ∧ wr.ownsRow (w.heap.size + 2) 3 1 v (blL m n f q).length (intsZ (blL m n f q)) ∧ McAt wr w.heap.size 32 m ∧ McAt wr (w.heap.size + 1) 32 n ∧ Below w.heap.size w wr) (fun _ _ i _ => N - (intOf i).toNat)
  case atStart => exact ⟨0, Nat.zero_le _, rfl, rfl, own_nil _ _ _ _, HM3.out, HN3.out, HB3.out⟩
  case round =>
    obtain ⟨q, hq, rfl, rfl, hown, hmm, hnn, hb⟩ := hrel
    obtain ⟨wo, hwo⟩ : ∃ x : World, x = wr := ⟨_, rfl⟩
    subst hwo
    have HO := Lib.hid hown; have HM := Lib.hid hmm; have HN := Lib.hid hnn; have HB := Lib.hid hb
    clear hown hmm hnn hb HM3 HN3 HB3
    by_cases hlt : q < N
    · have hql : (q : Int) < (N : Int) := by omega
      have hr1 := blV_range HNE.out q
      have hr2 := HNE.out q
      have HYES := Lib.hid (fun h => bl_yes (m := m) (n := n) (f := f) (c := q) h (fun c => (HNE.out c).1))
      have HNO := Lib.hid (fun h1 h2 => bl_no (m := m) (n := n) (f := f) (c := q) h1 h2)
      have hq256 : (q : Int) ≤ 256 := by omega
      have hq0 : (0 : Int) ≤ (q : Int) := by omega
      go_wp2
      go_loopw [12, 38] (fun v i wi => ∃ k : Nat, k ≤ f.length ∧ i = .int .i64 k ∧ wi.ownsRow wo.heap.size 3 1 v k (intsZ ((digL f.length (q : Int)).take k)) ∧ Below wo.heap.size wo wi) (fun _ i _ => f.length - (intOf i).toNat)
      case atStart => exact ⟨0, Nat.zero_le _, rfl, own_nil _ _ _ _, Below.refl _ _⟩
      case round =>
        obtain ⟨k, hkk, rfl, hown, hb⟩ := hrel
        by_cases hlk : k < f.length
        · have HOI := Lib.hid hown; have HBI := Lib.hid hb
          clear hown hb
          have HTK := Lib.hid (digL_take f.length (q : Int) hlk)
          obtain ⟨x, hx⟩ : ∃ x : Nat, x = f.length - 1 - k := ⟨_, rfl⟩
          rw [← hx] at HTK
          have hsub : (f.length : Int) - 1 - (k : Int) = (x : Int) := by omega
          have hx7 : x ≤ 7 := by omega
          clear hx
          have hkl1 : (k : Int) < (f.length : Int) := by omega
          have hkl0 : (0 : Int) ≤ (k : Int) := by omega
          have hmx : k + 1 ≤ maxLen := by unfold maxLen; omega
          have hsz := HBI.out.size
          go_wp2_with (at_builtin; refine wpList_append_own _ rfl _ _ 42 rfl wo.heap.size 3 i0 (.int .i64 0) 1 8 Try.underlying42 HI.out HZ0.out HZ1.out HZ2.out rfl (by decide) _ _ _ rfl (HOI.out.alloc _) ⟨wr.heap.size, 0, none⟩ 1 1 [.int .i64 (bits .and .i64 ((q : Int) / 2 ^ x) 1)] rfl rfl (cell_one_new _ _ _) (by simp [Value.oneCell']) hmx (by omega) (by simp; omega) ?_)
          intro v' w5 hown' hgrow _
          have HB5 := Lib.hid ((HBI.out.alloc HBI.out.size _).grown hgrow (by have := HBI.out.size; simp; omega) (own_lt HOI.out))
          have HO5 : Hid (w5.ownsRow wo.heap.size 3 1 v' (k + 1) (intsZ ((digL f.length (q : Int)).take (k + 1)))) := by
            show World.ownsRow _ _ _ _ _ _ _
            rw [HTK.out, intsZ_snoc]; exact hown'
          clear hown' hgrow HOI HBI
          go_wp2
          go_roundw
          case rel => exact ⟨k + 1, by omega, by go_num, HO5.out, HB5.out⟩
          case measure => simp [intOf]; omega
        · obtain rfl : k = f.length := by omega
          rw [show (digL f.length (q : Int)).take f.length = digL f.length (q : Int) from List.take_of_length_le (by rw [digL_len]; exact Nat.le_refl _)] at hown
          obtain ⟨A6, c6, rfl, hin6⟩ := own_n hown
          have HO6 := Lib.hid (own_below HO.out hb)
          have HS6 := Lib.hid (Joins.ownsRow_le (base' := w.heap.size + 2) hown (by have := HN.out.lt; omega))
          have HI6 := Lib.hid hin6
          clear hown hin6 HO
          have HB6 := Lib.hid (HB.out.trans (hb.mono HB.out.size))
          have HM6 := Lib.hid (HM.out.next hb); have HN6 := Lib.hid (HN.out.next hb)
          clear hb HB HM HN
          obtain ⟨m0, m1, m2⟩ := HM6.out.cells
          obtain ⟨n0, n1, n2⟩ := HN6.out.cells
          have ml := HM6.out.lt; have nl := HN6.out.lt
          go_wp2_with fail
          refine (csSharedD_any m n f A c q _ _ _ (HF.out.below HB6.out (Nat.le_refl _)) hn HI6.out HG.out HG2.out HL.out).mono ?_
          rintro e w7 ⟨rfl, hb⟩
          have HO7 := Lib.hid (own_below HO6.out hb)
          have HS7 := Lib.hid (own_below HS6.out hb)
          clear m0 m1 m2 n0 n1 n2 ml nl HO6 HS6 HI6
          have HB7 := Lib.hid (HB6.out.trans (hb.mono HB6.out.size))
          have HM7 := Lib.hid (HM6.out.next hb); have HN7 := Lib.hid (HN6.out.next hb)
          clear hb HB6 HM6 HN6
          have hS7 := HS7.out
          rw [show f.length = (digL f.length (q : Int)).length from (digL_len _ _).symm] at hS7
          by_cases hc : blV m n f q < 0
          · have HX := Lib.hid (HYES.out (.inl hc))
            generalize blV m n f q = Eb at *
            obtain ⟨Eq, hEq⟩ : ∃ x, x = nE m n f q := ⟨_, rfl⟩
            rw [← hEq] at hr2 ⊢
            have HE := Lib.hid hEq
            clear hEq hS7
            go_wp2
            go_roundw
            case rel => exact ⟨q + 1, by omega, by go_num, by rw [HX.out.2, HE.out], by rw [HX.out.1, digL_len]; exact HS7.out, HM7.out, HN7.out, HB7.out⟩
            case measure => simp [intOf]; omega
          · by_cases hc2 : nE m n f q < blV m n f q
            · have HX := Lib.hid (HYES.out (.inr hc2))
              generalize blV m n f q = Eb at *
              obtain ⟨Eq, hEq⟩ : ∃ x, x = nE m n f q := ⟨_, rfl⟩
              rw [← hEq] at hr2 hc2 ⊢
              have HE := Lib.hid hEq
              clear hEq hS7
              go_wp2
              go_roundw
              case rel => exact ⟨q + 1, by omega, by go_num, by rw [HX.out.2, HE.out], by rw [HX.out.1, digL_len]; exact HS7.out, HM7.out, HN7.out, HB7.out⟩
              case measure => simp [intOf]; omega
            · have HX := Lib.hid (HNO.out (by omega) (by omega))
              obtain ⟨Eb, hEb⟩ : ∃ x, x = blV m n f q := ⟨_, rfl⟩
              rw [← hEb] at hr1 hc hc2 ⊢
              have HE := Lib.hid hEb
              generalize nE m n f q = Eq at *
              clear hEb hS7
              go_wp2
              go_roundw
              case rel => exact ⟨q + 1, by omega, by go_num, by rw [HX.out.2, HE.out], by rw [HX.out.1]; exact HO7.out, HM7.out, HN7.out, HB7.out⟩
              case measure => simp [intOf]; omega
    · obtain rfl : q = N := by omega
      have hbp := bl_pos (m := m) (n := n) (f := f) HNP.out
      have HBP := Lib.hid hbp
      have ho9 := HO.out
      rw [hbp.1] at ho9
      rw [digL_len] at ho9
      have HO9 := Lib.hid (Joins.ownsRow_le (base' := w.heap.size) ho9 (by omega))
      clear HO HM HN ho9
      rw [hbp.2]
      obtain ⟨Eb, hEb⟩ : ∃ x, x = nE m n f (bestC m n f q) := ⟨_, rfl⟩
      have HEE := Lib.hid hEb
      rw [← hEb]
      clear hEb hbp
      obtain ⟨A9, c9, rfl, -⟩ := own_n HO9.out
      go_wp2
      refine bodyPost_ret (v := .tuple #[.slice A9 f.length c9, .int .i64 (Eb), .bool true]) (by simp [results, Try.results42, go_sem]) rfl ?_
      exact ShTo.yes HVV.out.1 (HVV.out.2.trans HEE.out.symm) HAM.out HB.out HO9.out
end Go.Proofs.Ytpocghcdfpcedaa

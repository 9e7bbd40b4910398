/-
  The entries over a column: the contracts of spec.EntriesOver and impl.EntriesOver.
-/
import Derived.Test.YteagclokobkigaaEf
namespace Go.Proofs.Yteagclokobkigaa
open Go.RowKit
set_option linter.unusedVariables false

/-- An entry stands in column c. -/
def ovX (c : Int) (x : En) : Bool := inB x.col (x.col + x.spa - 1) c
def ovK (l : List En) (c : Int) : Nat → List Int
  | 0 => []
  | k + 1 => if ovX c (l.getD k ⟨0, 0, 0⟩) then ovK l c k ++ [(k : Int)] else ovK l c k
theorem getE {l : List En} {k : Nat} (h : k < l.length) : l.getD k ⟨0, 0, 0⟩ = l[k] := by rw [List.getD_eq_getElem?_getD, List.getElem?_eq_getElem h]; rfl
theorem ovK_yes {l : List En} {c : Int} {k : Nat} (hk : k < l.length) (h : ovX c l[k] = true) : ovK l c (k + 1) = ovK l c k ++ [(k : Int)] := by
  show (if ovX c (l.getD k ⟨0, 0, 0⟩) then _ else _) = _
  rw [getE hk, h]; rfl
theorem ovK_no {l : List En} {c : Int} {k : Nat} (hk : k < l.length) (h : ovX c l[k] = false) : ovK l c (k + 1) = ovK l c k := by
  show (if ovX c (l.getD k ⟨0, 0, 0⟩) then _ else _) = _
  rw [getE hk, h]; rfl
theorem ovK_len (l : List En) (c : Int) : ∀ k, (ovK l c k).length ≤ k
  | 0 => Nat.le_refl _
  | k + 1 => by
    have := ovK_len l c k
    unfold ovK
    split
    · rw [List.length_append]; show _ + 1 ≤ _; omega
    · omega
noncomputable def eoB (n : Int) (l : List En) (c : Int) : Bool := tbB n l && inB 0 (n - 1) c
noncomputable def eoL (n : Int) (l : List En) (c : Int) : List Int := if eoB n l c then ovK l c l.length else []
theorem eo_no {n : Int} {l : List En} {c : Int} (h : eoB n l c = false) : eoL n l c = [] := by unfold eoL; rw [h]; rfl
theorem eo_yes {n : Int} {l : List En} {c : Int} (h : eoB n l c = true) : eoL n l c = ovK l c l.length := by unfold eoL; rw [h]; rfl
theorem eoL_short (n : Int) (l : List En) (c : Int) : (eoL n l c).length ≤ 1048576 := by
  cases h : eoB n l c
  · rw [eo_no h]; simp
  · rw [eo_yes h]
    have h1 := ovK_len l c l.length
    have h2 : GoodT n l := by unfold eoB at h; rw [Bool.and_eq_true] at h; exact tbB_iff.1 h.1
    have := h2.len
    omega
set_option maxRecDepth 100000 in
set_option maxHeartbeats 2000000 in
theorem implEntriesOver_any (n : Int) (f : List En) (A : Option Addr) (d : Nat) (c : Int) (w : World) (hf : EnsIn w A f) (hn : f.length ≤ 1048576) (hr : EnR f) :
    Calls Try.prog 22 #[.int .i64 n, .slice A f.length d, .int .i64 c] w fun e w' => IntsB w w' e (eoL n f c) (eoB n f c) := by
  have HF := Lib.hid hf; clear hf
  obtain ⟨i0, hi, hz0, hz1, hz2⟩ := info_parts info_int
  have HI := Lib.hid hi; have HZ0 := Lib.hid hz0; have HZ1 := Lib.hid hz1; have HZ2 := Lib.hid hz2
  clear hi hz0 hz1 hz2
  have HE : Hid (eoB n f c = (tbB n f && inB 0 (n - 1) c)) := Lib.hid rfl
  go_enter Try.func22, Try.ntmps22
  go_wp2_with fail
  refine (implIsTableS_any n f A d _ HF.out hn hr).mono ?_
  rintro e w1 ⟨rfl, hb1⟩
  have HB1 := Lib.hid hb1; clear hb1
  cases ht : tbB n f
  · have HA : Hid (eoB n f c = false) := Lib.hid (by rw [HE.out, ht]; rfl)
    clear ht
    have HV := Lib.hid (eo_no HA.out)
    go_wp2
    go_ret2
    exact ⟨_, 3, ret_vb HA.out.symm, HB1.out, by rw [HV.out]; exact own_nil _ _ _ _⟩
  by_cases h1 : c < 0
  · have HA : Hid (eoB n f c = false) := Lib.hid (by rw [HE.out, ht, inBs_no (by omega)]; rfl)
    clear ht
    have HV := Lib.hid (eo_no HA.out)
    go_wp2
    go_ret2
    exact ⟨_, 3, ret_vb HA.out.symm, HB1.out, by rw [HV.out]; exact own_nil _ _ _ _⟩
  by_cases h2 : n ≤ c
  · have HA : Hid (eoB n f c = false) := Lib.hid (by rw [HE.out, ht, inBs_no (by omega)]; rfl)
    clear ht
    have HV := Lib.hid (eo_no HA.out)
    go_wp2
    go_ret2
    exact ⟨_, 3, ret_vb HA.out.symm, HB1.out, by rw [HV.out]; exact own_nil _ _ _ _⟩
  have HA : Hid (eoB n f c = true) := Lib.hid (by rw [HE.out, ht, inBs_iff.2 ⟨by omega, by omega⟩]; rfl)
  have HV := Lib.hid (eo_yes HA.out)
  have HG := Lib.hid (tbB_iff.1 ht)
  clear ht
  have hl20 := HG.out.len; have hn10 := HG.out.n1
  go_wp2
  go_loopw [8, 26] (fun v i wr => ∃ k : Nat, k ≤ f.length ∧ i = .int .i64 (k : Int) ∧ wr.ownsRow w.heap.size 3 1 v (ovK f c k).length (intsZ (ovK f c k)) ∧ Below w.heap.size w wr) (fun _ i _ => f.length - (intOf i).toNat)
  case atStart => exact ⟨0, Nat.zero_le _, rfl, own_nil _ _ _ _, HB1.out⟩
  case round =>
    obtain ⟨k, hk, rfl, hv, hb⟩ := hrel
    have hkl := ovK_len f c k
    by_cases hlt : k < f.length
    · skip
      obtain ⟨b, off, rfl, hbl, hc⟩ := HF.out (by omega)
      obtain ⟨hc0, hc1, hc2⟩ := hc k hlt
      clear hc
      rw [← hb.cell (p := ⟨b, off + k * 3, none⟩) hbl] at hc0; rw [← hb.cell (p := ⟨b, off + k * 3 + 1, none⟩) hbl] at hc1; rw [← hb.cell (p := ⟨b, off + k * 3 + 2, none⟩) hbl] at hc2
      have HYES := Lib.hid (fun h => ovK_yes (c := c) hlt h); have HNOK := Lib.hid (fun h => ovK_no (c := c) hlt h)
      have HOK := Lib.hid (HG.out.en hlt)
      have HB : Hid (Below w.heap.size w (wr.alloc (.cells #[.int .i64 f[k].col, .int .i64 f[k].spa, .int .i64 f[k].wid] 36))) := Lib.hid (hb.alloc hb.size _)
      have HVR : Hid ((wr.alloc (.cells #[.int .i64 f[k].col, .int .i64 f[k].spa, .int .i64 f[k].wid] 36)).ownsRow w.heap.size 3 1 _ (ovK f c k).length (intsZ (ovK f c k))) := Lib.hid (hv.alloc _)
      have hww := hb.size
      obtain ⟨o1, o2, o3, o4, o5, o6⟩ := HOK.out
      clear hv hb
      generalize f[k] = x at *
      rcases x with ⟨p, q, r⟩
      simp only at o1 o2 o3 o4 o5 o6 hc0 hc1 hc2
      by_cases hx : p ≤ c ∧ c < p + q
      · have HK := Lib.hid (HYES.out (by unfold ovX; exact inBs_iff.2 ⟨hx.1, by show c ≤ p + q - 1; omega⟩))
        obtain ⟨hx1, hx2⟩ := hx
        have hmx : (ovK f c k).length + 1 ≤ maxLen := by unfold maxLen; omega
        go_wp2_with (at_builtin; refine wpList_append_own_at _ rfl _ _ 27 rfl w.heap.size 3 i0 (.int .i64 0) 1 8 Try.underlying27 HI.out HZ0.out HZ1.out HZ2.out rfl (by decide) _ _ _ rfl (HVR.out.alloc _) ⟨wr.heap.size + 1, 0, none⟩ 1 1 [.int .i64 (k : Int)] rfl rfl (by have h := cell_one_new (wr.alloc (.cells #[.int .i64 p, .int .i64 q, .int .i64 r] 36)) (.int .i64 (k : Int)) 3; rw [World.size_alloc] at h; exact h) (by simp [Value.oneCell']) hmx (by omega) (by first | (simp; done) | (simp; omega) | omega) ?_)
        intro v' w5 hown' hgrow _ hat
        have HB5 := Lib.hid ((HB.out.alloc HB.out.size (.cells #[.int .i64 (k : Int)] 3)).grown hgrow (by simp; omega) (fun q hq => by have := own_lt HVR.out q hq; omega))
        have HO5 : Hid (w5.ownsRow w.heap.size 3 1 v' (ovK f c (k + 1)).length (intsZ (ovK f c (k + 1)))) := by
          show World.ownsRow _ _ _ _ _ _ _
          rw [HK.out, intsZ_snoc, List.length_append]; exact hown'
        clear hown' hgrow hat
        go_wp2
        go_roundw
        case rel => exact ⟨k + 1, by omega, by go_num, HO5.out, HB5.out⟩
        case measure => simp [intOf]; omega
      · have HK := Lib.hid (HNOK.out (by unfold ovX; exact inBs_no (by show ¬ (p ≤ c ∧ c ≤ p + q - 1); omega)))
        by_cases hx1 : p ≤ c
        · have hx2 : ¬ c < p + q := by omega
          go_wp2
          go_roundw
          case rel => exact ⟨k + 1, by omega, by go_num, by rw [HK.out]; exact HVR.out, HB.out⟩
          case measure => simp [intOf]; omega
        · skip
          go_wp2
          go_roundw
          case rel => exact ⟨k + 1, by omega, by go_num, by rw [HK.out]; exact HVR.out, HB.out⟩
          case measure => simp [intOf]; omega
    · obtain rfl : k = f.length := by omega
      go_wp2
      go_ret2
      exact ⟨_, _, ret_vb HA.out.symm, hb, by rw [HV.out]; exact hv⟩
set_option maxRecDepth 100000 in
set_option maxHeartbeats 2000000 in
theorem specEntriesOver_any (n : Int) (f : List En) (A : Option Addr) (d : Nat) (c : Int) (w : World) (hf : EnsIn w A f) (hn : f.length ≤ 1048576) :
    Calls Try.prog 23 #[.int .i64 n, .slice A f.length d, .int .i64 c] w fun e w' => IntsB w w' e (eoL n f c) (eoB n f c) := by
  have HF := Lib.hid hf; clear hf
  obtain ⟨i0, hi, hz0, hz1, hz2⟩ := info_parts info_int
  have HI := Lib.hid hi; have HZ0 := Lib.hid hz0; have HZ1 := Lib.hid hz1; have HZ2 := Lib.hid hz2
  clear hi hz0 hz1 hz2
  have HE : Hid (eoB n f c = (tbB n f && inB 0 (n - 1) c)) := Lib.hid rfl
  go_enter Try.func23, Try.ntmps23
  go_wp2_with fail
  refine (tbGood_any n f A d _ HF.out hn).mono ?_
  rintro e w1 ⟨rfl, hb1⟩
  have HB1 := Lib.hid hb1; clear hb1
  cases ht : tbB n f
  · have HA : Hid (eoB n f c = false) := Lib.hid (by rw [HE.out, ht]; rfl)
    clear ht
    have HV := Lib.hid (eo_no HA.out)
    go_wp2
    go_ret2
    exact ⟨_, 3, ret_vb HA.out.symm, HB1.out, by rw [HV.out]; exact own_nil _ _ _ _⟩
  have HG := Lib.hid (tbB_iff.1 ht)
  have hl20 := HG.out.len; have hn10 := HG.out.n1; have hn1 := HG.out.n0
  go_wp2_with fail
  refine (l1In_any _ _ _ _).mono ?_
  rintro e w' ⟨rfl, rfl⟩
  cases hi : inB 0 (n - 1) c
  · have HA : Hid (eoB n f c = false) := Lib.hid (by rw [HE.out, ht, hi]; rfl)
    clear ht hi
    have HV := Lib.hid (eo_no HA.out)
    go_wp2
    go_ret2
    exact ⟨_, 3, ret_vb HA.out.symm, HB1.out, by rw [HV.out]; exact own_nil _ _ _ _⟩
  have HA : Hid (eoB n f c = true) := Lib.hid (by rw [HE.out, ht, hi]; rfl)
  have HV := Lib.hid (eo_yes HA.out)
  have hin := inBs_iff.1 hi
  clear ht hi
  go_wp2
  go_loopw [8, 24] (fun v i wr => ∃ k : Nat, k ≤ f.length ∧ i = .int .i64 (k : Int) ∧ wr.ownsRow w.heap.size 3 1 v (ovK f c k).length (intsZ (ovK f c k)) ∧ Below w.heap.size w wr) (fun _ i _ => f.length - (intOf i).toNat)
  case atStart => exact ⟨0, Nat.zero_le _, rfl, own_nil _ _ _ _, HB1.out⟩
  case round =>
    obtain ⟨k, hk, rfl, hv, hb⟩ := hrel
    have hkl := ovK_len f c k
    by_cases hlt : k < f.length
    · skip
      obtain ⟨b, off, rfl, hbl, hc⟩ := HF.out (by omega)
      obtain ⟨hc0, hc1, hc2⟩ := hc k hlt
      clear hc
      rw [← hb.cell (p := ⟨b, off + k * 3, none⟩) hbl] at hc0; rw [← hb.cell (p := ⟨b, off + k * 3 + 1, none⟩) hbl] at hc1; rw [← hb.cell (p := ⟨b, off + k * 3 + 2, none⟩) hbl] at hc2
      have HYES := Lib.hid (fun h => ovK_yes (c := c) hlt h); have HNOK := Lib.hid (fun h => ovK_no (c := c) hlt h)
      have HOK := Lib.hid (HG.out.en hlt)
      have HB : Hid (Below w.heap.size w (wr.alloc (.cells #[.int .i64 f[k].col, .int .i64 f[k].spa, .int .i64 f[k].wid] 36))) := Lib.hid (hb.alloc hb.size _)
      have HVR : Hid ((wr.alloc (.cells #[.int .i64 f[k].col, .int .i64 f[k].spa, .int .i64 f[k].wid] 36)).ownsRow w.heap.size 3 1 _ (ovK f c k).length (intsZ (ovK f c k))) := Lib.hid (hv.alloc _)
      have hww := hb.size
      obtain ⟨o1, o2, o3, o4, o5, o6⟩ := HOK.out
      clear hv hb
      generalize f[k] = x at *
      rcases x with ⟨p, q, r⟩
      simp only at o1 o2 o3 o4 o5 o6 hc0 hc1 hc2
      go_wp2_with fail
      refine (l1In_any _ _ _ _).mono ?_
      rintro e w' ⟨rfl, rfl⟩
      cases hx : inB p (p + q - 1) c
      · have HK := Lib.hid (HNOK.out hx)
        clear hx
        go_wp2
        go_roundw
        case rel => exact ⟨k + 1, by omega, by go_num, by rw [HK.out]; exact HVR.out, HB.out⟩
        case measure => simp [intOf]; omega
      · have HK := Lib.hid (HYES.out hx)
        clear hx
        have hmx : (ovK f c k).length + 1 ≤ maxLen := by unfold maxLen; omega
        go_wp2_with (at_builtin; refine wpList_append_own_at _ rfl _ _ 27 rfl w.heap.size 3 i0 (.int .i64 0) 1 8 Try.underlying27 HI.out HZ0.out HZ1.out HZ2.out rfl (by decide) _ _ _ rfl (HVR.out.alloc _) ⟨wr.heap.size + 1, 0, none⟩ 1 1 [.int .i64 (k : Int)] rfl rfl (by have h := cell_one_new (wr.alloc (.cells #[.int .i64 p, .int .i64 q, .int .i64 r] 36)) (.int .i64 (k : Int)) 3; rw [World.size_alloc] at h; exact h) (by simp [Value.oneCell']) hmx (by omega) (by first | (simp; done) | (simp; omega) | omega) ?_)
        intro v' w5 hown' hgrow _ hat
        have HB5 := Lib.hid ((HB.out.alloc HB.out.size (.cells #[.int .i64 (k : Int)] 3)).grown hgrow (by simp; omega) (fun q hq => by have := own_lt HVR.out q hq; omega))
        have HO5 : Hid (w5.ownsRow w.heap.size 3 1 v' (ovK f c (k + 1)).length (intsZ (ovK f c (k + 1)))) := by
          show World.ownsRow _ _ _ _ _ _ _
          rw [HK.out, intsZ_snoc, List.length_append]; exact hown'
        clear hown' hgrow hat
        go_wp2
        go_roundw
        case rel => exact ⟨k + 1, by omega, by go_num, HO5.out, HB5.out⟩
        case measure => simp [intOf]; omega
    · obtain rfl : k = f.length := by omega
      go_wp2
      go_ret2
      exact ⟨_, _, ret_vb HA.out.symm, hb, by rw [HV.out]; exact hv⟩
end Go.Proofs.Yteagclokobkigaa

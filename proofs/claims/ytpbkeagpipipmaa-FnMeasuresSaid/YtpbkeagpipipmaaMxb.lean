import Derived.Test.YtpbkeagpipipmaaMxa
import Derived.Test.YtpbkeagpipipmaaMxc
/-
  Numbers that divide a total evenly: the contracts of impl.evenShares and spec.juSpaces.
-/
namespace Go.Proofs.Ytpbkeagpipipmaa
open Go.RowKit
set_option linter.unusedVariables false

/-- The i-th of g numbers that divide t evenly, the first ones greater by 1. -/
def evI (t g : Int) (i : Nat) : Int := if (i : Int) < t.tmod g then t.tdiv g + 1 else t.tdiv g
def evL (t : Int) (n : Nat) : List Int := (List.range n).map (evI t n)
theorem evL_len (t : Int) (n : Nat) : (evL t n).length = n := by simp [evL]
theorem evL_at (t : Int) (n : Nat) {k : Nat} (h : k < (evL t n).length) : (evL t n)[k] = evI t n k := by simp [evL]
theorem evL_take (t : Int) (n : Nat) {k : Nat} (h : k < n) : (evL t n).take (k + 1) = (evL t n).take k ++ [evI t n k] := by
  have h' : k < (evL t n).length := by rw [evL_len]; exact h
  rw [List.take_succ_eq_append_getElem h', evL_at]
theorem evL_takeLen (t : Int) (n : Nat) {k : Nat} (h : k ≤ n) : ((evL t n).take k).length = k := by rw [List.length_take, evL_len]; omega
theorem evI_yes {t g : Int} {i : Nat} (h : (i : Int) < t.tmod g) : evI t g i = t.tdiv g + 1 := if_pos h
theorem evI_no {t g : Int} {i : Nat} (h : ¬ (i : Int) < t.tmod g) : evI t g i = t.tdiv g := if_neg h
theorem tdiv_tame {t g : Int} (h0 : 0 ≤ t) (h1 : t ≤ 12000) : 0 ≤ t.tdiv g + 12000 ∧ t.tdiv g ≤ 12000 ∧ -12000 ≤ t.tmod g ∧ t.tmod g ≤ 12000 := by
  have a := Int.natAbs_tdiv_le_natAbs t g
  have b : (t.tmod g).natAbs ≤ t.natAbs := by rw [Int.natAbs_tmod]; exact Nat.mod_le _ _
  omega
theorem Marked.less {w : World} {g cap : Nat} {e : TypeId} {l : List Value} {x : Value} (h : Marked w g e cap (l ++ [x])) : Marked w g e cap l := by
  obtain ⟨cur, h1, h2, h3⟩ := h
  refine ⟨cur, h1, h2, ?_⟩
  have := congrArg (List.take l.length) h3
  rw [List.take_take, List.take_append_of_le_length (Nat.le_refl _), List.take_length] at this
  rw [show min l.length (l ++ [x]).length = l.length from by simp] at this
  exact this

set_option maxRecDepth 100000 in
set_option maxHeartbeats 1000000 in
theorem evenShares_any (t : Int) (n : Nat) (w : World) (hn : n ≤ 20) (h0 : 0 ≤ t) (h1 : t ≤ 12000) :
    Calls Try.prog 123 #[.int .i64 t, .int .i64 (n : Int)] w fun e w' => RowTo w w' e (evL t n) := by
  have hmk := run_makeInt n (by omega)
  have hst : Marked (w.alloc (.cells (madeCells #[.int .i64 0] (n * 1)) 3)) w.heap.size 3 n (intsZ ((evL t n).take 0)) := ⟨_, heap_new _ _, by rw [size_madeCells]; omega, by simp [intsZ]⟩
  generalize hz : madeCells #[.int .i64 0] (n * 1) = cs0 at *
  have HST := Lib.hid hst; clear hst hz
  have htame := tdiv_tame (g := (n : Int)) h0 h1
  go_enter Try.func123, Try.ntmps123
  go_wp2
  go_loopw [11] (fun i wr => ∃ k : Nat, k ≤ n ∧ i = .int .i64 k ∧ Marked wr w.heap.size 3 n (intsZ ((evL t n).take k)) ∧ Below w.heap.size w wr) (fun i _ => n - (intOf i).toNat)
  case atStart => exact ⟨0, Nat.zero_le _, rfl, HST.out, (Below.refl _ _).alloc (Nat.le_refl _) _⟩
  case round =>
    obtain ⟨k, hkk, rfl, hmd, hb⟩ := hrel
    have HMD := Lib.hid hmd; have HB := Lib.hid hb
    clear hmd hb hmk
    by_cases hlt : k < n
    · have HTK := Lib.hid (evL_take t n hlt)
      have HYE := Lib.hid (evI_yes (t := t) (g := (n : Int)) (i := k)); have HNO := Lib.hid (evI_no (t := t) (g := (n : Int)) (i := k))
      obtain ⟨d, hd⟩ : ∃ d, d = t.tdiv (n : Int) := ⟨_, rfl⟩
      obtain ⟨r, hr⟩ : ∃ r, r = t.tmod (n : Int) := ⟨_, rfl⟩
      rw [← hd, ← hr] at HYE htame
      rw [← hd, ← hr] at HNO
      have hd2 := hd.symm; have hr2 := hr.symm
      clear hd hr
      obtain ⟨⟨u0, hu0⟩, hfu⟩ := HMD.out.at_ hlt
      have hkl1 : (k : Int) < (n : Int) := by omega
      have hkl0 : (0 : Int) ≤ (k : Int) := by omega
      have hnz : ¬ (n : Int) = 0 := by omega
      have hnb : ((n : Int) == 0) = false := by simp; omega
      have hnm : ¬ (n : Int) = -1 := by omega
      have hl : (intsZ ((evL t n).take k)).length = k := by rw [intsZ_len, evL_takeLen _ _ hkk]
      have HD1 := Lib.hid (HMD.out.stepAt k hl hlt (.int .i64 d))
      have HD2 := Lib.hid (HD1.out.less.stepAt k hl hlt (.int .i64 (d + 1)))
      have HB1 := Lib.hid (HB.out.setCell (p := ⟨w.heap.size, k, none⟩) (Nat.le_refl _) (.int .i64 d))
      have HB2 := Lib.hid (HB1.out.setCell (p := ⟨w.heap.size, k, none⟩) (Nat.le_refl _) (.int .i64 (d + 1)))
      have hgl := HMD.out.lt
      clear hl
      by_cases hlr : (k : Int) < r
      · have HE := Lib.hid (HYE.out hlr)
        go_wp2
        go_roundw
        case rel => exact ⟨k + 1, by omega, by go_num, by rw [HTK.out, HE.out, intsZ_snoc]; exact HD2.out, HB2.out⟩
        case measure => simp [intOf]; omega
      · have HE := Lib.hid (HNO.out hlr)
        go_wp2
        go_roundw
        case rel => exact ⟨k + 1, by omega, by go_num, by rw [HTK.out, HE.out, intsZ_snoc]; exact HD1.out, HB1.out⟩
        case measure => simp [intOf]; omega
    · obtain rfl : k = n := by omega
      have hd := HMD.out
      rw [show (evL t k).take k = evL t k from List.take_of_length_le (by rw [evL_len]; exact Nat.le_refl _)] at hd
      have HO2 := Lib.hid (hd.owns (base := w.heap.size) (by rw [intsZ_len, evL_len]) (Nat.le_refl _) (by unfold maxLen; omega))
      go_wp2
      go_ret
      exact ⟨_, rfl, HB.out, by rw [evL_len]; exact HO2.out⟩
set_option maxRecDepth 100000 in
set_option maxHeartbeats 1000000 in
theorem juSpaces_any (l : List Int) (A : Option Addr) (c : Nat) (m : Int) (n : Nat) (w : World) (hf : IntsIn w A l) (hl : GoodL l) (hn : l.length = n + 1) (h0 : 0 ≤ m - l.sum) (h1 : m - l.sum ≤ 12000) :
    Calls Try.prog 61 #[.slice A l.length c, .int .i64 m] w fun e w' => RowTo w w' e (evL (m - l.sum) n) := by
  have HF := Lib.hid hf; have HL := Lib.hid hl; clear hf
  have h20 := hl.most
  have hsum := hl.sum
  clear hl
  have hg : (l.length : Int) - 1 = (n : Int) := by omega
  have HN := Lib.hid hn
  clear hn
  obtain ⟨i0, hi, hz0, hz1, hz2⟩ := info_parts info3
  have HI := Lib.hid hi; have HZ0 := Lib.hid hz0; have HZ1 := Lib.hid hz1; have HZ2 := Lib.hid hz2
  clear hi hz0 hz1 hz2
  obtain ⟨R, hR⟩ : ∃ R, m - l.sum = R := ⟨_, rfl⟩
  have hmr : -20000 ≤ m ∧ m ≤ 40000 := by omega
  rw [hR] at h0 h1 ⊢
  have htame := tdiv_tame (g := (n : Int)) h0 h1
  go_enter Try.func61, Try.ntmps61
  go_wp2_with fail
  refine (juSum_any l A c _ HF.out HL.out).mono ?_
  rintro e w' ⟨rfl, rfl⟩
  have hn20 : n < 20 := by have := HN.out; omega
  go_wp2
  go_loopw [7, 8] (fun v i wr => ∃ k : Nat, k ≤ n ∧ i = .int .i64 (k : Int) ∧ wr.ownsRow w.heap.size 3 1 v k (intsZ ((evL R n).take k)) ∧ Below w.heap.size w wr) (fun _ i _ => n - (intOf i).toNat)
  case atStart => exact ⟨0, by omega, rfl, own_nil _ _ _ _, Below.refl _ _⟩
  case round =>
    obtain ⟨k, hk, rfl, hv, hb⟩ := hrel
    have HVV := Lib.hid hv; have HBB := Lib.hid hb
    clear hv hb
    by_cases hlt : k < n
    · have HTK := Lib.hid (evL_take R n hlt)
      have HYE := Lib.hid (evI_yes (t := R) (g := (n : Int)) (i := k)); have HNO := Lib.hid (evI_no (t := R) (g := (n : Int)) (i := k))
      obtain ⟨d, hd⟩ : ∃ d, d = R.tdiv (n : Int) := ⟨_, rfl⟩
      obtain ⟨r, hr⟩ : ∃ r, r = R.tmod (n : Int) := ⟨_, rfl⟩
      rw [← hd, ← hr] at HYE htame
      rw [← hd, ← hr] at HNO
      have hd2 := hd.symm; have hr2 := hr.symm
      clear hd hr hR hg
      have hkl1 : (k : Int) < (n : Int) := by omega
      have hkl0 : (0 : Int) ≤ (k : Int) := by omega
      have hnz : ¬ (n : Int) = 0 := by omega
      have hnb : ((n : Int) == 0) = false := by simp; omega
      have hnm : ¬ (n : Int) = -1 := by omega
      have hmx : k + 1 ≤ maxLen := by unfold maxLen; omega
      by_cases hlr : (k : Int) < r
      · have HE := Lib.hid (HYE.out hlr)
        have hwz := HBB.out.size
        go_wp2_with (at_builtin; refine wpList_append_own_at _ rfl _ _ 23 rfl w.heap.size 3 i0 (.int .i64 0) 1 8 Try.underlying23 HI.out HZ0.out HZ1.out HZ2.out rfl (by decide) _ _ _ rfl (HVV.out.alloc _) ⟨wr.heap.size, 0, none⟩ 1 1 [.int .i64 (d + 1)] rfl rfl (cell_one_new _ _ _) (by simp [Value.oneCell']) hmx (by omega) (by first | (simp; done) | (simp; omega) | omega) ?_)
        intro v' w5 hown' hgrow _ hat
        have HB5 := Lib.hid ((HBB.out.alloc HBB.out.size (.cells #[.int .i64 (d + 1)] 3)).grown hgrow (by simp; omega) (fun q hq => by have := own_lt HVV.out q hq; omega))
        have HO5 : Hid (w5.ownsRow w.heap.size 3 1 v' (k + 1) (intsZ ((evL R n).take (k + 1)))) := by
          show World.ownsRow _ _ _ _ _ _ _
          rw [HTK.out, HE.out, intsZ_snoc]; exact hown'
        clear hown' hgrow hat
        go_wp2
        go_roundw
        case rel => exact ⟨k + 1, by omega, by go_num, HO5.out, HB5.out⟩
        case measure => simp [intOf]; omega
      · have HE := Lib.hid (HNO.out hlr)
        have hwz := HBB.out.size
        go_wp2_with (at_builtin; refine wpList_append_own_at _ rfl _ _ 23 rfl w.heap.size 3 i0 (.int .i64 0) 1 8 Try.underlying23 HI.out HZ0.out HZ1.out HZ2.out rfl (by decide) _ _ _ rfl (HVV.out.alloc _) ⟨wr.heap.size, 0, none⟩ 1 1 [.int .i64 (d)] rfl rfl (cell_one_new _ _ _) (by simp [Value.oneCell']) hmx (by omega) (by first | (simp; done) | (simp; omega) | omega) ?_)
        intro v' w5 hown' hgrow _ hat
        have HB5 := Lib.hid ((HBB.out.alloc HBB.out.size (.cells #[.int .i64 (d)] 3)).grown hgrow (by simp; omega) (fun q hq => by have := own_lt HVV.out q hq; omega))
        have HO5 : Hid (w5.ownsRow w.heap.size 3 1 v' (k + 1) (intsZ ((evL R n).take (k + 1)))) := by
          show World.ownsRow _ _ _ _ _ _ _
          rw [HTK.out, HE.out, intsZ_snoc]; exact hown'
        clear hown' hgrow hat
        go_wp2
        go_roundw
        case rel => exact ⟨k + 1, by omega, by go_num, HO5.out, HB5.out⟩
        case measure => simp [intOf]; omega
    · obtain rfl : k = n := by omega
      have HO2 : Hid (wr.ownsRow w.heap.size 3 1 _ k (intsZ (evL R k))) := Lib.hid (by have h := HVV.out; rw [show (evL R k).take k = evL R k from List.take_of_length_le (by rw [evL_len]; exact Nat.le_refl _)] at h; exact h)
      go_wp2
      go_ret
      exact ⟨_, rfl, HBB.out, by rw [evL_len]; exact HO2.out⟩
end Go.Proofs.Ytpbkeagpipipmaa

/-
  Why a line cannot be justified, and the attempt to justify one: the contracts of spec.juWhy and impl.attemptLine, and of the methods of what it answers.
-/
namespace Go.Proofs.Ytpbkeagpipipmaa
open Go.RowKit
set_option linter.unusedVariables false

/-- The number of gaps, and what the spaces fill. -/
def gpI (l : List Int) : Int := (l.length : Int) - 1
def rmI (l : List Int) (m : Int) : Int := m - l.sum
/-- The reason. -/
def whyV (l : List Int) (r : Ru) (m : Int) : Int :=
  if gpI l * r.lst ≤ rmI l m ∧ rmI l m ≤ gpI l * r.mst then 0 else if gpI l = 0 then 3 else if rmI l m < gpI l * r.lst then 1 else 2
theorem why_fits {l : List Int} {r : Ru} {m : Int} : whyV l r m = 0 ↔ gpI l * r.lst ≤ rmI l m ∧ rmI l m ≤ gpI l * r.mst := by
  unfold whyV
  split
  · rename_i h; exact ⟨fun _ => h, fun _ => rfl⟩
  · rename_i h
    refine ⟨fun e => absurd e ?_, fun h' => absurd h' h⟩
    repeat' split
    all_goals omega
theorem why_range (l : List Int) (r : Ru) (m : Int) : 0 ≤ whyV l r m ∧ whyV l r m ≤ 3 := by
  unfold whyV
  repeat' split
  all_goals omega
/-- What the attempt answers. -/
def attV (l : List Int) (r : Ru) (m : Int) : Value :=
  if whyV l r m = 0 then .iface 100 (.agg #[.int .i64 (gpI l), .int .i64 (rmI l m)]) else .iface 101 (.int .i64 (whyV l r m))
theorem attV_yes {l : List Int} {r : Ru} {m : Int} (h : whyV l r m = 0) : attV l r m = .iface 100 (.agg #[.int .i64 (gpI l), .int .i64 (rmI l m)]) := if_pos h
theorem attV_no {l : List Int} {r : Ru} {m : Int} (h : ¬ whyV l r m = 0) : attV l r m = .iface 101 (.int .i64 (whyV l r m)) := if_neg h
theorem ret_v {a b : Value} (h : a = b) : Ending.returned a = .returned b := by rw [h]
theorem why_cases (l : List Int) (r : Ru) (m : Int) :
    (gpI l * r.lst ≤ rmI l m ∧ rmI l m ≤ gpI l * r.mst ∧ whyV l r m = 0) ∨ (¬ gpI l * r.lst ≤ rmI l m ∧ gpI l = 0 ∧ whyV l r m = 3) ∨
    (gpI l * r.lst ≤ rmI l m ∧ ¬ rmI l m ≤ gpI l * r.mst ∧ gpI l = 0 ∧ whyV l r m = 3) ∨ (¬ gpI l * r.lst ≤ rmI l m ∧ ¬ gpI l = 0 ∧ whyV l r m = 1) ∨
    (gpI l * r.lst ≤ rmI l m ∧ ¬ rmI l m ≤ gpI l * r.mst ∧ ¬ gpI l = 0 ∧ whyV l r m = 2) := by
  unfold whyV
  generalize gpI l * r.lst = a
  generalize gpI l * r.mst = b
  generalize gpI l = g
  generalize rmI l m = x
  repeat' split
  all_goals omega
set_option maxRecDepth 100000 in
theorem juWhy_any (l : List Int) (A : Option Addr) (c : Nat) (r : Ru) (m : Int) (w : World) (hf : IntsIn w A l) (hl : GoodL l) (hr : GoodR r) (hm1 : 1 ≤ m) (hm2 : m ≤ 2000) : Calls Try.prog 60 #[.slice A l.length c, .agg #[.int .i64 r.lst, .int .i64 r.nrm, .int .i64 r.mst], .int .i64 m] w fun e w' => e = .returned (.int .i64 (whyV l r m)) ∧ Below w.heap.size w w' := by
  have HF := Lib.hid hf; have HL := Lib.hid hl; have HR := Lib.hid hr
  have HA : Hid (Below w.heap.size w (w.alloc (.cells #[.int .i64 r.lst, .int .i64 r.nrm, .int .i64 r.mst] 25))) := Lib.hid ((Below.refl _ _).alloc (Nat.le_refl _) _)
  have h20 := hl.most; have h01 := hl.one
  have hsum := hl.sum
  have r1 := hr.a; have r2 := hr.b; have r3 := hr.c; have r4 := hr.d
  clear hf hl hr
  have hp := gaps_mul (s := r.lst) (g := gpI l) (by omega) (by omega) (by unfold gpI; omega) (by unfold gpI; omega)
  have hq := gaps_mul (s := r.mst) (g := gpI l) (by omega) (by omega) (by unfold gpI; omega) (by unfold gpI; omega)
  rw [Int.mul_comm] at hp hq
  have hg : (l.length : Int) - 1 = gpI l := rfl
  have hx : m - l.sum = rmI l m := rfl
  have hgr : 0 ≤ gpI l ∧ gpI l ≤ 19 := by unfold gpI; omega
  have hxr : -20000 ≤ rmI l m ∧ rmI l m ≤ 2000 := by unfold rmI; omega
  have hcase := why_cases l r m
  have HV : Hid (whyV l r m = whyV l r m) := Lib.hid rfl
  go_enter Try.func60, Try.ntmps60
  go_wp2_with fail
  refine (juSum_any l A c _ (HF.out.below HA.out (Nat.le_refl _)) HL.out).mono ?_
  rintro e w' ⟨rfl, rfl⟩
  generalize hG : gpI l = G at *
  generalize hX : rmI l m = X at *
  have HGX := Lib.hid (And.intro hG hX)
  clear hG hX
  generalize hW : whyV l r m = W at *
  have HW := Lib.hid hW
  clear hW
  rcases hcase with ⟨c1, c2, rfl⟩ | ⟨c1, c2, rfl⟩ | ⟨c1, c2, c3, rfl⟩ | ⟨c1, c2, rfl⟩ | ⟨c1, c2, c3, rfl⟩
  · go_wp2
    go_ret
    exact ⟨ret_int HW.out.symm, HA.out⟩
  · have d1 : X < 0 := by rw [c2, Int.zero_mul] at c1; omega
    clear c1 hp hq
    have e0 : (G == 0) = true := by simp [c2]
    go_wp2
    go_ret
    exact ⟨ret_int HW.out.symm, HA.out⟩
  · have d1 : 0 < X := by rw [c3, Int.zero_mul] at c2; omega
    clear c1 c2 hp hq
    have e0 : (G == 0) = true := by simp [c3]
    go_wp2
    go_ret
    exact ⟨ret_int HW.out.symm, HA.out⟩
  · have e0 : (G == 0) = false := by simp [c2]
    have c4 : X < G * r.lst := by omega
    go_wp2
    go_ret
    exact ⟨ret_int HW.out.symm, HA.out⟩
  · have e0 : (G == 0) = false := by simp [c3]
    have c4 : ¬ X < G * r.lst := by omega
    go_wp2
    go_ret
    exact ⟨ret_int HW.out.symm, HA.out⟩
set_option maxRecDepth 100000 in
theorem attemptLine_any (l : List Int) (A : Option Addr) (c : Nat) (r : Ru) (m : Int) (w : World) (hf : IntsIn w A l) (hl : GoodL l) (hr : GoodR r) (hm1 : 1 ≤ m) (hm2 : m ≤ 2000) : Calls Try.prog 58 #[.slice A l.length c, .agg #[.int .i64 r.lst, .int .i64 r.nrm, .int .i64 r.mst], .int .i64 m] w fun e w' => e = .returned (attV l r m) ∧ Below w.heap.size w w' := by
  have HF := Lib.hid hf; have HL := Lib.hid hl; have HR := Lib.hid hr
  have HA : Hid (Below w.heap.size w (w.alloc (.cells #[.int .i64 r.lst, .int .i64 r.nrm, .int .i64 r.mst] 25))) := Lib.hid ((Below.refl _ _).alloc (Nat.le_refl _) _)
  have h20 := hl.most; have h01 := hl.one
  have hsum := hl.sum
  have r1 := hr.a; have r2 := hr.b; have r3 := hr.c; have r4 := hr.d
  clear hf hl hr
  have hp := gaps_mul (s := r.lst) (g := gpI l) (by omega) (by omega) (by unfold gpI; omega) (by unfold gpI; omega)
  have hq := gaps_mul (s := r.mst) (g := gpI l) (by omega) (by omega) (by unfold gpI; omega) (by unfold gpI; omega)
  rw [Int.mul_comm] at hp hq
  have hg : (l.length : Int) - 1 = gpI l := rfl
  have hx : m - l.sum = rmI l m := rfl
  have hgr : 0 ≤ gpI l ∧ gpI l ≤ 19 := by unfold gpI; omega
  have hxr : -20000 ≤ rmI l m ∧ rmI l m ≤ 2000 := by unfold rmI; omega
  have hcase := why_cases l r m
  have HV : Hid (whyV l r m = whyV l r m) := Lib.hid rfl
  have hw0 : widV l 0 = l.sum := by unfold widV; simp
  go_enter Try.func58, Try.ntmps58
  go_wp2_with fail
  refine (widthOfLine_any l A c 0 _ (HF.out.below HA.out (Nat.le_refl _)) HL.out (by omega) (by omega)).mono ?_
  rintro e w' ⟨rfl, rfl⟩
  rw [hw0]
  have HY := Lib.hid (attV_yes (l := l) (r := r) (m := m)); have HN := Lib.hid (attV_no (l := l) (r := r) (m := m))
  generalize hG : gpI l = G at *
  generalize hX : rmI l m = X at *
  have HGX := Lib.hid (And.intro hG hX)
  clear hG hX
  generalize hW : whyV l r m = W at *
  have HW := Lib.hid hW
  clear hW
  rcases hcase with ⟨c1, c2, rfl⟩ | ⟨c1, c2, rfl⟩ | ⟨c1, c2, c3, rfl⟩ | ⟨c1, c2, rfl⟩ | ⟨c1, c2, c3, rfl⟩
  · go_wp2
    go_ret
    exact ⟨ret_v (HY.out trivial).symm, HA.out⟩
  · have d1 : X < 0 := by rw [c2, Int.zero_mul] at c1; omega
    clear c1 hp hq
    have e0 : (G == 0) = true := by simp [c2]
    go_wp2
    go_ret
    exact ⟨ret_v (HN.out (by decide)).symm, HA.out⟩
  · have d1 : 0 < X := by rw [c3, Int.zero_mul] at c2; omega
    clear c1 c2 hp hq
    have e0 : (G == 0) = true := by simp [c3]
    go_wp2
    go_ret
    exact ⟨ret_v (HN.out (by decide)).symm, HA.out⟩
  · have e0 : (G == 0) = false := by simp [c2]
    have c4 : X < G * r.lst := by omega
    go_wp2
    go_ret
    exact ⟨ret_v (HN.out (by decide)).symm, HA.out⟩
  · have e0 : (G == 0) = false := by simp [c3]
    have c4 : ¬ X < G * r.lst := by omega
    go_wp2
    go_ret
    exact ⟨ret_v (HN.out (by decide)).symm, HA.out⟩
theorem jReason_any (g x : Int) (w : World) : Calls Try.prog 121 #[.agg #[.int .i64 g, .int .i64 x]] w fun e w' => e = .returned (.int .i64 0) ∧ Below w.heap.size w w' := by
  go_enter Try.func121, Try.ntmps121
  go_wp2
  go_ret
  exact ⟨rfl, (Below.refl _ _).alloc (Nat.le_refl _) _⟩
theorem fReason_any (k : Int) (w : World) : Calls Try.prog 124 #[.int .i64 k] w fun e w' => e = .returned (.int .i64 k) ∧ Below w.heap.size w w' := by
  go_enter Try.func124, Try.ntmps124
  go_wp2
  go_ret
  exact ⟨rfl, Below.refl _ _⟩
theorem fSpaces_any (k : Int) (w : World) : Calls Try.prog 125 #[.int .i64 k] w fun e w' => e = .returned (.slice none 0 0) ∧ Below w.heap.size w w' := by
  go_enter Try.func125, Try.ntmps125
  go_wp2
  go_ret
  exact ⟨rfl, Below.refl _ _⟩
set_option maxRecDepth 100000 in
theorem jSpaces_any (n : Nat) (x : Int) (w : World) (hn : n ≤ 20) (h0 : 0 ≤ x) (h1 : x ≤ 12000) :
    Calls Try.prog 122 #[.agg #[.int .i64 (n : Int), .int .i64 x]] w fun e w' => RowTo w w' e (evL x n) := by
  have HA : Hid (Below w.heap.size w (w.alloc (.cells #[.int .i64 (n : Int), .int .i64 x] 100))) := Lib.hid ((Below.refl _ _).alloc (Nat.le_refl _) _)
  go_enter Try.func122, Try.ntmps122
  go_wp2_with fail
  refine (evenShares_any x n _ hn h0 h1).mono ?_
  rintro e w1 ⟨v, rfl, hb, ho⟩
  have HB := Lib.hid (HA.out.trans (hb.mono HA.out.size))
  have HO := Lib.hid (Joins.ownsRow_le ho HA.out.size)
  clear hb ho
  go_wp2
  go_ret
  exact ⟨_, rfl, HB.out, HO.out⟩
end Go.Proofs.Ytpbkeagpipipmaa

/-
  The contracts of spec.l1Abs, spec.caAsked, spec.caWay, spec.HandWay: the way of the hand.
-/
import Derived.Test.YtllafkeheppkjaaTi
namespace Go.Proofs.Ytllafkeheppkjaa
open Go.RowKit
set_option linter.unusedVariables false

def absI (a : Int) : Int := if 0 < a then a else -a
theorem absI_range {a b : Int} (h1 : 0 ≤ a ∧ a ≤ 9) (h2 : 0 ≤ b ∧ b ≤ 9) : 0 ≤ absI (a - b) ∧ absI (a - b) ≤ 9 := by
  unfold absI; split <;> omega
theorem wayAbs_any (a : Int) (w : World) (h1 : -100 ≤ a) (h2 : a ≤ 100) :
    Calls Try.prog 73 #[.int .i64 a] w fun e w' => e = .returned (.int .i64 (absI a)) ∧ w = w' := by
  go_enter Try.func73, Try.ntmps73
  go_wp2_with fail
  refine (l1Most_any _ _ _).mono ?_
  rintro e w' ⟨rfl, rfl⟩
  go_wp2
  all_goals
    go_ret
    exact ⟨ret_int (by unfold absI; split <;> omega), rfl⟩

/-- The hand goes on: its place, and the way so far. -/
def stepW (st : Int × Int × Int) (q : Int × Int) : Int × Int × Int := (q.1, q.2, st.2.2 + (absI (q.1 - st.1) + absI (q.2 - st.2.1)))
def runW (qs : List (Int × Int)) : Int × Int × Int := qs.foldl stepW (0, 0, 0)
theorem runW_snoc (qs : List (Int × Int)) (q : Int × Int) : runW (qs ++ [q]) = stepW (runW qs) q := by unfold runW; rw [List.foldl_append]; rfl
def InTen (q : Int × Int) : Prop := (0 ≤ q.1 ∧ q.1 ≤ 9) ∧ 0 ≤ q.2 ∧ q.2 ≤ 9
theorem runW_range (qs : List (Int × Int)) (h : ∀ q ∈ qs, InTen q) : ∀ (n : Nat), n ≤ qs.length → InTen ((runW (qs.take n)).1, (runW (qs.take n)).2.1) ∧ 0 ≤ (runW (qs.take n)).2.2 ∧ (runW (qs.take n)).2.2 ≤ 18 * n
  | 0, _ => ⟨by simp [runW, InTen], by simp [runW], by simp [runW]⟩
  | n + 1, hn => by
    have ih := runW_range qs h n (by omega)
    have hq := h _ (List.getElem_mem (l := qs) (n := n) (by omega))
    rw [List.take_succ_eq_append_getElem (by omega), runW_snoc]
    obtain ⟨⟨i1, i2⟩, i3, i4⟩ := ih
    have a1 := absI_range hq.1 i1
    have a2 := absI_range hq.2 i2
    dsimp only at a1 a2
    refine ⟨hq, ?_, ?_⟩
    · show 0 ≤ _ + (_ + _); omega
    · show _ + (_ + _) ≤ _; omega
/-- The place of the box with an index. -/
def plG (l : List Bx) (i : Nat) : Int × Int := ((l.getD i default).row, (l.getD i default).col)
theorem plG_at {l : List Bx} {i : Nat} (h : i < l.length) : plG l i = (l[i].row, l[i].col) := by
  unfold plG; rw [List.getD_eq_getElem?_getD, List.getElem?_eq_getElem h]; rfl
/-- The way over boxes with some indices. -/
def wayI (l : List Bx) (is : List Nat) : Int := (runW (is.map (plG l))).2.2
def ixs (l : List Bx) (cs : List ByteArray) : List Nat := cs.map (kI l)
def Places (l : List Bx) : Prop := ∀ k (h : k < l.length), InTen (l[k].row, l[k].col)
theorem CaseOk.places {l : List Bx} (h : CaseOk l) : Places l := fun k hk => ⟨(h.range hk).1, (h.range hk).2.1⟩
/-- All Codes are there. -/
def AllIn (l : List Bx) (cs : List ByteArray) : Prop := ∀ k (h : k < cs.length), 0 ≤ caI l cs[k]
theorem kI_lt {l : List Bx} {c : ByteArray} (h : 0 ≤ caI l c) : kI l c < l.length ∧ caI l c = (kI l c : Int) := by
  rcases caI_cases l c with ⟨e, _⟩ | ⟨k, hk, _, e⟩
  · omega
  · unfold kI; rw [e]; exact ⟨by simpa using hk, by simp⟩
theorem ten_of {l : List Bx} {cs : List ByteArray} (hp : Places l) (ha : AllIn l cs) : ∀ q ∈ (ixs l cs).map (plG l), InTen q := by
  intro q hq
  simp only [ixs, List.map_map, List.mem_map] at hq
  obtain ⟨c, hc, rfl⟩ := hq
  obtain ⟨k, hk, rfl⟩ := List.mem_iff_getElem.1 hc
  have hl := (kI_lt (ha k hk)).1
  show InTen (plG l (kI l cs[k]))
  rw [plG_at hl]
  exact hp _ hl
theorem askB2_all {l : List Bx} {cs : List ByteArray} (h : askB2 l cs = true) : CaseOk l ∧ AllIn l cs ∧ cs.length ≤ 60 := by
  unfold askB2 at h
  simp only [Bool.and_eq_true, decide_eq_true_eq, List.all_eq_true] at h
  exact ⟨caseB_iff.1 h.2.1, fun k hk => h.1 _ (List.getElem_mem hk), h.2.2⟩

theorem caAsked_any (l : List Bx) (A : Option Addr) (c : Nat) (cs : List ByteArray) (B : Option Addr) (d : Nat) (w : World) (hf : BxsIn w A l) (hn : l.length ≤ 1048576) (ho : BxsOk l) (hcap : l.length ≤ c) (hs : StrsIn w B cs) (hso : StrsOk cs) (hm : cs.length ≤ 1048576) :
    Calls Try.prog 62 #[.slice A l.length c, .slice B cs.length d] w fun e w' => e = .returned (.bool (askB2 l cs)) ∧ Below w.heap.size w w' := by
  have HF := Lib.hid hf; clear hf
  have HO := Lib.hid ho; clear ho
  have HS := Lib.hid hs; clear hs
  have HAS : Hid (∀ b, (cs.all fun c => decide (0 ≤ caI l c)) = b → askB2 l cs = (b && (caseB l && decide (cs.length ≤ 60)))) := Lib.hid (fun b h => by unfold askB2; rw [h])
  go_enter Try.func62, Try.ntmps62
  go_wp2
  go_loopw [9] (fun i wr => ∃ (k : Nat), k ≤ cs.length ∧ i = .int .i64 k ∧ (∀ j (h : j < cs.length), j < k → 0 ≤ caI l cs[j]) ∧ Below w.heap.size w wr) (fun i _ => cs.length - (intOf i).toNat)
  case atStart => exact ⟨0, Nat.zero_le _, rfl, fun _ _ h => absurd h (by omega), Below.refl _ _⟩
  case round =>
    obtain ⟨k, hk, rfl, hall, hb⟩ := hrel
    have HALL := Lib.hid hall; clear hall
    by_cases hlt : k < cs.length
    · obtain ⟨b, off, rfl, hbl, hc⟩ := HS.out (by omega)
      have hc0 := hc k hlt
      clear hc
      rw [← hb.cell (p := ⟨b, off + k, none⟩) hbl] at hc0
      have HF1 := Lib.hid (HF.out.below hb (Nat.le_refl _))
      go_wp2_with fail
      refine (caFind_any l A c cs[k] _ HF1.out hn).mono ?_
      rintro e w1 ⟨rfl, hb1⟩
      have hb' := hb.trans (hb1.mono hb.size)
      clear hb hb1 hc0
      by_cases h0 : caI l cs[k] < 0
      · have HE : Hid (askB2 l cs = false) := Lib.hid (by
          rw [HAS.out false (by rw [List.all_eq_false]; exact ⟨cs[k], List.getElem_mem hlt, by simpa using h0⟩)]; rfl)
        go_wp2
        go_ret
        exact ⟨ret_bool HE.out.symm, hb'⟩
      · have HNX : Hid (∀ j (h : j < cs.length), j < k + 1 → 0 ≤ caI l cs[j]) := Lib.hid (fun j h hj => by
          rcases Nat.lt_or_ge j k with h1 | h1
          · exact HALL.out j h h1
          · obtain rfl : j = k := by omega
            omega)
        go_wp2
        go_roundw
        case rel => exact ⟨k + 1, by omega, by go_num, HNX.out, hb'⟩
        case measure => simp [intOf]; omega
    · obtain rfl : k = cs.length := by omega
      have HT := Lib.hid (HAS.out true (by
        rw [List.all_eq_true]
        intro x hx
        obtain ⟨j, hj, rfl⟩ := List.mem_iff_getElem.1 hx
        exact decide_eq_true (HALL.out j hj hj)))
      have HF1 := Lib.hid (HF.out.below hb (Nat.le_refl _))
      cases hv : caseB l
      · have HV := Lib.hid hv; clear hv
        go_wp2_with fail
        refine (caGood_is l _ A c _ HF1.out hn HO.out hcap HV).mono ?_
        rintro e w1 ⟨rfl, hb1⟩
        go_wp2
        go_ret
        exact ⟨ret_bool (by rw [HT.out, HV.out]; rfl), hb.trans (hb1.mono hb.size)⟩
      · have HV := Lib.hid hv; clear hv
        go_wp2_with fail
        refine (caGood_is l _ A c _ HF1.out hn HO.out hcap HV).mono ?_
        rintro e w1 ⟨rfl, hb1⟩
        have hb' := hb.trans (hb1.mono hb.size)
        clear hb hb1
        have HD : Hid (decide ((cs.length : Int) ≤ 60) = decide (cs.length ≤ 60)) := Lib.hid (decide_eq_decide.2 (by omega))
        go_wp2
        go_ret
        exact ⟨ret_bool (by rw [HT.out, HV.out, Bool.true_and, Bool.true_and, HD.out]), hb'⟩

set_option maxRecDepth 100000 in
set_option maxHeartbeats 1000000 in
theorem caWay_any (l : List Bx) (A : Option Addr) (c : Nat) (cs : List ByteArray) (B : Option Addr) (d : Nat) (w : World) (hf : BxsIn w A l) (hn : l.length ≤ 1048576) (hs : StrsIn w B cs) (hp : Places l) (ha : AllIn l cs) (hm : cs.length ≤ 60) :
    Calls Try.prog 63 #[.slice A l.length c, .slice B cs.length d] w fun e w' => e = .returned (.int .i64 (wayI l (ixs l cs))) ∧ Below w.heap.size w w' := by
  have HF := Lib.hid hf; clear hf
  have HS := Lib.hid hs; clear hs
  have HT := Lib.hid (ten_of hp ha)
  have HP := Lib.hid hp; have HA := Lib.hid ha; clear hp ha
  obtain ⟨qs, hqs⟩ : ∃ qs, qs = (ixs l cs).map (plG l) := ⟨_, rfl⟩
  have hql : qs.length = cs.length := by rw [hqs]; simp [ixs]
  have HQL := Lib.hid hql; have HQS := Lib.hid hqs
  have HQ : Hid (∀ k (h : k < qs.length) (h' : k < cs.length), qs[k] = plG l (kI l cs[k])) := Lib.hid (by subst hqs; intro k h h'; simp [ixs])
  rw [← hqs] at HT
  clear hqs hql
  go_enter Try.func63, Try.ntmps63
  go_wp2
  go_loopw [5, 6, 7, 13] (fun r cc s i wr => ∃ (k : Nat) (x y z : Int), k ≤ cs.length ∧ i = .int .i64 k ∧ r = .int .i64 x ∧ cc = .int .i64 y ∧ s = .int .i64 z ∧ (x, y, z) = runW (qs.take k) ∧ Below w.heap.size w wr) (fun _ _ _ i _ => cs.length - (intOf i).toNat)
  case atStart => exact ⟨0, 0, 0, 0, Nat.zero_le _, rfl, rfl, rfl, rfl, rfl, Below.refl _ _⟩
  case round =>
    obtain ⟨k, x, y, z, hk, rfl, rfl, rfl, rfl, hst, hb⟩ := hrel
    by_cases hlt : k < cs.length
    · obtain ⟨b, off, rfl, hbl, hc⟩ := HS.out (by omega)
      have hc0 := hc k hlt
      clear hc
      rw [← hb.cell (p := ⟨b, off + k, none⟩) hbl] at hc0
      have HF1 := Lib.hid (HF.out.below hb (Nat.le_refl _))
      obtain ⟨hkl, hkv⟩ := kI_lt (HA.out k hlt)
      have hrg := runW_range qs HT.out k (by rw [HQL.out]; omega)
      rw [← hst] at hrg
      have hqk := HQ.out k (by rw [HQL.out]; exact hlt) hlt
      rw [plG_at hkl] at hqk
      have HNX : Hid (runW (qs.take (k + 1)) = stepW (x, y, z) (l[kI l cs[k]].row, l[kI l cs[k]].col)) := Lib.hid (by
        rw [List.take_succ_eq_append_getElem (by rw [HQL.out]; exact hlt), runW_snoc, ← hst, hqk])
      clear hst hqk
      have hpl := HP.out _ hkl
      obtain ⟨bb, offb, rfl, hbbl, hcc⟩ := HF1.out (by omega)
      go_wp2_with fail
      refine (caFind_any l _ c cs[k] _ HF1.out hn).mono ?_
      rintro e w1 ⟨rfl, hb1⟩
      rw [hkv]
      clear hkv
      have hb' := hb.trans (hb1.mono hb.size)
      have hkl' : kI l cs[k] < l.length := hkl
      obtain ⟨e0, e1, e2, e3⟩ := hcc _ hkl
      rw [← hb1.cell (p := ⟨bb, offb + kI l cs[k] * 4, none⟩) hbbl] at e0
      rw [← hb1.cell (p := ⟨bb, offb + kI l cs[k] * 4 + 1, none⟩) hbbl] at e1
      rw [← hb1.cell (p := ⟨bb, offb + kI l cs[k] * 4 + 2, none⟩) hbbl] at e2
      rw [← hb1.cell (p := ⟨bb, offb + kI l cs[k] * 4 + 3, none⟩) hbbl] at e3
      clear hb hb1 hc0 hcc hbbl
      obtain ⟨p0, hp0⟩ : ∃ p0, p0 = l[kI l cs[k]] := ⟨_, rfl⟩
      rw [← hp0] at e0 e1 e2 e3 HNX hpl
      have HP0 := Lib.hid hp0; clear hp0
      generalize kI l cs[k] = K at *
      obtain ⟨⟨g1, g2⟩, g3, g4⟩ := hrg
      obtain ⟨⟨g5, g6⟩, g7, g8⟩ := hpl
      have a1 := absI_range (a := p0.row) (b := x) ⟨g5, g6⟩ g1
      have a2 := absI_range (a := p0.col) (b := y) ⟨g7, g8⟩ g2
      dsimp only at g1 g2 g3 g4 g5 g6 g7 g8
      go_wp2_with fail
      obtain ⟨W0, hW0⟩ : ∃ W0 : World, W0 = w1.alloc (.cells #[.string p0.cod, .int .i64 p0.row, .int .i64 p0.col, .int .i64 p0.cnt] 26) := ⟨_, rfl⟩
      rw [← hW0]
      have s1 : W0.cell? ⟨w1.heap.size, 1, none⟩ = some (.int .i64 p0.row) := by rw [hW0]; simp
      have s2 : W0.cell? ⟨w1.heap.size, 2, none⟩ = some (.int .i64 p0.col) := by rw [hW0]; simp
      have hb0 : Below w.heap.size w W0 := by rw [hW0]; exact hb'.alloc hb'.size _
      have hz0 : w1.heap.size < W0.heap.size := by rw [hW0]; simp
      clear e0 e1 e2 e3 hW0 hb'
      have x1 := KeptW.cell s1 hz0
      have x2 := KeptW.cell s2 hz0
      have S1 := Lib.hid s1; have S2 := Lib.hid s2
      clear s1 s2
      have d1 : -100 ≤ p0.row - x ∧ p0.row - x ≤ 100 := by omega
      have d2 : -100 ≤ p0.col - y ∧ p0.col - y ≤ 100 := by omega
      refine region_kept W0.heap.size (by kernel_rfl) (by kernel_rfl) ?_
      repeat (go_big_quiet_step ((go_at_call 73; first | exact kept_same _ (wayAbs_any (p0.row - x) _ d1.1 d1.2) | exact kept_same _ (wayAbs_any (p0.col - y) _ d2.1 d2.2))))
      refine wpQuiet_nil ?_
      intro w2 hb2
      have hb3 : Below w.heap.size w w2 := hb0.trans (hb2.mono hb0.size)
      have t1 := (hb2.cell (p := ⟨w1.heap.size, 1, none⟩) hz0).trans S1.out
      have t2 := (hb2.cell (p := ⟨w1.heap.size, 2, none⟩) hz0).trans S2.out
      clear x1 x2 hb0 hb2 hz0
      go_wp2
      go_roundw
      case rel => exact ⟨k + 1, p0.row, p0.col, z + (absI (p0.row - x) + absI (p0.col - y)), by omega, by go_num, rfl, rfl, by go_num, HNX.out.symm, hb3⟩
      case measure => simp [intOf]; omega
    · obtain rfl : k = cs.length := by omega
      have HE : Hid (wayI l (ixs l cs) = z) := Lib.hid (by
        unfold wayI
        rw [← HQS.out]
        rw [List.take_of_length_le (by rw [HQL.out]; exact Nat.le_refl _)] at hst
        rw [← hst])
      go_wp2
      go_ret
      exact ⟨ret_int HE.out.symm, hb⟩

/-- The answer of HandWay. -/
noncomputable def hwR (l : List Bx) (cs : List ByteArray) : Option Int := if askB2 l cs = true then some (wayI l (ixs l cs)) else none
theorem caAsked_is (l : List Bx) (v : Bool) (A : Option Addr) (c : Nat) (cs : List ByteArray) (B : Option Addr) (d : Nat) (w : World) (hf : BxsIn w A l) (hn : l.length ≤ 1048576) (ho : BxsOk l) (hcap : l.length ≤ c) (hs : StrsIn w B cs) (hso : StrsOk cs) (hm : cs.length ≤ 1048576) (h : Hid (askB2 l cs = v)) :
    Calls Try.prog 62 #[.slice A l.length c, .slice B cs.length d] w fun e w' => e = .returned (.bool v) ∧ Below w.heap.size w w' := by
  rw [← h.out]; exact caAsked_any l A c cs B d w hf hn ho hcap hs hso hm
theorem specHandWay_any (l : List Bx) (A : Option Addr) (c : Nat) (cs : List ByteArray) (B : Option Addr) (d : Nat) (w : World) (hf : BxsIn w A l) (hn : l.length ≤ 1048576) (ho : BxsOk l) (hcap : l.length ≤ c) (hs : StrsIn w B cs) (hso : StrsOk cs) (hm : cs.length ≤ 1048576) :
    Calls Try.prog 27 #[.slice A l.length c, .slice B cs.length d] w fun e w' => e = .returned (.tuple #[.int .i64 ((hwR l cs).getD 0), .bool (hwR l cs).isSome]) ∧ Below w.heap.size w w' := by
  have HF := Lib.hid hf; clear hf
  have HO := Lib.hid ho; clear ho
  have HS := Lib.hid hs; clear hs
  cases hv : askB2 l cs
  · have HE : Hid (hwR l cs = none) := Lib.hid (by unfold hwR; rw [hv]; rfl)
    have HV := Lib.hid hv; clear hv
    go_enter Try.func27, Try.ntmps27
    go_wp2_with fail
    refine (caAsked_is l _ A c cs B d _ HF.out hn HO.out hcap HS.out hso hm HV).mono ?_
    rintro e w1 ⟨rfl, hb1⟩
    go_wp2
    go_ret2
    exact ⟨by rw [HE.out]; rfl, hb1⟩
  · have HE : Hid (hwR l cs = some (wayI l (ixs l cs))) := Lib.hid (by unfold hwR; rw [hv]; rfl)
    obtain ⟨hC, hA, hL⟩ := askB2_all hv
    have HC := Lib.hid hC; have HA := Lib.hid hA; clear hC hA
    have HV := Lib.hid hv; clear hv
    go_enter Try.func27, Try.ntmps27
    go_wp2_with fail
    refine (caAsked_is l _ A c cs B d _ HF.out hn HO.out hcap HS.out hso hm HV).mono ?_
    rintro e w1 ⟨rfl, hb1⟩
    have HF1 := Lib.hid (HF.out.next hb1); have HS1 := Lib.hid (HS.out.below hb1 (Nat.le_refl _))
    go_wp2_with fail
    refine (caWay_any l A c cs B d _ HF1.out hn HS1.out HC.out.places HA.out hL).mono ?_
    rintro e w2 ⟨rfl, hb2⟩
    go_wp2
    go_ret2
    exact ⟨by rw [HE.out]; rfl, hb1.trans (hb2.mono hb1.size)⟩
end Go.Proofs.Ytllafkeheppkjaa

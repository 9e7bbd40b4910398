/-
  The contracts of spec.RoomOfEntry, TightEntries, SpreadTable.
-/
import Derived.Test.YteagclokobkigaaEu
import Derived.Test.YteagclokobkigaaTail
namespace Go.Proofs.Yteagclokobkigaa
open Go.RowKit
set_option linter.unusedVariables false

noncomputable def roB (n : Int) (l : List En) (g i : Int) : Bool := askT n l g && inB 0 ((l.length : Int) - 1) i
noncomputable def roV (n : Int) (l : List En) (g i : Int) : Int := if roB n l g i then rmV n l g (l.getD i.toNat ⟨0, 0, 0⟩) else 0
theorem ro_no {n : Int} {l : List En} {g i : Int} (h : roB n l g i = false) : roV n l g i = 0 := by unfold roV; rw [h]; rfl
theorem ro_yes {n : Int} {l : List En} {g : Int} {i : Nat} (hi : i < l.length) (h : roB n l g (i : Int) = true) : roV n l g (i : Int) = rmV n l g l[i] := by
  unfold roV; rw [h, Int.toNat_natCast, List.getD_eq_getElem?_getD, List.getElem?_eq_getElem hi]; rfl
theorem specRoomOfEntry_any (n : Int) (f : List En) (A : Option Addr) (c : Nat) (g i : Int) (w : World) (hf : EnsIn w A f) (hn : f.length ≤ 1048576) :
    Calls Try.prog 28 #[.int .i64 n, .slice A f.length c, .int .i64 g, .int .i64 i] w fun e w' => e = .returned (.tuple #[.int .i64 (roV n f g i), .bool (roB n f g i)]) ∧ Below w.heap.size w w' := by
  have HF := Lib.hid hf; clear hf
  have HE : Hid (roB n f g i = (askT n f g && inB 0 ((f.length : Int) - 1) i)) := Lib.hid rfl
  go_enter Try.func28, Try.ntmps28
  go_wp2_with fail
  refine (tbAsked_any n f A c g _ HF.out hn).mono ?_
  rintro e w1 ⟨rfl, hb1⟩
  have HB1 := Lib.hid hb1; clear hb1
  cases ha : askT n f g
  · have HA : Hid (roB n f g i = false) := Lib.hid (by rw [HE.out, ha]; rfl)
    have HV := Lib.hid (ro_no HA.out)
    clear ha
    go_wp2
    go_ret2
    exact ⟨ret_ib HV.out.symm HA.out.symm, HB1.out⟩
  go_wp2_with fail
  refine (l1In_any _ _ _ _).mono ?_
  rintro e w' ⟨rfl, rfl⟩
  cases hi : inB 0 ((f.length : Int) - 1) i
  · have HA : Hid (roB n f g i = false) := Lib.hid (by rw [HE.out, ha, hi]; rfl)
    have HV := Lib.hid (ro_no HA.out)
    clear ha hi
    go_wp2
    go_ret2
    exact ⟨ret_ib HV.out.symm HA.out.symm, HB1.out⟩
  have HA : Hid (roB n f g i = true) := Lib.hid (by rw [HE.out, ha, hi]; rfl)
  have hin := inBs_iff.1 hi
  obtain ⟨i, rfl⟩ : ∃ k : Nat, i = (k : Int) := ⟨i.toNat, by omega⟩
  have hil : i < f.length := by omega
  have HV := Lib.hid (ro_yes hil HA.out)
  obtain ⟨hG, h0, h36⟩ := askT_iff.1 ha
  obtain ⟨N, rfl, hN1, hN10⟩ := ask_nat ha
  have HG := Lib.hid hG
  clear ha hi hG
  go_wp2_with fail
  refine (tbRoom_any N f A c g i _ HG.out h0 h36 (HF.out.below HB1.out (Nat.le_refl _)) hil).mono ?_
  rintro e w2 ⟨rfl, hb2⟩
  have HB2 := Lib.hid (HB1.out.trans (hb2.mono HB1.out.size)); clear hb2
  go_wp2
  go_ret2
  exact ⟨ret_ib HV.out.symm HA.out.symm, HB2.out⟩

/-- The tight ones among the first k. -/
def tiK (n : Int) (l : List En) (g : Int) : Nat → List Int
  | 0 => []
  | k + 1 => if rmV n l g (l.getD k ⟨0, 0, 0⟩) = 0 then tiK n l g k ++ [(k : Int)] else tiK n l g k
theorem tiK_yes {n : Int} {l : List En} {g : Int} {k : Nat} (hk : k < l.length) (h : rmV n l g l[k] = 0) : tiK n l g (k + 1) = tiK n l g k ++ [(k : Int)] := by
  have e : l.getD k ⟨0, 0, 0⟩ = l[k] := by rw [List.getD_eq_getElem?_getD, List.getElem?_eq_getElem hk]; rfl
  show (if _ then _ else _) = _
  rw [e, if_pos h]
theorem tiK_no {n : Int} {l : List En} {g : Int} {k : Nat} (hk : k < l.length) (h : ¬ rmV n l g l[k] = 0) : tiK n l g (k + 1) = tiK n l g k := by
  have e : l.getD k ⟨0, 0, 0⟩ = l[k] := by rw [List.getD_eq_getElem?_getD, List.getElem?_eq_getElem hk]; rfl
  show (if _ then _ else _) = _
  rw [e, if_neg h]
theorem tiK_len (n : Int) (l : List En) (g : Int) : ∀ k, (tiK n l g k).length ≤ k
  | 0 => Nat.le_refl _
  | k + 1 => by
    have := tiK_len n l g k
    unfold tiK
    split
    · rw [List.length_append]; show _ + 1 ≤ _; omega
    · omega
noncomputable def teL (n : Int) (l : List En) (g : Int) : List Int := if askT n l g then tiK n l g l.length else []
theorem te_no {n : Int} {l : List En} {g : Int} (h : askT n l g = false) : teL n l g = [] := by unfold teL; rw [h]; rfl
theorem te_yes {n : Int} {l : List En} {g : Int} (h : askT n l g = true) : teL n l g = tiK n l g l.length := by unfold teL; rw [h]; rfl
theorem teL_short (n : Int) (l : List En) (g : Int) : (teL n l g).length ≤ 1048576 := by
  cases h : askT n l g
  · rw [te_no h]; simp
  · rw [te_yes h]
    have h1 := tiK_len n l g l.length
    have := (askT_iff.1 h).1.len
    omega
set_option maxRecDepth 100000 in
set_option maxHeartbeats 4000000 in
theorem specTightEntries_any (n : Int) (f : List En) (A : Option Addr) (c : Nat) (g : Int) (w : World) (hf : EnsIn w A f) (hn : f.length ≤ 1048576) :
    Calls Try.prog 26 #[.int .i64 n, .slice A f.length c, .int .i64 g] w fun e w' => IntsB w w' e (teL n f g) (askT n f g) := by
  have HF := Lib.hid hf; clear hf
  obtain ⟨i0, hi, hz0, hz1, hz2⟩ := info_parts info_int
  have HI := Lib.hid hi; have HZ0 := Lib.hid hz0; have HZ1 := Lib.hid hz1; have HZ2 := Lib.hid hz2
  clear hi hz0 hz1 hz2
  go_enter Try.func26, Try.ntmps26
  go_wp2_with fail
  refine (tbAsked_any n f A c g _ HF.out hn).mono ?_
  rintro e w1 ⟨rfl, hb1⟩
  have HB1 := Lib.hid hb1; clear hb1
  cases ha : askT n f g
  · have HN := Lib.hid (te_no ha); have HA := Lib.hid ha; clear ha
    go_wp2
    go_ret2
    exact ⟨_, 3, ret_vb HA.out.symm, HB1.out, by rw [HN.out]; exact own_nil _ _ _ _⟩
  have HA := Lib.hid ha; have HV := Lib.hid (te_yes ha)
  obtain ⟨hG, h0, h36⟩ := askT_iff.1 ha
  obtain ⟨N, rfl, hN1, hN10⟩ := ask_nat ha
  have HG := Lib.hid hG
  have hl20 := hG.len
  clear ha hG
  go_wp2
  go_loopw [8, 17] (fun v i wr => ∃ k : Nat, k ≤ f.length ∧ i = .int .i64 (k : Int) ∧ wr.ownsRow w.heap.size 3 1 v (tiK (N : Int) f g k).length (intsZ (tiK (N : Int) f g k)) ∧ Below w.heap.size w wr) (fun _ i _ => f.length - (intOf i).toNat)
  case atStart => exact ⟨0, Nat.zero_le _, rfl, own_nil _ _ _ _, HB1.out⟩
  case round =>
    obtain ⟨k, hk, rfl, hv, hb⟩ := hrel
    have hkl := tiK_len (N : Int) f g k
    by_cases hlt : k < f.length
    · have HVV := Lib.hid hv; have HB := Lib.hid hb
      have HYES := Lib.hid (tiK_yes (n := (N : Int)) (g := g) hlt); have HNOK := Lib.hid (tiK_no (n := (N : Int)) (g := g) hlt)
      clear hv hb
      go_wp2_with fail
      refine (tbRoom_any N f A c g k _ HG.out h0 h36 (HF.out.below HB.out (Nat.le_refl _)) hlt).mono ?_
      rintro e w2 ⟨rfl, hb2⟩
      have HB2 := Lib.hid (HB.out.trans (hb2.mono HB.out.size)); have HV2 := Lib.hid (own_below HVV.out hb2)
      clear hb2
      generalize rmV (N : Int) f g f[k] = rm at *
      by_cases hx : rm = 0
      · have HK := Lib.hid (HYES.out hx)
        subst hx
        have hmx : (tiK (N : Int) f g k).length + 1 ≤ maxLen := by unfold maxLen; omega
        have hww := HB2.out.size
        go_wp2_with (at_builtin; refine wpList_append_own_at _ rfl _ _ 27 rfl w.heap.size 3 i0 (.int .i64 0) 1 8 Try.underlying27 HI.out HZ0.out HZ1.out HZ2.out rfl (by decide) _ _ _ rfl (HV2.out.alloc _) ⟨w2.heap.size, 0, none⟩ 1 1 [.int .i64 (k : Int)] rfl rfl (cell_one_new _ _ _) (by simp [Value.oneCell']) hmx (by omega) (by first | (simp; done) | (simp; omega) | omega) ?_)
        intro v' w5 hown' hgrow _ hat
        have HB5 := Lib.hid ((HB2.out.alloc HB2.out.size (.cells #[.int .i64 (k : Int)] 3)).grown hgrow (by simp; omega) (fun q hq => by have := own_lt HV2.out q hq; omega))
        have HO5 : Hid (w5.ownsRow w.heap.size 3 1 v' (tiK (N : Int) f g (k + 1)).length (intsZ (tiK (N : Int) f g (k + 1)))) := by
          show World.ownsRow _ _ _ _ _ _ _
          rw [HK.out, intsZ_snoc, List.length_append]; exact hown'
        clear hown' hgrow hat
        go_wp2
        go_roundw
        case rel => exact ⟨k + 1, by omega, by go_num, HO5.out, HB5.out⟩
        case measure => simp [intOf]; omega
      · have HK := Lib.hid (HNOK.out hx)
        have hxb : (rm == 0) = false := by simp [hx]
        go_wp2
        go_roundw
        case rel => exact ⟨k + 1, by omega, by go_num, by rw [HK.out]; exact HV2.out, HB2.out⟩
        case measure => simp [intOf]; omega
    · obtain rfl : k = f.length := by omega
      go_wp2
      go_ret2
      exact ⟨_, _, ret_vb HA.out.symm, hb, by rw [HV.out]; exact hv⟩
end Go.Proofs.Yteagclokobkigaa

/-
  The contracts of spec.tbWidth, tbWidths, LeastStarts, TableWidth, ColumnWidths.
-/
import Derived.Test.YteagclokobkigaaEd
import Derived.Test.YteagclokobkigaaMk
namespace Go.Proofs.Yteagclokobkigaa
open Go.RowKit
set_option linter.unusedVariables false

theorem own_intsOf {w : World} {base : Nat} {A : Option Addr} {n c : Nat} {e : TypeId} {L : List Int} (h : w.ownsRow base e 1 (.slice A n c) L.length (intsZ L)) : IntsIn w A L := own_in h
theorem tbWidth_any (N : Nat) (l : List En) (A : Option Addr) (c : Nat) (g : Int) (w : World) (hG : GoodT (N : Int) l) (h0 : 0 ≤ g) (h36 : g ≤ 36) (hf : EnsIn w A l) :
    Calls Try.prog 47 #[.int .i64 (N : Int), .slice A l.length c, .int .i64 g] w fun e w' => e = .returned (.int .i64 (wdV l g (N : Int))) ∧ Below w.heap.size w w' := by
  have HG := Lib.hid hG
  have hN10 : N ≤ 10 := by have := hG.n1; omega
  go_enter Try.func47, Try.ntmps47
  go_wp2_with fail
  refine (tbStarts_any N l A c g _ hG h0 h36 hf).mono ?_
  rintro e w1 ⟨v, rfl, hb, ho⟩
  obtain ⟨A1, c1, rfl⟩ := own_form ho
  have hll := stL_len' l g (N + 1)
  obtain ⟨b1, o1, hA1, hbl1, hc1⟩ := (own_in ho) (by omega)
  have hk1 := hc1 N (by omega)
  rw [stL_get] at hk1
  subst hA1
  have hbd := stV_all HG.out.all h0 h36 (k := N) (by omega)
  have HV : Hid (wdV l g (N : Int) = stV l g N - g) := Lib.hid (by unfold wdV; rw [Int.toNat_natCast])
  have HB := Lib.hid hb
  rw [hll]
  clear hc1 ho hb hG hf
  have hNl : (N : Int) < ((N + 1 : Nat) : Int) := by omega
  generalize stV l g N = t at *
  go_wp2
  go_ret
  exact ⟨ret_int (by rw [HV.out]), HB.out⟩
theorem wdL_succ' (l : List En) (g : Int) (k : Nat) : wdL l g (k + 1) = wdL l g k ++ [enV l g k - stV l g k] := rng_succ _ _
theorem wdL_len' (l : List En) (g : Int) (k : Nat) : (wdL l g k).length = k := rng_len _ _
set_option maxRecDepth 100000 in
set_option maxHeartbeats 4000000 in
theorem tbWidths_any (N : Nat) (l : List En) (B : Option Addr) (d : Nat) (g : Int) (w : World) (hG : GoodT (N : Int) l) (h0 : 0 ≤ g) (h36 : g ≤ 36) (hs : IntsIn w B (stL l g (N + 1))) :
    Calls Try.prog 45 #[.slice B (stL l g (N + 1)).length d, .int .i64 g] w fun e w' => IntsOf w w' e (wdL l g N) := by
  have HG := Lib.hid hG; clear hG
  obtain ⟨i0, hi, hz0, hz1, hz2⟩ := info_parts info_int
  have HI := Lib.hid hi; have HZ0 := Lib.hid hz0; have HZ1 := Lib.hid hz1; have HZ2 := Lib.hid hz2
  clear hi hz0 hz1 hz2
  have hN10 : N ≤ 10 := by have := HG.out.n1; omega
  have hll := stL_len' l g (N + 1)
  obtain ⟨b1, o1, hA1, hbl1, hc1⟩ := hs (by omega)
  subst hA1
  have HC1 := Lib.hid hc1; clear hc1 hs
  rw [hll]
  go_enter Try.func45, Try.ntmps45
  go_wp2
  go_loopw [5, 6] (fun v i wr => ∃ k : Nat, k ≤ N ∧ i = .int .i64 ((k + 1 : Nat) : Int) ∧ wr.ownsRow w.heap.size 3 1 v k (intsZ (wdL l g k)) ∧ Below w.heap.size w wr) (fun _ i _ => N + 1 - (intOf i).toNat)
  case atStart => exact ⟨0, Nat.zero_le _, rfl, own_nil _ _ _ _, Below.refl _ _⟩
  case round =>
    obtain ⟨ws, hws⟩ : ∃ u : World, u = wr := ⟨_, rfl⟩
    subst hws
    obtain ⟨k, hk, rfl, hv, hb⟩ := hrel
    have HV := Lib.hid hv; have HB := Lib.hid hb
    have HVL := Lib.hid (wdL_len' l g k)
    by_cases hlt : k < N
    · have e0 := HC1.out k (by omega)
      have e1 := HC1.out (k + 1) (by omega)
      rw [stL_get, ← hb.cell (p := ⟨b1, o1 + k, none⟩) hbl1] at e0
      rw [stL_get, ← hb.cell (p := ⟨b1, o1 + (k + 1), none⟩) hbl1] at e1
      have hbl2 : b1 < ws.heap.size := by have := hb.size; omega
      have hx0 := stV_all HG.out.all h0 h36 (k := k) (by omega)
      have hx1 := stV_all HG.out.all h0 h36 (k := k + 1) (by omega)
      have HSU := Lib.hid (wdL_succ' l g k)
      have HEV : Hid (enV l g k - stV l g k = stV l g (k + 1) - stV l g k - g) := Lib.hid (by rw [stV_succ HG.out.all g k]; omega)
      have HE0 := Lib.hid e0; have HE1 := Lib.hid e1
      have hk1 : ((k + 1 : Nat) : Int) < ((N + 1 : Nat) : Int) := by omega
      have hk2 : ((k + 1 : Nat) : Int) - 1 = (k : Int) := by omega
      have hk3 : (k : Int) < ((N + 1 : Nat) : Int) := by omega
      have hmx : k + 1 ≤ maxLen := by unfold maxLen; omega
      have hwz := hb.size
      generalize stV l g k = t0 at *
      generalize stV l g (k + 1) = t1 at *
      clear hv hb e0 e1
      go_wp2_with fail
      refine' region_make 13 (.cells #[.int .i64 (t1 - t0 - g)] 3) (fun p => .slice (some ⟨p, 0, none⟩) 1 1) (by first | rfl | kernel_rfl) (by kernel_rfl) (by kernel_rfl) (by kernel_rfl) ?hq ?hmk ?ht
      case hq =>
        intro u
        have hbu : b1 < u.at_.heap.size := Nat.lt_of_lt_of_le hbl2 u.below.size
        have k0 : ∀ v : KeptW u.at_.heap.size u.at_, v.at_.cell? ⟨b1, o1 + k, none⟩ = some (.int .i64 t0) := fun v => (v.below.cell (p := ⟨b1, o1 + k, none⟩) hbu).trans ((u.below.cell (p := ⟨b1, o1 + k, none⟩) hbl2).trans HE0.out)
        have k1 : ∀ v : KeptW u.at_.heap.size u.at_, v.at_.cell? ⟨b1, o1 + (k + 1), none⟩ = some (.int .i64 t1) := fun v => (v.below.cell (p := ⟨b1, o1 + (k + 1), none⟩) hbu).trans ((u.below.cell (p := ⟨b1, o1 + (k + 1), none⟩) hbl2).trans HE1.out)
        unfold After
        simp only [List.take_succ_cons, List.take_zero]
        repeat (go_big_quiet_step (fail))
        refine wpQuiet_nil ?_
        rfl
      case hmk =>
        exact ⟨rfl, fun w => by first | rfl | simp [execOp, go_sem] | kernel_rfl⟩
      case ht =>
        intro p wx hbx hpx hx1
        simp only [List.drop_succ_cons, List.drop_zero]
        have HVW := Lib.hid (own_below HV.out hbx)
        have HBW := Lib.hid (HB.out.trans (hbx.mono HB.out.size))
        have hxz := HBW.out.size
        have hnews : ∀ j u, [Value.int .i64 (t1 - t0 - g)][j]? = some u → wx.cell? ((⟨p, 0, none⟩ : Addr).add j) = some u := by
          intro j u hu
          cases j with
          | zero => rw [add_flat, cell_of_heap hx1, ← hu]; rfl
          | succ j => simp at hu
        have HNW := Lib.hid hnews
        clear hbx hx1 hnews
        refine wpList_append_own_at _ rfl _ _ 27 rfl w.heap.size 3 i0 (.int .i64 0) 1 8 Try.underlying27 HI.out HZ0.out HZ1.out HZ2.out rfl (by decide) _ _ _ rfl HVW.out ⟨p, 0, none⟩ 1 1 [.int .i64 (t1 - t0 - g)] rfl rfl HNW.out (by simp [Value.oneCell']) hmx (by omega) hxz ?_
        intro v' w5 hown' hgrow _ hat
        have HB5 := Lib.hid (HBW.out.grown hgrow hxz (fun q hq => by have := own_lt HVW.out q hq; omega))
        have HO5 : Hid (w5.ownsRow w.heap.size 3 1 v' (k + 1) (intsZ (wdL l g (k + 1)))) := by
          show World.ownsRow _ _ _ _ _ _ _
          rw [HSU.out, HEV.out, intsZ_snoc]; exact hown'
        clear hown' hgrow hat
        go_wp2
        go_roundw
        case rel => exact ⟨k + 1, by omega, by go_num, HO5.out, HB5.out⟩
        case measure => simp [intOf]; omega
    · obtain rfl : k = N := by omega
      go_wp2
      go_ret
      exact ⟨_, rfl, HB.out, by rw [HVL.out]; exact HV.out⟩
end Go.Proofs.Yteagclokobkigaa

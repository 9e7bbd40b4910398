/-
  The contracts of spec.WaysToFill and impl.WaysToFill: both go through the same table.
-/
import Derived.Test.YthhmbcgamcbfdaaVb
import Derived.BigRegion
namespace Go.Proofs.Ythhmbcgamcbfdaa
open Go.RowKit
set_option linter.unusedVariables false

/-- One sum more. -/
def wayUp (F : Nat → Int) (v x : Nat) : Nat → Int := fun j => if j = x then wrap64 (F x + F (x - v)) else F j
/-- Behind d sums of the width v. -/
def wayIn (F : Nat → Int) (v : Nat) : Nat → Nat → Int
  | 0 => F
  | d + 1 => wayUp (wayIn F v d) v (v + d)
/-- The table behind i widths. -/
def wayT (ks : List Int) (N : Nat) : Nat → Nat → Int
  | 0 => fun j => if j = 0 then 1 else 0
  | i + 1 => wayIn (wayT ks N i) (ks.getD i 0).toNat (N + 1 - (ks.getD i 0).toNat)
open Classical in
noncomputable def wayV (ks : List Int) (n : Int) : Int := if wAsk ks n = true then wayT ks n.toNat ks.length n.toNat else 0
theorem wayV_no {ks : List Int} {n : Int} (h : wAsk ks n = false) : wayV ks n = 0 := by unfold wayV; rw [h]; simp
theorem wayV_yes {ks : List Int} {n : Int} (h : wAsk ks n = true) : wayV ks n = wayT ks n.toNat ks.length n.toNat := by unfold wayV; rw [h]; simp
def iT (F : Nat → Int) : Nat → Value := fun j => .int .i64 (F j)
theorem iT_set (F : Nat → Int) (v x : Nat) : (fun j => if j = x then Value.int .i64 (wrap64 (F x + F (x - v))) else iT F j) = iT (wayUp F v x) := by
  funext j; unfold iT wayUp; split <;> rfl

set_option maxRecDepth 100000 in
theorem specWaysToFill_any (l : List Int) (A : Option Addr) (c : Nat) (n : Int) (w : World) (hf : IntsIn w A l) (hlen : l.length ≤ 1048576) :
    Calls Try.prog 12 #[.slice A l.length c, .int .i64 n] w fun e w' => e = .returned (.tuple #[.int .i64 (wayV l n), .bool (wAsk l n)]) ∧ Below w.heap.size w w' := by
  have HF := Lib.hid hf; clear hf
  cases ha : wAsk l n
  · have HV := Lib.hid (wayV_no ha)
    have HA := Lib.hid ha; clear ha
    go_enter Try.func12, Try.ntmps12
    go_wp2_with fail
    refine (wsAsked_any l A c n _ HF.out hlen).mono ?_
    rintro e w' ⟨rfl, rfl⟩
    rw [HA.out]
    go_wp2
    go_ret2
    exact ⟨by rw [HV.out]; rfl, Below.refl _ _⟩
  · have HA := Lib.hid ha
    obtain ⟨hg, h0, h4⟩ := wAsk_iff.1 ha
    have HG := Lib.hid hg; clear hg ha
    go_enter Try.func12, Try.ntmps12
    go_wp2_with fail
    refine (wsAsked_any l A c n _ HF.out hlen).mono ?_
    rintro e w' ⟨rfl, rfl⟩
    rw [HA.out]
    have HLN := Lib.hid hlen
    clear hlen
    obtain ⟨N, rfl⟩ : ∃ N : Nat, n = (N : Int) := ⟨n.toNat, by omega⟩
    have hN4 : N ≤ 400 := by omega
    have hl6 := HG.out.six
    obtain ⟨w1, hw1⟩ : ∃ x : World, x = w.alloc (.cells (madeCells #[.int .i64 0] ((N + 1) * 1)) 3) := ⟨_, rfl⟩
    have hmk : (Instr.makeSlice 23 (.int .i64 ((N : Int) + 1)) (.int .i64 ((N : Int) + 1))).run Try.prog w = .ok (.slice (some ⟨w.heap.size, 0, none⟩) (N + 1) (N + 1)) w1 := by rw [hw1]; exact run_makeI (N + 1) (by omega) w
    have ht : Tb w1 w.heap.size 3 (N + 1) (fun _ => .int .i64 0) := by rw [hw1]; exact made_int _ _ _
    have hb1 : Below w.heap.size w w1 := by rw [hw1]; exact (Below.refl _ _).alloc (Nat.le_refl _) _
    have hc0 := ht.cell (j := 0) (by omega)
    have hf0 := ht.free 0
    have HT : Hid (Tb (w1.setCell ⟨w.heap.size, 0, none⟩ (.int .i64 1)) w.heap.size 3 (N + 1) (iT (wayT l N 0))) := Lib.hid ((ht.set 0 (.int .i64 1)).cong (fun j _ => by unfold iT wayT; split <;> rfl))
    have HB := Lib.hid (hb1.setCell (p := ⟨w.heap.size, 0, none⟩) (Nat.le_refl _) (.int .i64 1))
    have HV : Hid (wayV l (N : Int) = wayT l N l.length N) := Lib.hid (by rw [wayV_yes HA.out]; rfl)
    clear ht hb1 hw1
    go_wp2
    go_loopw [21] (fun i wr => ∃ (k : Nat), k ≤ l.length ∧ i = .int .i64 k ∧ Tb wr w.heap.size 3 (N + 1) (iT (wayT l N k)) ∧ Below w.heap.size w wr) (fun i _ => l.length - (intOf i).toNat)
    case atStart => exact ⟨0, Nat.zero_le _, rfl, HT.out, HB.out⟩
    case round =>
      obtain ⟨k, hk, rfl, ht, hb⟩ := hrel
      clear hmk hc0 hf0
      have hN1 : ((N + 1 : Nat) : Int) = (N : Int) + 1 := by omega
      by_cases hlt : k < l.length
      · obtain ⟨b, off, rfl, hbl, hc⟩ := HF.out (by omega)
        have hc0 := (hb.cell (p := ⟨b, off + k, none⟩) hbl).trans (hc k hlt)
        clear hc
        have h1 := HG.out.pos.get hlt
        have h2 := HG.out.le hlt
        obtain ⟨v, hv⟩ : ∃ v : Nat, l[k] = (v : Int) := ⟨l[k].toNat, by omega⟩
        have HNX : Hid (wayT l N (k + 1) = wayIn (wayT l N k) v (N + 1 - v)) := Lib.hid (by
          show wayIn _ (l.getD k 0).toNat (N + 1 - (l.getD k 0).toNat) = _
          rw [List.getD_eq_getElem?_getD, List.getElem?_eq_getElem hlt]; show wayIn _ (l[k]).toNat (N + 1 - (l[k]).toNat) = _; rw [hv]; rfl)
        rw [hv] at hc0 h1 h2
        clear hv
        obtain ⟨F, hF⟩ : ∃ F, F = wayT l N k := ⟨_, rfl⟩
        rw [← hF] at ht HNX
        clear hF
        have HT := Lib.hid ht; have HB := Lib.hid hb
        clear ht hb
        generalize hwx : wr = wx at *
        clear hwx
        go_wp2
        go_loopw [9] (fun i wi => ∃ (d : Nat), (d ≤ N + 1 - v) ∧ i = .int .i64 ((v + d : Nat) : Int) ∧ Tb wi w.heap.size 3 (N + 1) (iT (wayIn F v d)) ∧ Below w.heap.size w wi) (fun i _ => 1 + N - (intOf i).toNat)
        case atStart => exact ⟨0, by omega, by simp, HT.out, HB.out⟩
        case round =>
          obtain ⟨d, hd, rfl, ht, hb⟩ := hrel
          clear hc0
          by_cases hlt2 : v + d ≤ N
          · obtain ⟨x, hx⟩ : ∃ x, x = v + d := ⟨_, rfl⟩
            have hix : (x : Int) - (v : Int) = (d : Int) := by omega
            have hxN : (x : Int) ≤ (N : Int) := by omega
            have hxN1 : (x : Int) < (N : Int) + 1 := by omega
            have hx0 : (0 : Int) ≤ (x : Int) := by omega
            have hdN : (d : Int) < (N : Int) + 1 := by omega
            have hd0 : (0 : Int) ≤ (d : Int) := by omega
            have e0 := ht.cell (j := x) (by omega)
            have e1 := ht.cell (j := d) (by omega)
            have e2 := ht.free x
            have hbl0 := ht.lt
            have HD : Hid (d + 1 ≤ N + 1 - v) := Lib.hid (by omega)
            have HX : Hid (x + 1 = v + (d + 1)) := Lib.hid (by omega)
            have HM : Hid (1 + N - (x + 1) < 1 + N - x) := Lib.hid (by omega)
            have HTN : Hid (Tb (wr.setCell ⟨w.heap.size, x, none⟩ (.int .i64 (wrap64 (wayIn F v d x + wayIn F v d d)))) w.heap.size 3 (N + 1) (iT (wayIn F v (d + 1)))) := Lib.hid (by
              have h := ht.set x (.int .i64 (wrap64 (wayIn F v d x + wayIn F v d (x - v))))
              rw [iT_set, show x - v = d from by omega] at h
              rw [show wayIn F v (d + 1) = wayUp (wayIn F v d) v x from by rw [hx]; rfl]; exact h)
            have HBN := Lib.hid (hb.setCell (p := ⟨w.heap.size, x, none⟩) (Nat.le_refl _) (.int .i64 (wrap64 (wayIn F v d x + wayIn F v d d))))
            rw [← hx]
            unfold iT at e0 e1
            generalize hp : wayIn F v d x = p at *
            generalize hq : wayIn F v d d = q at *
            clear ht hb hx hp hq hd hlt2
            go_wp2_with fail
            go_region
            go_wp2
            go_roundw
            case rel => exact ⟨d + 1, HD.out, by rw [← HX.out]; simp, by first | exact HTN.out | exact HTN.out.next ((Below.refl _ _).drew), by first | exact HBN.out | exact HBN.out.drew⟩
            case measure => simp [intOf]; omega
          · obtain rfl : d = N + 1 - v := by omega
            have hgt : (N : Int) < ((v + (N + 1 - v) : Nat) : Int) := by omega
            generalize hy : v + (N + 1 - v) = y at *
            clear hy
            rw [← HNX.out] at ht
            clear hlt2 hd
            go_wp2
            go_roundw
            case rel => exact ⟨k + 1, by omega, by go_num, ht, hb⟩
            case measure => simp [intOf]; omega
      · obtain rfl : k = l.length := by omega
        have e0 := ht.cell (j := N) (by omega)
        unfold iT at e0
        rw [← HV.out] at e0
        have hNN : (N : Int) < (N : Int) + 1 := by omega
        clear ht
        go_wp2
        go_ret2
        exact ⟨rfl, hb⟩
set_option maxRecDepth 100000 in
theorem implWaysToFill_any (l : List Int) (A : Option Addr) (c : Nat) (n : Int) (w : World) (hf : IntsIn w A l) (hlen : l.length ≤ 1048576) :
    Calls Try.prog 11 #[.slice A l.length c, .int .i64 n] w fun e w' => e = .returned (.tuple #[.int .i64 (wayV l n), .bool (wAsk l n)]) ∧ Below w.heap.size w w' := by
  have HF := Lib.hid hf; clear hf
  cases ha : wAsk l n
  · have HV := Lib.hid (wayV_no ha)
    have HA : Hid ((kindsB l && inB 0 400 n) = false) := Lib.hid ha; clear ha
    go_enter Try.func11, Try.ntmps11
    go_wp2_with fail
    refine (implAreSpaces_any l A c _ HF.out hlen).mono ?_
    rintro e w' ⟨rfl, rfl⟩
    cases hg : kindsB l
    · clear hg HA
      go_wp2
      go_ret2
      exact ⟨by rw [HV.out]; rfl, Below.refl _ _⟩
    · rw [hg] at HA
      clear hg
      go_wp2_with fail
      refine (isFillWidth_any _ _).mono ?_
      rintro e w' ⟨rfl, rfl⟩
      have hi : inB 0 400 n = false := by simpa using HA.out
      rw [hi]
      clear hi
      go_wp2
      go_ret2
      exact ⟨by rw [HV.out]; rfl, Below.refl _ _⟩
  · have HA := Lib.hid ha
    obtain ⟨hg, h0, h4⟩ := wAsk_iff.1 ha
    have HG := Lib.hid hg
    have HK := Lib.hid (kindsB_iff.2 hg)
    have HI := Lib.hid (inB_iff.2 ⟨h0, h4⟩)
    clear hg ha
    go_enter Try.func11, Try.ntmps11
    go_wp2_with fail
    refine (implAreSpaces_any l A c _ HF.out hlen).mono ?_
    rintro e w' ⟨rfl, rfl⟩
    rw [HK.out]
    go_wp2_with fail
    refine (isFillWidth_any _ _).mono ?_
    rintro e w' ⟨rfl, rfl⟩
    rw [HI.out]
    have HLN := Lib.hid hlen
    clear hlen
    obtain ⟨N, rfl⟩ : ∃ N : Nat, n = (N : Int) := ⟨n.toNat, by omega⟩
    have hN4 : N ≤ 400 := by omega
    have hl6 := HG.out.six
    obtain ⟨w1, hw1⟩ : ∃ x : World, x = w.alloc (.cells (madeCells #[.int .i64 0] ((N + 1) * 1)) 3) := ⟨_, rfl⟩
    have hmk : (Instr.makeSlice 23 (.int .i64 ((N : Int) + 1)) (.int .i64 ((N : Int) + 1))).run Try.prog w = .ok (.slice (some ⟨w.heap.size, 0, none⟩) (N + 1) (N + 1)) w1 := by rw [hw1]; exact run_makeI (N + 1) (by omega) w
    have ht : Tb w1 w.heap.size 3 (N + 1) (fun _ => .int .i64 0) := by rw [hw1]; exact made_int _ _ _
    have hb1 : Below w.heap.size w w1 := by rw [hw1]; exact (Below.refl _ _).alloc (Nat.le_refl _) _
    have hc0 := ht.cell (j := 0) (by omega)
    have hf0 := ht.free 0
    have HT : Hid (Tb (w1.setCell ⟨w.heap.size, 0, none⟩ (.int .i64 1)) w.heap.size 3 (N + 1) (iT (wayT l N 0))) := Lib.hid ((ht.set 0 (.int .i64 1)).cong (fun j _ => by unfold iT wayT; split <;> rfl))
    have HB := Lib.hid (hb1.setCell (p := ⟨w.heap.size, 0, none⟩) (Nat.le_refl _) (.int .i64 1))
    have HV : Hid (wayV l (N : Int) = wayT l N l.length N) := Lib.hid (by rw [wayV_yes HA.out]; rfl)
    clear ht hb1 hw1
    go_wp2
    go_loopw [25] (fun i wr => ∃ (k : Nat), k ≤ l.length ∧ i = .int .i64 k ∧ Tb wr w.heap.size 3 (N + 1) (iT (wayT l N k)) ∧ Below w.heap.size w wr) (fun i _ => l.length - (intOf i).toNat)
    case atStart => exact ⟨0, Nat.zero_le _, rfl, HT.out, HB.out⟩
    case round =>
      obtain ⟨k, hk, rfl, ht, hb⟩ := hrel
      clear hmk hc0 hf0
      have hN1 : ((N + 1 : Nat) : Int) = (N : Int) + 1 := by omega
      by_cases hlt : k < l.length
      · obtain ⟨b, off, rfl, hbl, hc⟩ := HF.out (by omega)
        have hc0 := (hb.cell (p := ⟨b, off + k, none⟩) hbl).trans (hc k hlt)
        clear hc
        have h1 := HG.out.pos.get hlt
        have h2 := HG.out.le hlt
        obtain ⟨v, hv⟩ : ∃ v : Nat, l[k] = (v : Int) := ⟨l[k].toNat, by omega⟩
        have HNX : Hid (wayT l N (k + 1) = wayIn (wayT l N k) v (N + 1 - v)) := Lib.hid (by
          show wayIn _ (l.getD k 0).toNat (N + 1 - (l.getD k 0).toNat) = _
          rw [List.getD_eq_getElem?_getD, List.getElem?_eq_getElem hlt]; show wayIn _ (l[k]).toNat (N + 1 - (l[k]).toNat) = _; rw [hv]; rfl)
        rw [hv] at hc0 h1 h2
        clear hv
        obtain ⟨F, hF⟩ : ∃ F, F = wayT l N k := ⟨_, rfl⟩
        rw [← hF] at ht HNX
        clear hF
        have HT := Lib.hid ht; have HB := Lib.hid hb
        clear ht hb
        generalize hwx : wr = wx at *
        clear hwx
        go_wp2
        go_loopw [9] (fun i wi => ∃ (d : Nat), (d ≤ N + 1 - v) ∧ i = .int .i64 ((v + d : Nat) : Int) ∧ Tb wi w.heap.size 3 (N + 1) (iT (wayIn F v d)) ∧ Below w.heap.size w wi) (fun i _ => 1 + N - (intOf i).toNat)
        case atStart => exact ⟨0, by omega, by simp, HT.out, HB.out⟩
        case round =>
          obtain ⟨d, hd, rfl, ht, hb⟩ := hrel
          clear hc0
          by_cases hlt2 : v + d ≤ N
          · obtain ⟨x, hx⟩ : ∃ x, x = v + d := ⟨_, rfl⟩
            have hix : (x : Int) - (v : Int) = (d : Int) := by omega
            have hxN : (x : Int) ≤ (N : Int) := by omega
            have hxN1 : (x : Int) < (N : Int) + 1 := by omega
            have hx0 : (0 : Int) ≤ (x : Int) := by omega
            have hdN : (d : Int) < (N : Int) + 1 := by omega
            have hd0 : (0 : Int) ≤ (d : Int) := by omega
            have e0 := ht.cell (j := x) (by omega)
            have e1 := ht.cell (j := d) (by omega)
            have e2 := ht.free x
            have hbl0 := ht.lt
            have HD : Hid (d + 1 ≤ N + 1 - v) := Lib.hid (by omega)
            have HX : Hid (x + 1 = v + (d + 1)) := Lib.hid (by omega)
            have HM : Hid (1 + N - (x + 1) < 1 + N - x) := Lib.hid (by omega)
            have HTN : Hid (Tb (wr.setCell ⟨w.heap.size, x, none⟩ (.int .i64 (wrap64 (wayIn F v d x + wayIn F v d d)))) w.heap.size 3 (N + 1) (iT (wayIn F v (d + 1)))) := Lib.hid (by
              have h := ht.set x (.int .i64 (wrap64 (wayIn F v d x + wayIn F v d (x - v))))
              rw [iT_set, show x - v = d from by omega] at h
              rw [show wayIn F v (d + 1) = wayUp (wayIn F v d) v x from by rw [hx]; rfl]; exact h)
            have HBN := Lib.hid (hb.setCell (p := ⟨w.heap.size, x, none⟩) (Nat.le_refl _) (.int .i64 (wrap64 (wayIn F v d x + wayIn F v d d))))
            rw [← hx]
            unfold iT at e0 e1
            generalize hp : wayIn F v d x = p at *
            generalize hq : wayIn F v d d = q at *
            clear ht hb hx hp hq hd hlt2
            go_wp2_with fail
            go_region
            go_wp2
            go_roundw
            case rel => exact ⟨d + 1, HD.out, by rw [← HX.out]; simp, by first | exact HTN.out | exact HTN.out.next ((Below.refl _ _).drew), by first | exact HBN.out | exact HBN.out.drew⟩
            case measure => simp [intOf]; omega
          · obtain rfl : d = N + 1 - v := by omega
            have hgt : (N : Int) < ((v + (N + 1 - v) : Nat) : Int) := by omega
            generalize hy : v + (N + 1 - v) = y at *
            clear hy
            rw [← HNX.out] at ht
            clear hlt2 hd
            go_wp2
            go_roundw
            case rel => exact ⟨k + 1, by omega, by go_num, ht, hb⟩
            case measure => simp [intOf]; omega
      · obtain rfl : k = l.length := by omega
        have e0 := ht.cell (j := N) (by omega)
        unfold iT at e0
        rw [← HV.out] at e0
        have hNN : (N : Int) < (N : Int) + 1 := by omega
        clear ht
        go_wp2
        go_ret2
        exact ⟨rfl, hb⟩
end Go.Proofs.Ythhmbcgamcbfdaa

/-
  The draws of FnSpaceStocks: spec.l1Cur.countsOf, spec.DrawFillFromStock, spec.DrawSpacesText, spec.DrawThinnestNeeded.
-/
import Derived.Test.YthhmbcgamcbfdaaDoorWc
namespace Go.Proofs.YthhmbcgamcbfdaaDoor
open Go.RowKit
set_option linter.unusedVariables false

theorem l1Most_any (a b : Int) (w : World) :
    Calls Tryd.prog 25 #[.int .i64 a, .int .i64 b] w fun e w' => e = .returned (.int .i64 (if b < a then a else b)) ∧ w = w' := by
  by_cases h : b < a
  · go_enter Tryd.func25, Tryd.ntmps25
    go_wp2
    go_ret
    exact ⟨rfl, rfl⟩
  · go_enter Tryd.func25, Tryd.ntmps25
    go_wp2
    go_ret
    exact ⟨rfl, rfl⟩
theorem pickI_any (z : Int) (b c M : Nat) (A : Option Addr) (xs : List UInt8) (w : World) (hc : CurLe w b A c M xs) (hat : M ≤ 1000000) (hxs : xs.length ≤ maxLen) (h1 : 1 ≤ z) (h2 : z ≤ 200) :
    Calls Tryd.prog 23 #[.pointer (some ⟨b, 0, none⟩), .int .i64 z] w fun e w' => (∃ k : Nat, (k : Int) < z ∧ e = .returned (.int .i64 (k : Int))) ∧ CurLe w' b A c (M + 1) xs ∧ w.grownBy w' (some b) := by
  obtain ⟨n, rfl⟩ : ∃ n : Nat, z = (n : Int) := ⟨z.toNat, by omega⟩
  refine (pick_any n b c M A xs w hc hat hxs (by omega) (by omega)).mono ?_
  rintro e w' ⟨⟨k, hk, rfl⟩, hc', hg'⟩
  exact ⟨⟨k, by omega, rfl⟩, hc', hg'⟩
theorem own_rowX {w : World} {base n : Nat} {e : TypeId} {v : Value} {xs : List Value} (h : w.ownsRow base e 1 v n xs) {i : Nat} (hi : i < n) : ∃ G cap, v = .slice (some ⟨G, 0, none⟩) n cap ∧ base ≤ G ∧ n ≤ cap ∧ (∃ u, w.cell? ⟨G, i, none⟩ = some u) ∧ w.frozen? ⟨G, i, none⟩ = false := by
  have hx := h.1
  rcases h.2 with ⟨rfl, hz⟩ | ⟨G, cap, cur, rfl, hg, hh, hc1, hc2, hc3, hc4⟩
  · omega
  · refine ⟨G, cap, rfl, hg, hc1, ?_, free_of_heap hh i⟩
    rw [cell_of_heap hh]
    have h0 : i < cur.size := by omega
    exact ⟨cur[i], by simp [h0]⟩

set_option maxRecDepth 100000 in
set_option maxHeartbeats 4000000 in
theorem countsOf_any (b c M n : Nat) (A : Option Addr) (xs : List UInt8) (B : Option Addr) (d : Nat) (w : World) (hc : CurLe w b A c M xs) (hat : M ≤ 999900) (hxs : xs.length ≤ maxLen) (hn : n ≤ 7) :
    Calls Tryd.prog 20 #[.pointer (some ⟨b, 0, none⟩), .slice B n d] w fun e w' =>
      (∃ (l : List Int) (B : Option Addr) (d : Nat), e = .returned (.slice B l.length d) ∧ l.length ≤ 8 ∧ w'.ownsRow w.heap.size 3 1 (.slice B l.length d) l.length (intsZ l)) ∧ CurLe w' b A c (M + 12) xs ∧ w.grownBy w' (some b) := by
  have hbl := hc.lt
  obtain ⟨i0, hi, hz0, hz1, hz2⟩ := info_parts info_int
  have HI := Lib.hid hi; have HZ0 := Lib.hid hz0; have HZ1 := Lib.hid hz1; have HZ2 := Lib.hid hz2
  clear hi hz0 hz1 hz2
  have HC := Lib.hid hc; clear hc
  go_enter Tryd.func20, Tryd.ntmps20
  go_wp2
  go_loopw [5, 8] (fun v i wr => ∃ (k : Nat) (acc : List Int), k ≤ n ∧ i = .int .i64 (k : Int) ∧ acc.length ≤ k ∧ wr.ownsRow w.heap.size 3 1 v acc.length (intsZ acc) ∧ CurLe wr b A c (M + k) xs ∧ w.grownBy wr (some b)) (fun _ i _ => n - (intOf i).toNat)
  case atStart => exact ⟨0, [], by omega, rfl, by simp, own_nil _ _ _ _, HC.out, World.grownBy.refl _ _⟩
  case round =>
    obtain ⟨k, acc, hk, rfl, hal, ho, hc, hg⟩ := hrel
    obtain ⟨B0, d0, hv⟩ := own_formI ho
    subst hv
    have hmx : acc.length + 1 ≤ maxLen := by unfold maxLen; omega
    have hws := hg.size
    have HO := Lib.hid ho; have HC := Lib.hid hc; have HG := Lib.hid hg
    clear ho hc hg
    by_cases hlt : k < n
    · have hk8 : (k : Int) < (n : Int) := by omega
      have hb3 : Below wr.heap.size wr (wr.alloc (.cells (intsZ [0, 0, 1, 2, 3, 8]).toArray 3)) := (Below.refl _ _).alloc (Nat.le_refl _) _
      have HC3 := Lib.hid (HC.out.below hb3)
      have HG3 := Lib.hid (grown_below HG.out hb3)
      have HO3 := Lib.hid (own_below HO.out hb3)
      have HR3 := Lib.hid (row_ints wr [0, 0, 1, 2, 3, 8])
      clear hb3
      go_wp2_with fail
      refine (among_any [0, 0, 1, 2, 3, 8] _ _ b c (M + k) A xs _ HC3.out (by omega) hxs HR3.out (by omega) (by decide) (by decide)).mono ?_
      rintro e w1 ⟨⟨x, hs, rfl⟩, hc1, hg1⟩
      have hs1 := hg1.size
      simp only [World.size_alloc] at hs1
      have HO1 := Lib.hid (own_grown HO3.out hg1 (fun q hq e => by have := own_lt HO3.out q hq; have := Option.some.inj e; omega))
      have HG1 := Lib.hid (grownBy_trans HG3.out hg1)
      have HC1 := Lib.hid hc1
      clear hc1 hg1 hs
      go_wp2_with (at_builtin; refine wpList_append_own_at _ rfl _ _ 23 rfl w.heap.size 3 i0 (.int .i64 0) 1 8 Tryd.underlying23 HI.out HZ0.out HZ1.out HZ2.out rfl (by decide) _ _ _ rfl (HO1.out.alloc _) ⟨w1.heap.size, 0, none⟩ 1 1 [.int .i64 x] rfl rfl (cell_one_new _ _ _) (by simp [Value.oneCell']) hmx (by first | omega | decide) (by first | (simp; done) | (simp; omega) | skip) ?_)
      intro v' w5 hown' hgrow _ hat
      have hb5 : Below w1.heap.size w1 (w1.alloc (.cells #[.int .i64 x] 3)) := (Below.refl _ _).alloc (Nat.le_refl _) _
      have HO5 := Lib.hid hown'
      have HG5 := Lib.hid (grownBy_own (grown_below HG1.out hb5) hgrow (fun q hq => by have := own_lt HO1.out q hq; omega))
      have HC5 := Lib.hid ((HC1.out.below hb5).own hgrow (fun q hq => by have := own_lt HO1.out q hq; omega))
      have HO6 : Hid (w5.ownsRow w.heap.size 3 1 v' (acc ++ [x]).length (intsZ (acc ++ [x]))) := Lib.hid (by rw [List.length_append, intsZ_snoc]; exact HO5.out)
      clear hown' hgrow hat hb5
      go_wp2
      go_roundw
      case rel => exact ⟨k + 1, acc ++ [x], by omega, by go_num, by simp; omega, HO6.out, HC5.out.more (by omega), HG5.out⟩
      case measure => simp [intOf]; omega
    · obtain rfl : k = n := by omega
      have HC' : Hid (CurLe wr b A c (M + 7) xs) := Lib.hid (HC.out.more (by omega))
      clear HC
      go_wp2_with fail
      refine (pick_any 24 b c (M + 7) A xs _ HC'.out (by omega) hxs (by omega) (by omega)).mono ?_
      rintro e w6 ⟨⟨z, hz, rfl⟩, hc6, hg6⟩
      have HO6 := Lib.hid (own_grown HO.out hg6 (fun q hq e => by have := own_lt HO.out q hq; have := Option.some.inj e; omega))
      have HG6 := Lib.hid (grownBy_trans HG.out hg6); have HC6 := Lib.hid hc6; have hs6 := HG6.out.size
      clear hc6 hg6
      rcases (by omega : z = 0 ∨ z = 1 ∨ 2 ≤ z) with rfl | rfl | h4
      · go_wp2_with (at_builtin; refine wpList_append_own_at _ rfl _ _ 23 rfl w.heap.size 3 i0 (.int .i64 0) 1 8 Tryd.underlying23 HI.out HZ0.out HZ1.out HZ2.out rfl (by decide) _ _ _ rfl (HO6.out.alloc _) ⟨w6.heap.size, 0, none⟩ 1 1 [.int .i64 0] rfl rfl (cell_one_new _ _ _) (by simp [Value.oneCell']) hmx (by first | omega | decide) (by first | (simp; done) | (simp; omega)) ?_)
        intro v' w5 hown' hgrow _ hat
        have hb5 : Below w6.heap.size w6 (w6.alloc (.cells #[.int .i64 0] 3)) := (Below.refl _ _).alloc (Nat.le_refl _) _
        have HG5 := Lib.hid (grownBy_own (grown_below HG6.out hb5) hgrow (fun q hq => by have := own_lt HO6.out q hq; omega))
        have HC5 := Lib.hid ((HC6.out.below hb5).own hgrow (fun q hq => by have := own_lt HO6.out q hq; omega))
        have HO5 : Hid (w5.ownsRow w.heap.size 3 1 v' (acc ++ [(0 : Int)]).length (intsZ (acc ++ [(0 : Int)]))) := Lib.hid (by rw [List.length_append, intsZ_snoc]; exact hown')
        obtain ⟨B', d', rfl⟩ := own_formI HO5.out
        clear hown' hgrow hat hb5
        go_wp2
        go_ret
        exact ⟨⟨acc ++ [(0 : Int)], B', d', rfl, by simp; omega, HO5.out⟩, HC5.out.more (by omega), HG5.out⟩
      · by_cases hz : 0 < acc.length
        · have hzi : (0 : Int) < (acc.length : Int) := by omega
          go_wp2_with fail
          refine (pickI_any (acc.length : Int) b c (M + 8) A xs _ HC6.out (by omega) hxs (by omega) (by omega)).mono ?_
          rintro e w7 ⟨⟨y, hy, rfl⟩, hc7, hg7⟩
          have HO7 := Lib.hid (own_grown HO6.out hg7 (fun q hq e => by have := own_lt HO6.out q hq; have := Option.some.inj e; omega))
          have HG7 := Lib.hid (grownBy_trans HG6.out hg7); have hs7 := HG7.out.size
          have hb8 : Below w7.heap.size w7 (w7.alloc (.cells (intsZ [400, 401, -1]).toArray 3)) := (Below.refl _ _).alloc (Nat.le_refl _) _
          have HC8 := Lib.hid (hc7.below hb8); have HR8 := Lib.hid (row_ints w7 [400, 401, -1])
          have HO8 := Lib.hid (own_below HO7.out hb8); have HG8 := Lib.hid (grown_below HG7.out hb8)
          clear hc7 hg7 hb8
          go_wp2_with fail
          refine (among_any [400, 401, -1] _ _ b c (M + 9) A xs _ HC8.out (by omega) hxs HR8.out (by omega) (by decide) (by decide)).mono ?_
          rintro e w9 ⟨⟨s, hs, rfl⟩, hc9, hg9⟩
          have HO9 := Lib.hid (own_grown HO8.out hg9 (fun q hq e => by have := own_lt HO8.out q hq; have := Option.some.inj e; omega))
          have HG9 := Lib.hid (grownBy_trans HG8.out hg9); have HC9 := Lib.hid hc9; have hs9 := HG9.out.size
          clear hc9 hg9 hs
          obtain ⟨G', cap', hv, hbG, hcp, ⟨u0, hu0⟩, hfr⟩ := own_rowX HO9.out (show y < acc.length by omega)
          injection hv with hv1 hv2 hv3
          subst hv1 hv3
          clear hv2
          have hy0 : (0 : Int) ≤ (y : Int) := by omega
          go_wp2
          go_ret
          exact ⟨⟨acc.set y s, some ⟨G', 0, none⟩, d0, by rw [List.length_set]; rfl, by rw [List.length_set]; omega, by rw [List.length_set, ← intsZ_set]; exact own_setI HO9.out (by rw [intsZ_len]; omega) _⟩, (HC9.out.own (grown_set (World.grownBy.refl w9 (some G')) y _) (fun q hq => by have h9 : G' = q := Option.some.inj hq; omega)).more (by omega), grownBy_own HG9.out (grown_set (World.grownBy.refl w9 (some G')) y _) (fun q hq => by have h9 : G' = q := Option.some.inj hq; omega)⟩
        · have hzi : ¬ (0 : Int) < (acc.length : Int) := by omega
          go_wp2
          go_ret
          exact ⟨⟨acc, _, _, rfl, by omega, HO6.out⟩, HC6.out.more (by omega), HG6.out⟩
      · have hz0 : ¬ (z : Int) = 0 := by omega
        have hz1 : ¬ (z : Int) = 1 := by omega
        clear h4 hz
        go_wp2
        go_ret
        exact ⟨⟨acc, _, _, rfl, by omega, HO6.out⟩, HC6.out.more (by omega), HG6.out⟩
end Go.Proofs.YthhmbcgamcbfdaaDoor

/-
  The draw of kinds: spec.l1Cur.kinds answers some list of at most seven ints of its own. (For FnSpaces, FnSpaceStocks.)
-/
import Derived.Test.YthhmbcgamcbfdaaDoorWa
import Derived.OwnWalk
import Derived.Maps.AppendAt
namespace Go.Proofs.YthhmbcgamcbfdaaDoor
open Go.RowKit
set_option linter.unusedVariables false

theorem IntsIn.keep {w w' : World} {g : Nat} {l : List Int} {row : Option Nat} (h : IntsIn w (some ⟨g, 0, none⟩) l) (hg : w.grownBy w' row) (hne : row ≠ some g) : IntsIn w' (some ⟨g, 0, none⟩) l := fun hn => by
  obtain ⟨b', off, e, hl, hc⟩ := h hn
  obtain ⟨rfl, rfl⟩ : g = b' ∧ 0 = off := by simpa using e
  exact ⟨g, 0, rfl, Nat.lt_of_lt_of_le hl hg.size, fun k hk => (cell_keep hg hl hne).trans (hc k hk)⟩
theorem own_lit (w : World) (l : List Int) (base : Nat) (hb : base ≤ w.heap.size) (hl : l.length ≤ maxLen) : (w.alloc (.cells (intsZ l).toArray 3)).ownsRow base 3 1 (.slice (some ⟨w.heap.size, 0, none⟩) l.length l.length) l.length (intsZ l) :=
  ⟨by rw [intsZ_len]; omega, .inr ⟨w.heap.size, l.length, _, rfl, hb, heap_new _ _, Nat.le_refl _, hl, by simp [intsZ_len], by show List.take (l.length * 1) (intsZ l).toArray.toList = intsZ l; rw [Nat.mul_one]; exact List.take_of_length_le (by rw [intsZ_len]; omega)⟩⟩
theorem own_formI {w : World} {base n : Nat} {e : TypeId} {v : Value} {xs : List Value} (h : w.ownsRow base e 1 v n xs) : ∃ B d, v = .slice B n d := by
  rcases h.2 with ⟨rfl, hz⟩ | ⟨G, cap, cur, rfl, _⟩
  · exact ⟨none, 0, by rw [hz]⟩
  · exact ⟨_, cap, rfl⟩
theorem own_rowI {w : World} {base n : Nat} {e : TypeId} {v : Value} {xs : List Value} (h : w.ownsRow base e 1 v n xs) (hn : 1 ≤ n) : ∃ G cap, v = .slice (some ⟨G, 0, none⟩) n cap ∧ base ≤ G ∧ n ≤ cap ∧ (∃ u, w.cell? ⟨G, 0, none⟩ = some u) ∧ w.frozen? ⟨G, 0, none⟩ = false := by
  have hx := h.1
  rcases h.2 with ⟨rfl, hz⟩ | ⟨G, cap, cur, rfl, hg, hh, hc1, hc2, hc3, hc4⟩
  · omega
  · refine ⟨G, cap, rfl, hg, hc1, ?_, free_of_heap hh 0⟩
    rw [cell_of_heap hh]
    have h0 : 0 < cur.size := by omega
    exact ⟨cur[0], by simp [h0]⟩
theorem own_setI {w : World} {base n cap g i : Nat} {e : TypeId} {xs : List Value} (h : w.ownsRow base e 1 (.slice (some ⟨g, 0, none⟩) n cap) n xs) (hi : i < xs.length) (u : Value) :
    (w.setCell ⟨g, i, none⟩ u).ownsRow base e 1 (.slice (some ⟨g, 0, none⟩) n cap) n (xs.set i u) := by
  refine ⟨by rw [List.length_set]; exact h.1, ?_⟩
  rcases h.2 with ⟨hv, _⟩ | ⟨g', cap', cur, hv, hg, hh, h1, h2, h3, h4⟩
  · cases hv
  · injection hv with e1 e2 e3
    injection e1 with e1
    injection e1 with e1
    subst e1
    refine .inr ⟨g, cap', _, by rw [e3], hg, heap_set hh u, h1, h2, by simpa using h3, ?_⟩
    rw [Array.toList_setIfInBounds, List.take_set, h4]
theorem intsZ_set (l : List Int) (i : Nat) (z : Int) : (intsZ l).set i (.int .i64 z) = intsZ (l.set i z) := by simp [intsZ, List.map_set]
def kindInts : List Int := [1, 3, 4, 5, 6, 9, 12, 18]

set_option maxRecDepth 100000 in
set_option maxHeartbeats 4000000 in
theorem kinds_any (b c M : Nat) (A : Option Addr) (xs : List UInt8) (w : World) (hc : CurLe w b A c M xs) (hat : M ≤ 999900) (hxs : xs.length ≤ maxLen) :
    Calls Tryd.prog 19 #[.pointer (some ⟨b, 0, none⟩)] w fun e w' =>
      (∃ (l : List Int) (B : Option Addr) (d : Nat), e = .returned (.slice B l.length d) ∧ l.length ≤ 7 ∧ w'.ownsRow w.heap.size 3 1 (.slice B l.length d) l.length (intsZ l)) ∧ CurLe w' b A c (M + 25) xs ∧ w.grownBy w' (some b) := by
  have hbl := hc.lt
  obtain ⟨i0, hi, hz0, hz1, hz2⟩ := info_parts info_int
  have HI := Lib.hid hi; have HZ0 := Lib.hid hz0; have HZ1 := Lib.hid hz1; have HZ2 := Lib.hid hz2
  clear hi hz0 hz1 hz2
  have hb0 : Below w.heap.size w (w.alloc (.cells (intsZ kindInts).toArray 3)) := (Below.refl _ _).alloc (Nat.le_refl _) _
  have HC0 := Lib.hid (hc.below hb0)
  have HG0 := Lib.hid (grown_below (World.grownBy.refl w (some b)) hb0)
  have HN0 := Lib.hid (row_ints w kindInts)
  clear hb0 hc
  go_enter Tryd.func19, Tryd.ntmps19
  go_wp2
  go_loopw [3, 8] (fun v i wr => ∃ (k : Nat) (acc : List Int), k ≤ 8 ∧ i = .int .i64 (k : Int) ∧ acc.length ≤ 6 ∧ wr.ownsRow (w.heap.size + 1) 3 1 v acc.length (intsZ acc) ∧ IntsIn wr (some ⟨w.heap.size, 0, none⟩) kindInts ∧ CurLe wr b A c (M + 2 * k) xs ∧ w.grownBy wr (some b)) (fun _ i _ => 8 - (intOf i).toNat)
  case atStart => exact ⟨0, [], by omega, rfl, by simp, own_nil _ _ _ _, HN0.out, HC0.out, HG0.out⟩
  case round =>
    obtain ⟨k, acc, hk, rfl, hal, ho, hin, hc, hg⟩ := hrel
    obtain ⟨B0, d0, hv⟩ := own_formI ho
    subst hv
    have hmx : acc.length + 1 ≤ maxLen := by unfold maxLen; omega
    have hws := hg.size
    have HO := Lib.hid ho; have HN := Lib.hid hin; have HC := Lib.hid hc; have HG := Lib.hid hg
    clear ho hc hg
    by_cases hlt : k < 8
    · obtain ⟨b1, off, e, hgl, hcs⟩ := hin (by decide)
      obtain ⟨rfl, rfl⟩ : w.heap.size = b1 ∧ 0 = off := by simpa using e
      have e0 := hcs k hlt
      rw [Nat.zero_add] at e0
      have hk8 : (k : Int) < 8 := by omega
      clear hcs e hin
      generalize kindInts[k]'hlt = x at *
      go_wp2_with fail
      refine (one_any 3 b c (M + 2 * k) A xs _ HC.out (by omega) hxs (by omega) (by omega)).mono ?_
      rintro e w1 ⟨⟨t, rfl⟩, hc1, hg1⟩
      have hs1 := hg1.size
      have HO1 := Lib.hid (own_grown HO.out hg1 (fun q hq e => by have := own_lt HO.out q hq; have := Option.some.inj e; omega))
      have HN1 := Lib.hid (HN.out.keep hg1 (fun e => by have := Option.some.inj e; omega))
      have HG1 := Lib.hid (grownBy_trans HG.out hg1)
      have HC1 := Lib.hid hc1
      clear hc1 hg1
      clear e0
      cases t with
      | false =>
        go_wp2
        go_roundw
        case rel => exact ⟨k + 1, acc, by omega, by go_num, hal, HO1.out, HN1.out, HC1.out.more (by omega), HG1.out⟩
        case measure => simp [intOf]; omega
      | true =>
        by_cases h2 : 2 < x
        · skip
          by_cases h6 : acc.length < 6
          · have h6' : (acc.length : Int) < 6 := by omega
            go_wp2_with (at_builtin; refine wpList_append_own_at _ rfl _ _ 23 rfl (w.heap.size + 1) 3 i0 (.int .i64 0) 1 8 Tryd.underlying23 HI.out HZ0.out HZ1.out HZ2.out rfl (by decide) _ _ _ rfl (HO1.out.alloc _) ⟨w1.heap.size, 0, none⟩ 1 1 [.int .i64 x] rfl rfl (cell_one_new _ _ _) (by simp [Value.oneCell']) hmx (by omega) (by simp; omega) ?_)
            intro v' w5 hown' hgrow _ hat
            have hb5 : Below w1.heap.size w1 (w1.alloc (.cells #[.int .i64 x] 3)) := (Below.refl _ _).alloc (Nat.le_refl _) _
            have HO5 := Lib.hid hown'
            have HG5 := Lib.hid (grownBy_own (grown_below HG1.out hb5) hgrow (fun q hq => by have := own_lt HO1.out q hq; omega))
            have HC5 := Lib.hid ((HC1.out.below hb5).own hgrow (fun q hq => by have := own_lt HO1.out q hq; omega))
            have HN5 := Lib.hid ((HN1.out.below hb5 (Nat.le_refl _)).keep hgrow (fun e => by have := own_lt HO1.out _ e; omega))
            have HO6 : Hid (w5.ownsRow (w.heap.size + 1) 3 1 v' (acc ++ [x]).length (intsZ (acc ++ [x]))) := Lib.hid (by rw [List.length_append, intsZ_snoc]; exact HO5.out)
            clear hown' hgrow hat hb5
            go_wp2
            go_roundw
            case rel => exact ⟨k + 1, acc ++ [x], by omega, by go_num, by simp; omega, HO6.out, HN5.out, HC5.out.more (by omega), HG5.out⟩
            case measure => simp [intOf]; omega
          · have h6' : ¬ (acc.length : Int) < 6 := by omega
            go_wp2
            go_roundw
            case rel => exact ⟨k + 1, acc, by omega, by go_num, hal, HO1.out, HN1.out, HC1.out.more (by omega), HG1.out⟩
            case measure => simp [intOf]; omega
        · go_wp2_with fail
          refine (one_any 3 b c (M + 2 * k + 1) A xs _ HC1.out (by omega) hxs (by omega) (by omega)).mono ?_
          rintro e w2 ⟨⟨t, rfl⟩, hc2, hg2⟩
          have hs2 := hg2.size
          have HO2 := Lib.hid (own_grown HO1.out hg2 (fun q hq e => by have := own_lt HO1.out q hq; have := Option.some.inj e; omega))
          have HN2 := Lib.hid (HN1.out.keep hg2 (fun e => by have := Option.some.inj e; omega))
          have HG2 := Lib.hid (grownBy_trans HG1.out hg2)
          have HC2 := Lib.hid hc2
          clear hc2 hg2
          cases t with
          | false =>
            go_wp2
            go_roundw
            case rel => exact ⟨k + 1, acc, by omega, by go_num, hal, HO2.out, HN2.out, HC2.out.more (by omega), HG2.out⟩
            case measure => simp [intOf]; omega
          | true =>
            by_cases h6 : acc.length < 6
            · have h6' : (acc.length : Int) < 6 := by omega
              go_wp2_with (at_builtin; refine wpList_append_own_at _ rfl _ _ 23 rfl (w.heap.size + 1) 3 i0 (.int .i64 0) 1 8 Tryd.underlying23 HI.out HZ0.out HZ1.out HZ2.out rfl (by decide) _ _ _ rfl (HO2.out.alloc _) ⟨w2.heap.size, 0, none⟩ 1 1 [.int .i64 x] rfl rfl (cell_one_new _ _ _) (by simp [Value.oneCell']) hmx (by omega) (by simp; omega) ?_)
              intro v' w5 hown' hgrow _ hat
              have hb5 : Below w2.heap.size w2 (w2.alloc (.cells #[.int .i64 x] 3)) := (Below.refl _ _).alloc (Nat.le_refl _) _
              have HO5 := Lib.hid hown'
              have HG5 := Lib.hid (grownBy_own (grown_below HG2.out hb5) hgrow (fun q hq => by have := own_lt HO2.out q hq; omega))
              have HC5 := Lib.hid ((HC2.out.below hb5).own hgrow (fun q hq => by have := own_lt HO2.out q hq; omega))
              have HN5 := Lib.hid ((HN2.out.below hb5 (Nat.le_refl _)).keep hgrow (fun e => by have := own_lt HO2.out _ e; omega))
              have HO6 : Hid (w5.ownsRow (w.heap.size + 1) 3 1 v' (acc ++ [x]).length (intsZ (acc ++ [x]))) := Lib.hid (by rw [List.length_append, intsZ_snoc]; exact HO5.out)
              clear hown' hgrow hat hb5
              go_wp2
              go_roundw
              case rel => exact ⟨k + 1, acc ++ [x], by omega, by go_num, by simp; omega, HO6.out, HN5.out, HC5.out.more (by omega), HG5.out⟩
              case measure => simp [intOf]; omega
            · have h6' : ¬ (acc.length : Int) < 6 := by omega
              go_wp2
              go_roundw
              case rel => exact ⟨k + 1, acc, by omega, by go_num, hal, HO2.out, HN2.out, HC2.out.more (by omega), HG2.out⟩
              case measure => simp [intOf]; omega
    · obtain rfl : k = 8 := by omega
      have hwl : w.heap.size < wr.heap.size := by
        obtain ⟨b1, off, e, hgl, _⟩ := hin (by decide)
        obtain ⟨rfl, rfl⟩ : w.heap.size = b1 ∧ 0 = off := by simpa using e
        exact hgl
      clear hin HN hlt
      have HC' : Hid (CurLe wr b A c (M + 16) xs) := Lib.hid (HC.out.more (by omega))
      by_cases h0 : acc.length = 0
      · have h0' : (acc.length : Int) = 0 := by omega
        have hb3 : Below wr.heap.size wr (wr.alloc (.cells (intsZ [4, 6, 9]).toArray 3)) := (Below.refl _ _).alloc (Nat.le_refl _) _
        have HC3 := Lib.hid (HC'.out.below hb3)
        have HG3 := Lib.hid (grown_below HG.out hb3)
        have HO3 := Lib.hid (own_lit wr [4, 6, 9] w.heap.size hws (by decide))
        have hmx : ([4, 6, 9] : List Int).length + 1 ≤ maxLen := by decide
        clear hb3 HC HC' HG HO
        go_wp2_with fail
        refine (pick_any 24 b c (M + 16) A xs _ HC3.out (by omega) hxs (by omega) (by omega)).mono ?_
        rintro e w6 ⟨⟨z, hz, rfl⟩, hc6, hg6⟩
        have HO6 := Lib.hid (own_grown HO3.out hg6 (fun q hq e => by have := own_lt HO3.out q hq; have := Option.some.inj e; omega))
        have HG6 := Lib.hid (grownBy_trans HG3.out hg6); have HC6 := Lib.hid hc6; have hs6 := HG6.out.size
        clear hc6 hg6
        rcases (by omega : z = 0 ∨ z = 1 ∨ z = 2 ∨ z = 3 ∨ 4 ≤ z) with rfl | rfl | rfl | rfl | h4
        · have hb7 : Below w6.heap.size w6 (w6.alloc (.cells (intsZ [54, 55, 1]).toArray 3)) := (Below.refl _ _).alloc (Nat.le_refl _) _
          have HC7 := Lib.hid (HC6.out.below hb7); have HR7 := Lib.hid (row_ints w6 [54, 55, 1])
          have HO7 := Lib.hid (own_below HO6.out hb7); have HG7 := Lib.hid (grown_below HG6.out hb7)
          clear hb7
          go_wp2_with fail
          refine (among_any [54, 55, 1] _ _ b c (M + 17) A xs _ HC7.out (by omega) hxs HR7.out (by omega) (by decide) (by decide)).mono ?_
          rintro e w8 ⟨⟨s, hs, rfl⟩, hc8, hg8⟩
          have HO8 := Lib.hid (own_grown HO7.out hg8 (fun q hq e => by have := own_lt HO7.out q hq; have := Option.some.inj e; omega))
          have HG8 := Lib.hid (grownBy_trans HG7.out hg8); have HC8 := Lib.hid hc8; have hs8 := HG8.out.size
          clear hc8 hg8 hs
          go_wp2_with (at_builtin; refine wpList_append_own_at _ rfl _ _ 23 rfl w.heap.size 3 i0 (.int .i64 0) 1 8 Tryd.underlying23 HI.out HZ0.out HZ1.out HZ2.out rfl (by decide) _ _ _ rfl (HO8.out.alloc _) ⟨w8.heap.size, 0, none⟩ 1 1 [.int .i64 s] rfl rfl (cell_one_new _ _ _) (by simp [Value.oneCell']) hmx (by first | omega | decide) (by first | (simp; done) | (simp; omega) | omega) ?_)
          intro v' w5 hown' hgrow _ hat
          have hb5 : Below w8.heap.size w8 (w8.alloc (.cells #[.int .i64 s] 3)) := (Below.refl _ _).alloc (Nat.le_refl _) _
          have HG5 := Lib.hid (grownBy_own (grown_below HG8.out hb5) hgrow (fun q hq => by have := own_lt HO8.out q hq; omega))
          have HC5 := Lib.hid ((HC8.out.below hb5).own hgrow (fun q hq => by have := own_lt HO8.out q hq; omega))
          have HO5 : Hid (w5.ownsRow w.heap.size 3 1 v' (([4, 6, 9] : List Int) ++ [(s : Int)]).length (intsZ (([4, 6, 9] : List Int) ++ [(s : Int)]))) := Lib.hid (by rw [List.length_append, intsZ_snoc]; exact hown')
          obtain ⟨B', d', rfl⟩ := own_formI HO5.out
          clear hown' hgrow hat hb5
          go_wp2
          go_ret
          exact ⟨⟨([4, 6, 9] : List Int) ++ [(s : Int)], B', d', rfl, by first | (simp; done) | (simp; omega), HO5.out⟩, HC5.out.more (by omega), HG5.out⟩
        · have hb7 : Below w6.heap.size w6 (w6.alloc (.cells (intsZ [2, 3, 4, 5, 6, 7]).toArray 3)) := (Below.refl _ _).alloc (Nat.le_refl _) _
          have HC7 := Lib.hid (HC6.out.below hb7)
          have HO7 := Lib.hid (own_lit w6 [2, 3, 4, 5, 6, 7] w.heap.size hs6 (by decide)); have HG7 := Lib.hid (grown_below HG6.out hb7)
          clear hb7
          go_wp2_with fail
          refine (one_any 2 b c (M + 17) A xs _ HC7.out (by omega) hxs (by omega) (by omega)).mono ?_
          rintro e w8 ⟨⟨t, rfl⟩, hc8, hg8⟩
          have HO8 := Lib.hid (own_grown HO7.out hg8 (fun q hq e => by have h1 : w6.heap.size = q := Option.some.inj hq; have h2 := Option.some.inj e; omega))
          have HG8 := Lib.hid (grownBy_trans HG7.out hg8); have HC8 := Lib.hid hc8; have hs8 := HG8.out.size
          clear hc8 hg8
          cases t with
          | false =>
            go_wp2
            go_ret
            exact ⟨⟨[2, 3, 4, 5, 6, 7], _, _, rfl, by decide, HO8.out⟩, HC8.out.more (by omega), HG8.out⟩
          | true =>
            have hmx : ([2, 3, 4, 5, 6, 7] : List Int).length + 1 ≤ maxLen := by decide
            go_wp2_with (at_builtin; refine wpList_append_own_at _ rfl _ _ 23 rfl w.heap.size 3 i0 (.int .i64 0) 1 8 Tryd.underlying23 HI.out HZ0.out HZ1.out HZ2.out rfl (by decide) _ _ _ rfl (HO8.out.alloc _) ⟨w8.heap.size, 0, none⟩ 1 1 [.int .i64 8] rfl rfl (cell_one_new _ _ _) (by simp [Value.oneCell']) hmx (by first | omega | decide) (by first | (simp; done) | (simp; omega) | omega) ?_)
            intro v' w5 hown' hgrow _ hat
            have hb5 : Below w8.heap.size w8 (w8.alloc (.cells #[.int .i64 8] 3)) := (Below.refl _ _).alloc (Nat.le_refl _) _
            have HG5 := Lib.hid (grownBy_own (grown_below HG8.out hb5) hgrow (fun q hq => by have := own_lt HO8.out q hq; omega))
            have HC5 := Lib.hid ((HC8.out.below hb5).own hgrow (fun q hq => by have := own_lt HO8.out q hq; omega))
            have HO5 : Hid (w5.ownsRow w.heap.size 3 1 v' (([2, 3, 4, 5, 6, 7] : List Int) ++ [(8 : Int)]).length (intsZ (([2, 3, 4, 5, 6, 7] : List Int) ++ [(8 : Int)]))) := Lib.hid (by rw [List.length_append, intsZ_snoc]; exact hown')
            obtain ⟨B', d', rfl⟩ := own_formI HO5.out
            clear hown' hgrow hat hb5
            go_wp2
            go_ret
            exact ⟨⟨([2, 3, 4, 5, 6, 7] : List Int) ++ [(8 : Int)], B', d', rfl, by first | (simp; done) | (simp; omega), HO5.out⟩, HC5.out.more (by omega), HG5.out⟩
        · go_wp2
          go_ret
          exact ⟨⟨[], none, 0, rfl, by simp, own_nil _ _ _ _⟩, HC6.out.more (by omega), HG6.out⟩
        · obtain ⟨G', cap', hv, hbG, hcp, ⟨u0, hu0⟩, hfr⟩ := own_rowI HO6.out (by decide)
          obtain ⟨rfl, rfl⟩ : wr.heap.size = G' ∧ 3 = cap' := by simpa using hv
          have h0n : (0 : Int) < (([4, 6, 9] : List Int).length : Int) := by first | omega | decide
          clear hv
          go_wp2
          go_ret
          exact ⟨⟨([4, 6, 9] : List Int).set 0 0, some ⟨wr.heap.size, 0, none⟩, 3, by rw [List.length_set]; rfl, by rw [List.length_set]; first | omega | decide, by rw [List.length_set, ← intsZ_set]; exact own_setI HO6.out (by rw [intsZ_len]; first | omega | decide) _⟩, (HC6.out.own (grownBy_setCell' _ _ _) (fun q hq => by have := Option.some.inj hq; omega)).more (by omega), grownBy_own HG6.out (grownBy_setCell' _ _ _) (fun q hq => by have := Option.some.inj hq; omega)⟩
        · have hz0 : ¬ (z : Int) = 0 := by omega
          have hz1 : ¬ (z : Int) = 1 := by omega
          have hz2 : ¬ (z : Int) = 2 := by omega
          have hz3 : ¬ (z : Int) = 3 := by omega
          clear h4 hz
          go_wp2
          go_ret
          exact ⟨⟨([4, 6, 9] : List Int), _, _, rfl, by first | omega | decide, HO6.out⟩, HC6.out.more (by omega), HG6.out⟩
      · have h0' : ¬ (acc.length : Int) = 0 := by omega
        obtain ⟨G, cap, hv, hbG, hcp, _, _⟩ := own_rowI HO.out (by omega)
        obtain ⟨rfl, rfl⟩ : B0 = some ⟨G, 0, none⟩ ∧ d0 = cap := by simpa using hv
        have HO3 := Lib.hid (Joins.ownsRow_le HO.out (show w.heap.size ≤ w.heap.size + 1 by omega))
        clear HC HO hv
        go_wp2_with fail
        refine (pick_any 24 b c (M + 16) A xs _ HC'.out (by omega) hxs (by omega) (by omega)).mono ?_
        rintro e w6 ⟨⟨z, hz, rfl⟩, hc6, hg6⟩
        have HO6 := Lib.hid (own_grown HO3.out hg6 (fun q hq e => by have := own_lt HO3.out q hq; have := Option.some.inj e; omega))
        have HG6 := Lib.hid (grownBy_trans HG.out hg6); have HC6 := Lib.hid hc6; have hs6 := HG6.out.size
        clear hc6 hg6
        rcases (by omega : z = 0 ∨ z = 1 ∨ z = 2 ∨ z = 3 ∨ 4 ≤ z) with rfl | rfl | rfl | rfl | h4
        · have hb7 : Below w6.heap.size w6 (w6.alloc (.cells (intsZ [54, 55, 1]).toArray 3)) := (Below.refl _ _).alloc (Nat.le_refl _) _
          have HC7 := Lib.hid (HC6.out.below hb7); have HR7 := Lib.hid (row_ints w6 [54, 55, 1])
          have HO7 := Lib.hid (own_below HO6.out hb7); have HG7 := Lib.hid (grown_below HG6.out hb7)
          clear hb7
          go_wp2_with fail
          refine (among_any [54, 55, 1] _ _ b c (M + 17) A xs _ HC7.out (by omega) hxs HR7.out (by omega) (by decide) (by decide)).mono ?_
          rintro e w8 ⟨⟨s, hs, rfl⟩, hc8, hg8⟩
          have HO8 := Lib.hid (own_grown HO7.out hg8 (fun q hq e => by have := own_lt HO7.out q hq; have := Option.some.inj e; omega))
          have HG8 := Lib.hid (grownBy_trans HG7.out hg8); have HC8 := Lib.hid hc8; have hs8 := HG8.out.size
          clear hc8 hg8 hs
          go_wp2_with (at_builtin; refine wpList_append_own_at _ rfl _ _ 23 rfl w.heap.size 3 i0 (.int .i64 0) 1 8 Tryd.underlying23 HI.out HZ0.out HZ1.out HZ2.out rfl (by decide) _ _ _ rfl (HO8.out.alloc _) ⟨w8.heap.size, 0, none⟩ 1 1 [.int .i64 s] rfl rfl (cell_one_new _ _ _) (by simp [Value.oneCell']) hmx (by first | omega | decide) (by first | (simp; done) | (simp; omega) | omega) ?_)
          intro v' w5 hown' hgrow _ hat
          have hb5 : Below w8.heap.size w8 (w8.alloc (.cells #[.int .i64 s] 3)) := (Below.refl _ _).alloc (Nat.le_refl _) _
          have HG5 := Lib.hid (grownBy_own (grown_below HG8.out hb5) hgrow (fun q hq => by have := own_lt HO8.out q hq; omega))
          have HC5 := Lib.hid ((HC8.out.below hb5).own hgrow (fun q hq => by have := own_lt HO8.out q hq; omega))
          have HO5 : Hid (w5.ownsRow w.heap.size 3 1 v' (acc ++ [(s : Int)]).length (intsZ (acc ++ [(s : Int)]))) := Lib.hid (by rw [List.length_append, intsZ_snoc]; exact hown')
          obtain ⟨B', d', rfl⟩ := own_formI HO5.out
          clear hown' hgrow hat hb5
          go_wp2
          go_ret
          exact ⟨⟨acc ++ [(s : Int)], B', d', rfl, by first | (simp; done) | (simp; omega), HO5.out⟩, HC5.out.more (by omega), HG5.out⟩
        · have hb7 : Below w6.heap.size w6 (w6.alloc (.cells (intsZ [2, 3, 4, 5, 6, 7]).toArray 3)) := (Below.refl _ _).alloc (Nat.le_refl _) _
          have HC7 := Lib.hid (HC6.out.below hb7)
          have HO7 := Lib.hid (own_lit w6 [2, 3, 4, 5, 6, 7] w.heap.size hs6 (by decide)); have HG7 := Lib.hid (grown_below HG6.out hb7)
          clear hb7
          go_wp2_with fail
          refine (one_any 2 b c (M + 17) A xs _ HC7.out (by omega) hxs (by omega) (by omega)).mono ?_
          rintro e w8 ⟨⟨t, rfl⟩, hc8, hg8⟩
          have HO8 := Lib.hid (own_grown HO7.out hg8 (fun q hq e => by have h1 : w6.heap.size = q := Option.some.inj hq; have h2 := Option.some.inj e; omega))
          have HG8 := Lib.hid (grownBy_trans HG7.out hg8); have HC8 := Lib.hid hc8; have hs8 := HG8.out.size
          clear hc8 hg8
          cases t with
          | false =>
            go_wp2
            go_ret
            exact ⟨⟨[2, 3, 4, 5, 6, 7], _, _, rfl, by decide, HO8.out⟩, HC8.out.more (by omega), HG8.out⟩
          | true =>
            have hmx : ([2, 3, 4, 5, 6, 7] : List Int).length + 1 ≤ maxLen := by decide
            go_wp2_with (at_builtin; refine wpList_append_own_at _ rfl _ _ 23 rfl w.heap.size 3 i0 (.int .i64 0) 1 8 Tryd.underlying23 HI.out HZ0.out HZ1.out HZ2.out rfl (by decide) _ _ _ rfl (HO8.out.alloc _) ⟨w8.heap.size, 0, none⟩ 1 1 [.int .i64 8] rfl rfl (cell_one_new _ _ _) (by simp [Value.oneCell']) hmx (by first | omega | decide) (by first | (simp; done) | (simp; omega) | omega) ?_)
            intro v' w5 hown' hgrow _ hat
            have hb5 : Below w8.heap.size w8 (w8.alloc (.cells #[.int .i64 8] 3)) := (Below.refl _ _).alloc (Nat.le_refl _) _
            have HG5 := Lib.hid (grownBy_own (grown_below HG8.out hb5) hgrow (fun q hq => by have := own_lt HO8.out q hq; omega))
            have HC5 := Lib.hid ((HC8.out.below hb5).own hgrow (fun q hq => by have := own_lt HO8.out q hq; omega))
            have HO5 : Hid (w5.ownsRow w.heap.size 3 1 v' (([2, 3, 4, 5, 6, 7] : List Int) ++ [(8 : Int)]).length (intsZ (([2, 3, 4, 5, 6, 7] : List Int) ++ [(8 : Int)]))) := Lib.hid (by rw [List.length_append, intsZ_snoc]; exact hown')
            obtain ⟨B', d', rfl⟩ := own_formI HO5.out
            clear hown' hgrow hat hb5
            go_wp2
            go_ret
            exact ⟨⟨([2, 3, 4, 5, 6, 7] : List Int) ++ [(8 : Int)], B', d', rfl, by first | (simp; done) | (simp; omega), HO5.out⟩, HC5.out.more (by omega), HG5.out⟩
        · go_wp2
          go_ret
          exact ⟨⟨[], none, 0, rfl, by simp, own_nil _ _ _ _⟩, HC6.out.more (by omega), HG6.out⟩
        · obtain ⟨G', cap', hv, hbG, hcp, ⟨u0, hu0⟩, hfr⟩ := own_rowI HO6.out (by omega)
          obtain ⟨rfl, rfl⟩ : G = G' ∧ d0 = cap' := by simpa using hv
          have h0n : (0 : Int) < (acc.length : Int) := by first | omega | decide
          clear hv
          go_wp2
          go_ret
          exact ⟨⟨acc.set 0 0, some ⟨G, 0, none⟩, d0, by rw [List.length_set]; rfl, by rw [List.length_set]; first | omega | decide, by rw [List.length_set, ← intsZ_set]; exact own_setI HO6.out (by rw [intsZ_len]; first | omega | decide) _⟩, (HC6.out.own (grownBy_setCell' _ _ _) (fun q hq => by have := Option.some.inj hq; omega)).more (by omega), grownBy_own HG6.out (grownBy_setCell' _ _ _) (fun q hq => by have := Option.some.inj hq; omega)⟩
        · have hz0 : ¬ (z : Int) = 0 := by omega
          have hz1 : ¬ (z : Int) = 1 := by omega
          have hz2 : ¬ (z : Int) = 2 := by omega
          have hz3 : ¬ (z : Int) = 3 := by omega
          clear h4 hz
          go_wp2
          go_ret
          exact ⟨⟨acc, _, _, rfl, by first | omega | decide, HO6.out⟩, HC6.out.more (by omega), HG6.out⟩
end Go.Proofs.YthhmbcgamcbfdaaDoor

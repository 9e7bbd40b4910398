/-
  spec.DrawDivideByWeights: some weights and some total; the laws' own helpers qInts and qSum.
-/
import Derived.Test.YtnbnegkoanidmaaGreatDoorMvf
import Derived.OwnWalk
import Derived.Maps.AppendAt
namespace Go.Proofs.YtnbnegkoanidmaaGreatDoor
open Go.RowKit
set_option linter.unusedVariables false

theorem BytesIn.alloc {w : World} {A : Option Addr} {xs : List UInt8} (h : BytesIn w A xs) (o : Obj) : BytesIn (w.alloc o) A xs := fun hn => by
  obtain ⟨b', off, e, hl, hc⟩ := h hn
  exact ⟨b', off, e, by simp; omega, fun k hk => (((Below.refl w.heap.size w).alloc (Nat.le_refl _) o).cell (by show b' < _; exact hl)).trans (hc k hk)⟩
theorem cur_newW {w : World} {A : Option Addr} {xs : List UInt8} (hx : BytesIn w A xs) (c : Nat) : CurLe (w.alloc (.cells #[.slice A xs.length c, .int .i64 0, .int .u64 0] 48)) w.heap.size A c 0 xs := by
  refine ⟨⟨0, Nat.le_refl _, 0, by omega, heap_new _ _⟩, fun hn => ?_⟩
  obtain ⟨b', off, e, hl, hc⟩ := hx hn
  exact ⟨b', off, e, hl, fun k hk => (((Below.refl w.heap.size w).alloc (Nat.le_refl _) _).cell (by show b' < _; exact hl)).trans (hc k hk)⟩
theorem grown_newI {w w' : World} {row : Option Nat} (h : w.grownBy w' row) (u j : Nat) (hu : w.heap.size ≤ u) (x : Value) : w.grownBy (w'.setCell ⟨u, j, none⟩ x) row :=
  ⟨h.os, h.tape, h.output, by show w.heap.size ≤ (w'.heap.modify _ _).size; rw [Array.size_modify]; exact h.size, fun i hi hne => by
    have e : (w'.setCell ⟨u, j, none⟩ x).heap[i]? = w'.heap[i]? := by
      show (w'.heap.modify _ _)[i]? = _
      rw [Array.getElem?_modify, if_neg (by show ¬ u = i; omega)]
    rw [e]; exact h.block i hi hne⟩
theorem own_rowX {w : World} {base n i : Nat} {e : TypeId} {v : Value} {xs : List Value} (h : w.ownsRow base e 1 v n xs) (hi : i < n) : ∃ G cap, v = .slice (some ⟨G, 0, none⟩) n cap ∧ base ≤ G ∧ n ≤ cap ∧ (∃ u, w.cell? ⟨G, i, none⟩ = some u) ∧ w.frozen? ⟨G, i, none⟩ = false := by
  have hx := h.1
  rcases h.2 with ⟨rfl, hz⟩ | ⟨G, cap, cur, rfl, hg, hh, hc1, hc2, hc3, hc4⟩
  · omega
  · refine ⟨G, cap, rfl, hg, hc1, ?_, free_of_heap hh i⟩
    rw [cell_of_heap hh]
    have h0 : i < cur.size := by omega
    exact ⟨cur[i], by simp [h0]⟩
def lenV : Value → Nat
  | .slice _ n _ => n
  | _ => 0
theorem own_lenV {w : World} {base n : Nat} {e : TypeId} {v : Value} {xs : List Value} (h : w.ownsRow base e 1 v n xs) : lenV v = n := by
  obtain ⟨B, d, rfl⟩ := own_formI h; rfl
theorem row_intsAt (w : World) (l : List Int) (n : Nat) (h : w.heap.size = n) : IntsIn (w.alloc (.cells (intsZ l).toArray 3)) (some ⟨n, 0, none⟩) l := by subst h; exact row_ints w l
theorem size_set (w : World) (g i : Nat) (v : Value) : (w.setCell ⟨g, i, none⟩ v).heap.size = w.heap.size := by show (w.heap.modify _ _).size = _; rw [Array.size_modify]
set_option maxRecDepth 100000 in
set_option maxHeartbeats 4000000 in
theorem drawDivide_any (A : Option Addr) (c : Nat) (xs : List UInt8) (w : World) (hx : BytesIn w A xs) (hxs : xs.length ≤ maxLen) :
    Calls Tryz.prog 4 #[.slice A xs.length c] w fun e w' =>
      ∃ (l : List Int) (B : Option Addr) (d : Nat) (T : Int), e = .returned (.tuple #[.slice B l.length d, .int .i64 T]) ∧ l.length ≤ 33 ∧ IntsIn w' B l ∧ Below w.heap.size w w' := by
  obtain ⟨i0, hi, hz0, hz1, hz2⟩ := info_parts info_int
  have HI := Lib.hid hi; have HZ0 := Lib.hid hz0; have HZ1 := Lib.hid hz1; have HZ2 := Lib.hid hz2
  clear hi hz0 hz1 hz2
  obtain ⟨b, hb⟩ : ∃ b, b = w.heap.size := ⟨_, rfl⟩
  have HC0 := Lib.hid (cur_newW hx c)
  have HB0 := Lib.hid ((Below.refl w.heap.size w).alloc (Nat.le_refl _) (.cells #[.slice A xs.length c, .int .i64 0, .int .u64 0] 48))
  rw [← hb] at HC0
  have HBE := Lib.hid hb.symm
  have hbw : w.heap.size ≤ b := by omega
  clear hb hx
  go_enter Tryz.func4, Tryz.ntmps4
  go_wp2_with fail
  rw [HBE.out]
  refine (pick_any 6 b c 0 A xs _ HC0.out (by omega) hxs (by omega) (by omega)).mono ?_
  rintro e w1 ⟨⟨p, hp, rfl⟩, hc1, hg1⟩
  have HC1 := Lib.hid hc1; have HB1 := Lib.hid (HB0.out.grown hg1 HB0.out.size (fun k hk => by have := Option.some.inj hk; omega))
  clear hc1 hg1 HC0 HB0
  go_wp2_with fail
  refine (one_any 12 b c (0 + 1) A xs _ HC1.out (by omega) hxs (by omega) (by omega)).mono ?_
  rintro e w2 ⟨⟨t, rfl⟩, hc2, hg2⟩
  have HC2 := Lib.hid hc2; have HB2 := Lib.hid (HB1.out.grown hg2 HB1.out.size (fun k hk => by have := Option.some.inj hk; omega))
  clear hc2 hg2 HC1 HB1
  cases t with
  | false =>
    obtain ⟨n, hn⟩ : ∃ n : Nat, n = 1 + p := ⟨_, rfl⟩
    have hn1 : 1 + (p : Int) = (n : Int) := by omega
    have hnm : n ≤ 33 := by omega
    have HCX := HC2; have HBX := HB2
    clear hn HC2 HB2
    go_wp2
    go_loopw [5] (fun v wr => ∃ (acc : List Int), acc.length ≤ n ∧ wr.ownsRow (b + 1) 3 1 v acc.length (intsZ acc) ∧ CurLe wr b A c (3 + acc.length) xs ∧ Below w.heap.size w wr) (fun v _ => n - lenV v)
    case atStart => exact ⟨[], by simp, own_nil _ _ _ _, HCX.out.more (by omega), HBX.out⟩
    case round =>
      obtain ⟨acc, hal, ho, hc, hb⟩ := hrel
      obtain ⟨B0, d0, hv⟩ := own_formI ho
      subst hv
      have hmx : acc.length + 1 ≤ maxLen := by unfold maxLen; omega
      have HO6 := Lib.hid ho; have HC6 := Lib.hid hc; have HB6 := Lib.hid hb
      clear ho hc hb
      by_cases hlt : acc.length < n
      · have hk8 : (acc.length : Int) < (n : Int) := by omega
        have hb6 : Below wr.heap.size wr (wr.alloc (.cells (intsZ [0, 1, 1, 2, 3, 7, 1000000]).toArray 3)) := (Below.refl _ _).alloc (Nat.le_refl _) _
        have HK6 := Lib.hid (HC6.out.below hb6); have HP6 := Lib.hid (own_below HO6.out hb6)
        have HT6 := Lib.hid (HB6.out.trans (hb6.mono HB6.out.size))
        have HL6 := Lib.hid (row_intsAt wr [0, 1, 1, 2, 3, 7, 1000000] (wr.heap.size) (by first | rfl | exact hsz9))
        have hbl6 := HC6.out.lt
        clear hb6 HC6 HO6 HB6
        go_wp2_with fail
        refine (among_any [0, 1, 1, 2, 3, 7, 1000000] _ _ b c (3 + acc.length) A xs _ HK6.out (by omega) hxs HL6.out (by omega) (by simp) (by simp)).mono ?_
        rintro e w1 ⟨⟨x, hx1, rfl⟩, hc1, hg1⟩
        have HC1 := Lib.hid hc1
        have HB1 := Lib.hid (HT6.out.grown hg1 HT6.out.size (fun k hk => by have := Option.some.inj hk; omega))
        have HO1 := Lib.hid (own_grown HP6.out hg1 (fun q hq e => by have h1 := own_lt HP6.out q hq; have := Option.some.inj e; omega))
        clear hc1 hg1 HK6 HP6 HT6 HL6
        clear hx1
        have hwz1 := HB1.out.size
        have hbl1 := HC1.out.lt
        go_wp2_with (at_builtin; refine wpList_append_own_at _ rfl _ _ 23 rfl (b + 1) 3 i0 (.int .i64 0) 1 8 Tryz.underlying23 HI.out HZ0.out HZ1.out HZ2.out rfl (by decide) _ _ _ rfl (HO1.out.alloc _) ⟨w1.heap.size, 0, none⟩ 1 1 [.int .i64 x] rfl rfl (cell_one_new _ _ _) (by simp [Value.oneCell']) hmx (by first | omega | decide) (by first | (simp; done) | (simp; omega) | skip) ?_)
        intro v' w5 hown' hgrow _ hat
        have hb5 : Below w1.heap.size w1 (w1.alloc (.cells #[.int .i64 x] 3)) := (Below.refl _ _).alloc (Nat.le_refl _) _
        have HB5 := Lib.hid ((HB1.out.alloc HB1.out.size (.cells #[.int .i64 x] 3)).grown hgrow (by simp; omega) (fun p hp => by have := own_lt HO1.out p hp; omega))
        have HC5 := Lib.hid ((HC1.out.below hb5).own hgrow (fun q hq => by have := own_lt HO1.out q hq; omega))
        have HO5 : Hid (w5.ownsRow (b + 1) 3 1 v' (acc ++ [x]).length (intsZ (acc ++ [x]))) := Lib.hid (by rw [List.length_append, intsZ_snoc]; exact hown')
        have HLV := Lib.hid (own_lenV HO5.out)
        clear hown' hgrow hat hb5
        go_wp2
        go_roundw
        case rel => exact ⟨acc ++ [x], by simp; omega, HO5.out, HC5.out.more (by simp; omega), HB5.out⟩
        case measure => rw [HLV.out]; simp [lenV]; omega
      · have HE : Hid (acc.length = n) := Lib.hid (by omega)
        have hk8 : ¬ (acc.length : Int) < (n : Int) := by omega
        have hal33 : acc.length ≤ 33 := by omega
        clear hlt
        replace HC6 : Hid (CurLe wr b A c 40 xs) := Lib.hid (HC6.out.more (by omega))
        have hbl6 := HC6.out.lt
        by_cases h0 : n = 0
        · have h00 : ¬ (0 : Int) < (n : Int) := by omega
          exfalso
          omega
        have h01 : (0 : Int) < (n : Int) := by omega
        go_wp2_with fail
        refine (one_any 20 b c 40 A xs _ HC6.out (by omega) hxs (by omega) (by omega)).mono ?_
        rintro e w6 ⟨⟨t, rfl⟩, hc6, hg6⟩
        have HO9 := Lib.hid (own_grown HO6.out hg6 (fun q hq e => by have := own_lt HO6.out q hq; have := Option.some.inj e; omega))
        have HB9 := Lib.hid (HB6.out.grown hg6 HB6.out.size (fun k hk => by have := Option.some.inj hk; omega))
        have HC9 := Lib.hid hc6
        clear hc6 hg6 HO6 HC6 HB6
        cases t with
        | false =>
          have HC6 : Hid (CurLe w6 b A c 50 xs) := Lib.hid (HC9.out.more (by omega))
          have HO6 := HO9; have HB6 := HB9
          clear HC9 HO9 HB9
          have hb6 : Below w6.heap.size w6 (w6.alloc (.cells (intsZ [5, -1, 100001]).toArray 3)) := (Below.refl _ _).alloc (Nat.le_refl _) _
          have HK6 := Lib.hid (HC6.out.below hb6); have HP6 := Lib.hid (own_below HO6.out hb6)
          have HT6 := Lib.hid (HB6.out.trans (hb6.mono HB6.out.size))
          have HL6 := Lib.hid (row_intsAt w6 [5, -1, 100001] (w6.heap.size) (by first | rfl | exact hsz9))
          have hbl6 := HC6.out.lt
          clear hb6 HC6 HO6 HB6
          go_wp2_with fail
          refine (among_any [5, -1, 100001] _ _ b c (50) A xs _ HK6.out (by omega) hxs HL6.out (by omega) (by simp) (by simp)).mono ?_
          rintro e u7 ⟨⟨y1, hx7, rfl⟩, hc7, hg7⟩
          have HC7 := Lib.hid hc7
          have HB7 := Lib.hid (HT6.out.grown hg7 HT6.out.size (fun k hk => by have := Option.some.inj hk; omega))
          have HO7 := Lib.hid (own_grown HP6.out hg7 (fun q hq e => by have h1 := own_lt HP6.out q hq; have := Option.some.inj e; omega))
          clear hc7 hg7 HK6 HP6 HT6 HL6
          have hb7 : Below u7.heap.size u7 (u7.alloc (.cells (intsZ [0, 1, 10, 11, 100, 997, 100000, y1]).toArray 3)) := (Below.refl _ _).alloc (Nat.le_refl _) _
          have HK7 := Lib.hid (HC7.out.below hb7); have HP7 := Lib.hid (own_below HO7.out hb7)
          have HT7 := Lib.hid (HB7.out.trans (hb7.mono HB7.out.size))
          have HL7 := Lib.hid (row_intsAt u7 [0, 1, 10, 11, 100, 997, 100000, y1] (u7.heap.size) (by first | rfl | exact hsz9))
          have hbl7 := HC7.out.lt
          clear hb7 HC7 HO7 HB7
          go_wp2_with fail
          refine (among_any [0, 1, 10, 11, 100, 997, 100000, y1] _ _ b c (50 + 1) A xs _ HK7.out (by omega) hxs HL7.out (by omega) (by simp) (by simp)).mono ?_
          rintro e u8 ⟨⟨y2, hx8, rfl⟩, hc8, hg8⟩
          have HC8 := Lib.hid hc8
          have HB8 := Lib.hid (HT7.out.grown hg8 HT7.out.size (fun k hk => by have := Option.some.inj hk; omega))
          have HO8 := Lib.hid (own_grown HP7.out hg8 (fun q hq e => by have h1 := own_lt HP7.out q hq; have := Option.some.inj e; omega))
          clear hc8 hg8 HK7 HP7 HT7 HL7
          clear hx7 hx8
          go_wp2
          go_ret2
          exact ⟨acc, _, _, y2, rfl, hal33, own_in HO8.out, HB8.out⟩
        | true =>
          go_wp2_with fail
          refine (pick_any n b c 41 A xs _ HC9.out (by omega) hxs (by omega) (by omega)).mono ?_
          rintro e w7 ⟨⟨y, hy, rfl⟩, hc7, hg7⟩
          have HO6 := Lib.hid (own_grown HO9.out hg7 (fun q hq e => by have := own_lt HO9.out q hq; have := Option.some.inj e; omega))
          have HB6 := Lib.hid (HB9.out.grown hg7 HB9.out.size (fun k hk => by have := Option.some.inj hk; omega))
          have HC6 := Lib.hid hc7
          clear hc7 hg7 HO9 HB9 HC9
          have hb6 : Below w7.heap.size w7 (w7.alloc (.cells (intsZ [-1, 1000001]).toArray 3)) := (Below.refl _ _).alloc (Nat.le_refl _) _
          have HK6 := Lib.hid (HC6.out.below hb6); have HP6 := Lib.hid (own_below HO6.out hb6)
          have HT6 := Lib.hid (HB6.out.trans (hb6.mono HB6.out.size))
          have HL6 := Lib.hid (row_intsAt w7 [-1, 1000001] (w7.heap.size) (by first | rfl | exact hsz9))
          have hbl6 := HC6.out.lt
          clear hb6 HC6 HO6 HB6
          go_wp2_with fail
          refine (among_any [-1, 1000001] _ _ b c (42) A xs _ HK6.out (by omega) hxs HL6.out (by omega) (by simp) (by simp)).mono ?_
          rintro e w9 ⟨⟨s, hx9, rfl⟩, hc9, hg9⟩
          have HC9 := Lib.hid hc9
          have HB9 := Lib.hid (HT6.out.grown hg9 HT6.out.size (fun k hk => by have := Option.some.inj hk; omega))
          have HO9 := Lib.hid (own_grown HP6.out hg9 (fun q hq e => by have h1 := own_lt HP6.out q hq; have := Option.some.inj e; omega))
          clear hc9 hg9 HK6 HP6 HT6 HL6
          clear hx9
          obtain ⟨G', cap', hv, hbG, hcp, ⟨u0, hu0⟩, hfr⟩ := own_rowX HO9.out (show y < acc.length by have := HE.out; omega)
          injection hv with hv1 hv2 hv3
          subst hv1 hv3
          clear hv2
          have hy0 : (0 : Int) ≤ (y : Int) := by omega
          have hyl : (y : Int) < (acc.length : Int) := by have := HE.out; omega
          have gs := grown_set (World.grownBy.refl w9 (some G')) y (.int .i64 s)
          have HO6 : Hid ((w9.setCell ⟨G', y, none⟩ (.int .i64 s)).ownsRow (b + 1) 3 1 (.slice (some ⟨G', 0, none⟩) acc.length d0) (acc.set y s).length (intsZ (acc.set y s))) := Lib.hid (by rw [List.length_set, ← intsZ_set]; exact own_setI HO9.out (by rw [intsZ_len]; omega) _)
          have HB6 := Lib.hid (HB9.out.grown gs HB9.out.size (fun k hk => by have := Option.some.inj hk; omega))
          have HC6 : Hid (CurLe (w9.setCell ⟨G', y, none⟩ (.int .i64 s)) b A c 50 xs) := Lib.hid ((HC9.out.own gs (fun q hq => by have := Option.some.inj hq; omega)).more (by omega))
          have hal34 : (acc.set y s).length ≤ 33 := by rw [List.length_set]; exact hal33
          have hls : (acc.set y s).length = acc.length := List.length_set ..
          have hsz9 := size_set w9 G' y (.int .i64 s)
          clear HO9 HC9 HB9 gs
          have hb6 : Below (w9.setCell ⟨G', y, none⟩ (.int .i64 s)).heap.size (w9.setCell ⟨G', y, none⟩ (.int .i64 s)) ((w9.setCell ⟨G', y, none⟩ (.int .i64 s)).alloc (.cells (intsZ [5, -1, 100001]).toArray 3)) := (Below.refl _ _).alloc (Nat.le_refl _) _
          have HK6 := Lib.hid (HC6.out.below hb6); have HP6 := Lib.hid (own_below HO6.out hb6)
          have HT6 := Lib.hid (HB6.out.trans (hb6.mono HB6.out.size))
          have HL6 := Lib.hid (row_intsAt (w9.setCell ⟨G', y, none⟩ (.int .i64 s)) [5, -1, 100001] (w9.heap.size) (by first | rfl | exact hsz9))
          have hbl6 := HC6.out.lt
          clear hb6 HC6 HO6 HB6
          go_wp2_with fail
          refine (among_any [5, -1, 100001] _ _ b c (50) A xs _ HK6.out (by omega) hxs HL6.out (by omega) (by simp) (by simp)).mono ?_
          rintro e u7 ⟨⟨y1, hx7, rfl⟩, hc7, hg7⟩
          have HC7 := Lib.hid hc7
          have HB7 := Lib.hid (HT6.out.grown hg7 HT6.out.size (fun k hk => by have := Option.some.inj hk; omega))
          have HO7 := Lib.hid (own_grown HP6.out hg7 (fun q hq e => by have h1 := own_lt HP6.out q hq; have := Option.some.inj e; omega))
          clear hc7 hg7 HK6 HP6 HT6 HL6
          have hb7 : Below u7.heap.size u7 (u7.alloc (.cells (intsZ [0, 1, 10, 11, 100, 997, 100000, y1]).toArray 3)) := (Below.refl _ _).alloc (Nat.le_refl _) _
          have HK7 := Lib.hid (HC7.out.below hb7); have HP7 := Lib.hid (own_below HO7.out hb7)
          have HT7 := Lib.hid (HB7.out.trans (hb7.mono HB7.out.size))
          have HL7 := Lib.hid (row_intsAt u7 [0, 1, 10, 11, 100, 997, 100000, y1] (u7.heap.size) (by first | rfl | exact hsz9))
          have hbl7 := HC7.out.lt
          clear hb7 HC7 HO7 HB7
          go_wp2_with fail
          refine (among_any [0, 1, 10, 11, 100, 997, 100000, y1] _ _ b c (50 + 1) A xs _ HK7.out (by omega) hxs HL7.out (by omega) (by simp) (by simp)).mono ?_
          rintro e u8 ⟨⟨y2, hx8, rfl⟩, hc8, hg8⟩
          have HC8 := Lib.hid hc8
          have HB8 := Lib.hid (HT7.out.grown hg8 HT7.out.size (fun k hk => by have := Option.some.inj hk; omega))
          have HO8 := Lib.hid (own_grown HP7.out hg8 (fun q hq e => by have h1 := own_lt HP7.out q hq; have := Option.some.inj e; omega))
          clear hc8 hg8 HK7 HP7 HT7 HL7
          clear hx7 hx8
          go_wp2
          go_ret2
          exact ⟨acc.set y s, _, _, y2, by rw [hls]; rfl, hal34, own_in HO8.out, HB8.out⟩
  | true =>
    have hb3 : Below w2.heap.size w2 (w2.alloc (.cells (intsZ [0, 32, 33]).toArray 3)) := (Below.refl _ _).alloc (Nat.le_refl _) _
    have HC3 := Lib.hid (HC2.out.below hb3)
    have HB3 := Lib.hid (HB2.out.trans (hb3.mono HB2.out.size))
    have HR3 := Lib.hid (row_ints w2 [0, 32, 33])
    have hbl2 := HC2.out.lt
    clear hb3
    go_wp2_with fail
    refine (among_any [0, 32, 33] _ _ b c (0 + 1 + 1) A xs _ HC3.out (by omega) hxs HR3.out (by omega) (by simp) (by simp)).mono ?_
    rintro e w4 ⟨⟨x, hx, rfl⟩, hc4, hg4⟩
    have HCX := Lib.hid hc4; have HBX := Lib.hid (HB3.out.grown hg4 HB3.out.size (fun k hk => by have := Option.some.inj hk; omega))
    obtain ⟨n, rfl, hnm⟩ : ∃ n : Nat, x = (n : Int) ∧ n ≤ 33 := by
      simp at hx
      rcases hx with rfl | rfl | rfl
      · exact ⟨0, rfl, by omega⟩
      · exact ⟨32, rfl, by omega⟩
      · exact ⟨33, rfl, by omega⟩
    clear hc4 hg4 hx HC3 HB3 HR3 HC2 HB2
    go_wp2
    go_loopw [5] (fun v wr => ∃ (acc : List Int), acc.length ≤ n ∧ wr.ownsRow (b + 1) 3 1 v acc.length (intsZ acc) ∧ CurLe wr b A c (3 + acc.length) xs ∧ Below w.heap.size w wr) (fun v _ => n - lenV v)
    case atStart => exact ⟨[], by simp, own_nil _ _ _ _, HCX.out.more (by omega), HBX.out⟩
    case round =>
      obtain ⟨acc, hal, ho, hc, hb⟩ := hrel
      obtain ⟨B0, d0, hv⟩ := own_formI ho
      subst hv
      have hmx : acc.length + 1 ≤ maxLen := by unfold maxLen; omega
      have HO6 := Lib.hid ho; have HC6 := Lib.hid hc; have HB6 := Lib.hid hb
      clear ho hc hb
      by_cases hlt : acc.length < n
      · have hk8 : (acc.length : Int) < (n : Int) := by omega
        have hb6 : Below wr.heap.size wr (wr.alloc (.cells (intsZ [0, 1, 1, 2, 3, 7, 1000000]).toArray 3)) := (Below.refl _ _).alloc (Nat.le_refl _) _
        have HK6 := Lib.hid (HC6.out.below hb6); have HP6 := Lib.hid (own_below HO6.out hb6)
        have HT6 := Lib.hid (HB6.out.trans (hb6.mono HB6.out.size))
        have HL6 := Lib.hid (row_intsAt wr [0, 1, 1, 2, 3, 7, 1000000] (wr.heap.size) (by first | rfl | exact hsz9))
        have hbl6 := HC6.out.lt
        clear hb6 HC6 HO6 HB6
        go_wp2_with fail
        refine (among_any [0, 1, 1, 2, 3, 7, 1000000] _ _ b c (3 + acc.length) A xs _ HK6.out (by omega) hxs HL6.out (by omega) (by simp) (by simp)).mono ?_
        rintro e w1 ⟨⟨x, hx1, rfl⟩, hc1, hg1⟩
        have HC1 := Lib.hid hc1
        have HB1 := Lib.hid (HT6.out.grown hg1 HT6.out.size (fun k hk => by have := Option.some.inj hk; omega))
        have HO1 := Lib.hid (own_grown HP6.out hg1 (fun q hq e => by have h1 := own_lt HP6.out q hq; have := Option.some.inj e; omega))
        clear hc1 hg1 HK6 HP6 HT6 HL6
        clear hx1
        have hwz1 := HB1.out.size
        have hbl1 := HC1.out.lt
        go_wp2_with (at_builtin; refine wpList_append_own_at _ rfl _ _ 23 rfl (b + 1) 3 i0 (.int .i64 0) 1 8 Tryz.underlying23 HI.out HZ0.out HZ1.out HZ2.out rfl (by decide) _ _ _ rfl (HO1.out.alloc _) ⟨w1.heap.size, 0, none⟩ 1 1 [.int .i64 x] rfl rfl (cell_one_new _ _ _) (by simp [Value.oneCell']) hmx (by first | omega | decide) (by first | (simp; done) | (simp; omega) | skip) ?_)
        intro v' w5 hown' hgrow _ hat
        have hb5 : Below w1.heap.size w1 (w1.alloc (.cells #[.int .i64 x] 3)) := (Below.refl _ _).alloc (Nat.le_refl _) _
        have HB5 := Lib.hid ((HB1.out.alloc HB1.out.size (.cells #[.int .i64 x] 3)).grown hgrow (by simp; omega) (fun p hp => by have := own_lt HO1.out p hp; omega))
        have HC5 := Lib.hid ((HC1.out.below hb5).own hgrow (fun q hq => by have := own_lt HO1.out q hq; omega))
        have HO5 : Hid (w5.ownsRow (b + 1) 3 1 v' (acc ++ [x]).length (intsZ (acc ++ [x]))) := Lib.hid (by rw [List.length_append, intsZ_snoc]; exact hown')
        have HLV := Lib.hid (own_lenV HO5.out)
        clear hown' hgrow hat hb5
        go_wp2
        go_roundw
        case rel => exact ⟨acc ++ [x], by simp; omega, HO5.out, HC5.out.more (by simp; omega), HB5.out⟩
        case measure => rw [HLV.out]; simp [lenV]; omega
      · have HE : Hid (acc.length = n) := Lib.hid (by omega)
        have hk8 : ¬ (acc.length : Int) < (n : Int) := by omega
        have hal33 : acc.length ≤ 33 := by omega
        clear hlt
        replace HC6 : Hid (CurLe wr b A c 40 xs) := Lib.hid (HC6.out.more (by omega))
        have hbl6 := HC6.out.lt
        by_cases h0 : n = 0
        · have h00 : ¬ (0 : Int) < (n : Int) := by omega
          replace HC6 : Hid (CurLe wr b A c 50 xs) := Lib.hid (HC6.out.more (by omega))
          clear h0
          have hb6 : Below wr.heap.size wr (wr.alloc (.cells (intsZ [5, -1, 100001]).toArray 3)) := (Below.refl _ _).alloc (Nat.le_refl _) _
          have HK6 := Lib.hid (HC6.out.below hb6); have HP6 := Lib.hid (own_below HO6.out hb6)
          have HT6 := Lib.hid (HB6.out.trans (hb6.mono HB6.out.size))
          have HL6 := Lib.hid (row_intsAt wr [5, -1, 100001] (wr.heap.size) (by first | rfl | exact hsz9))
          have hbl6 := HC6.out.lt
          clear hb6 HC6 HO6 HB6
          go_wp2_with fail
          refine (among_any [5, -1, 100001] _ _ b c (50) A xs _ HK6.out (by omega) hxs HL6.out (by omega) (by simp) (by simp)).mono ?_
          rintro e u7 ⟨⟨y1, hx7, rfl⟩, hc7, hg7⟩
          have HC7 := Lib.hid hc7
          have HB7 := Lib.hid (HT6.out.grown hg7 HT6.out.size (fun k hk => by have := Option.some.inj hk; omega))
          have HO7 := Lib.hid (own_grown HP6.out hg7 (fun q hq e => by have h1 := own_lt HP6.out q hq; have := Option.some.inj e; omega))
          clear hc7 hg7 HK6 HP6 HT6 HL6
          have hb7 : Below u7.heap.size u7 (u7.alloc (.cells (intsZ [0, 1, 10, 11, 100, 997, 100000, y1]).toArray 3)) := (Below.refl _ _).alloc (Nat.le_refl _) _
          have HK7 := Lib.hid (HC7.out.below hb7); have HP7 := Lib.hid (own_below HO7.out hb7)
          have HT7 := Lib.hid (HB7.out.trans (hb7.mono HB7.out.size))
          have HL7 := Lib.hid (row_intsAt u7 [0, 1, 10, 11, 100, 997, 100000, y1] (u7.heap.size) (by first | rfl | exact hsz9))
          have hbl7 := HC7.out.lt
          clear hb7 HC7 HO7 HB7
          go_wp2_with fail
          refine (among_any [0, 1, 10, 11, 100, 997, 100000, y1] _ _ b c (50 + 1) A xs _ HK7.out (by omega) hxs HL7.out (by omega) (by simp) (by simp)).mono ?_
          rintro e u8 ⟨⟨y2, hx8, rfl⟩, hc8, hg8⟩
          have HC8 := Lib.hid hc8
          have HB8 := Lib.hid (HT7.out.grown hg8 HT7.out.size (fun k hk => by have := Option.some.inj hk; omega))
          have HO8 := Lib.hid (own_grown HP7.out hg8 (fun q hq e => by have h1 := own_lt HP7.out q hq; have := Option.some.inj e; omega))
          clear hc8 hg8 HK7 HP7 HT7 HL7
          clear hx7 hx8
          go_wp2
          go_ret2
          exact ⟨acc, _, _, y2, rfl, hal33, own_in HO8.out, HB8.out⟩
        have h01 : (0 : Int) < (n : Int) := by omega
        go_wp2_with fail
        refine (one_any 20 b c 40 A xs _ HC6.out (by omega) hxs (by omega) (by omega)).mono ?_
        rintro e w6 ⟨⟨t, rfl⟩, hc6, hg6⟩
        have HO9 := Lib.hid (own_grown HO6.out hg6 (fun q hq e => by have := own_lt HO6.out q hq; have := Option.some.inj e; omega))
        have HB9 := Lib.hid (HB6.out.grown hg6 HB6.out.size (fun k hk => by have := Option.some.inj hk; omega))
        have HC9 := Lib.hid hc6
        clear hc6 hg6 HO6 HC6 HB6
        cases t with
        | false =>
          have HC6 : Hid (CurLe w6 b A c 50 xs) := Lib.hid (HC9.out.more (by omega))
          have HO6 := HO9; have HB6 := HB9
          clear HC9 HO9 HB9
          have hb6 : Below w6.heap.size w6 (w6.alloc (.cells (intsZ [5, -1, 100001]).toArray 3)) := (Below.refl _ _).alloc (Nat.le_refl _) _
          have HK6 := Lib.hid (HC6.out.below hb6); have HP6 := Lib.hid (own_below HO6.out hb6)
          have HT6 := Lib.hid (HB6.out.trans (hb6.mono HB6.out.size))
          have HL6 := Lib.hid (row_intsAt w6 [5, -1, 100001] (w6.heap.size) (by first | rfl | exact hsz9))
          have hbl6 := HC6.out.lt
          clear hb6 HC6 HO6 HB6
          go_wp2_with fail
          refine (among_any [5, -1, 100001] _ _ b c (50) A xs _ HK6.out (by omega) hxs HL6.out (by omega) (by simp) (by simp)).mono ?_
          rintro e u7 ⟨⟨y1, hx7, rfl⟩, hc7, hg7⟩
          have HC7 := Lib.hid hc7
          have HB7 := Lib.hid (HT6.out.grown hg7 HT6.out.size (fun k hk => by have := Option.some.inj hk; omega))
          have HO7 := Lib.hid (own_grown HP6.out hg7 (fun q hq e => by have h1 := own_lt HP6.out q hq; have := Option.some.inj e; omega))
          clear hc7 hg7 HK6 HP6 HT6 HL6
          have hb7 : Below u7.heap.size u7 (u7.alloc (.cells (intsZ [0, 1, 10, 11, 100, 997, 100000, y1]).toArray 3)) := (Below.refl _ _).alloc (Nat.le_refl _) _
          have HK7 := Lib.hid (HC7.out.below hb7); have HP7 := Lib.hid (own_below HO7.out hb7)
          have HT7 := Lib.hid (HB7.out.trans (hb7.mono HB7.out.size))
          have HL7 := Lib.hid (row_intsAt u7 [0, 1, 10, 11, 100, 997, 100000, y1] (u7.heap.size) (by first | rfl | exact hsz9))
          have hbl7 := HC7.out.lt
          clear hb7 HC7 HO7 HB7
          go_wp2_with fail
          refine (among_any [0, 1, 10, 11, 100, 997, 100000, y1] _ _ b c (50 + 1) A xs _ HK7.out (by omega) hxs HL7.out (by omega) (by simp) (by simp)).mono ?_
          rintro e u8 ⟨⟨y2, hx8, rfl⟩, hc8, hg8⟩
          have HC8 := Lib.hid hc8
          have HB8 := Lib.hid (HT7.out.grown hg8 HT7.out.size (fun k hk => by have := Option.some.inj hk; omega))
          have HO8 := Lib.hid (own_grown HP7.out hg8 (fun q hq e => by have h1 := own_lt HP7.out q hq; have := Option.some.inj e; omega))
          clear hc8 hg8 HK7 HP7 HT7 HL7
          clear hx7 hx8
          go_wp2
          go_ret2
          exact ⟨acc, _, _, y2, rfl, hal33, own_in HO8.out, HB8.out⟩
        | true =>
          go_wp2_with fail
          refine (pick_any n b c 41 A xs _ HC9.out (by omega) hxs (by omega) (by omega)).mono ?_
          rintro e w7 ⟨⟨y, hy, rfl⟩, hc7, hg7⟩
          have HO6 := Lib.hid (own_grown HO9.out hg7 (fun q hq e => by have := own_lt HO9.out q hq; have := Option.some.inj e; omega))
          have HB6 := Lib.hid (HB9.out.grown hg7 HB9.out.size (fun k hk => by have := Option.some.inj hk; omega))
          have HC6 := Lib.hid hc7
          clear hc7 hg7 HO9 HB9 HC9
          have hb6 : Below w7.heap.size w7 (w7.alloc (.cells (intsZ [-1, 1000001]).toArray 3)) := (Below.refl _ _).alloc (Nat.le_refl _) _
          have HK6 := Lib.hid (HC6.out.below hb6); have HP6 := Lib.hid (own_below HO6.out hb6)
          have HT6 := Lib.hid (HB6.out.trans (hb6.mono HB6.out.size))
          have HL6 := Lib.hid (row_intsAt w7 [-1, 1000001] (w7.heap.size) (by first | rfl | exact hsz9))
          have hbl6 := HC6.out.lt
          clear hb6 HC6 HO6 HB6
          go_wp2_with fail
          refine (among_any [-1, 1000001] _ _ b c (42) A xs _ HK6.out (by omega) hxs HL6.out (by omega) (by simp) (by simp)).mono ?_
          rintro e w9 ⟨⟨s, hx9, rfl⟩, hc9, hg9⟩
          have HC9 := Lib.hid hc9
          have HB9 := Lib.hid (HT6.out.grown hg9 HT6.out.size (fun k hk => by have := Option.some.inj hk; omega))
          have HO9 := Lib.hid (own_grown HP6.out hg9 (fun q hq e => by have h1 := own_lt HP6.out q hq; have := Option.some.inj e; omega))
          clear hc9 hg9 HK6 HP6 HT6 HL6
          clear hx9
          obtain ⟨G', cap', hv, hbG, hcp, ⟨u0, hu0⟩, hfr⟩ := own_rowX HO9.out (show y < acc.length by have := HE.out; omega)
          injection hv with hv1 hv2 hv3
          subst hv1 hv3
          clear hv2
          have hy0 : (0 : Int) ≤ (y : Int) := by omega
          have hyl : (y : Int) < (acc.length : Int) := by have := HE.out; omega
          have gs := grown_set (World.grownBy.refl w9 (some G')) y (.int .i64 s)
          have HO6 : Hid ((w9.setCell ⟨G', y, none⟩ (.int .i64 s)).ownsRow (b + 1) 3 1 (.slice (some ⟨G', 0, none⟩) acc.length d0) (acc.set y s).length (intsZ (acc.set y s))) := Lib.hid (by rw [List.length_set, ← intsZ_set]; exact own_setI HO9.out (by rw [intsZ_len]; omega) _)
          have HB6 := Lib.hid (HB9.out.grown gs HB9.out.size (fun k hk => by have := Option.some.inj hk; omega))
          have HC6 : Hid (CurLe (w9.setCell ⟨G', y, none⟩ (.int .i64 s)) b A c 50 xs) := Lib.hid ((HC9.out.own gs (fun q hq => by have := Option.some.inj hq; omega)).more (by omega))
          have hal34 : (acc.set y s).length ≤ 33 := by rw [List.length_set]; exact hal33
          have hls : (acc.set y s).length = acc.length := List.length_set ..
          have hsz9 := size_set w9 G' y (.int .i64 s)
          clear HO9 HC9 HB9 gs
          have hb6 : Below (w9.setCell ⟨G', y, none⟩ (.int .i64 s)).heap.size (w9.setCell ⟨G', y, none⟩ (.int .i64 s)) ((w9.setCell ⟨G', y, none⟩ (.int .i64 s)).alloc (.cells (intsZ [5, -1, 100001]).toArray 3)) := (Below.refl _ _).alloc (Nat.le_refl _) _
          have HK6 := Lib.hid (HC6.out.below hb6); have HP6 := Lib.hid (own_below HO6.out hb6)
          have HT6 := Lib.hid (HB6.out.trans (hb6.mono HB6.out.size))
          have HL6 := Lib.hid (row_intsAt (w9.setCell ⟨G', y, none⟩ (.int .i64 s)) [5, -1, 100001] (w9.heap.size) (by first | rfl | exact hsz9))
          have hbl6 := HC6.out.lt
          clear hb6 HC6 HO6 HB6
          go_wp2_with fail
          refine (among_any [5, -1, 100001] _ _ b c (50) A xs _ HK6.out (by omega) hxs HL6.out (by omega) (by simp) (by simp)).mono ?_
          rintro e u7 ⟨⟨y1, hx7, rfl⟩, hc7, hg7⟩
          have HC7 := Lib.hid hc7
          have HB7 := Lib.hid (HT6.out.grown hg7 HT6.out.size (fun k hk => by have := Option.some.inj hk; omega))
          have HO7 := Lib.hid (own_grown HP6.out hg7 (fun q hq e => by have h1 := own_lt HP6.out q hq; have := Option.some.inj e; omega))
          clear hc7 hg7 HK6 HP6 HT6 HL6
          have hb7 : Below u7.heap.size u7 (u7.alloc (.cells (intsZ [0, 1, 10, 11, 100, 997, 100000, y1]).toArray 3)) := (Below.refl _ _).alloc (Nat.le_refl _) _
          have HK7 := Lib.hid (HC7.out.below hb7); have HP7 := Lib.hid (own_below HO7.out hb7)
          have HT7 := Lib.hid (HB7.out.trans (hb7.mono HB7.out.size))
          have HL7 := Lib.hid (row_intsAt u7 [0, 1, 10, 11, 100, 997, 100000, y1] (u7.heap.size) (by first | rfl | exact hsz9))
          have hbl7 := HC7.out.lt
          clear hb7 HC7 HO7 HB7
          go_wp2_with fail
          refine (among_any [0, 1, 10, 11, 100, 997, 100000, y1] _ _ b c (50 + 1) A xs _ HK7.out (by omega) hxs HL7.out (by omega) (by simp) (by simp)).mono ?_
          rintro e u8 ⟨⟨y2, hx8, rfl⟩, hc8, hg8⟩
          have HC8 := Lib.hid hc8
          have HB8 := Lib.hid (HT7.out.grown hg8 HT7.out.size (fun k hk => by have := Option.some.inj hk; omega))
          have HO8 := Lib.hid (own_grown HP7.out hg8 (fun q hq e => by have h1 := own_lt HP7.out q hq; have := Option.some.inj e; omega))
          clear hc8 hg8 HK7 HP7 HT7 HL7
          clear hx7 hx8
          go_wp2
          go_ret2
          exact ⟨acc.set y s, _, _, y2, by rw [hls]; rfl, hal34, own_in HO8.out, HB8.out⟩
end Go.Proofs.YtnbnegkoanidmaaGreatDoor

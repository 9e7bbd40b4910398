/-
  The draw of a table, of a gap.
-/
import Derived.Test.YteagclokobkigaaGb
import Derived.Test.YteagclokobkigaaEs
namespace Go.Proofs.Yteagclokobkigaa
open Go.RowKit
set_option linter.unusedVariables false

def lenV : Value → Nat
  | .slice _ n _ => n
  | _ => 0
theorem own_lenE {w : World} {base n : Nat} {e : TypeId} {v : Value} {l : List En} (h : w.ownsRow base e 3 v n (flatEn l)) : lenV v = l.length := by
  obtain ⟨B, d, rfl⟩ := own_form_en h; rfl
theorem EnR.snoc {l : List En} (h : EnR l) {x : En} (hx : x.col ≤ 100) : EnR (l ++ [x]) := fun j hj => by
  rw [List.getElem_append]
  split
  · exact h j _
  · rw [List.getElem_singleton]; omega
/-- A table of the call's own comes back, with its columns; the cursor moves. -/
def DrawnT (w w' : World) (e : Ending) (b c M : Nat) (A : Option Addr) (xs : List UInt8) : Prop :=
  (∃ (n : Int) (l : List En) (B : Option Addr) (d : Nat), e = .returned (.tuple #[.int .i64 n, .slice B l.length d]) ∧ -1 ≤ n ∧ n ≤ 11 ∧ l.length ≤ 21 ∧ EnR l ∧ w'.ownsRow w.heap.size 36 3 (.slice B l.length d) l.length (flatEn l)) ∧ CurLe w' b A c M xs ∧ w.grownBy w' (some b)
set_option maxRecDepth 100000 in
set_option maxHeartbeats 4000000 in
theorem table_any (b c M : Nat) (A : Option Addr) (xs : List UInt8) (w : World) (hc : CurLe w b A c M xs) (hat : M ≤ 999000) (hxs : xs.length ≤ maxLen) :
    Calls Try.prog 37 #[.pointer (some ⟨b, 0, none⟩)] w fun e w' => DrawnT w w' e b c (M + 160) A xs := by
  have hbl := hc.lt
  obtain ⟨i0, hi, hz0, hz1, hz2⟩ := info_parts infoEn
  have HI := Lib.hid hi; have HZ0 := Lib.hid hz0; have HZ1 := Lib.hid hz1; have HZ2 := Lib.hid hz2
  clear hi hz0 hz1 hz2
  have HC := Lib.hid hc; clear hc
  go_enter Try.func37, Try.ntmps37
  go_wp2_with fail
  refine (pick_any 4 b c M A xs _ HC.out (by omega) hxs (by omega) (by omega)).mono ?_
  rintro e w1 ⟨⟨p, hp, rfl⟩, hc1, hg1⟩
  have HC1 := Lib.hid hc1; have HG1 := Lib.hid hg1
  clear hc1 hg1
  go_wp2_with fail
  refine (one_any 12 b c (M + 1) A xs _ HC1.out (by omega) hxs (by omega) (by omega)).mono ?_
  rintro e w2 ⟨⟨t, rfl⟩, hc2, hg2⟩
  have HC2 := Lib.hid hc2; have HG2 := Lib.hid (grownBy_trans HG1.out hg2)
  clear hc2 hg2 HC1 HG1
  cases t with
  | false =>
    obtain ⟨n, hn⟩ : ∃ n : Nat, n = 1 + p := ⟨_, rfl⟩
    have hn1 : 1 + (p : Int) = (n : Int) := by omega
    have hnn : 1 ≤ n ∧ n ≤ 10 := by omega
    clear hn
    go_wp2_with fail
    refine (pick_any 6 b c (M + 2) A xs _ HC2.out (by omega) hxs (by omega) (by omega)).mono ?_
    rintro e w3 ⟨⟨q, hq, rfl⟩, hc3, hg3⟩
    have HC3 := Lib.hid hc3; have HG3 := Lib.hid (grownBy_trans HG2.out hg3)
    clear hc3 hg3 HC2 HG2
    go_wp2_with fail
    refine (one_any 12 b c (M + 2 + 1) A xs _ HC3.out (by omega) hxs (by omega) (by omega)).mono ?_
    rintro e w4 ⟨⟨u, rfl⟩, hc4, hg4⟩
    have HC4 := Lib.hid hc4; have HG4 := Lib.hid (grownBy_trans HG3.out hg4)
    clear hc4 hg4 HC3 HG3
    cases u with
    | false =>
      obtain ⟨k, hk⟩ : ∃ k : Nat, k = q := ⟨_, rfl⟩
      subst hk
      have hk21 : k ≤ 21 := by omega
      have HCX := Lib.hid (HC4.out.more (show _ ≤ M + 6 by omega)); have HGX := HG4
      clear HC4 HG4
      go_wp2
      go_loopw [5] (fun v wr => ∃ (acc : List En), acc.length ≤ k ∧ EnR acc ∧ wr.ownsRow w.heap.size 36 3 v acc.length (flatEn acc) ∧ CurLe wr b A c (M + 6 + acc.length * 7) xs ∧ w.grownBy wr (some b)) (fun v _ => k - lenV v)
      case atStart => exact ⟨[], by simp, fun j hj => absurd hj (by simp), own_nil _ _ _ _, HCX.out.more (by simp), HGX.out⟩
      case round =>
        obtain ⟨acc, hal, hr, ho, hc, hg⟩ := hrel
        obtain ⟨B0, d0, hv⟩ := own_form_en ho
        subst hv
        have hmx : acc.length + 1 ≤ maxLen := by unfold maxLen; omega
        have hws := hg.size
        have HO := Lib.hid ho; have HC := Lib.hid hc; have HG := Lib.hid hg; have HR := Lib.hid hr
        clear ho hc hg hr
        by_cases hlt : acc.length < k
        · have hk8 : (acc.length : Int) < (k : Int) := by omega
          go_wp2_with fail
          refine (entry_any n b c (M + 6 + acc.length * 7) A xs _ HC.out (by omega) hxs (by omega) (by omega)).mono ?_
          rintro e w1 ⟨⟨⟨p, q, r⟩, hx100, rfl⟩, hc1, hg1⟩
          have HO1 := Lib.hid (own_grown HO.out hg1 (fun q hq e => by have := own_lt HO.out q hq; have := Option.some.inj e; omega))
          have hs1 := hg1.size
          have HG1 := Lib.hid (grownBy_trans HG.out hg1)
          have HC1 := Lib.hid hc1
          clear hc1 hg1
          go_wp2_with (at_builtin; refine wpList_append_own_at _ rfl _ _ 24 rfl w.heap.size 36 i0 (.agg #[.int .i64 0, .int .i64 0, .int .i64 0]) 3 24 Try.underlying24 HI.out HZ0.out HZ1.out HZ2.out rfl (by decide) _ _ _ rfl (HO1.out.alloc _) ⟨w1.heap.size, 0, none⟩ 1 1 [.int .i64 p, .int .i64 q, .int .i64 r] rfl rfl (cells3_new _ _ _ _ _) (by simp [Value.oneCell']) hmx (by first | omega | decide) (by first | (simp; done) | (simp; omega) | skip) ?_)
          intro v' w5 hown' hgrow _ hat
          have hb5 : Below w1.heap.size w1 (w1.alloc (.cells #[.int .i64 p, .int .i64 q, .int .i64 r] 36)) := (Below.refl _ _).alloc (Nat.le_refl _) _
          have HG5 := Lib.hid (grownBy_own (grown_below HG1.out hb5) hgrow (fun q hq => by have := own_lt HO1.out q hq; omega))
          have HC5 := Lib.hid ((HC1.out.below hb5).own hgrow (fun q hq => by have := own_lt HO1.out q hq; omega))
          have HO6 : Hid (w5.ownsRow w.heap.size 36 3 v' (acc ++ [(⟨p, q, r⟩ : En)]).length (flatEn (acc ++ [(⟨p, q, r⟩ : En)]))) := Lib.hid (by rw [List.length_append, flatEn_snoc]; exact hown')
          have HLV := Lib.hid (own_lenE HO6.out)
          clear hown' hgrow hat hb5
          go_wp2
          go_roundw
          case rel => exact ⟨acc ++ [⟨p, q, r⟩], by simp; omega, HR.out.snoc hx100, HO6.out, HC5.out.more (by simp; omega), HG5.out⟩
          case measure => rw [HLV.out]; simp [lenV]; omega
        · have hk8 : ¬ (acc.length : Int) < (k : Int) := by omega
          have HC' : Hid (CurLe wr b A c (M + 6 + 21 * 7) xs) := Lib.hid (HC.out.more (by omega))
          clear HC
          go_wp2_with fail
          refine (one_any 24 b c (M + 6 + 21 * 7) A xs _ HC'.out (by omega) hxs (by omega) (by omega)).mono ?_
          rintro e w6 ⟨⟨t, rfl⟩, hc6, hg6⟩
          have HO6 := Lib.hid (own_grown HO.out hg6 (fun q hq e => by have := own_lt HO.out q hq; have := Option.some.inj e; omega))
          have HG6 := Lib.hid (grownBy_trans HG.out hg6); have HC6 := Lib.hid hc6; have hs6 := HG6.out.size
          clear hc6 hg6 HO HG HC'
          cases t with
          | false =>
            go_wp2
            go_ret2
            exact ⟨⟨(n : Int), acc, B0, d0, rfl, by omega, by omega, by omega, HR.out, HO6.out⟩, HC6.out.more (by omega), HG6.out⟩
          | true =>
            have hb8 : Below w6.heap.size w6 (w6.alloc (.cells (intsZ [0, 11, -1]).toArray 3)) := (Below.refl _ _).alloc (Nat.le_refl _) _
            have HC8 := Lib.hid (HC6.out.below hb8); have HR8 := Lib.hid (row_ints w6 [0, 11, -1])
            have HO8 := Lib.hid (own_below HO6.out hb8); have HG8 := Lib.hid (grown_below HG6.out hb8)
            clear hb8 HO6 HG6 HC6
            go_wp2_with fail
            refine (among_any [0, 11, -1] _ _ b c (M + 6 + 21 * 7 + 1) A xs _ HC8.out (by omega) hxs HR8.out (by omega) (by decide) (by decide)).mono ?_
            rintro e w9 ⟨⟨s, hs, rfl⟩, hc9, hg9⟩
            have HO9 := Lib.hid (own_grown HO8.out hg9 (fun q hq e => by have := own_lt HO8.out q hq; have := Option.some.inj e; omega))
            have HG9 := Lib.hid (grownBy_trans HG8.out hg9); have HC9 := Lib.hid hc9
            have hs2 : -1 ≤ s ∧ s ≤ 11 := by simp at hs; omega
            clear hc9 hg9 hs HO8 HG8 HC8 HR8
            go_wp2
            go_ret2
            exact ⟨⟨s, acc, B0, d0, rfl, hs2.1, hs2.2, by omega, HR.out, HO9.out⟩, HC9.out.more (by omega), HG9.out⟩
    | true =>
      go_wp2_with fail
      refine (pick_any 2 b c (M + 2 + 1 + 1) A xs _ HC4.out (by omega) hxs (by omega) (by omega)).mono ?_
      rintro e w5 ⟨⟨r, hr, rfl⟩, hc5, hg5⟩
      have HCX := Lib.hid (hc5.more (show _ ≤ M + 6 by omega)); have HGX := Lib.hid (grownBy_trans HG4.out hg5)
      obtain ⟨k, hk⟩ : ∃ k : Nat, k = 20 + r := ⟨_, rfl⟩
      have hk2 : 20 + (r : Int) = (k : Int) := by omega
      have hk21 : k ≤ 21 := by omega
      clear hc5 hg5 HC4 HG4 hk
      go_wp2
      go_loopw [5] (fun v wr => ∃ (acc : List En), acc.length ≤ k ∧ EnR acc ∧ wr.ownsRow w.heap.size 36 3 v acc.length (flatEn acc) ∧ CurLe wr b A c (M + 6 + acc.length * 7) xs ∧ w.grownBy wr (some b)) (fun v _ => k - lenV v)
      case atStart => exact ⟨[], by simp, fun j hj => absurd hj (by simp), own_nil _ _ _ _, HCX.out.more (by simp), HGX.out⟩
      case round =>
        obtain ⟨acc, hal, hr, ho, hc, hg⟩ := hrel
        obtain ⟨B0, d0, hv⟩ := own_form_en ho
        subst hv
        have hmx : acc.length + 1 ≤ maxLen := by unfold maxLen; omega
        have hws := hg.size
        have HO := Lib.hid ho; have HC := Lib.hid hc; have HG := Lib.hid hg; have HR := Lib.hid hr
        clear ho hc hg hr
        by_cases hlt : acc.length < k
        · have hk8 : (acc.length : Int) < (k : Int) := by omega
          go_wp2_with fail
          refine (entry_any n b c (M + 6 + acc.length * 7) A xs _ HC.out (by omega) hxs (by omega) (by omega)).mono ?_
          rintro e w1 ⟨⟨⟨p, q, r⟩, hx100, rfl⟩, hc1, hg1⟩
          have HO1 := Lib.hid (own_grown HO.out hg1 (fun q hq e => by have := own_lt HO.out q hq; have := Option.some.inj e; omega))
          have hs1 := hg1.size
          have HG1 := Lib.hid (grownBy_trans HG.out hg1)
          have HC1 := Lib.hid hc1
          clear hc1 hg1
          go_wp2_with (at_builtin; refine wpList_append_own_at _ rfl _ _ 24 rfl w.heap.size 36 i0 (.agg #[.int .i64 0, .int .i64 0, .int .i64 0]) 3 24 Try.underlying24 HI.out HZ0.out HZ1.out HZ2.out rfl (by decide) _ _ _ rfl (HO1.out.alloc _) ⟨w1.heap.size, 0, none⟩ 1 1 [.int .i64 p, .int .i64 q, .int .i64 r] rfl rfl (cells3_new _ _ _ _ _) (by simp [Value.oneCell']) hmx (by first | omega | decide) (by first | (simp; done) | (simp; omega) | skip) ?_)
          intro v' w5 hown' hgrow _ hat
          have hb5 : Below w1.heap.size w1 (w1.alloc (.cells #[.int .i64 p, .int .i64 q, .int .i64 r] 36)) := (Below.refl _ _).alloc (Nat.le_refl _) _
          have HG5 := Lib.hid (grownBy_own (grown_below HG1.out hb5) hgrow (fun q hq => by have := own_lt HO1.out q hq; omega))
          have HC5 := Lib.hid ((HC1.out.below hb5).own hgrow (fun q hq => by have := own_lt HO1.out q hq; omega))
          have HO6 : Hid (w5.ownsRow w.heap.size 36 3 v' (acc ++ [(⟨p, q, r⟩ : En)]).length (flatEn (acc ++ [(⟨p, q, r⟩ : En)]))) := Lib.hid (by rw [List.length_append, flatEn_snoc]; exact hown')
          have HLV := Lib.hid (own_lenE HO6.out)
          clear hown' hgrow hat hb5
          go_wp2
          go_roundw
          case rel => exact ⟨acc ++ [⟨p, q, r⟩], by simp; omega, HR.out.snoc hx100, HO6.out, HC5.out.more (by simp; omega), HG5.out⟩
          case measure => rw [HLV.out]; simp [lenV]; omega
        · have hk8 : ¬ (acc.length : Int) < (k : Int) := by omega
          have HC' : Hid (CurLe wr b A c (M + 6 + 21 * 7) xs) := Lib.hid (HC.out.more (by omega))
          clear HC
          go_wp2_with fail
          refine (one_any 24 b c (M + 6 + 21 * 7) A xs _ HC'.out (by omega) hxs (by omega) (by omega)).mono ?_
          rintro e w6 ⟨⟨t, rfl⟩, hc6, hg6⟩
          have HO6 := Lib.hid (own_grown HO.out hg6 (fun q hq e => by have := own_lt HO.out q hq; have := Option.some.inj e; omega))
          have HG6 := Lib.hid (grownBy_trans HG.out hg6); have HC6 := Lib.hid hc6; have hs6 := HG6.out.size
          clear hc6 hg6 HO HG HC'
          cases t with
          | false =>
            go_wp2
            go_ret2
            exact ⟨⟨(n : Int), acc, B0, d0, rfl, by omega, by omega, by omega, HR.out, HO6.out⟩, HC6.out.more (by omega), HG6.out⟩
          | true =>
            have hb8 : Below w6.heap.size w6 (w6.alloc (.cells (intsZ [0, 11, -1]).toArray 3)) := (Below.refl _ _).alloc (Nat.le_refl _) _
            have HC8 := Lib.hid (HC6.out.below hb8); have HR8 := Lib.hid (row_ints w6 [0, 11, -1])
            have HO8 := Lib.hid (own_below HO6.out hb8); have HG8 := Lib.hid (grown_below HG6.out hb8)
            clear hb8 HO6 HG6 HC6
            go_wp2_with fail
            refine (among_any [0, 11, -1] _ _ b c (M + 6 + 21 * 7 + 1) A xs _ HC8.out (by omega) hxs HR8.out (by omega) (by decide) (by decide)).mono ?_
            rintro e w9 ⟨⟨s, hs, rfl⟩, hc9, hg9⟩
            have HO9 := Lib.hid (own_grown HO8.out hg9 (fun q hq e => by have := own_lt HO8.out q hq; have := Option.some.inj e; omega))
            have HG9 := Lib.hid (grownBy_trans HG8.out hg9); have HC9 := Lib.hid hc9
            have hs2 : -1 ≤ s ∧ s ≤ 11 := by simp at hs; omega
            clear hc9 hg9 hs HO8 HG8 HC8 HR8
            go_wp2
            go_ret2
            exact ⟨⟨s, acc, B0, d0, rfl, hs2.1, hs2.2, by omega, HR.out, HO9.out⟩, HC9.out.more (by omega), HG9.out⟩
  | true =>
    obtain ⟨n, hn⟩ : ∃ n : Nat, n = 10 := ⟨_, rfl⟩
    have hn1 : (10 : Int) = (n : Int) := by omega
    have hnn : 1 ≤ n ∧ n ≤ 10 := by omega
    clear hn
    go_wp2_with fail
    refine (pick_any 6 b c (M + 2) A xs _ HC2.out (by omega) hxs (by omega) (by omega)).mono ?_
    rintro e w3 ⟨⟨q, hq, rfl⟩, hc3, hg3⟩
    have HC3 := Lib.hid hc3; have HG3 := Lib.hid (grownBy_trans HG2.out hg3)
    clear hc3 hg3 HC2 HG2
    go_wp2_with fail
    refine (one_any 12 b c (M + 2 + 1) A xs _ HC3.out (by omega) hxs (by omega) (by omega)).mono ?_
    rintro e w4 ⟨⟨u, rfl⟩, hc4, hg4⟩
    have HC4 := Lib.hid hc4; have HG4 := Lib.hid (grownBy_trans HG3.out hg4)
    clear hc4 hg4 HC3 HG3
    cases u with
    | false =>
      obtain ⟨k, hk⟩ : ∃ k : Nat, k = q := ⟨_, rfl⟩
      subst hk
      have hk21 : k ≤ 21 := by omega
      have HCX := Lib.hid (HC4.out.more (show _ ≤ M + 6 by omega)); have HGX := HG4
      clear HC4 HG4
      go_wp2
      go_loopw [5] (fun v wr => ∃ (acc : List En), acc.length ≤ k ∧ EnR acc ∧ wr.ownsRow w.heap.size 36 3 v acc.length (flatEn acc) ∧ CurLe wr b A c (M + 6 + acc.length * 7) xs ∧ w.grownBy wr (some b)) (fun v _ => k - lenV v)
      case atStart => exact ⟨[], by simp, fun j hj => absurd hj (by simp), own_nil _ _ _ _, HCX.out.more (by simp), HGX.out⟩
      case round =>
        obtain ⟨acc, hal, hr, ho, hc, hg⟩ := hrel
        obtain ⟨B0, d0, hv⟩ := own_form_en ho
        subst hv
        have hmx : acc.length + 1 ≤ maxLen := by unfold maxLen; omega
        have hws := hg.size
        have HO := Lib.hid ho; have HC := Lib.hid hc; have HG := Lib.hid hg; have HR := Lib.hid hr
        clear ho hc hg hr
        by_cases hlt : acc.length < k
        · have hk8 : (acc.length : Int) < (k : Int) := by omega
          go_wp2_with fail
          refine (entry_any n b c (M + 6 + acc.length * 7) A xs _ HC.out (by omega) hxs (by omega) (by omega)).mono ?_
          rintro e w1 ⟨⟨⟨p, q, r⟩, hx100, rfl⟩, hc1, hg1⟩
          have HO1 := Lib.hid (own_grown HO.out hg1 (fun q hq e => by have := own_lt HO.out q hq; have := Option.some.inj e; omega))
          have hs1 := hg1.size
          have HG1 := Lib.hid (grownBy_trans HG.out hg1)
          have HC1 := Lib.hid hc1
          clear hc1 hg1
          go_wp2_with (at_builtin; refine wpList_append_own_at _ rfl _ _ 24 rfl w.heap.size 36 i0 (.agg #[.int .i64 0, .int .i64 0, .int .i64 0]) 3 24 Try.underlying24 HI.out HZ0.out HZ1.out HZ2.out rfl (by decide) _ _ _ rfl (HO1.out.alloc _) ⟨w1.heap.size, 0, none⟩ 1 1 [.int .i64 p, .int .i64 q, .int .i64 r] rfl rfl (cells3_new _ _ _ _ _) (by simp [Value.oneCell']) hmx (by first | omega | decide) (by first | (simp; done) | (simp; omega) | skip) ?_)
          intro v' w5 hown' hgrow _ hat
          have hb5 : Below w1.heap.size w1 (w1.alloc (.cells #[.int .i64 p, .int .i64 q, .int .i64 r] 36)) := (Below.refl _ _).alloc (Nat.le_refl _) _
          have HG5 := Lib.hid (grownBy_own (grown_below HG1.out hb5) hgrow (fun q hq => by have := own_lt HO1.out q hq; omega))
          have HC5 := Lib.hid ((HC1.out.below hb5).own hgrow (fun q hq => by have := own_lt HO1.out q hq; omega))
          have HO6 : Hid (w5.ownsRow w.heap.size 36 3 v' (acc ++ [(⟨p, q, r⟩ : En)]).length (flatEn (acc ++ [(⟨p, q, r⟩ : En)]))) := Lib.hid (by rw [List.length_append, flatEn_snoc]; exact hown')
          have HLV := Lib.hid (own_lenE HO6.out)
          clear hown' hgrow hat hb5
          go_wp2
          go_roundw
          case rel => exact ⟨acc ++ [⟨p, q, r⟩], by simp; omega, HR.out.snoc hx100, HO6.out, HC5.out.more (by simp; omega), HG5.out⟩
          case measure => rw [HLV.out]; simp [lenV]; omega
        · have hk8 : ¬ (acc.length : Int) < (k : Int) := by omega
          have HC' : Hid (CurLe wr b A c (M + 6 + 21 * 7) xs) := Lib.hid (HC.out.more (by omega))
          clear HC
          go_wp2_with fail
          refine (one_any 24 b c (M + 6 + 21 * 7) A xs _ HC'.out (by omega) hxs (by omega) (by omega)).mono ?_
          rintro e w6 ⟨⟨t, rfl⟩, hc6, hg6⟩
          have HO6 := Lib.hid (own_grown HO.out hg6 (fun q hq e => by have := own_lt HO.out q hq; have := Option.some.inj e; omega))
          have HG6 := Lib.hid (grownBy_trans HG.out hg6); have HC6 := Lib.hid hc6; have hs6 := HG6.out.size
          clear hc6 hg6 HO HG HC'
          cases t with
          | false =>
            go_wp2
            go_ret2
            exact ⟨⟨(n : Int), acc, B0, d0, rfl, by omega, by omega, by omega, HR.out, HO6.out⟩, HC6.out.more (by omega), HG6.out⟩
          | true =>
            have hb8 : Below w6.heap.size w6 (w6.alloc (.cells (intsZ [0, 11, -1]).toArray 3)) := (Below.refl _ _).alloc (Nat.le_refl _) _
            have HC8 := Lib.hid (HC6.out.below hb8); have HR8 := Lib.hid (row_ints w6 [0, 11, -1])
            have HO8 := Lib.hid (own_below HO6.out hb8); have HG8 := Lib.hid (grown_below HG6.out hb8)
            clear hb8 HO6 HG6 HC6
            go_wp2_with fail
            refine (among_any [0, 11, -1] _ _ b c (M + 6 + 21 * 7 + 1) A xs _ HC8.out (by omega) hxs HR8.out (by omega) (by decide) (by decide)).mono ?_
            rintro e w9 ⟨⟨s, hs, rfl⟩, hc9, hg9⟩
            have HO9 := Lib.hid (own_grown HO8.out hg9 (fun q hq e => by have := own_lt HO8.out q hq; have := Option.some.inj e; omega))
            have HG9 := Lib.hid (grownBy_trans HG8.out hg9); have HC9 := Lib.hid hc9
            have hs2 : -1 ≤ s ∧ s ≤ 11 := by simp at hs; omega
            clear hc9 hg9 hs HO8 HG8 HC8 HR8
            go_wp2
            go_ret2
            exact ⟨⟨s, acc, B0, d0, rfl, hs2.1, hs2.2, by omega, HR.out, HO9.out⟩, HC9.out.more (by omega), HG9.out⟩
    | true =>
      go_wp2_with fail
      refine (pick_any 2 b c (M + 2 + 1 + 1) A xs _ HC4.out (by omega) hxs (by omega) (by omega)).mono ?_
      rintro e w5 ⟨⟨r, hr, rfl⟩, hc5, hg5⟩
      have HCX := Lib.hid (hc5.more (show _ ≤ M + 6 by omega)); have HGX := Lib.hid (grownBy_trans HG4.out hg5)
      obtain ⟨k, hk⟩ : ∃ k : Nat, k = 20 + r := ⟨_, rfl⟩
      have hk2 : 20 + (r : Int) = (k : Int) := by omega
      have hk21 : k ≤ 21 := by omega
      clear hc5 hg5 HC4 HG4 hk
      go_wp2
      go_loopw [5] (fun v wr => ∃ (acc : List En), acc.length ≤ k ∧ EnR acc ∧ wr.ownsRow w.heap.size 36 3 v acc.length (flatEn acc) ∧ CurLe wr b A c (M + 6 + acc.length * 7) xs ∧ w.grownBy wr (some b)) (fun v _ => k - lenV v)
      case atStart => exact ⟨[], by simp, fun j hj => absurd hj (by simp), own_nil _ _ _ _, HCX.out.more (by simp), HGX.out⟩
      case round =>
        obtain ⟨acc, hal, hr, ho, hc, hg⟩ := hrel
        obtain ⟨B0, d0, hv⟩ := own_form_en ho
        subst hv
        have hmx : acc.length + 1 ≤ maxLen := by unfold maxLen; omega
        have hws := hg.size
        have HO := Lib.hid ho; have HC := Lib.hid hc; have HG := Lib.hid hg; have HR := Lib.hid hr
        clear ho hc hg hr
        by_cases hlt : acc.length < k
        · have hk8 : (acc.length : Int) < (k : Int) := by omega
          go_wp2_with fail
          refine (entry_any n b c (M + 6 + acc.length * 7) A xs _ HC.out (by omega) hxs (by omega) (by omega)).mono ?_
          rintro e w1 ⟨⟨⟨p, q, r⟩, hx100, rfl⟩, hc1, hg1⟩
          have HO1 := Lib.hid (own_grown HO.out hg1 (fun q hq e => by have := own_lt HO.out q hq; have := Option.some.inj e; omega))
          have hs1 := hg1.size
          have HG1 := Lib.hid (grownBy_trans HG.out hg1)
          have HC1 := Lib.hid hc1
          clear hc1 hg1
          go_wp2_with (at_builtin; refine wpList_append_own_at _ rfl _ _ 24 rfl w.heap.size 36 i0 (.agg #[.int .i64 0, .int .i64 0, .int .i64 0]) 3 24 Try.underlying24 HI.out HZ0.out HZ1.out HZ2.out rfl (by decide) _ _ _ rfl (HO1.out.alloc _) ⟨w1.heap.size, 0, none⟩ 1 1 [.int .i64 p, .int .i64 q, .int .i64 r] rfl rfl (cells3_new _ _ _ _ _) (by simp [Value.oneCell']) hmx (by first | omega | decide) (by first | (simp; done) | (simp; omega) | skip) ?_)
          intro v' w5 hown' hgrow _ hat
          have hb5 : Below w1.heap.size w1 (w1.alloc (.cells #[.int .i64 p, .int .i64 q, .int .i64 r] 36)) := (Below.refl _ _).alloc (Nat.le_refl _) _
          have HG5 := Lib.hid (grownBy_own (grown_below HG1.out hb5) hgrow (fun q hq => by have := own_lt HO1.out q hq; omega))
          have HC5 := Lib.hid ((HC1.out.below hb5).own hgrow (fun q hq => by have := own_lt HO1.out q hq; omega))
          have HO6 : Hid (w5.ownsRow w.heap.size 36 3 v' (acc ++ [(⟨p, q, r⟩ : En)]).length (flatEn (acc ++ [(⟨p, q, r⟩ : En)]))) := Lib.hid (by rw [List.length_append, flatEn_snoc]; exact hown')
          have HLV := Lib.hid (own_lenE HO6.out)
          clear hown' hgrow hat hb5
          go_wp2
          go_roundw
          case rel => exact ⟨acc ++ [⟨p, q, r⟩], by simp; omega, HR.out.snoc hx100, HO6.out, HC5.out.more (by simp; omega), HG5.out⟩
          case measure => rw [HLV.out]; simp [lenV]; omega
        · have hk8 : ¬ (acc.length : Int) < (k : Int) := by omega
          have HC' : Hid (CurLe wr b A c (M + 6 + 21 * 7) xs) := Lib.hid (HC.out.more (by omega))
          clear HC
          go_wp2_with fail
          refine (one_any 24 b c (M + 6 + 21 * 7) A xs _ HC'.out (by omega) hxs (by omega) (by omega)).mono ?_
          rintro e w6 ⟨⟨t, rfl⟩, hc6, hg6⟩
          have HO6 := Lib.hid (own_grown HO.out hg6 (fun q hq e => by have := own_lt HO.out q hq; have := Option.some.inj e; omega))
          have HG6 := Lib.hid (grownBy_trans HG.out hg6); have HC6 := Lib.hid hc6; have hs6 := HG6.out.size
          clear hc6 hg6 HO HG HC'
          cases t with
          | false =>
            go_wp2
            go_ret2
            exact ⟨⟨(n : Int), acc, B0, d0, rfl, by omega, by omega, by omega, HR.out, HO6.out⟩, HC6.out.more (by omega), HG6.out⟩
          | true =>
            have hb8 : Below w6.heap.size w6 (w6.alloc (.cells (intsZ [0, 11, -1]).toArray 3)) := (Below.refl _ _).alloc (Nat.le_refl _) _
            have HC8 := Lib.hid (HC6.out.below hb8); have HR8 := Lib.hid (row_ints w6 [0, 11, -1])
            have HO8 := Lib.hid (own_below HO6.out hb8); have HG8 := Lib.hid (grown_below HG6.out hb8)
            clear hb8 HO6 HG6 HC6
            go_wp2_with fail
            refine (among_any [0, 11, -1] _ _ b c (M + 6 + 21 * 7 + 1) A xs _ HC8.out (by omega) hxs HR8.out (by omega) (by decide) (by decide)).mono ?_
            rintro e w9 ⟨⟨s, hs, rfl⟩, hc9, hg9⟩
            have HO9 := Lib.hid (own_grown HO8.out hg9 (fun q hq e => by have := own_lt HO8.out q hq; have := Option.some.inj e; omega))
            have HG9 := Lib.hid (grownBy_trans HG8.out hg9); have HC9 := Lib.hid hc9
            have hs2 : -1 ≤ s ∧ s ≤ 11 := by simp at hs; omega
            clear hc9 hg9 hs HO8 HG8 HC8 HR8
            go_wp2
            go_ret2
            exact ⟨⟨s, acc, B0, d0, rfl, hs2.1, hs2.2, by omega, HR.out, HO9.out⟩, HC9.out.more (by omega), HG9.out⟩
set_option maxRecDepth 100000 in
set_option maxHeartbeats 2000000 in
theorem gapOf_any (b c M : Nat) (A : Option Addr) (xs : List UInt8) (w : World) (hc : CurLe w b A c M xs) (hat : M ≤ 999000) (hxs : xs.length ≤ maxLen) :
    Calls Try.prog 38 #[.pointer (some ⟨b, 0, none⟩)] w fun e w' => (∃ g : Int, -1 ≤ g ∧ g ≤ 37 ∧ e = .returned (.int .i64 g)) ∧ CurLe w' b A c (M + 2) xs ∧ w.grownBy w' (some b) := by
  have hbl := hc.lt
  have hb1 : Below w.heap.size w (w.alloc (.cells (intsZ [36, -1, 37]).toArray 3)) := (Below.refl _ _).alloc (Nat.le_refl _) _
  have HC1 := Lib.hid (hc.below hb1); have HR1 := Lib.hid (row_ints w [36, -1, 37])
  have HG1 := Lib.hid (grown_below (World.grownBy.refl w (some b)) hb1)
  clear hb1 hc
  go_enter Try.func38, Try.ntmps38
  go_wp2_with fail
  refine (among_any [36, -1, 37] _ _ b c M A xs _ HC1.out (by omega) hxs HR1.out (by omega) (by decide) (by decide)).mono ?_
  rintro e w2 ⟨⟨x, hx, rfl⟩, hc2, hg2⟩
  have hbl2 := hc2.lt
  have hb3 : Below w2.heap.size w2 (w2.alloc (.cells (intsZ [0, 0, 3, 6, 12, x]).toArray 3)) := (Below.refl _ _).alloc (Nat.le_refl _) _
  have HC3 := Lib.hid (hc2.below hb3); have HR3 := Lib.hid (row_ints w2 [0, 0, 3, 6, 12, x])
  have HG3 := Lib.hid (grown_below (grownBy_trans HG1.out hg2) hb3)
  have hx2 : -1 ≤ x ∧ x ≤ 37 := by simp at hx; omega
  clear hb3 hc2 hg2 HC1 HR1 HG1 hx
  go_wp2_with fail
  refine (among_any [0, 0, 3, 6, 12, x] _ _ b c (M + 1) A xs _ HC3.out (by omega) hxs HR3.out (by omega) (by simp) (by simp)).mono ?_
  rintro e w4 ⟨⟨y, hy, rfl⟩, hc4, hg4⟩
  have HC4 := Lib.hid hc4; have HG4 := Lib.hid (grownBy_trans HG3.out hg4)
  have hy2 : -1 ≤ y ∧ y ≤ 37 := by simp at hy; omega
  clear hc4 hg4 HC3 HR3 HG3 hy
  go_wp2
  go_ret
  exact ⟨⟨y, hy2.1, hy2.2, rfl⟩, HC4.out, HG4.out⟩
end Go.Proofs.Yteagclokobkigaa

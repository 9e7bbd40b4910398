/-
  The draws of chapter 3: spec.l1Cur.words, spec.l1Cur.typeStock, spec.DrawIsEnough, spec.DrawTimesToSet, spec.DrawLeastRecast: some words, some stock, some font. (For FnBills.)
-/
import Derived.Test.YtnbnegkoanidmaaGreatDoorMsm
import Derived.Test.YtnbnegkoanidmaaGreatDoorMsk
namespace Go.Proofs.YtnbnegkoanidmaaGreatDoor.S1
open Go.RowKit
set_option linter.unusedVariables false

theorem info_str : (Tryz.prog.info? 9).map (fun i => (i.zero, i.size, i.bytes)) = some (some (.string .empty), 1, 16) := by kernel_rfl
def sLen : Value → Nat | .slice _ n _ => n | _ => 0
theorem strs_set (l : List ByteArray) (k : Nat) (s : ByteArray) : (strs l).set k (.string s) = strs (l.set k s) := by simp [strs, List.map_set]
theorem strs_lenD (l : List ByteArray) : (strs l).length = l.length := by simp [strs]
def Short20 (l : List ByteArray) : Prop := ∀ s ∈ l, s.size ≤ 20
theorem Short20.snoc {l : List ByteArray} {s : ByteArray} (h : Short20 l) (hs : s.size ≤ 20) : Short20 (l ++ [s]) := fun x hx => by
  rcases List.mem_append.1 hx with h1 | h1
  · exact h x h1
  · simp at h1; subst h1; exact hs
theorem Short20.set {l : List ByteArray} {s : ByteArray} (h : Short20 l) (hs : s.size ≤ 20) (k : Nat) : Short20 (l.set k s) := fun x hx => by
  rcases List.mem_or_eq_of_mem_set hx with h1 | rfl
  · exact h x h1
  · exact hs
theorem Short20.ok {l : List ByteArray} (h : Short20 l) : StrsOk l := fun k hk => by
  have := h _ (List.getElem_mem hk); unfold maxLen; omega

set_option maxRecDepth 100000 in
set_option maxHeartbeats 1000000 in
theorem words_any (b c M : Nat) (A : Option Addr) (xs : List UInt8) (w : World) (hc : CurLe w b A c M xs) (hat : M ≤ 999000) (hxs : xs.length ≤ maxLen) :
    Calls Tryz.prog 49 #[.pointer (some ⟨b, 0, none⟩)] w fun e w' =>
      (∃ (l : List ByteArray) (B : Option Addr) (d : Nat), e = .returned (.slice B l.length d) ∧ l.length ≤ 41 ∧ Short20 l ∧ w'.ownsRow w.heap.size 9 1 (.slice B l.length d) l.length (strs l)) ∧
      CurLe w' b A c (M + 450) xs ∧ w.grownBy w' (some b) := by
  have hbl := hc.lt
  have HC := Lib.hid hc; clear hc
  obtain ⟨i0, hi, hz0, hz1, hz2⟩ := info_parts info_str
  have HI0 := Lib.hid hi; have HZ0 := Lib.hid hz0; have HZ1 := Lib.hid hz1; have HZ2 := Lib.hid hz2
  clear hi hz0 hz1 hz2
  go_enter Tryz.func49, Tryz.ntmps49
  go_wp2_with fail
  refine (pick_any 6 b c M A xs w HC.out (by omega) hxs (by omega) (by omega)).mono ?_
  rintro e w1 ⟨⟨x, hx, rfl⟩, hc1, hg1⟩
  have HC1 := Lib.hid hc1; have HG1 := Lib.hid hg1
  clear hc1 hg1 HC
  go_wp2_with fail
  refine (one_any 16 b c (M + 1) A xs w1 HC1.out (by omega) hxs (by omega) (by omega)).mono ?_
  rintro e w2 ⟨⟨r, rfl⟩, hc2, hg2⟩
  have HC2 := Lib.hid hc2; have HG2 := Lib.hid (grownBy_trans HG1.out hg2)
  clear hc2 hg2 HC1 HG1
  cases r
  · have hx41 : x ≤ 41 := by omega
    have HC3 := Lib.hid (HC2.out.more (M' := M + 3) (by omega))
    have HG3 := HG2
    clear HC2 HG2
    obtain ⟨n, hn⟩ : ∃ n : Nat, n = x := ⟨_, rfl⟩
    rw [← hn] at hx41 ⊢
    clear hx hn
    go_wp2
    go_loopw [3] (fun v wr => ∃ (l : List ByteArray) (B : Option Addr) (d : Nat), l.length ≤ n ∧ Short20 l ∧ v = .slice B l.length d ∧ wr.ownsRow w.heap.size 9 1 v l.length (strs l) ∧ CurLe wr b A c (M + 3 + 10 * l.length) xs ∧ w.grownBy wr (some b)) (fun v _ => n - sLen v)
    case atStart => exact ⟨[], none, 0, Nat.zero_le _, fun s h => absurd h (by simp), rfl, own_nil _ _ _ _, HC3.out, HG3.out⟩
    case round =>
      obtain ⟨l, B, d, hl, hs, rfl, hown, hc, hg⟩ := hrel
      clear HC3 HG3
      have HS := Lib.hid hs; have HO := Lib.hid hown; have HC := Lib.hid hc; have HG := Lib.hid hg
      clear hs hown hc hg
      by_cases hlt : l.length < n
      · go_wp2_with fail
        refine (word_any b c (M + 3 + 10 * l.length) A xs wr HC.out (by omega) hxs).mono ?_
        rintro e w5 ⟨⟨s, hs9, rfl⟩, hc5, hg5⟩
        have hown5 := own_grown HO.out hg5 (fun k hk e => by have := own_lt HO.out k hk; have := Option.some.inj e; omega)
        have HG5 := Lib.hid (grownBy_trans HG.out hg5)
        have HC5 := Lib.hid hc5
        have hsz5 : w.heap.size ≤ w5.heap.size := HG5.out.size
        have hmx : l.length + 1 ≤ maxLen := by unfold maxLen; omega
        clear hc5 hg5 HO HG HC
        go_wp2_with (at_builtin; refine wpList_append_own _ rfl _ _ 31 rfl w.heap.size 9 i0 (.string .empty) 1 16 Tryz.underlying31 HI0.out HZ0.out HZ1.out HZ2.out rfl (by decide) _ _ _ rfl (hown5.alloc _) ⟨w5.heap.size, 0, none⟩ 1 1 [.string s] rfl rfl (cell_one_new _ _ _) (by simp [Value.oneCell']) hmx (by omega) (by simp; omega) ?_)
        intro v' w6 hown' hgrow _
        have hrw := own_lt hown5
        have hal : w5.grownBy (w5.alloc (.cells #[.string s] 9)) (some b) := grownBy_alloc (World.grownBy.refl _ _) _
        have HC6 := Lib.hid ((HC5.out.below ((Below.refl _ _).alloc (Nat.le_refl _) (.cells #[.string s] 9))).own hgrow (fun k hk => by have := hrw k hk; omega))
        have HG6 := Lib.hid (grownBy_own (grownBy_trans HG5.out hal) hgrow (fun k hk => by have := hrw k hk; omega))
        have ho6 : w6.ownsRow w.heap.size 9 1 v' (l ++ [s]).length (strs (l ++ [s])) := by rw [List.length_append, strs_snoc]; exact hown'
        obtain ⟨B', d', rfl⟩ := own_form_s ho6
        have HO6 := Lib.hid ho6
        have HS6 := Lib.hid (HS.out.snoc (s := s) (by omega))
        clear hown' hgrow hown5 hal ho6
        go_wp2
        go_roundw
        case rel => exact ⟨l ++ [s], B', d', by simp; omega, HS6.out, rfl, HO6.out, HC6.out.more (by simp; omega), HG6.out⟩
        case measure => simp [sLen]; omega
      · have hln : l.length = n := by omega
        subst hln
        by_cases h0 : 0 < l.length
        rotate_left
        · have hza : ¬ (0 : Int) < (l.length : Int) := by omega
          go_wp2
          go_ret
          exact ⟨⟨l, B, d, rfl, hx41, HS.out, HO.out⟩, HC.out.more (by omega), HG.out⟩
        have hza : (0 : Int) < (l.length : Int) := by omega
        go_wp2_with fail
        refine (one_any 16 b c (M + 3 + 10 * l.length) A xs wr HC.out (by omega) hxs (by omega) (by omega)).mono ?_
        rintro e w5 ⟨⟨r, rfl⟩, hc5, hg5⟩
        have HO5 := Lib.hid (own_grown HO.out hg5 (fun k hk e => by have := own_lt HO.out k hk; have := Option.some.inj e; omega))
        have HG5 := Lib.hid (grownBy_trans HG.out hg5)
        have HC5 := Lib.hid hc5
        clear hc5 hg5 HO HG HC
        cases r
        · go_wp2
          go_ret
          exact ⟨⟨l, B, d, rfl, hx41, HS.out, HO5.out⟩, HC5.out.more (by omega), HG5.out⟩
        go_wp2_with fail
        refine (pick_any l.length b c (M + 3 + 10 * l.length + 1) A xs w5 HC5.out (by omega) hxs h0 (by omega)).mono ?_
        rintro e w6 ⟨⟨k, hk, rfl⟩, hc6, hg6⟩
        have HO6 := Lib.hid (own_grown HO5.out hg6 (fun k hk e => by have := own_lt HO5.out k hk; have := Option.some.inj e; omega))
        have HG6 := Lib.hid (grownBy_trans HG5.out hg6)
        have HC6 := Lib.hid hc6
        clear hc6 hg6 HO5 HG5 HC5
        go_wp2_with fail
        refine (anyWord_any b c (M + 3 + 10 * l.length + 1 + 1) A xs w6 HC6.out (by omega) hxs).mono ?_
        rintro e w7 ⟨⟨s, hs20, rfl⟩, hc7, hg7⟩
        have HO7 := own_grown HO6.out hg7 (fun k hk e => by have := own_lt HO6.out k hk; have := Option.some.inj e; omega)
        have HG7 := Lib.hid (grownBy_trans HG6.out hg7)
        have HC7 := Lib.hid hc7
        clear hc7 hg7 HO6 HG6 HC6
        obtain ⟨g, rfl, hgb, hgz, hslot⟩ := own_slot HO7 h0
        obtain ⟨⟨u, hu⟩, hfz⟩ := hslot k (by rw [strs_lenD]; exact hk)
        have hset := own_set HO7 (i := k) (by rw [strs_lenD]; exact hk) (.string s)
        rw [strs_set] at hset
        have HO8 : Hid ((w7.setCell ⟨g, k, none⟩ (.string s)).ownsRow w.heap.size 9 1 (.slice (some ⟨g, 0, none⟩) (l.set k s).length d) (l.set k s).length (strs (l.set k s))) := Lib.hid (by rw [List.length_set]; exact hset)
        have hgr : w7.grownBy (w7.setCell ⟨g, k, none⟩ (.string s)) (some g) := grown_set (World.grownBy.refl _ _) _ _
        have HC8 := Lib.hid (HC7.out.own hgr (fun k hk => by have := Option.some.inj hk; omega))
        have HG8 := Lib.hid (grownBy_own HG7.out hgr (fun k hk => by have := Option.some.inj hk; omega))
        have hk1 : (k : Int) < (l.length : Int) := by omega
        have HS8 := Lib.hid (HS.out.set hs20 k)
        have hsl : (l.set k s).length = l.length := List.length_set
        have HSL := Lib.hid hsl
        clear hset hgr HO7 hslot HC7 HG7 hsl
        go_wp2
        go_ret
        exact ⟨⟨l.set k s, _, d, by rw [HSL.out]; rfl, by rw [HSL.out]; exact hx41, HS8.out, HO8.out⟩, HC8.out.more (by omega), HG8.out⟩
  · go_wp2_with fail
    refine (pick_any 2 b c (M + 1 + 1) A xs w2 HC2.out (by omega) hxs (by omega) (by omega)).mono ?_
    rintro e w3 ⟨⟨y, hy, rfl⟩, hc3, hg3⟩
    have HC3 : Hid (CurLe w3 b A c (M + 3) xs) := Lib.hid hc3
    have HG3 := Lib.hid (grownBy_trans HG2.out hg3)
    have hy1 : (y : Int) < 2 := by omega
    clear hc3 hg3 HC2 HG2
    go_wp2
    rw [show (40 : Int) + (y : Int) = ((40 + y : Nat) : Int) from by omega]
    obtain ⟨n, hn⟩ : ∃ n : Nat, n = 40 + y := ⟨_, rfl⟩
    have hx41 : n ≤ 41 := by omega
    rw [← hn]
    clear hy hn hx hy1
    go_loopw [3] (fun v wr => ∃ (l : List ByteArray) (B : Option Addr) (d : Nat), l.length ≤ n ∧ Short20 l ∧ v = .slice B l.length d ∧ wr.ownsRow w.heap.size 9 1 v l.length (strs l) ∧ CurLe wr b A c (M + 3 + 10 * l.length) xs ∧ w.grownBy wr (some b)) (fun v _ => n - sLen v)
    case atStart => exact ⟨[], none, 0, Nat.zero_le _, fun s h => absurd h (by simp), rfl, own_nil _ _ _ _, HC3.out, HG3.out⟩
    case round =>
      obtain ⟨l, B, d, hl, hs, rfl, hown, hc, hg⟩ := hrel
      clear HC3 HG3
      have HS := Lib.hid hs; have HO := Lib.hid hown; have HC := Lib.hid hc; have HG := Lib.hid hg
      clear hs hown hc hg
      by_cases hlt : l.length < n
      · go_wp2_with fail
        refine (word_any b c (M + 3 + 10 * l.length) A xs wr HC.out (by omega) hxs).mono ?_
        rintro e w5 ⟨⟨s, hs9, rfl⟩, hc5, hg5⟩
        have hown5 := own_grown HO.out hg5 (fun k hk e => by have := own_lt HO.out k hk; have := Option.some.inj e; omega)
        have HG5 := Lib.hid (grownBy_trans HG.out hg5)
        have HC5 := Lib.hid hc5
        have hsz5 : w.heap.size ≤ w5.heap.size := HG5.out.size
        have hmx : l.length + 1 ≤ maxLen := by unfold maxLen; omega
        clear hc5 hg5 HO HG HC
        go_wp2_with (at_builtin; refine wpList_append_own _ rfl _ _ 31 rfl w.heap.size 9 i0 (.string .empty) 1 16 Tryz.underlying31 HI0.out HZ0.out HZ1.out HZ2.out rfl (by decide) _ _ _ rfl (hown5.alloc _) ⟨w5.heap.size, 0, none⟩ 1 1 [.string s] rfl rfl (cell_one_new _ _ _) (by simp [Value.oneCell']) hmx (by omega) (by simp; omega) ?_)
        intro v' w6 hown' hgrow _
        have hrw := own_lt hown5
        have hal : w5.grownBy (w5.alloc (.cells #[.string s] 9)) (some b) := grownBy_alloc (World.grownBy.refl _ _) _
        have HC6 := Lib.hid ((HC5.out.below ((Below.refl _ _).alloc (Nat.le_refl _) (.cells #[.string s] 9))).own hgrow (fun k hk => by have := hrw k hk; omega))
        have HG6 := Lib.hid (grownBy_own (grownBy_trans HG5.out hal) hgrow (fun k hk => by have := hrw k hk; omega))
        have ho6 : w6.ownsRow w.heap.size 9 1 v' (l ++ [s]).length (strs (l ++ [s])) := by rw [List.length_append, strs_snoc]; exact hown'
        obtain ⟨B', d', rfl⟩ := own_form_s ho6
        have HO6 := Lib.hid ho6
        have HS6 := Lib.hid (HS.out.snoc (s := s) (by omega))
        clear hown' hgrow hown5 hal ho6
        go_wp2
        go_roundw
        case rel => exact ⟨l ++ [s], B', d', by simp; omega, HS6.out, rfl, HO6.out, HC6.out.more (by simp; omega), HG6.out⟩
        case measure => simp [sLen]; omega
      · have hln : l.length = n := by omega
        subst hln
        by_cases h0 : 0 < l.length
        rotate_left
        · have hza : ¬ (0 : Int) < (l.length : Int) := by omega
          go_wp2
          go_ret
          exact ⟨⟨l, B, d, rfl, hx41, HS.out, HO.out⟩, HC.out.more (by omega), HG.out⟩
        have hza : (0 : Int) < (l.length : Int) := by omega
        go_wp2_with fail
        refine (one_any 16 b c (M + 3 + 10 * l.length) A xs wr HC.out (by omega) hxs (by omega) (by omega)).mono ?_
        rintro e w5 ⟨⟨r, rfl⟩, hc5, hg5⟩
        have HO5 := Lib.hid (own_grown HO.out hg5 (fun k hk e => by have := own_lt HO.out k hk; have := Option.some.inj e; omega))
        have HG5 := Lib.hid (grownBy_trans HG.out hg5)
        have HC5 := Lib.hid hc5
        clear hc5 hg5 HO HG HC
        cases r
        · go_wp2
          go_ret
          exact ⟨⟨l, B, d, rfl, hx41, HS.out, HO5.out⟩, HC5.out.more (by omega), HG5.out⟩
        go_wp2_with fail
        refine (pick_any l.length b c (M + 3 + 10 * l.length + 1) A xs w5 HC5.out (by omega) hxs h0 (by omega)).mono ?_
        rintro e w6 ⟨⟨k, hk, rfl⟩, hc6, hg6⟩
        have HO6 := Lib.hid (own_grown HO5.out hg6 (fun k hk e => by have := own_lt HO5.out k hk; have := Option.some.inj e; omega))
        have HG6 := Lib.hid (grownBy_trans HG5.out hg6)
        have HC6 := Lib.hid hc6
        clear hc6 hg6 HO5 HG5 HC5
        go_wp2_with fail
        refine (anyWord_any b c (M + 3 + 10 * l.length + 1 + 1) A xs w6 HC6.out (by omega) hxs).mono ?_
        rintro e w7 ⟨⟨s, hs20, rfl⟩, hc7, hg7⟩
        have HO7 := own_grown HO6.out hg7 (fun k hk e => by have := own_lt HO6.out k hk; have := Option.some.inj e; omega)
        have HG7 := Lib.hid (grownBy_trans HG6.out hg7)
        have HC7 := Lib.hid hc7
        clear hc7 hg7 HO6 HG6 HC6
        obtain ⟨g, rfl, hgb, hgz, hslot⟩ := own_slot HO7 h0
        obtain ⟨⟨u, hu⟩, hfz⟩ := hslot k (by rw [strs_lenD]; exact hk)
        have hset := own_set HO7 (i := k) (by rw [strs_lenD]; exact hk) (.string s)
        rw [strs_set] at hset
        have HO8 : Hid ((w7.setCell ⟨g, k, none⟩ (.string s)).ownsRow w.heap.size 9 1 (.slice (some ⟨g, 0, none⟩) (l.set k s).length d) (l.set k s).length (strs (l.set k s))) := Lib.hid (by rw [List.length_set]; exact hset)
        have hgr : w7.grownBy (w7.setCell ⟨g, k, none⟩ (.string s)) (some g) := grown_set (World.grownBy.refl _ _) _ _
        have HC8 := Lib.hid (HC7.out.own hgr (fun k hk => by have := Option.some.inj hk; omega))
        have HG8 := Lib.hid (grownBy_own HG7.out hgr (fun k hk => by have := Option.some.inj hk; omega))
        have hk1 : (k : Int) < (l.length : Int) := by omega
        have HS8 := Lib.hid (HS.out.set hs20 k)
        have hsl : (l.set k s).length = l.length := List.length_set
        have HSL := Lib.hid hsl
        clear hset hgr HO7 hslot HC7 HG7 hsl
        go_wp2
        go_ret
        exact ⟨⟨l.set k s, _, d, by rw [HSL.out]; rfl, by rw [HSL.out]; exact hx41, HS8.out, HO8.out⟩, HC8.out.more (by omega), HG8.out⟩

def DrawTo (w w' : World) (vs : List Value) : Prop := ∃ (f : List (ByteArray × Int)) (B : Option Addr) (d : Nat) (l : List Int) (B2 : Option Addr) (d2 : Nat) (ws : List ByteArray) (B3 : Option Addr) (d3 : Nat),
  vs = [.slice B f.length d, .slice B2 l.length d2, .slice B3 ws.length d3] ∧ f.length ≤ 40 ∧ CodesOk f ∧ l.length ≤ 41 ∧ ws.length ≤ 41 ∧ StrsOk ws ∧ SortsIn w' 0 B f ∧ IntsIn w' B2 l ∧ StrsIn w' B3 ws ∧ Below w.heap.size w w'
theorem intsZ_lenD (l : List Int) : (intsZ l).length = l.length := by simp [intsZ]
def stockNums : List Int := [0, 1, 2, 3, 5, 8, 20, 100]
def oddNums : List Int := [100000, 100001, -1]
set_option maxRecDepth 100000 in
set_option maxHeartbeats 1000000 in
theorem typeStock_any (f : List (ByteArray × Int)) (Af : Option Addr) (cf : Nat) (b c M : Nat) (A : Option Addr) (xs : List UInt8) (w : World) (hc : CurLe w b A c M xs) (hat : M ≤ 999000) (hxs : xs.length ≤ maxLen) (hf : f.length ≤ 40) :
    Calls Tryz.prog 32 #[.pointer (some ⟨b, 0, none⟩), .slice Af f.length cf] w fun e w' =>
      (∃ (l : List Int) (B : Option Addr) (d : Nat), e = .returned (.slice B l.length d) ∧ l.length ≤ 41 ∧ w'.ownsRow w.heap.size 3 1 (.slice B l.length d) l.length (intsZ l)) ∧
      CurLe w' b A c (M + 50) xs ∧ w.grownBy w' (some b) := by
  have hbl := hc.lt
  have HC := Lib.hid hc; clear hc
  obtain ⟨i0, hi, hz0, hz1, hz2⟩ := info_parts info3
  have HI0 := Lib.hid hi; have HZ0 := Lib.hid hz0; have HZ1 := Lib.hid hz1; have HZ2 := Lib.hid hz2
  clear hi hz0 hz1 hz2
  go_enter Tryz.func32, Tryz.ntmps32
  go_wp2
  go_loopw [5, 8] (fun v i wr => ∃ (k : Nat) (l : List Int) (B : Option Addr) (d : Nat), k ≤ f.length ∧ i = .int .i64 k ∧ l.length = k ∧ v = .slice B l.length d ∧ wr.ownsRow w.heap.size 3 1 v l.length (intsZ l) ∧ CurLe wr b A c (M + k) xs ∧ w.grownBy wr (some b)) (fun _ i _ => f.length - (intOf i).toNat)
  case atStart => exact ⟨0, [], none, 0, Nat.zero_le _, rfl, rfl, rfl, own_nil _ _ _ _, HC.out, World.grownBy.refl _ _⟩
  case round =>
    obtain ⟨k, l, B, d, hk, rfl, hlk, rfl, hown, hc, hg⟩ := hrel
    clear HC
    have HO := Lib.hid hown; have HC := Lib.hid hc; have HG := Lib.hid hg
    have HLK := Lib.hid hlk
    have hl40 : l.length ≤ 40 := by omega
    clear hown hc hg hlk
    by_cases hlt : k < f.length
    · have HC1 := Lib.hid (HC.out.below ((Below.refl _ _).alloc (Nat.le_refl _) (.cells (intsZ stockNums).toArray 3)))
      have HG1 := Lib.hid (grownBy_alloc HG.out (.cells (intsZ stockNums).toArray 3))
      have HO1 := Lib.hid (own_below HO.out ((Below.refl _ _).alloc (Nat.le_refl _) (.cells (intsZ stockNums).toArray 3)))
      have HROW := Lib.hid (row_ints wr stockNums)
      have hblr : b < wr.heap.size := HC.out.lt
      clear HO HC HG
      go_wp2_with fail
      refine (among_any stockNums wr.heap.size _ b c (M + k) A xs _ HC1.out (by omega) hxs HROW.out (by omega) (by decide) (by decide)).mono ?_
      rintro e w5 ⟨⟨s, hs, rfl⟩, hc5, hg5⟩
      have hown5 := own_grown HO1.out hg5 (fun k hk e => by have := own_lt HO1.out k hk; have := Option.some.inj e; omega)
      have HG5 := Lib.hid (grownBy_trans HG1.out hg5)
      have HC5 := Lib.hid hc5
      have hsz5 : w.heap.size ≤ w5.heap.size := HG5.out.size
      have hmx : l.length + 1 ≤ maxLen := by unfold maxLen; omega
      clear hc5 hg5 HO1 HG1 HC1
      go_wp2_with (at_builtin; refine wpList_append_own _ rfl _ _ 23 rfl w.heap.size 3 i0 (.int .i64 0) 1 8 Tryz.underlying23 HI0.out HZ0.out HZ1.out HZ2.out rfl (by decide) _ _ _ rfl (hown5.alloc _) ⟨w5.heap.size, 0, none⟩ 1 1 [.int .i64 s] rfl rfl (cell_one_new _ _ _) (by simp [Value.oneCell']) hmx (by omega) (by simp; omega) ?_)
      intro v' w6 hown' hgrow _
      have hrw := own_lt hown5
      have hal : w5.grownBy (w5.alloc (.cells #[.int .i64 s] 3)) (some b) := grownBy_alloc (World.grownBy.refl _ _) _
      have HC6 := Lib.hid ((HC5.out.below ((Below.refl _ _).alloc (Nat.le_refl _) (.cells #[.int .i64 s] 3))).own hgrow (fun k hk => by have := hrw k hk; omega))
      have HG6 := Lib.hid (grownBy_own (grownBy_trans HG5.out hal) hgrow (fun k hk => by have := hrw k hk; omega))
      have ho6 : w6.ownsRow w.heap.size 3 1 v' (l ++ [s]).length (intsZ (l ++ [s])) := by rw [List.length_append, intsZ_snoc]; exact hown'
      obtain ⟨B', d', rfl⟩ := own_form ho6
      have HO6 := Lib.hid ho6
      clear hown' hgrow hown5 hal ho6
      go_wp2
      go_roundw
      case rel => exact ⟨k + 1, l ++ [s], B', d', by omega, by go_num, by rw [List.length_append, HLK.out]; rfl, rfl, HO6.out, HC6.out.more (by omega), HG6.out⟩
      case measure => simp [intOf]; omega
    · obtain rfl : k = f.length := by omega
      have hMk : M + f.length ≤ M + 40 := by omega
      have HC0 := Lib.hid (HC.out.more hMk)
      clear HC
      go_wp2_with fail
      refine (pick_any 24 b c (M + 40) A xs wr HC0.out (by omega) hxs (by omega) (by omega)).mono ?_
      rintro e w5 ⟨⟨x, hx, rfl⟩, hc5, hg5⟩
      have HO5 := Lib.hid (own_grown HO.out hg5 (fun k hk e => by have := own_lt HO.out k hk; have := Option.some.inj e; omega))
      have HG5 := Lib.hid (grownBy_trans HG.out hg5)
      have HC5 := Lib.hid hc5
      have hsz5 : w.heap.size ≤ w5.heap.size := HG5.out.size
      clear hc5 hg5 HO HG HC0
      rcases (by omega : x = 0 ∨ x = 1 ∨ 2 ≤ x) with rfl | rfl | h2
      · have hown5 := HO5.out
        have hmx : l.length + 1 ≤ maxLen := by unfold maxLen; omega
        go_wp2_with (at_builtin; refine wpList_append_own _ rfl _ _ 23 rfl w.heap.size 3 i0 (.int .i64 0) 1 8 Tryz.underlying23 HI0.out HZ0.out HZ1.out HZ2.out rfl (by decide) _ _ _ rfl (hown5.alloc _) ⟨w5.heap.size, 0, none⟩ 1 1 [.int .i64 1] rfl rfl (cell_one_new _ _ _) (by simp [Value.oneCell']) hmx (by omega) (by simp; omega) ?_)
        intro v' w6 hown' hgrow _
        have hrw := own_lt hown5
        have hal : w5.grownBy (w5.alloc (.cells #[.int .i64 1] 3)) (some b) := grownBy_alloc (World.grownBy.refl _ _) _
        have HC6 := Lib.hid ((HC5.out.below ((Below.refl _ _).alloc (Nat.le_refl _) (.cells #[.int .i64 1] 3))).own hgrow (fun k hk => by have := hrw k hk; omega))
        have HG6 := Lib.hid (grownBy_own (grownBy_trans HG5.out hal) hgrow (fun k hk => by have := hrw k hk; omega))
        have ho6 : w6.ownsRow w.heap.size 3 1 v' (l ++ [1]).length (intsZ (l ++ [1])) := by rw [List.length_append, intsZ_snoc]; exact hown'
        obtain ⟨B', d', rfl⟩ := own_form ho6
        have HO6 := Lib.hid ho6
        clear hown' hgrow hown5 hal ho6
        go_wp2
        go_ret
        exact ⟨⟨l ++ [1], B', d', rfl, by simp; omega, HO6.out⟩, HC6.out.more (by omega), HG6.out⟩
      · by_cases h0 : 0 < l.length
        rotate_left
        · have hza : ¬ (0 : Int) < (l.length : Int) := by omega
          go_wp2
          go_ret
          exact ⟨⟨l, B, d, rfl, by omega, HO5.out⟩, HC5.out.more (by omega), HG5.out⟩
        have hza : (0 : Int) < (l.length : Int) := by omega
        go_wp2_with fail
        refine (pick_any l.length b c (M + 40 + 1) A xs w5 HC5.out (by omega) hxs h0 (by omega)).mono ?_
        rintro e w6 ⟨⟨k, hk, rfl⟩, hc6, hg6⟩
        have HC7 := Lib.hid (hc6.below ((Below.refl _ _).alloc (Nat.le_refl _) (.cells (intsZ oddNums).toArray 3)))
        have HG7 := Lib.hid (grownBy_alloc (grownBy_trans HG5.out hg6) (.cells (intsZ oddNums).toArray 3))
        have HO7 := Lib.hid (own_below (own_grown HO5.out hg6 (fun k hk e => by have := own_lt HO5.out k hk; have := Option.some.inj e; omega)) ((Below.refl _ _).alloc (Nat.le_refl _) (.cells (intsZ oddNums).toArray 3)))
        have HROW := Lib.hid (row_ints w6 oddNums)
        have hblr : b < w6.heap.size := hc6.lt
        clear hc6 hg6 HO5 HG5 HC5
        go_wp2_with fail
        refine (among_any oddNums w6.heap.size _ b c (M + 40 + 1 + 1) A xs _ HC7.out (by omega) hxs HROW.out (by omega) (by decide) (by decide)).mono ?_
        rintro e w8 ⟨⟨s, hs, rfl⟩, hc8, hg8⟩
        have HO8 := own_grown HO7.out hg8 (fun k hk e => by have := own_lt HO7.out k hk; have := Option.some.inj e; omega)
        have HG8 := Lib.hid (grownBy_trans HG7.out hg8)
        have HC8 := Lib.hid hc8
        clear hc8 hg8 HO7 HG7 HC7
        obtain ⟨g, rfl, hgb, hgz, hslot⟩ := own_slot HO8 h0
        obtain ⟨⟨u, hu⟩, hfz⟩ := hslot k (by rw [intsZ_lenD]; exact hk)
        have hset := own_set HO8 (i := k) (by rw [intsZ_lenD]; exact hk) (.int .i64 s)
        rw [intsZ_set] at hset
        have HO9 : Hid ((w8.setCell ⟨g, k, none⟩ (.int .i64 s)).ownsRow w.heap.size 3 1 (.slice (some ⟨g, 0, none⟩) (l.set k s).length d) (l.set k s).length (intsZ (l.set k s))) := Lib.hid (by rw [List.length_set]; exact hset)
        have hgr : w8.grownBy (w8.setCell ⟨g, k, none⟩ (.int .i64 s)) (some g) := grown_set (World.grownBy.refl _ _) _ _
        have HC9 := Lib.hid (HC8.out.own hgr (fun k hk => by have := Option.some.inj hk; omega))
        have HG9 := Lib.hid (grownBy_own HG8.out hgr (fun k hk => by have := Option.some.inj hk; omega))
        have hk1 : (k : Int) < (l.length : Int) := by omega
        have hsl : (l.set k s).length = l.length := List.length_set
        have HSL := Lib.hid hsl
        clear hset hgr HO8 hslot HC8 HG8 hsl
        go_wp2
        go_ret
        exact ⟨⟨l.set k s, _, d, by rw [HSL.out]; rfl, by rw [HSL.out]; omega, HO9.out⟩, HC9.out.more (by omega), HG9.out⟩
      · have e0 : ((x : Int) == 0) = false := by rw [beq_eq_false_iff_ne]; omega
        have e1 : ((x : Int) == 1) = false := by rw [beq_eq_false_iff_ne]; omega
        go_wp2
        go_ret
        exact ⟨⟨l, B, d, rfl, by omega, HO5.out⟩, HC5.out.more (by omega), HG5.out⟩

set_option maxRecDepth 100000 in
set_option maxHeartbeats 1000000 in
theorem drawEn_any (A : Option Addr) (c : Nat) (xs : List UInt8) (w : World) (hx : BytesIn w A xs) (hxs : xs.length ≤ maxLen) :
    Calls Tryz.prog 26 #[.slice A xs.length c] w fun e w' => ∃ vs, e = .returned (.tuple vs.toArray) ∧ DrawTo w w' vs := by
  have hcur : CurLe (w.alloc (.cells #[.slice A xs.length c, .int .i64 0, .int .u64 0] 48)) w.heap.size A c 0 xs := by
    refine ⟨⟨0, Nat.le_refl _, 0, by omega, heap_new _ _⟩, fun hn => ?_⟩
    obtain ⟨b', off, e, hl, hc⟩ := hx hn
    exact ⟨b', off, e, hl, fun k hk => (((Below.refl w.heap.size w).alloc (Nat.le_refl _) _).cell (by show b' < _; exact hl)).trans (hc k hk)⟩
  have hb0 : Below w.heap.size w (w.alloc (.cells #[.slice A xs.length c, .int .i64 0, .int .u64 0] 48)) := (Below.refl _ _).alloc (Nat.le_refl _) _
  have HCUR := Lib.hid hcur
  have HB0 := Lib.hid hb0
  clear hcur hb0 hx
  go_enter Tryz.func26, Tryz.ntmps26
  go_wp2_with fail
  refine (anyFont_any w.heap.size c 0 A xs _ HCUR.out (by omega) hxs).mono ?_
  rintro e w1 ⟨⟨f, B, d, rfl, hfl, hco, hown⟩, hc1, hg1⟩
  have HC1 := Lib.hid hc1
  have HB1 := Lib.hid (HB0.out.grown hg1 HB0.out.size (fun k hk => by have := Option.some.inj hk; omega))
  have HO1 := Lib.hid hown
  have hz0 : w.heap.size < (w.alloc (.cells #[.slice A xs.length c, .int .i64 0, .int .u64 0] 48)).heap.size := by simp
  have hz1 : w.heap.size + 1 ≤ w1.heap.size := by have := hg1.size; simp at this; omega
  have hf0 : ∀ k, (Value.slice B f.length d).ownBlock = some k → w.heap.size < k := fun k hk => by have := own_lt hown k hk; omega
  have HF0 := Lib.hid hf0
  clear hc1 hg1 hown HB0 HCUR hz0 hf0
  go_wp2_with fail
  refine (typeStock_any f B d w.heap.size c (0 + 30) A xs w1 HC1.out (by omega) hxs hfl).mono ?_
  rintro e w2 ⟨⟨l, B2, d2, rfl, hll, hown2⟩, hc2, hg2⟩
  have HC2 := Lib.hid hc2
  have HB2 := Lib.hid (HB1.out.grown hg2 HB1.out.size (fun k hk => by have := Option.some.inj hk; omega))
  have HO2 := Lib.hid (own_grown HO1.out hg2 (fun k hk e => by have h1 := HF0.out k hk; have := Option.some.inj e; omega))
  have HI2 := Lib.hid hown2
  have hi0 : ∀ k, (Value.slice B2 l.length d2).ownBlock = some k → w.heap.size < k := fun k hk => by have := own_lt hown2 k hk; omega
  have HI0 := Lib.hid hi0
  clear hc2 hg2 hown2 HB1 HC1 HO1 hi0
  go_wp2_with fail
  refine (words_any w.heap.size c (0 + 30 + 50) A xs w2 HC2.out (by omega) hxs).mono ?_
  rintro e w3 ⟨⟨ws, B3, d3, rfl, hwl, hsh, hown3⟩, hc3, hg3⟩
  have HC3 := Lib.hid hc3
  have HB3 := Lib.hid (HB2.out.grown hg3 HB2.out.size (fun k hk => by have := Option.some.inj hk; omega))
  have HO3 := Lib.hid (own_grown HO2.out hg3 (fun k hk e => by have h1 := HF0.out k hk; have := Option.some.inj e; omega))
  have HI3 := Lib.hid (own_grown HI2.out hg3 (fun k hk e => by have h1 := HI0.out k hk; have := Option.some.inj e; omega))
  have HS3 := Lib.hid hown3
  have hsz2 : w.heap.size < w2.heap.size := HC2.out.lt
  have hs0 : ∀ k, (Value.slice B3 ws.length d3).ownBlock = some k → w.heap.size < k := fun k hk => by have := own_lt hown3 k hk; omega
  have HS0 := Lib.hid hs0
  have HSH := Lib.hid hsh.ok
  clear hc3 hg3 hown3 HB2 HC2 HO2 HI2 hs0 hsh
  go_wp2
  go_ret3
  exact ⟨[.slice B f.length d, .slice B2 l.length d2, .slice B3 ws.length d3], rfl, f, B, d, l, B2, d2, ws, B3, d3, rfl, hfl, hco, hll, hwl, HSH.out, own_in_f HO3.out, own_in HI3.out, own_in_s HS3.out, HB3.out⟩
def times3 : List Int := [3, 1001, -1]
theorem BytesIn.below {w w' : World} {B : Nat} {A : Option Addr} {l : List UInt8} (h : BytesIn w A l) (hb : Below B w w') (hB : w.heap.size ≤ B) : BytesIn w' A l := by
  intro hn
  obtain ⟨b, off, rfl, h2, h3⟩ := h hn
  refine ⟨b, off, rfl, Nat.lt_of_lt_of_le h2 hb.size, fun k hk => ?_⟩
  rw [hb.cell (by show b < B; omega)]
  exact h3 k hk

def sumTo (l : List Int) (k : Nat) : Int := (l.take k).sum
theorem sumTo_succ (l : List Int) {k : Nat} (h : k < l.length) : sumTo l (k + 1) = sumTo l k + l[k] := by
  unfold sumTo; rw [List.take_succ_eq_append_getElem h, List.sum_append]; simp only [List.sum_cons, List.sum_nil, Int.add_zero]
theorem qSum_any (l : List Int) (A : Option Addr) (c : Nat) (w : World) (hf : IntsIn w A l) (hn : l.length ≤ 64) (hb : ∀ k (h : k < l.length), 0 ≤ l[k] ∧ l[k] ≤ 100000) :
    Calls Tryz.prog 8 #[.slice A l.length c] w fun e w' => e = .returned (.int .i64 l.sum) ∧ w = w' := by
  have HF := Lib.hid hf; clear hf
  have HB := Lib.hid hb; clear hb
  go_enter Tryz.func8, Tryz.ntmps8
  go_wp2
  go_loop [3, 8] (fun q i => ∃ (k : Nat) (S : Int), k ≤ l.length ∧ i = .int .i64 k ∧ q = .int .i64 S ∧ S = sumTo l k ∧ 0 ≤ S ∧ S ≤ 100000 * (k : Int)) (fun _ i => l.length - (intOf i).toNat)
  case atStart => exact ⟨0, 0, Nat.zero_le _, rfl, rfl, rfl, by omega, by omega⟩
  case round =>
    obtain ⟨k, S, hk, rfl, rfl, hs, h0, h1⟩ := hrel
    have HS := Lib.hid hs; clear hs
    by_cases hlt : k < l.length
    · obtain ⟨b, off, rfl, hbl, hc⟩ := HF.out (by omega)
      have hc0 := hc k hlt
      clear hc
      have hx := HB.out k hlt
      have HST := Lib.hid (sumTo_succ l hlt)
      generalize l[k] = x at *
      go_wp2
      go_round
      case rel => exact ⟨k + 1, S + x, by omega, by go_num, rfl, by rw [HST.out, HS.out], by omega, by omega⟩
      case measure => simp [intOf]; omega
    · obtain rfl : k = l.length := by omega
      go_wp2
      go_ret
      exact ⟨ret_int (by rw [HS.out]; unfold sumTo; rw [List.take_length]), rfl⟩
end Go.Proofs.YtnbnegkoanidmaaGreatDoor.S1

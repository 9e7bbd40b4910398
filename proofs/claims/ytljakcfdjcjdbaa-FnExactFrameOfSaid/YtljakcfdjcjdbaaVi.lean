/-
  The iterators of impl.sumsFromStock and impl.sumsOf: what they hand over, and what a round has to keep (the blocks of bools that are laid behind the loop's start).
-/
import Derived.Test.YtljakcfdjcjdbaaVg
import Derived.RangeFuncNested
import Derived.RangeFuncBound
import Derived.RangeFuncCalls
import Derived.RangeFuncLeaves
import Derived.Shelf.Abstract
import Derived.Shelf.RegionOpen
import Derived.WalkKit
import Derived.OwnWalkIn
import Derived.TacticsInMore
import Derived.LoopNIn
import Derived.LoopIn
namespace Go.Proofs.Ytljakcfdjcjdbaa
open Go.RowKit Go.Shelf
set_option linter.unusedVariables false
attribute [local go_sem] Oper.semAt_some

/-- A sum that a round is given. -/
structure Sum4 where
  val : Nat
  le : val ≤ 400
def encS (x : Sum4) : Array Value := #[.int .i64 (x.1 : Int)]
/-- The sums below k. -/
def sumL (T : Nat → Bool) : Nat → List Sum4
  | 0 => []
  | k + 1 => if h : T k = true ∧ k ≤ 400 then sumL T k ++ [⟨k, h.2⟩] else sumL T k
theorem sumL_len (T : Nat → Bool) : ∀ k, (sumL T k).length ≤ k
  | 0 => Nat.le_refl _
  | k + 1 => by
    have := sumL_len T k
    unfold sumL
    split
    · rw [List.length_append]; show _ + 1 ≤ _; omega
    · omega
theorem sumL_yes {T : Nat → Bool} {k : Nat} (h : T k = true) (hk : k ≤ 400) : sumL T (k + 1) = sumL T k ++ [⟨k, hk⟩] := dif_pos ⟨h, hk⟩
theorem sumL_no {T : Nat → Bool} {k : Nat} (h : T k = false) : sumL T (k + 1) = sumL T k := dif_neg (fun hh => by rw [h] at hh; exact absurd hh.1 (by decide))
/-- What has come when a round says 'no more'. -/
def SumPre (T : Nat → Bool) (M : Nat) (pre : List Sum4) : Prop := ∃ x : Sum4, x.1 < M ∧ T x.1 = true ∧ pre = sumL T x.1 ++ [x]

/-- What a round keeps: blocks of bools from B on. -/
def KpB (B : Nat) (W W' : World) : Prop := ∀ (b : Nat) (cs : Array Value) (fr : Nat × Nat), B ≤ b → W.heap[b]? = some (.cells cs 4 fr) → W'.heap[b]? = some (.cells cs 4 fr)
theorem KpB.refl (B : Nat) (W : World) : KpB B W W := fun _ _ _ _ h => h
theorem KpB.t {B : Nat} {X Y Z : World} (h : KpB B X Y) (k : KpB B Y Z) : KpB B X Z := fun b cs fr hb h0 => k b cs fr hb (h b cs fr hb h0)
theorem KpB.b {B : Nat} (W : World) (l : Nat) (o o' : Obj) (h : W.heap[l]? = some o) (ho : o.isCells = false) : KpB B W (W.putObj l o') := fun b cs fr hb h0 => by
  have e : b ≠ l := fun e => by subst e; rw [h0] at h; cases h; cases ho
  exact (World.putObj_heap_other e).trans h0
theorem KpB.alloc {B : Nat} (W : World) (o : Obj) : KpB B W (W.alloc o) := fun b cs fr hb h0 => (Below.heap_alloc W o b (lt_of_heap h0)).trans h0
theorem KpB.set {B : Nat} (W : World) (c i : Nat) (v : Value) (hc : c < B) : KpB B W (W.setCell ⟨c, i, none⟩ v) := fun b cs fr hb h0 => (Below.heap_setCell W _ v b (by show b ≠ c; omega)).trans h0
theorem KpB.below {B B' : Nat} {W W' : World} (h : Below B' W W') (hB : W.heap.size ≤ B') : KpB B W W' := fun b cs fr hb h0 => (h.block b (by have := lt_of_heap h0; omega)).trans h0
theorem KpB.grown {B : Nat} {W W' : World} {row : Option Nat} (h : W.grownBy W' row) (hr : ∀ r, row = some r → ∀ cs fr, W.heap[r]? ≠ some (.cells cs 4 fr)) : KpB B W W' := fun b cs fr hb h0 => (h.block b (lt_of_heap h0) (fun e => hr b e.symm cs fr h0)).trans h0
theorem KpB.tb {B : Nat} {W W' : World} (h : KpB B W W') {b n : Nat} {f : Nat → Value} (ht : Tb W b 4 n f) (hb : B ≤ b) : Tb W' b 4 n f := by
  obtain ⟨cs, h1, h2⟩ := ht; exact ⟨cs, h b cs _ hb h1, h2⟩

theorem sumsFromStock_any (A B : Option Addr) (n c m d : Nat) (x : Int) (w : World) :
    Calls Try.prog 74 #[.slice A n c, .slice B m d, .int .i64 x] w fun e w' => e = .returned (.func (.func 82) #[] #[.pointer (some ⟨w.heap.size + 2, 0, none⟩), .pointer (some ⟨w.heap.size, 0, none⟩), .pointer (some ⟨w.heap.size + 1, 0, none⟩)]) ∧ w' = ((w.alloc (.cells #[.slice A n c] 31)).alloc (.cells #[.slice B m d] 31)).alloc (.cells #[.int .i64 x] 3) := by
  go_enter Try.func74, Try.ntmps74
  go_wp2
  go_ret
  exact ⟨by simp, rfl⟩

/-- What the iterator captured. -/
structure SumBox (w : World) (bm bk bs : Nat) (ks ss : List Int) (A B : Option Addr) (c d N : Nat) : Prop where
  m : Boxed w bm 3 (.int .i64 (N : Int))
  k : Boxed w bk 31 (.slice A ks.length c)
  s : Boxed w bs 31 (.slice B ss.length d)
  ki : IntsIn w A ks
  si : IntsIn w B ss
theorem SumBox.next {w w' : World} {bm bk bs : Nat} {ks ss : List Int} {A B : Option Addr} {c d N : Nat} (h : SumBox w bm bk bs ks ss A B c d N) (hb : Below w.heap.size w w') : SumBox w' bm bk bs ks ss A B c d N :=
  ⟨(hb.block _ h.m.lt).trans h.m, (hb.block _ h.k.lt).trans h.k, (hb.block _ h.s.lt).trans h.s, h.ki.below hb (Nat.le_refl _), h.si.below hb (Nat.le_refl _)⟩
noncomputable def stT (ks ss : List Int) (i : Nat) : Nat → Bool := fun j => stB ks ss i (j : Int)
theorem stT_zero (ks ss : List Int) (j : Nat) : stT ks ss 0 j = decide (j = 0) := by
  unfold stT
  by_cases h : j = 0
  · subst h; rw [decide_eq_true rfl]; exact stB_iff.2 rfl
  · rw [decide_eq_false h]
    cases hb : stB ks ss 0 (j : Int) with
    | false => rfl
    | true => have : ((j : Int)) = 0 := stB_iff.1 hb; omega
theorem stT_more {ks ss : List Int} (hp : Pos ks) (hs0 : ∀ j (h : j < ss.length), 0 ≤ ss[j]) (hl : ks.length = ss.length) {i v s : Nat} (hi : i < ks.length) (hv : ks[i] = (v : Int)) (hs : ss[i] = (s : Int)) : MoreOf (stT ks ss i) (stT ks ss (i + 1)) v s := fun j => by
  unfold stT LcP
  rw [stB_iff]
  have e1 : ks.getD i 0 = (v : Int) := by rw [List.getD_eq_getElem?_getD, List.getElem?_eq_getElem hi]; exact hv
  have e2 : ss.getD i 0 = (s : Int) := by rw [List.getD_eq_getElem?_getD, List.getElem?_eq_getElem (by omega)]; exact hs
  show (∃ c : Nat, (c : Int) ≤ ss.getD i 0 ∧ StU ks ss i (_ - c * ks.getD i 0)) ↔ _
  rw [e1, e2]
  constructor
  · rintro ⟨c, h1, h2⟩
    have h3 := stu_nonneg hp (by omega) h2
    have h4 : c * v ≤ j := by rw [← Int.natCast_mul] at h3; omega
    refine ⟨c, by omega, h4, ?_⟩
    rw [stB_iff, show ((j - c * v : Nat) : Int) = (j : Int) - c * v from by rw [← Int.natCast_mul]; omega]
    exact h2
  · rintro ⟨c, h1, h2, h3⟩
    rw [stB_iff, show ((j - c * v : Nat) : Int) = (j : Int) - c * v from by rw [← Int.natCast_mul]; omega] at h3
    exact ⟨c, by omega, h3⟩
theorem run_makeB (n : Nat) (hn : n ≤ 1048576) (w : World) :
    (Instr.makeSlice 96 (.int .i64 (n : Int)) (.int .i64 (n : Int))).run Try.prog w = .ok (.slice (some ⟨w.heap.size, 0, none⟩) n n) (w.alloc (.cells (madeCells #[.bool false] (n * 1)) 4)) := by
  obtain ⟨i0, hi, hz0, hz1, hz2⟩ := info_parts info_bool
  have h := run_make (P := Try.prog) w 96 4 i0 _ Try.underlying96 hi hz0 .i64 .i64 (n : Int) (n : Int) (by omega) (Int.le_refl _) (by rw [hz2]; omega) (by omega)
  rw [hz1, Int.toNat_natCast] at h
  exact h

set_option maxRecDepth 100000 in
set_option maxHeartbeats 4000000 in
/-- The sums come in their order; a round that says 'no more' ends it. -/
theorem sums_stops (n : Nat) (hn : 2 ≤ n) (bm bk bs : Nat) (ks ss : List Int) (A B : Option Addr) (c d N : Nat) (w : World) (hS : SumBox w bm bk bs ks ss A B c d N) (hp : Pos ks) (h54 : ∀ j (h : j < ks.length), ks[j] ≤ 200) (hs : ∀ j (h : j < ss.length), 0 ≤ ss[j] ∧ ss[j] ≤ 400) (hl : ks.length = ss.length) (h6 : ks.length ≤ 8) (hN : N ≤ 400) :
    SeqStopsK Fence.wide n Try.prog 82 #[.pointer (some ⟨bm, 0, none⟩), .pointer (some ⟨bk, 0, none⟩), .pointer (some ⟨bs, 0, none⟩)] encS (KpB w.heap.size)
      (fun xs => xs = sumL (stT ks ss ks.length) (N + 1)) (SumPre (stT ks ss ks.length) (N + 1)) (N + 1) w := by
  obtain ⟨T, hTE⟩ : ∃ T, T = stT ks ss ks.length := ⟨_, rfl⟩
  rw [← hTE]
  have HE := Lib.hid hTE; clear hTE
  intro l J Jx W hW hJ hJx hY h0
  have hSW := hS.next hW
  obtain ⟨M, hM⟩ : ∃ M, M = N + 1 := ⟨_, rfl⟩
  have hM1 : (M : Int) = (N : Int) + 1 := by omega
  have hM4 : M ≤ 401 := by omega
  have hM0 : (0 : Int) < (M : Int) := by omega
  have cm := hSW.m.cell; have ck := hSW.k.cell; have cs := hSW.s.cell
  obtain ⟨w1, hw1⟩ : ∃ x : World, x = W.alloc (.cells (madeCells #[.bool false] (M * 1)) 4) := ⟨_, rfl⟩
  have hmk : (Instr.makeSlice 96 (.int .i64 ((N : Int) + 1)) (.int .i64 ((N : Int) + 1))).run Try.prog W = .ok (.slice (some ⟨W.heap.size, 0, none⟩) M M) w1 := by rw [hw1, ← hM1]; exact run_makeB M (by omega) W
  have ht : Tb w1 W.heap.size 4 M (fun _ => .bool false) := by rw [hw1]; exact made_bool _ _ _
  have hb1 : Below W.heap.size W w1 := by rw [hw1]; exact (Below.refl _ _).alloc (Nat.le_refl _) _
  have hc0 := ht.cell (j := 0) (by omega)
  have hf0 := ht.free 0
  have HT : Hid (Tb (w1.setCell ⟨W.heap.size, 0, none⟩ (.bool true)) W.heap.size 4 M (fun j => .bool (stT ks ss 0 j))) := Lib.hid ((ht.set 0 (.bool true)).cong (fun j _ => by
    show (if j = 0 then _ else _) = _
    rw [stT_zero]
    by_cases h : j = 0
    · rw [if_pos h, decide_eq_true h]
    · rw [if_neg h, decide_eq_false h]))
  have HB := Lib.hid (hb1.setCell (p := ⟨W.heap.size, 0, none⟩) (Nat.le_refl _) (.bool true))
  have cm1 := ck
  have ck2 := (HB.out.cell (p := ⟨bk, 0, none⟩) hSW.k.lt).trans ck
  have HS := Lib.hid hSW
  have HY := Lib.hid hY
  have HJ := Lib.hid (@hJ)
  have H0 := Lib.hid h0
  have HMM := Lib.hid hM
  have hkl : ks.length < 1048576 := by omega
  have hsl : (ks.length : Int) = (ss.length : Int) := by omega
  have hWl := hW.size
  clear hY hJ hJx h0 ht hb1 hw1 hSW hM cm1 cs
  refine callsIn_of_wp Try.func82 rfl trivial ?_ rfl
  simp only [Try.ntmps82, List.size_toArray, List.length_cons, List.length_nil, Nat.reduceAdd, Nat.reduceSub, Array.replicate_succ, Array.replicate_zero, List.push_toArray, List.append_toArray, List.nil_append, List.cons_append]
  gi_wp2
  gi_loopw [17] (fun i wr => ∃ k : Nat, k ≤ ks.length ∧ i = .int .i64 (k : Int) ∧ Tb wr W.heap.size 4 M (fun j => .bool (stT ks ss k j)) ∧ Below W.heap.size W wr) (fun i _ => ks.length - (intOf i).toNat)
  case atStart => exact ⟨0, Nat.zero_le _, rfl, HT.out, HB.out⟩
  case round =>
    obtain ⟨k, hk, rfl, ht, hb⟩ := hrel
    clear hmk hc0 hf0 ck ck2 cm
    have hSr := HS.out.next hb
    by_cases hlt : k < ks.length
    · have hlt2 : k < ss.length := by omega
      obtain ⟨b, off, hA, hbl, hc⟩ := hSr.ki (by omega)
      obtain ⟨b', off', hB', hbl', hc'⟩ := hSr.si (by omega)
      have e0 := hc k hlt
      have e1 := hc' k hlt2
      have h1 := hp.get hlt
      have h2 := h54 k hlt
      have h3 := hs k hlt2
      obtain ⟨v, hv⟩ : ∃ v : Nat, ks[k] = (v : Int) := ⟨ks[k].toNat, by omega⟩
      obtain ⟨s, hsv⟩ : ∃ s : Nat, ss[k] = (s : Int) := ⟨ss[k].toNat, by omega⟩
      have HMO := Lib.hid (stT_more hp (fun j h => (hs j h).1) hl hlt hv hsv)
      rw [hv] at e0 h1 h2
      rw [hsv] at e1 h3
      have hk1 : (k : Int) < (ss.length : Int) := by omega
      have ck := hSr.k.cell
      have cs := hSr.s.cell
      subst hA hB'
      have HTT := Lib.hid ht; have HBB := Lib.hid hb
      clear hc hc' hv hsv ht hb hSr
      gi_wp2_with fail
      refine ⟨trivial, fun _ => by omega, ?_⟩
      refine (callsIn_wide.2 (addSums_any W.heap.size M v s _ _ _ HTT.out HMO.out (by omega) (by omega) hM4 (by omega))).mono ?_
      rintro e w' ⟨rfl, ht', hg'⟩
      have HT2 := Lib.hid ht'
      have HB2 := Lib.hid (HBB.out.grown hg' HBB.out.size (fun q e => by cases e; exact Nat.le_refl _))
      clear ht' hg'
      gi_wp2
      go_roundw
      case rel => exact ⟨k + 1, by omega, by go_num, HT2.out, HB2.out⟩
      case measure => simp [intOf]; omega
    · obtain rfl : k = ks.length := by omega
      have HTT := Lib.hid ht
      have HJ0 := Lib.hid (HJ.out [] W wr none H0.out ⟨hb.os, hb.tape, hb.output, hb.size, fun k hk _ => hb.block k hk⟩ (fun r e => by cases e))
      have ck := hSr.k.cell
      have hnl : ¬ (ks.length : Int) < (ks.length : Int) := by omega
      clear ht hb hSr
      gi_wp2
      rw [← HE.out] at HTT
      clear hlt hnl ck hk
      generalize hwx : wr = wx at *
      clear hwx
      gi_loopw [32] (fun i wr => ∃ k : Nat, k ≤ M ∧ i = .int .i64 (k : Int) ∧ J (sumL T k) wr ∧ Tb wr W.heap.size 4 M (fun j => .bool (T j))) (fun i _ => M - (intOf i).toNat)
      case atStart => exact ⟨0, Nat.zero_le _, rfl, HJ0.out, HTT.out⟩
      case round =>
        obtain ⟨k, hk, rfl, hJs, ht⟩ := hrel
        by_cases hlt : k < M
        · have e0 := ht.cell hlt
          have hk4 : k ≤ 400 := by omega
          have hkN : (k : Int) < (N : Int) + 1 := by omega
          have hTk := HTT
          cases hq : T k with
          | true =>
            rw [hq] at e0
            obtain ⟨fn, tmps, assign, body, hy, hR⟩ := HY.out (sumL T k) ⟨k, hk4⟩ wr hJs (by have := sumL_len T k; have := HMM.out; omega)
            have HY1 := Lib.hid (sumL_yes hq hk4)
            have HQ := Lib.hid hq
            dsimp only [encS] at hy
            have HT3 := Lib.hid ht
            clear ht hTk hq hJs
            gi_wp2
            refine ⟨fun _ => by omega, ?_⟩
            refine hR.mono ?_
            rintro e W3 (⟨rfl, hJ3, hk3⟩ | ⟨rfl, hJx3⟩)
            · have HT4 := Lib.hid (hk3.tb HT3.out hWl)
              have HJ4 := Lib.hid hJ3
              clear hJ3 hk3 hy e0
              gi_wp2
              go_roundw
              case rel => exact ⟨k + 1, by omega, by go_num, by rw [HY1.out]; exact HJ4.out, HT4.out⟩
              case measure => simp [intOf]; omega
            · clear hy e0
              gi_wp2
              refine bodyPost_ret (results_none rfl _ _ _) rfl ?_
              exact ⟨⟨_, rfl⟩, .inr ⟨_, ⟨⟨k, hk4⟩, by have := HMM.out; show k < N + 1; omega, HQ.out, rfl⟩, hJx3⟩⟩
          | false =>
            rw [hq] at e0
            have HN := Lib.hid (sumL_no hq)
            have HJ4 := Lib.hid hJs
            have HT3 := Lib.hid ht
            clear ht hTk hq hJs
            gi_wp2
            refine ⟨fun _ h => (by cases h), ?_⟩
            gi_wp2
            go_roundw
            case rel => exact ⟨k + 1, by omega, by go_num, by rw [HN.out]; exact HJ4.out, HT3.out⟩
            case measure => simp [intOf]; omega
        · obtain rfl : k = M := by omega
          have HJ4 := Lib.hid hJs
          clear ht hJs
          gi_wp2
          go_end0
          exact ⟨⟨_, rfl⟩, .inl ⟨_, rfl, by have := HMM.out; subst this; exact HJ4.out⟩⟩
end Go.Proofs.Ytljakcfdjcjdbaa

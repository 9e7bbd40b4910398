/-
  A region that only reads, in a round of a range over a function: one walk in the text's order serves every order. And the iterator slices.Backward over ints, also over none.
-/
import Derived.Test.YtcbhhbcfnaekpaaDoorHyr
import Derived.Test.YtcbhhbcfnaekpaaDoorKept
import Derived.RangeFuncNested
import Derived.RangeFuncBound
import Derived.RangeFuncCalls
import Derived.RangeFuncLeaves
import Derived.RangeFuncBox
import Derived.Shelf.Abstract
import Derived.Shelf.RegionOpen
import Derived.WalkKit
import Derived.OwnWalkIn
import Derived.TacticsInMore
import Derived.LoopNIn
import Derived.LoopIn
import Derived.Sort.QuietIn
namespace Go.Proofs.YtcbhhbcfnaekpaaDoor
open Go.RowKit Go.Shelf
set_option linter.unusedVariables false

section
variable {P : Program} {n r : Nat} {ops : Array Oper} {Q : Exit → Act → World → Prop} {md : Region.Mode}
theorem oper_round {o : Oper} (hd : ∀ c, o.op ≠ .defer c) {a : Act} {w : World} {K K' : Act → World → Prop} (hK : ∀ a w, K a w → K' a w) (h : o.wpIn Fence.wide n P a w K Q) : o.wpIn (Fence.wide.inRound r) n P a w K' Q := by
  have h2 := Oper.wpIn_mono hK h
  unfold Oper.wpIn at h2 ⊢
  rw [Oper.semAt_eq _ _ _ hd] at h2 ⊢
  exact h2
theorem op_round (hd : ∀ (i : Nat) (o : Oper), ops[i]? = some o → ∀ c, o.op ≠ .defer c) {i : Nat} {a : Act} {w : World} {K K' : Act → World → Prop} (hK : ∀ a w, K a w → K' a w) (h : wpOpIn Fence.wide n P ops Q i K a w) : wpOpIn (Fence.wide.inRound r) n P ops Q i K' a w := by
  unfold wpOpIn at h ⊢
  cases ho : ops[i]? with
  | none => simp only [ho] at h ⊢; exact hK _ _ h
  | some o =>
    simp only [ho] at h ⊢
    split
    · rename_i hw; rw [if_pos hw] at h; exact oper_round (hd i o ho) hK h
    · rename_i hw; rw [if_neg hw] at h; exact ⟨h.1, hK _ _ h.2⟩
theorem any_round (hd : ∀ (i : Nat) (o : Oper), ops[i]? = some o → ∀ c, o.op ≠ .defer c) : ∀ (fuel : Nat) (listed : Array Bool) (a : Act) (w : World), wpAnyIn Fence.wide n P md ops Q fuel listed a w → wpAnyIn (Fence.wide.inRound r) n P md ops Q fuel listed a w
  | 0, _, _, _, h => h
  | fuel + 1, listed, a, w, h => ⟨h.1, fun i hi => op_round hd (any_round hd fuel _) (h.2 i hi)⟩
def nodef (l : List Oper) : Bool := l.all fun (o : Oper) => match o.op with | .defer _ => false | _ => true
theorem nodef_spec {l : List Oper} (h : nodef l = true) : ∀ (i : Nat) (o : Oper), l.toArray[i]? = some o → ∀ c, o.op ≠ .defer c := fun i o ho c e => by
  have h1 : o ∈ l := List.mem_of_getElem? (by simpa using ho)
  have h2 := List.all_eq_true.1 h o h1
  rw [e] at h2; cases h2
theorem region_keptR (B : Nat) {id : Nat} {a : Act} {w : World} {l : List Oper} (hm : P.follows .mixedOrders = true) (hL : Region.lexB .any l.toArray = true) (hd : nodef l = true)
    (h : wpQuietIn Fence.wide n P l.toArray (fun w' => ∃ x : KeptW B w, w' = x.at_) (fun a' => ∀ w', Below B w w' → Q .normal a' w') l a) : (Code.region id l.toArray true).wpIn (Fence.wide.inRound r) n P Q a w := by
  simp only [Region.lexB, Bool.and_eq_true] at hL
  refine wpIn_region_any hm (any_round (nodef_spec hd) _ _ _ _ (wpAnyIn_of_quiet (C := fun w' => ∃ x : KeptW B w, w' = x.at_) (Q := fun a' => ∀ w', Below B w w' → Q .normal a' w') rfl (fun a' w' hw' h => by obtain ⟨x, rfl⟩ := hw'; exact h _ x.below) _ _ _ _ ⟨⟨w.drew, (Below.refl _ _).drew⟩, rfl⟩ ?_))
  have := wpAnyQIn_lex (F := Fence.wide) (n := n) (C := fun w' => ∃ x : KeptW B w, w' = x.at_) (md := .any) hL.1 l 0 (Array.replicate l.toArray.size false) a (by simp) (by simpa using hL.2) h
  simpa using this
end

attribute [local go_sem] Oper.semAt_some
/-- An index that a round is given. -/
structure BwI (ks : List Int) where
  i : Nat
  lt : i < ks.length
def BwI.w {ks : List Int} (x : BwI ks) : Int := ks[x.i]'x.lt
def encB (ks : List Int) (x : BwI ks) : Array Value := #[.int .i64 (x.i : Int), .int .i64 x.w]
/-- The last k indices, from the last one on. -/
def bwL (ks : List Int) : Nat → List (BwI ks)
  | 0 => []
  | k + 1 => if h : k < ks.length then bwL ks k ++ [⟨ks.length - 1 - k, by omega⟩] else bwL ks k
theorem bwL_succ {ks : List Int} {k : Nat} (h : k < ks.length) : bwL ks (k + 1) = bwL ks k ++ [⟨ks.length - 1 - k, by omega⟩] := dif_pos h
theorem bwL_len (ks : List Int) : ∀ k, (bwL ks k).length ≤ k
  | 0 => Nat.le_refl _
  | k + 1 => by
    have := bwL_len ks k
    unfold bwL
    split
    · rw [List.length_append]; show _ + 1 ≤ _; omega
    · omega
theorem bwL_mem {ks : List Int} {j : Nat} (hj : j < ks.length) : ∀ k, k ≤ ks.length → ks.length - k ≤ j → (⟨j, hj⟩ : BwI ks) ∈ bwL ks k
  | 0, _, h => by omega
  | k + 1, hk, h => by
    rw [bwL_succ (by omega)]
    by_cases e : j = ks.length - 1 - k
    · subst e; simp
    · exact List.mem_append_left _ (bwL_mem hj k (by omega) (by omega))
/-- What a round keeps: the blocks of which R speaks. -/
def KpL (R : Nat → Prop) (W W' : World) : Prop := ∀ b, R b → W'.heap[b]? = W.heap[b]?
theorem KpL.refl (R : Nat → Prop) (W : World) : KpL R W W := fun _ _ => rfl
theorem KpL.t {R : Nat → Prop} : ∀ {X Y Z : World}, KpL R X Y → KpL R Y Z → KpL R X Z := fun h k b hb => (k b hb).trans (h b hb)
theorem KpL.kb {R : Nat → Prop} {m : Nat} (hR : ∀ b, R b → b < m) : ∀ (W : World) (l : Nat) (o o' : Obj), m ≤ l → W.heap[l]? = some o → o.isCells = false → o.isWalk = false → KpL R W (W.putObj l o') := fun W l o o' hl _ _ _ b hb =>
  World.putObj_heap_other (by have := hR b hb; omega)
theorem KpL.below {R : Nat → Prop} {B : Nat} {W W' : World} (h : Below B W W') (hR : ∀ b, R b → b < B) : KpL R W W' := fun b hb => h.block b (hR b hb)
theorem KpL.cell {R : Nat → Prop} {W W' : World} (h : KpL R W W') {b i : Nat} (hb : R b) : W'.cell? ⟨b, i, none⟩ = W.cell? ⟨b, i, none⟩ := by simp [World.cell?, h b hb]
theorem keeps_below {B : Nat} {W W' : World} (h : Below B W W') (hB : B = W.heap.size) : KeepsOthers W W' := by
  subst hB
  exact ⟨h.size, fun k o hk _ => (h.block k (lt_of_heap hk)).trans hk⟩
theorem pure_own {β : Type} (p : β → Prop) : _root_.Go.Own (fun (s : β) (_ : World) => p s) := fun _ _ _ _ hs _ _ => hs
theorem below_put {w W : World} {B D : Nat} {o : Obj} (o' : Obj) (h : Below B w W) (hD : B ≤ D) (hk : W.heap[D]? = some o) : Below B w (W.putObj D o') :=
  h.grown (grownBy_putObj' W D o') (by have := lt_of_heap hk; omega) (fun k e => by cases e; exact hD)

theorem backward_any (A : Option Addr) (n c : Nat) (w : World) :
    Calls Tryd.prog 60 #[.slice A n c] w fun e w' => e = .returned (.func (.func 88) #[] #[.pointer (some ⟨w.heap.size, 0, none⟩)]) ∧ w' = w.alloc (.cells #[.slice A n c] 28) := by
  go_enter Tryd.func60, Tryd.ntmps60
  go_wp2
  go_ret
  exact ⟨rfl, rfl⟩
/-- The blocks that the iterator reads: its box and the list's row. -/
def BwR (bk : Nat) (A : Option Addr) (n : Nat) (q : Nat) : Prop := q = bk ∨ (0 < n ∧ A.map (·.block) = some q)

set_option maxRecDepth 100000 in
set_option maxHeartbeats 2000000 in
/-- The indices with their numbers come from the last one on. -/
theorem back_stops (n : Nat) (hn : 2 ≤ n) (bk : Nat) (A : Option Addr) (ks : List Int) (c : Nat) (w : World) (hk : Boxed w bk 28 (.slice A ks.length c)) (hc : IntsIn w A ks) (hl : ks.length ≤ 1048576) :
    SeqStopsK Fence.wide n Tryd.prog 88 #[.pointer (some ⟨bk, 0, none⟩)] (encB ks) (KpL (BwR bk A ks.length))
      (fun xs => xs = bwL ks ks.length) (fun pre => ∃ k, k < ks.length ∧ pre = bwL ks (k + 1)) ks.length w := by
  intro l J Jx W hW hJ hJx hY h0
  have ck := (hW.cell (p := ⟨bk, 0, none⟩) hk.lt).trans hk.cell
  have HC : Hid (IntsIn W A ks) := Lib.hid (fun h => by
    obtain ⟨b, off, h1, h2, h3⟩ := hc h
    exact ⟨b, off, h1, by have := hW.size; omega, fun k hk => (hW.cell (p := ⟨b, off + k, none⟩) h2).trans (h3 k hk)⟩)
  have HY := Lib.hid hY
  have H0 := Lib.hid h0
  have HCK := Lib.hid ck
  clear hY hJ hJx h0 hc hk
  refine callsIn_of_wp Tryd.func88 rfl trivial ?_ rfl
  simp only [Tryd.ntmps88, List.size_toArray, List.length_cons, List.length_nil, Nat.reduceAdd, Nat.reduceSub, Array.replicate_succ, Array.replicate_zero, List.push_toArray, List.append_toArray, List.nil_append, List.cons_append]
  gi_wp2
  gi_loopw [3] (fun i wr => ∃ k : Nat, k ≤ ks.length ∧ i = .int .i64 ((ks.length : Int) - 1 - (k : Int)) ∧ J (bwL ks k) wr ∧ KpL (BwR bk A ks.length) W wr) (fun i _ => (RowKit.intOf i + 1).toNat)
  case atStart => exact ⟨0, Nat.zero_le _, by simp, H0.out, KpL.refl _ _⟩
  case round =>
    obtain ⟨k, hk, rfl, hJs, hkp⟩ := hrel
    by_cases hlt : k < ks.length
    · obtain ⟨j, hj⟩ : ∃ j, j = ks.length - 1 - k := ⟨_, rfl⟩
      have hji : (ks.length : Int) - 1 - (k : Int) = (j : Int) := by omega
      have hjl : j < ks.length := by omega
      have hjl' : (j : Int) < (ks.length : Int) := by omega
      have hj0 : (0 : Int) ≤ (j : Int) := by omega
      obtain ⟨b, off, hA, hbl, hcc⟩ := HC.out (by omega)
      subst hA
      have e0 := (hkp.cell (i := off + j) (.inr ⟨by omega, rfl⟩)).trans (hcc j hjl)
      have ek := (hkp.cell (i := 0) (.inl rfl)).trans HCK.out
      obtain ⟨fn, tmps, assign, body, hy, hR⟩ := HY.out (bwL ks k) ⟨j, hjl⟩ wr hJs (by have := bwL_len ks k; omega)
      have HB1 : Hid (bwL ks (k + 1) = bwL ks k ++ [⟨j, hjl⟩]) := Lib.hid (by rw [bwL_succ hlt]; subst hj; rfl)
      have HN : Hid ((ks.length : Int) - 1 - ((k + 1 : Nat) : Int) = (j : Int) - 1) := Lib.hid (by omega)
      dsimp only [encB, BwI.w] at hy
      have HKP := Lib.hid hkp
      rw [hji]
      clear hkp hJs hj hji ck hcc
      gi_wp2
      refine ⟨fun _ => by omega, ?_⟩
      refine hR.mono ?_
      rintro e W3 (⟨rfl, hJ3, hk3⟩ | ⟨rfl, hJx3⟩)
      · have HJ4 := Lib.hid hJ3
        have HK4 := Lib.hid (HKP.out.t hk3)
        clear hJ3 hk3 hy e0 ek
        gi_wp2
        go_roundw
        case rel => exact ⟨k + 1, by omega, by rw [HN.out], by rw [HB1.out]; exact HJ4.out, HK4.out⟩
        case measure => simp [RowKit.intOf] <;> omega
      · clear hy e0 ek
        gi_wp2
        refine bodyPost_ret (results_none rfl _ _ _) rfl ?_
        exact ⟨⟨_, rfl⟩, .inr ⟨_, ⟨k, hlt, HB1.out.symm⟩, hJx3⟩⟩
    · obtain rfl : k = ks.length := by omega
      have hji : (ks.length : Int) - 1 - (ks.length : Int) = -1 := by omega
      have HJ4 := Lib.hid hJs
      rw [hji]
      clear hJs hkp hji ck
      gi_wp2
      go_end0
      exact ⟨⟨_, rfl⟩, .inl ⟨_, rfl, HJ4.out⟩⟩
end Go.Proofs.YtcbhhbcfnaekpaaDoor

import Derived.Test.YtcbhhbcfnaekpaaDoorHyr
import Derived.Test.YtcbhhbcfnaekpaaDoorKept
import Derived.RangeFuncNested
import Derived.RangeFuncBound
import Derived.RangeFuncCalls
import Derived.RangeFuncLeaves
import Derived.RangeFuncBox
import Derived.Shelf.Abstract
import Derived.Shelf.RegionOpen
import Derived.WalkKit
import Derived.OwnWalkIn
import Derived.TacticsInMore
import Derived.LoopNIn
import Derived.LoopIn
import Derived.Sort.QuietIn
import Derived.Test.YtcbhhbcfnaekpaaDoorHyu
/-
  A region that only reads, in a round of a range over a function: one walk in the text's order serves every order. And the iterator slices.Backward over ints, also over none.
-/
namespace Go.Proofs.YtcbhhbcfnaekpaaDoor
open Go.RowKit Go.Shelf
set_option linter.unusedVariables false

section
variable {P : Program} {n r : Nat} {ops : Array Oper} {Q : Exit → Act → World → Prop} {md : Region.Mode}
theorem oper_round {o : Oper} (hd : ∀ c, o.op ≠ .defer c) {a : Act} {w : World} {K K' : Act → World → Prop} (hK : ∀ a w, K a w → K' a w) (h : o.wpIn Fence.wide n P a w K Q) : o.wpIn (Fence.wide.inRound r) n P a w K' Q := by
  have h2 := Oper.wpIn_mono hK h
  unfold Oper.wpIn at h2 ⊢
  rw [Oper.semAt_eq _ _ _ hd] at h2 ⊢
  exact h2
theorem op_round (hd : ∀ (i : Nat) (o : Oper), ops[i]? = some o → ∀ c, o.op ≠ .defer c) {i : Nat} {a : Act} {w : World} {K K' : Act → World → Prop} (hK : ∀ a w, K a w → K' a w) (h : wpOpIn Fence.wide n P ops Q i K a w) : wpOpIn (Fence.wide.inRound r) n P ops Q i K' a w := by
  unfold wpOpIn at h ⊢
  cases ho : ops[i]? with
  | none => simp only [ho] at h ⊢; exact hK _ _ h
  | some o =>
    simp only [ho] at h ⊢
    split
    · rename_i hw; rw [if_pos hw] at h; exact oper_round (hd i o ho) hK h
    · rename_i hw; rw [if_neg hw] at h; exact ⟨h.1, hK _ _ h.2⟩
theorem any_round (hd : ∀ (i : Nat) (o : Oper), ops[i]? = some o → ∀ c, o.op ≠ .defer c) : ∀ (fuel : Nat) (listed : Array Bool) (a : Act) (w : World), wpAnyIn Fence.wide n P md ops Q fuel listed a w → wpAnyIn (Fence.wide.inRound r) n P md ops Q fuel listed a w
  | 0, _, _, _, h => h
  | fuel + 1, listed, a, w, h => ⟨h.1, fun i hi => op_round hd (any_round hd fuel _) (h.2 i hi)⟩
def nodef (l : List Oper) : Bool := l.all fun (o : Oper) => match o.op with | .defer _ => false | _ => true
theorem nodef_spec {l : List Oper} (h : nodef l = true) : ∀ (i : Nat) (o : Oper), l.toArray[i]? = some o → ∀ c, o.op ≠ .defer c := fun i o ho c e => by
  have h1 : o ∈ l := List.mem_of_getElem? (by simpa using ho)
  have h2 := List.all_eq_true.1 h o h1
  rw [e] at h2; cases h2
theorem region_keptR (B : Nat) {id : Nat} {a : Act} {w : World} {l : List Oper} (hm : P.follows .mixedOrders = true) (hL : Region.lexB .any l.toArray = true) (hd : nodef l = true)
    (h : wpQuietIn Fence.wide n P l.toArray (fun w' => ∃ x : KeptW B w, w' = x.at_) (fun a' => ∀ w', Below B w w' → Q .normal a' w') l a) : (Code.region id l.toArray true).wpIn (Fence.wide.inRound r) n P Q a w := by
  simp only [Region.lexB, Bool.and_eq_true] at hL
  refine wpIn_region_any hm (any_round (nodef_spec hd) _ _ _ _ (wpAnyIn_of_quiet (C := fun w' => ∃ x : KeptW B w, w' = x.at_) (Q := fun a' => ∀ w', Below B w w' → Q .normal a' w') rfl (fun a' w' hw' h => by obtain ⟨x, rfl⟩ := hw'; exact h _ x.below) _ _ _ _ ⟨⟨w.drew, (Below.refl _ _).drew⟩, rfl⟩ ?_))
  have := wpAnyQIn_lex (F := Fence.wide) (n := n) (C := fun w' => ∃ x : KeptW B w, w' = x.at_) (md := .any) hL.1 l 0 (Array.replicate l.toArray.size false) a (by simp) (by simpa using hL.2) h
  simpa using this
end

attribute [local go_sem] Oper.semAt_some
/-- An index that a round is given. -/
structure BwI (ks : List Int) where
  i : Nat
  lt : i < ks.length
def BwI.w {ks : List Int} (x : BwI ks) : Int := ks[x.i]'x.lt
def encB (ks : List Int) (x : BwI ks) : Array Value := #[.int .i64 (x.i : Int), .int .i64 x.w]
/-- The last k indices, from the last one on. -/
def bwL (ks : List Int) : Nat → List (BwI ks)
  | 0 => []
  | k + 1 => if h : k < ks.length then bwL ks k ++ [⟨ks.length - 1 - k, by omega⟩] else bwL ks k
theorem bwL_succ {ks : List Int} {k : Nat} (h : k < ks.length) : bwL ks (k + 1) = bwL ks k ++ [⟨ks.length - 1 - k, by omega⟩] := dif_pos h
theorem bwL_len (ks : List Int) : ∀ k, (bwL ks k).length ≤ k
  | 0 => Nat.le_refl _
  | k + 1 => by
    have := bwL_len ks k
    unfold bwL
    split
    · rw [List.length_append]; show _ + 1 ≤ _; omega
    · omega
theorem bwL_mem {ks : List Int} {j : Nat} (hj : j < ks.length) : ∀ k, k ≤ ks.length → ks.length - k ≤ j → (⟨j, hj⟩ : BwI ks) ∈ bwL ks k
  | 0, _, h => by omega
  | k + 1, hk, h => by
    rw [bwL_succ (by omega)]
    by_cases e : j = ks.length - 1 - k
    · subst e; simp
    · exact List.mem_append_left _ (bwL_mem hj k (by omega) (by omega))
/-- What a round keeps: the blocks of which R speaks. -/
def KpL (R : Nat → Prop) (W W' : World) : Prop := ∀ b, R b → W'.heap[b]? = W.heap[b]?
theorem KpL.refl (R : Nat → Prop) (W : World) : KpL R W W := fun _ _ => rfl
theorem KpL.t {R : Nat → Prop} : ∀ {X Y Z : World}, KpL R X Y → KpL R Y Z → KpL R X Z := fun h k b hb => (k b hb).trans (h b hb)
theorem KpL.kb {R : Nat → Prop} {m : Nat} (hR : ∀ b, R b → b < m) : ∀ (W : World) (l : Nat) (o o' : Obj), m ≤ l → W.heap[l]? = some o → o.isCells = false → o.isWalk = false → KpL R W (W.putObj l o') := fun W l o o' hl _ _ _ b hb =>
  World.putObj_heap_other (by have := hR b hb; omega)
theorem KpL.below {R : Nat → Prop} {B : Nat} {W W' : World} (h : Below B W W') (hR : ∀ b, R b → b < B) : KpL R W W' := fun b hb => h.block b (hR b hb)
theorem KpL.cell {R : Nat → Prop} {W W' : World} (h : KpL R W W') {b i : Nat} (hb : R b) : W'.cell? ⟨b, i, none⟩ = W.cell? ⟨b, i, none⟩ := by simp [World.cell?, h b hb]
theorem keeps_below {B : Nat} {W W' : World} (h : Below B W W') (hB : B = W.heap.size) : KeepsOthers W W' := by
  subst hB
  exact ⟨h.size, fun k o hk _ => (h.block k (lt_of_heap hk)).trans hk⟩
theorem pure_own {β : Type} (p : β → Prop) : _root_.Go.Own (fun (s : β) (_ : World) => p s) := fun _ _ _ _ hs _ _ => hs
theorem below_put {w W : World} {B D : Nat} {o : Obj} (o' : Obj) (h : Below B w W) (hD : B ≤ D) (hk : W.heap[D]? = some o) : Below B w (W.putObj D o') :=
  h.grown (grownBy_putObj' W D o') (by have := lt_of_heap hk; omega) (fun k e => by cases e; exact hD)

theorem backward_any (A : Option Addr) (n c : Nat) (w : World) :
    Calls Tryd.prog 60 #[.slice A n c] w fun e w' => e = .returned (.func (.func 88) #[] #[.pointer (some ⟨w.heap.size, 0, none⟩)]) ∧ w' = w.alloc (.cells #[.slice A n c] 28) := by
  go_enter Tryd.func60, Tryd.ntmps60
  go_wp2
  go_ret
  exact ⟨rfl, rfl⟩
/-- The blocks that the iterator reads: its box and the list's row. -/
def BwR (bk : Nat) (A : Option Addr) (n : Nat) (q : Nat) : Prop := q = bk ∨ (0 < n ∧ A.map (·.block) = some q)

set_option maxRecDepth 100000 in
set_option maxHeartbeats 2000000 in
/-- The indices with their numbers come from the last one on. -/
theorem back_stops (n : Nat) (hn : 2 ≤ n) (bk : Nat) (A : Option Addr) (ks : List Int) (c : Nat) (w : World) (hk : Boxed w bk 28 (.slice A ks.length c)) (hc : IntsIn w A ks) (hl : ks.length ≤ 1048576) :
    SeqStopsK Fence.wide n Tryd.prog 88 #[.pointer (some ⟨bk, 0, none⟩)] (encB ks) (KpL (BwR bk A ks.length))
      (fun xs => xs = bwL ks ks.length) (fun pre => ∃ k, k < ks.length ∧ pre = bwL ks (k + 1)) ks.length w := by
  intro l J Jx W hW hJ hJx hY h0
  have ck := (hW.cell (p := ⟨bk, 0, none⟩) hk.lt).trans hk.cell
  have HC : Hid (IntsIn W A ks) := Lib.hid (fun h => by
    obtain ⟨b, off, h1, h2, h3⟩ := hc h
    exact ⟨b, off, h1, by have := hW.size; omega, fun k hk => (hW.cell (p := ⟨b, off + k, none⟩) h2).trans (h3 k hk)⟩)
  have HY := Lib.hid hY
  have H0 := Lib.hid h0
  have HCK := Lib.hid ck
  clear hY hJ hJx h0 hc hk
  refine callsIn_of_wp Tryd.func88 rfl trivial ?_ rfl
  simp only [Tryd.ntmps88, List.size_toArray, List.length_cons, List.length_nil, Nat.reduceAdd, Nat.reduceSub, Array.replicate_succ, Array.replicate_zero, List.push_toArray, List.append_toArray, List.nil_append, List.cons_append]
  gi_wp2
  gi_loopw [3] (fun i wr => ∃ k : Nat, k ≤ ks.length ∧ i = .int .i64 ((ks.length : Int) - 1 - (k : Int)) ∧ J (bwL ks k) wr ∧ KpL (BwR bk A ks.length) W wr) (fun i _ => (RowKit.intOf i + 1).toNat)
  case atStart => exact ⟨0, Nat.zero_le _, by simp, H0.out, KpL.refl _ _⟩
  case round =>
    obtain ⟨k, hk, rfl, hJs, hkp⟩ := hrel
    by_cases hlt : k < ks.length
    · obtain ⟨j, hj⟩ : ∃ j, j = ks.length - 1 - k := ⟨_, rfl⟩
      have hji : (ks.length : Int) - 1 - (k : Int) = (j : Int) := by omega
      have hjl : j < ks.length := by omega
      have hjl' : (j : Int) < (ks.length : Int) := by omega
      have hj0 : (0 : Int) ≤ (j : Int) := by omega
      obtain ⟨b, off, hA, hbl, hcc⟩ := HC.out (by omega)
      subst hA
      have e0 := (hkp.cell (i := off + j) (.inr ⟨by omega, rfl⟩)).trans (hcc j hjl)
      have ek := (hkp.cell (i := 0) (.inl rfl)).trans HCK.out
      obtain ⟨fn, tmps, assign, body, hy, hR⟩ := HY.out (bwL ks k) ⟨j, hjl⟩ wr hJs (by have := bwL_len ks k; omega)
      have HB1 : Hid (bwL ks (k + 1) = bwL ks k ++ [⟨j, hjl⟩]) := Lib.hid (by rw [bwL_succ hlt]; subst hj; rfl)
      have HN : Hid ((ks.length : Int) - 1 - ((k + 1 : Nat) : Int) = (j : Int) - 1) := Lib.hid (by omega)
      dsimp only [encB, BwI.w] at hy
      have HKP := Lib.hid hkp
      rw [hji]
      clear hkp hJs hj hji ck hcc
      gi_wp2
      refine ⟨fun _ => by omega, ?_⟩
      refine hR.mono ?_
      rintro e W3 (⟨rfl, hJ3, hk3⟩ | ⟨rfl, hJx3⟩)
      · have HJ4 := Lib.hid hJ3
        have HK4 := Lib.hid (HKP.out.t hk3)
        clear hJ3 hk3 hy e0 ek
        gi_wp2
        go_roundw
        case rel => exact ⟨k + 1, by omega, by rw [HN.out], by rw [HB1.out]; exact HJ4.out, HK4.out⟩
        case measure => simp [RowKit.intOf] <;> omega
      · clear hy e0 ek
        gi_wp2
        refine bodyPost_ret (results_none rfl _ _ _) rfl ?_
        exact ⟨⟨_, rfl⟩, .inr ⟨_, ⟨k, hlt, HB1.out.symm⟩, hJx3⟩⟩
    · obtain rfl : k = ks.length := by omega
      have hji : (ks.length : Int) - 1 - (ks.length : Int) = -1 := by omega
      have HJ4 := Lib.hid hJs
      rw [hji]
      clear hJs hkp hji ck
      gi_wp2
      go_end0
      exact ⟨⟨_, rfl⟩, .inl ⟨_, rfl, HJ4.out⟩⟩
end Go.Proofs.YtcbhhbcfnaekpaaDoor

/-
  The last place within so many letters: told plainly; the contracts of spec.LastPlaceWithin and impl.LastPlaceWithin.
-/
namespace Go.Proofs.YtcbhhbcfnaekpaaDoor
open Go.RowKit Go.Shelf
set_option linter.unusedVariables false
attribute [local go_sem] Oper.semAt_some encB BwI.w

def lpF (n b x : Int) : Int := if x ≤ n then x else b
/-- The last number of a list that is at most n, or 0. -/
def lpL (P : List Int) (n : Int) : Int := P.foldl (lpF n) 0
theorem lpL_snoc (P : List Int) (n x : Int) : lpL (P ++ [x]) n = if x ≤ n then x else lpL P n := by unfold lpL; rw [List.foldl_append]; rfl
theorem lp_keep {n : Int} : ∀ (l : List Int) (b : Int), (∀ x ∈ l, ¬ x ≤ n) → l.foldl (lpF n) b = b
  | [], _, _ => rfl
  | x :: r, b, h => by
    have h1 : lpF n b x = b := if_neg (h x (by simp))
    rw [List.foldl_cons, h1]
    exact lp_keep r b (fun y hy => h y (by simp [hy]))
theorem lpL_none {P : List Int} {n : Int} (h : ∀ j (hj : j < P.length), ¬ P[j] ≤ n) : lpL P n = 0 := lp_keep P 0 (fun x hx => by
  obtain ⟨j, hj, rfl⟩ := List.getElem_of_mem hx
  exact h j hj)
theorem lpL_hit {P : List Int} {n : Int} {k : Nat} (hk : k < P.length) (h : P[k] ≤ n) (h2 : ∀ j (hj : j < P.length), k < j → ¬ P[j] ≤ n) : lpL P n = P[k] := by
  have e : P = (P.take k ++ [P[k]]) ++ P.drop (k + 1) := by rw [← List.take_succ_eq_append_getElem hk, List.take_append_drop]
  rw [congrArg (fun l => lpL l n) e]
  show lpL ((P.take k ++ [P[k]]) ++ P.drop (k + 1)) n = P[k]
  unfold lpL
  rw [List.foldl_append, lp_keep (P.drop (k + 1)) _ (fun x hx => by
    obtain ⟨j, hj, rfl⟩ := List.getElem_of_mem hx
    rw [List.getElem_drop]
    exact h2 _ _ (by omega))]
  show lpL (P.take k ++ [P[k]]) n = P[k]
  rw [lpL_snoc, if_pos h]
theorem lpL_of {P : List Int} {n : Int} (hP : ∀ x ∈ P, 2 ≤ x) : lpL P n = 0 ∨ 2 ≤ lpL P n := by
  have : ∀ (l : List Int) (b : Int), (∀ x ∈ l, 2 ≤ x) → (b = 0 ∨ 2 ≤ b) → (l.foldl (lpF n) b = 0 ∨ 2 ≤ l.foldl (lpF n) b) := by
    intro l
    induction l with
    | nil => intro b _ hb; exact hb
    | cons x r ih =>
      intro b h hb
      rw [List.foldl_cons]
      refine ih _ (fun y hy => h y (by simp [hy])) ?_
      unfold lpF
      split
      · exact .inr (h x (by simp))
      · exact hb
  exact this P 0 hP (.inl rfl)
/-- The number of letters is 0 to 16. -/
def ltB (n : Int) : Bool := decide (0 ≤ n) && decide (n ≤ 16)
/-- The answer. -/
def lwV (ps es : List ByteArray) (wd : ByteArray) (n : Int) : Int := if ltB n then lpL (hpL ps es wd) n else 0
def lwB (ps es : List ByteArray) (wd : ByteArray) (n : Int) : Bool := decide (0 < lwV ps es wd n)
theorem lw_no {ps es : List ByteArray} {wd : ByteArray} {n : Int} (h : lwV ps es wd n = 0) : lwV ps es wd n = 0 ∧ lwB ps es wd n = false := ⟨h, by unfold lwB; rw [h]; rfl⟩
theorem lw_noask {ps es : List ByteArray} {wd : ByteArray} {n : Int} (h : askB ps es wd = false) : lwV ps es wd n = 0 := by unfold lwV; rw [hp_no h]; split <;> rfl
theorem lw_out {ps es : List ByteArray} {wd : ByteArray} {n : Int} (h : ltB n = false) : lwV ps es wd n = 0 := by unfold lwV; rw [h]; rfl
theorem lw_in {ps es : List ByteArray} {wd : ByteArray} {n : Int} (h : ltB n = true) : lwV ps es wd n = lpL (hpL ps es wd) n := by unfold lwV; rw [h]; rfl
theorem ret_ib {a b : Int} {c d : Bool} (h1 : a = b) (h2 : c = d) : Ending.returned (.tuple #[.int .i64 a, .bool c]) = .returned (.tuple #[.int .i64 b, .bool d]) := by rw [h1, h2]
set_option maxRecDepth 100000 in
set_option maxHeartbeats 1000000 in
theorem specLastPlace_any (ps : List ByteArray) (A : Option Addr) (c : Nat) (es : List ByteArray) (B : Option Addr) (d : Nat) (wd : ByteArray) (n : Int) (w : World) (hf : StrsIn w A ps) (ho : StrsLe ps) (hn : ps.length ≤ 1048576) (hf' : StrsIn w B es) (ho' : StrsLe es) (hn' : es.length ≤ 1048576) (hw : wd.size ≤ 1048576) :
    Calls Tryd.prog 26 #[.slice A ps.length c, .slice B es.length d, .string wd, .int .i64 n] w fun e w' => e = .returned (.tuple #[.int .i64 (lwV ps es wd n), .bool (lwB ps es wd n)]) ∧ Below w.heap.size w w' := by
  have HF := Lib.hid hf; have HF' := Lib.hid hf'; have HO := Lib.hid ho; have HO' := Lib.hid ho'
  clear hf hf' ho ho'
  cases ha : askB ps es wd
  · have HA := Lib.hid (hyAsked_is ps A c es B d wd false w HF.out HO.out hn HF'.out HO'.out hn' hw (Lib.hid ha))
    have HV := Lib.hid (lw_no (lw_noask (n := n) ha))
    clear ha
    go_enter Tryd.func26, Tryd.ntmps26
    go_wp2_with fail
    refine HA.out.mono ?_
    rintro e w1 ⟨rfl, hb1⟩
    go_wp2
    go_ret2
    exact ⟨ret_ib HV.out.1.symm HV.out.2.symm, hb1⟩
  · have HA := Lib.hid (hyAsked_is ps A c es B d wd true w HF.out HO.out hn HF'.out HO'.out hn' hw (Lib.hid ha))
    have hsh := hp_short ps es wd
    rw [hp_yes ha] at hsh
    have HP := Lib.hid (patsB_all (ask_all ha).1).1
    obtain ⟨h1, h16⟩ := isWord_len (ask_all ha).2.2
    cases hl : ltB n
    · have HV := Lib.hid (lw_no (lw_out (ps := ps) (es := es) (wd := wd) hl))
      have hno : (decide (0 ≤ n) && decide (n ≤ 16)) = false := hl
      clear ha hl
      go_enter Tryd.func26, Tryd.ntmps26
      go_wp2_with fail
      refine HA.out.mono ?_
      rintro e w1 ⟨rfl, hb1⟩
      have HB1 := Lib.hid hb1
      clear hb1
      go_wp2_with (go_at_call 61; refine (in_any _ _ _ _).mono ?_; rintro e w' ⟨rfl, rfl⟩)
      go_ret2
      exact ⟨ret_ib HV.out.1.symm HV.out.2.symm, HB1.out⟩
    · have HV : Hid (lwV ps es wd n = lpL (hyPl ps es wd) n) := Lib.hid (by rw [lw_in hl, hp_yes ha])
      have HVB : Hid (lwB ps es wd n = decide (0 < lwV ps es wd n)) := Lib.hid rfl
      have hyes : (decide (0 ≤ n) && decide (n ≤ 16)) = true := hl
      clear ha hl
      go_enter Tryd.func26, Tryd.ntmps26
      go_wp2_with fail
      refine HA.out.mono ?_
      rintro e w1 ⟨rfl, hb1⟩
      have HB1 := Lib.hid hb1
      clear hb1
      go_wp2_with (go_at_call 61; refine (in_any _ _ _ _).mono ?_; rintro e w' ⟨rfl, rfl⟩)
      refine (hyPlaces_any ps A c es B d wd _ (HF.out.below HB1.out (Nat.le_refl _)) HO.out hn (HF'.out.below HB1.out (Nat.le_refl _)) HO'.out hn' HP.out h1 h16).mono ?_
      rintro e w2 ⟨v, rfl, hb2, ho2⟩
      obtain ⟨A2, c2, rfl⟩ := own_form ho2
      have HB2 := Lib.hid (HB1.out.trans (hb2.mono HB1.out.size))
      have HI2 := Lib.hid (own_in ho2)
      clear hb2 ho2
      generalize hyPl ps es wd = P at *
      go_wp2
      go_loop [10, 28] (fun v i => ∃ k : Nat, k ≤ P.length ∧ i = .int .i64 k ∧ v = .int .i64 (lpL (P.take k) n)) (fun _ i => P.length - (RowKit.intOf i).toNat)
      case atStart => exact ⟨0, Nat.zero_le _, rfl, rfl⟩
      case round =>
        obtain ⟨k, hk, rfl, rfl⟩ := hrel
        by_cases hlt : k < P.length
        · obtain ⟨b9, o9, rfl, hbl9, hc9⟩ := HI2.out (by omega)
          have hck := hc9 k hlt
          have HN : Hid (lpL (P.take (k + 1)) n = if P[k] ≤ n then P[k] else lpL (P.take k) n) := Lib.hid (by rw [List.take_succ_eq_append_getElem hlt, lpL_snoc])
          clear hc9
          generalize P[k] = x at *
          generalize lpL (P.take k) n = b at *
          by_cases hx : x ≤ n
          · have hd : decide (x ≤ n) = true := decide_eq_true hx
            rw [if_pos hx] at HN
            go_wp2
            go_round
            case rel => exact ⟨k + 1, by omega, by go_num, by rw [HN.out]⟩
            case measure => simp [RowKit.intOf]; omega
          · have hd : decide (x ≤ n) = false := decide_eq_false hx
            rw [if_neg hx] at HN
            go_wp2
            go_round
            case rel => exact ⟨k + 1, by omega, by go_num, by rw [HN.out]⟩
            case measure => simp [RowKit.intOf]; omega
        · obtain rfl : k = P.length := by omega
          have e0 : lpL (P.take P.length) n = lpL P n := by rw [List.take_length]
          rw [e0]
          generalize lpL P n = r at *
          go_wp2
          go_ret2
          refine ⟨ret_ib HV.out.symm ?_, HB2.out⟩
          rw [HVB.out, HV.out]
end Go.Proofs.YtcbhhbcfnaekpaaDoor

/-
  The contract of impl.LastPlaceWithin.
-/
namespace Go.Proofs.YtcbhhbcfnaekpaaDoor
open Go.RowKit Go.Shelf
set_option linter.unusedVariables false
attribute [local go_sem] Oper.semAt_some encB BwI.w

/-- The number that came last. -/
def lastB {ks : List Int} (pre : List (BwI ks)) : Int := match pre.getLast? with | none => 0 | some x => x.w
theorem lastB_snoc {ks : List Int} (q : List (BwI ks)) (x : BwI ks) : lastB (q ++ [x]) = x.w := by simp [lastB]
theorem bw_none {P : List Int} {n : Int} (h : ∀ z ∈ bwL P P.length, ¬ z.w ≤ n) : lpL P n = 0 :=
  lpL_none fun j hj => h ⟨j, hj⟩ (bwL_mem hj _ (Nat.le_refl _) (by omega))
theorem bw_hit {P : List Int} {n : Int} {k : Nat} (hk : k < P.length) {q : List (BwI P)} {x : BwI P} (e : bwL P (k + 1) = q ++ [x]) (hx : x.w ≤ n) (hq : ∀ z ∈ q, ¬ z.w ≤ n) : lpL P n = x.w := by
  rw [bwL_succ hk] at e
  have h := List.append_inj' e rfl
  have e2 : (⟨P.length - 1 - k, by omega⟩ : BwI P) = x := by simpa using h.2
  have hi : x.i = P.length - 1 - k := by rw [← e2]
  refine lpL_hit x.lt hx (fun j hj hlt => ?_)
  refine hq ⟨j, hj⟩ ?_
  rw [← h.1]
  exact bwL_mem hj k (by omega) (by omega)
set_option maxRecDepth 100000 in
set_option maxHeartbeats 4000000 in
theorem implLastPlace_any (ps : List ByteArray) (A : Option Addr) (c : Nat) (es : List ByteArray) (B : Option Addr) (d : Nat) (wd : ByteArray) (n : Int) (w : World) (hf : StrsIn w A ps) (ho : StrsLe ps) (hn : ps.length ≤ 1048576) (hf' : StrsIn w B es) (ho' : StrsLe es) (hn' : es.length ≤ 1048576) (hw : wd.size ≤ 1048576) (hy : LayB w) :
    Calls Tryd.prog 25 #[.slice A ps.length c, .slice B es.length d, .string wd, .int .i64 n] w fun e w' => e = .returned (.tuple #[.int .i64 (lwV ps es wd n), .bool (lwB ps es wd n)]) ∧ Below w.heap.size w w' := by
  obtain ⟨u1, hu1⟩ : ∃ x : World, x = w.alloc (.cells #[.int .i64 n] 3) := ⟨_, rfl⟩
  have z1 : u1.heap.size = w.heap.size + 1 := by rw [hu1, World.size_alloc]
  obtain ⟨u2, hu2⟩ : ∃ x : World, x = u1.alloc (.cells #[.int .i64 0] 3) := ⟨_, rfl⟩
  have z2 : u2.heap.size = w.heap.size + 1 + 1 := by rw [hu2, World.size_alloc, z1]
  obtain ⟨u3, hu3⟩ : ∃ x : World, x = u2.alloc (.cells #[.bool false] 4) := ⟨_, rfl⟩
  have z3 : u3.heap.size = w.heap.size + 1 + 1 + 1 := by rw [hu3, World.size_alloc, z2]
  have HX0 : Hid (Boxed u3 w.heap.size 3 (.int .i64 n)) := Lib.hid (by
    have h : Boxed u1 w.heap.size 3 (.int .i64 n) := by rw [hu1]; exact Boxed.new _ _ _
    replace h := h.alloc (.cells #[.int .i64 0] 3)
    rw [← hu2] at h
    replace h := h.alloc (.cells #[.bool false] 4)
    rw [← hu3] at h
    exact h)
  have HX1 : Hid (Boxed u3 (w.heap.size + 1) 3 (.int .i64 0)) := Lib.hid (by
    have h : Boxed u2 u1.heap.size 3 (.int .i64 0) := by rw [hu2]; exact Boxed.new _ _ _
    rw [z1] at h
    replace h := h.alloc (.cells #[.bool false] 4)
    rw [← hu3] at h
    exact h)
  have HX2 : Hid (Boxed u3 (w.heap.size + 1 + 1) 4 (.bool false)) := Lib.hid (by
    have h : Boxed u3 u2.heap.size 4 (.bool false) := by rw [hu3]; exact Boxed.new _ _ _
    rw [z2] at h
    exact h)
  have HB0 : Hid (Below w.heap.size w u3) := Lib.hid (by
    have h0 := Below.refl w.heap.size w
    replace h0 := h0.alloc (by omega) (.cells #[.int .i64 n] 3)
    rw [← hu1] at h0
    replace h0 := h0.alloc (by rw [z1]; omega) (.cells #[.int .i64 0] 3)
    rw [← hu2] at h0
    replace h0 := h0.alloc (by rw [z2]; omega) (.cells #[.bool false] 4)
    rw [← hu3] at h0
    exact h0)
  have HW0 : Hid (u3 = ((w.alloc (.cells #[.int .i64 n] 3)).alloc (.cells #[.int .i64 0] 3)).alloc (.cells #[.bool false] 4)) := Lib.hid (by rw [hu3, hu2, hu1])
  have HC := Lib.hid (implHyphenPlaces_own ps A c es B d wd u3 (hf.below HB0.out (Nat.le_refl _)) ho hn (hf'.below HB0.out (Nat.le_refl _)) ho' hn' hw (hy.below HB0.out))
  have hsh := hp_short ps es wd
  have HZ3 := Lib.hid z3
  have HVV : Hid (ltB n = true → lwV ps es wd n = lpL (hpL ps es wd) n) := Lib.hid (fun h => lw_in h)
  have HVN := Lib.hid (fun h => lw_noask (ps := ps) (es := es) (wd := wd) (n := n) h)
  have HVO := Lib.hid (fun h => lw_out (ps := ps) (es := es) (wd := wd) (n := n) h)
  have HVB : Hid (lwB ps es wd n = decide (0 < lwV ps es wd n)) := Lib.hid rfl
  have HP2 : Hid (∀ x ∈ hpL ps es wd, 2 ≤ x) := Lib.hid (fun x hx => by
    cases ha : askB ps es wd
    · rw [hp_no ha] at hx; simp at hx
    · rw [hp_yes ha] at hx; exact (hyPl_in x hx).1)
  clear hu1 hu2 hu3 z1 z2 z3 hf ho hf' ho' hy
  generalize hpL ps es wd = P at *
  refine (callsIn_wide (n := 6)).1 ?_
  have n6 : 1 ≤ 6 := by omega
  refine callsIn_of_wp_marks Tryd.func25 rfl trivial ?_ rfl
  simp only [Tryd.ntmps25, List.size_toArray, List.length_cons, List.length_nil, Nat.reduceAdd, Nat.reduceSub, Array.replicate_succ, Array.replicate_zero, List.push_toArray, List.append_toArray, List.nil_append, List.cons_append]
  refine wpIn_wide.2 ?_
  go_wp2_with fail
  rw [← HW0.out]
  refine HC.out.mono ?_
  rintro e w1 ⟨v, rfl, hb1, ho1⟩
  obtain ⟨A1, c1, rfl⟩ := own_form ho1
  have HB1 := Lib.hid hb1
  have HI1 := Lib.hid (own_in ho1)
  have HBW := Lib.hid (HB0.out.trans (hb1.mono HB0.out.size))
  have hzz : w1.heap.size ≥ w.heap.size + 1 + 1 + 1 := by have := hb1.size; have := HZ3.out; omega
  have HY0 : Hid (Boxed w1 w.heap.size 3 (.int .i64 n)) := Lib.hid ((hb1.block _ HX0.out.lt).trans HX0.out)
  have HY1 : Hid (Boxed w1 (w.heap.size + 1) 3 (.int .i64 0)) := Lib.hid ((hb1.block _ HX1.out.lt).trans HX1.out)
  have HY2 : Hid (Boxed w1 (w.heap.size + 1 + 1) 4 (.bool false)) := Lib.hid ((hb1.block _ HX2.out.lt).trans HX2.out)
  clear hb1 ho1 HX0 HX1 HX2
  have c0 := HY0.out.cell; have d1 := HY1.out.cell; have d2 := HY2.out.cell
  have f1 := HY1.out.frozen; have f2 := HY2.out.frozen
  cases ha : askB ps es wd
  · have HV := Lib.hid (lw_no (HVN.out ha))
    clear ha
    go_wp2
    have b3 : Boxed ((w1.setCell ⟨w.heap.size + 1, 0, none⟩ (.int .i64 0)).setCell ⟨w.heap.size + 1 + 1, 0, none⟩ (.bool false)) (w.heap.size + 1) 3 (.int .i64 0) := (HY1.out.set _).kept (grownBy_setCell' _ _ _) (fun e => by have := Option.some.inj e; omega)
    have b4 : Boxed ((w1.setCell ⟨w.heap.size + 1, 0, none⟩ (.int .i64 0)).setCell ⟨w.heap.size + 1 + 1, 0, none⟩ (.bool false)) (w.heap.size + 1 + 1) 4 (.bool false) := (HY2.out.kept (grownBy_setCell' _ _ _) (fun e => by have := Option.some.inj e; omega)).set _
    have hc3 := b3.cell; have hc4 := b4.cell
    exact ⟨.tuple #[.int .i64 0, .bool false], by simp [results, Tryd.f25, go_sem, hc3, hc4], ret_ib HV.out.1.symm HV.out.2.symm, (HBW.out.setCell (p := ⟨w.heap.size + 1, 0, none⟩) (by show w.heap.size ≤ w.heap.size + 1; omega) _).setCell (p := ⟨w.heap.size + 1 + 1, 0, none⟩) (by show w.heap.size ≤ w.heap.size + 1 + 1; omega) _⟩
  · cases hl : ltB n
    · have HV := Lib.hid (lw_no (HVO.out hl))
      clear ha
      rcases (by unfold ltB at hl; simp at hl; omega : n < 0 ∨ (¬ n < 0 ∧ 16 < n)) with h0 | ⟨h0, h16⟩
      · have e0 : decide (n < 0) = true := decide_eq_true h0
        clear hl
        go_wp2
        have b3 : Boxed ((w1.setCell ⟨w.heap.size + 1, 0, none⟩ (.int .i64 0)).setCell ⟨w.heap.size + 1 + 1, 0, none⟩ (.bool false)) (w.heap.size + 1) 3 (.int .i64 0) := (HY1.out.set _).kept (grownBy_setCell' _ _ _) (fun e => by have := Option.some.inj e; omega)
        have b4 : Boxed ((w1.setCell ⟨w.heap.size + 1, 0, none⟩ (.int .i64 0)).setCell ⟨w.heap.size + 1 + 1, 0, none⟩ (.bool false)) (w.heap.size + 1 + 1) 4 (.bool false) := (HY2.out.kept (grownBy_setCell' _ _ _) (fun e => by have := Option.some.inj e; omega)).set _
        have hc3 := b3.cell; have hc4 := b4.cell
        exact ⟨.tuple #[.int .i64 0, .bool false], by simp [results, Tryd.f25, go_sem, hc3, hc4], ret_ib HV.out.1.symm HV.out.2.symm, (HBW.out.setCell (p := ⟨w.heap.size + 1, 0, none⟩) (by show w.heap.size ≤ w.heap.size + 1; omega) _).setCell (p := ⟨w.heap.size + 1 + 1, 0, none⟩) (by show w.heap.size ≤ w.heap.size + 1 + 1; omega) _⟩
      · have e0 : decide (n < 0) = false := decide_eq_false h0
        have e16 : decide (16 < n) = true := decide_eq_true h16
        clear hl
        go_wp2
        have b3 : Boxed ((w1.setCell ⟨w.heap.size + 1, 0, none⟩ (.int .i64 0)).setCell ⟨w.heap.size + 1 + 1, 0, none⟩ (.bool false)) (w.heap.size + 1) 3 (.int .i64 0) := (HY1.out.set _).kept (grownBy_setCell' _ _ _) (fun e => by have := Option.some.inj e; omega)
        have b4 : Boxed ((w1.setCell ⟨w.heap.size + 1, 0, none⟩ (.int .i64 0)).setCell ⟨w.heap.size + 1 + 1, 0, none⟩ (.bool false)) (w.heap.size + 1 + 1) 4 (.bool false) := (HY2.out.kept (grownBy_setCell' _ _ _) (fun e => by have := Option.some.inj e; omega)).set _
        have hc3 := b3.cell; have hc4 := b4.cell
        exact ⟨.tuple #[.int .i64 0, .bool false], by simp [results, Tryd.f25, go_sem, hc3, hc4], ret_ib HV.out.1.symm HV.out.2.symm, (HBW.out.setCell (p := ⟨w.heap.size + 1, 0, none⟩) (by show w.heap.size ≤ w.heap.size + 1; omega) _).setCell (p := ⟨w.heap.size + 1 + 1, 0, none⟩) (by show w.heap.size ≤ w.heap.size + 1 + 1; omega) _⟩
    · have HV := Lib.hid (HVV.out hl)
      have hll := hl
      unfold ltB at hll
      have h0 : decide (n < 0) = false := by simp at hll; simp; omega
      have h16 : decide (16 < n) = false := by simp at hll; simp; omega
      clear ha hl hll
      go_wp2_with fail
      refine (backward_any A1 P.length c1 w1).mono ?_
      rintro e w4 ⟨rfl, hw4⟩
      have HBK : Hid (Boxed w4 w1.heap.size 28 (.slice A1 P.length c1)) := Lib.hid (by rw [hw4]; exact Boxed.new _ _ _)
      have hb4 : Below w1.heap.size w1 w4 := by rw [hw4]; exact (Below.refl _ _).alloc (Nat.le_refl _) _
      have HBW4 : Hid (Below w.heap.size w w4) := Lib.hid (HBW.out.trans (hb4.mono HBW.out.size))
      have HI4 := Lib.hid (HI1.out.below hb4 (Nat.le_refl _))
      have HX0 : Hid (Boxed w4 w.heap.size 3 (.int .i64 n)) := Lib.hid ((hb4.block _ HY0.out.lt).trans HY0.out)
      have m3 : Boxed w4 (w.heap.size + 1) 3 (.int .i64 0) := (hb4.block _ HY1.out.lt).trans HY1.out
      have m4 : Boxed w4 (w.heap.size + 1 + 1) 4 (.bool false) := (hb4.block _ HY2.out.lt).trans HY2.out
      have hz4 : w1.heap.size < w4.heap.size := HBK.out.lt
      have HM3 := Lib.hid m3; have HM4 := Lib.hid m4
      clear hw4 hb4 c0 d1 d2 f1 f2 m3 m4 HY0 HY1 HY2
      go_wp2
      refine (wpIn_wide (n := 6)).1 ?_
      refine wpIn_rangeFunc_ownF (F := Fence.wide) (n := 6) rfl n6 (gf := 88) (lb := #[.pointer (some ⟨w1.heap.size, 0, none⟩)]) rfl trivial (enters_of Tryd.func88 (by kernel_rfl) rfl)
        (back_stops 5 (by omega) w1.heap.size A1 P c1 w4 HBK.out HI4.out (by omega)) KpL.t (KpL.kb (fun q hq => by
          rcases hq with rfl | ⟨hp, hq⟩
          · exact HBK.out.lt
          · obtain ⟨b, off, hA, hbl, _⟩ := HI4.out hp
            subst hA
            have := Option.some.inj hq
            dsimp at this
            omega)) (Below.refl _ _) (fun _ => rfl)
        (fun pre W => (∀ z, z ∈ pre → ¬ z.w ≤ n) ∧ Below w4.heap.size w4 W)
        (fun cd pre W => ((cd = .ret ∧ ∃ q x, pre = q ++ [x] ∧ (∀ z, z ∈ q → ¬ z.w ≤ n) ∧ x.w ≤ n) ∧ (Boxed W (w.heap.size + 1) 3 (.int .i64 (lastB pre)) ∧ Boxed W (w.heap.size + 1 + 1) 4 (.bool true))) ∧ Below w.heap.size w W)
        (OwnFrom.and (_root_.Go.Own.from (pure_own (fun (pre : List (BwI P)) => ∀ z, z ∈ pre → ¬ z.w ≤ n)) _) (ownFrom_below (Nat.le_refl _) (Nat.le_refl _)))
        (fun cd => OwnFrom.and (OwnFrom.and (_root_.Go.Own.from (pure_own (fun (pre : List (BwI P)) => cd = .ret ∧ ∃ q x, pre = q ++ [x] ∧ (∀ z, z ∈ q → ¬ z.w ≤ n) ∧ x.w ≤ n)) _) (OwnFrom.and (_root_.Go.Own.from (boxed_own _ _ (fun pre => .int .i64 (lastB pre))) _) (_root_.Go.Own.from (boxed_own _ _ (fun _ => .bool true)) _))) (ownFrom_below (Nat.le_refl _) (by omega)))
        ⟨(fun z hz => by cases hz), Below.refl _ _⟩ ?act ?assign ?body ?done ?stop
      case assign =>
        intro l x W K hK
        gi_wp2
        exact hK
      case body =>
        rintro lp pre x W ⟨hno, hB⟩ hpl
        have wk := HBW4.out.trans (hB.mono HBW4.out.size)
        have X0 : Boxed W w.heap.size 3 (.int .i64 n) := (hB.block _ (by omega)).trans HX0.out
        have k0 := X0.cell
        have HNO := Lib.hid hno; have HB := Lib.hid hB
        have hWl := hB.size
        obtain ⟨y, hy⟩ : ∃ y : Int, x.w = y := ⟨_, rfl⟩
        have HY := Lib.hid hy
        have hy' : P[x.i]'x.lt = y := hy
        clear hno hB wk X0 hy
        have HKO := Lib.hid (KeepsOthers.refl W)
        have HKP : Hid (KpL (BwR w1.heap.size A1 P.length) W W) := Lib.hid (KpL.refl _ _)
        have hB9 := HB.out
        have a3 : Boxed W (w.heap.size + 1) 3 (.int .i64 0) := (hB9.block _ HM3.out.lt).trans HM3.out
        have a4 : Boxed W (w.heap.size + 1 + 1) 4 (.bool false) := (hB9.block _ HM4.out.lt).trans HM4.out
        have HA3 := Lib.hid a3; have HA4 := Lib.hid a4
        have f3 := a3.frozen; have g3 := a3.cell; have f4 := a4.frozen; have g4 := a4.cell
        have HB9 := Lib.hid hB9
        clear hB9 a3 a4
        by_cases hq : y ≤ n
        · have hd2 : decide (y ≤ n) = true := decide_eq_true hq
          have HLE : Hid (x.w ≤ n) := Lib.hid (by rw [HY.out]; exact hq)
          have HLB : Hid (Value.int .i64 (lastB (pre ++ [x])) = .int .i64 y) := Lib.hid (by rw [lastB_snoc, HY.out])
          gi_wp2
          refine ⟨(HKO.out.trans (KeepsOthers.setCell _ _ _)).trans (KeepsOthers.setCell _ _ _), ⟨⟨rfl, pre, x, rfl, HNO.out, HLE.out⟩, ?_, ?_⟩, ?_⟩
          · rw [HLB.out]
            exact ((HA3.out.set _).kept (grownBy_setCell' _ _ _) (fun e => by have := Option.some.inj e; omega))
          · exact (HA4.out.kept (grownBy_setCell' _ _ _) (fun e => by have := Option.some.inj e; omega)).set _
          · have hb := HBW4.out.trans (HB9.out.mono HBW4.out.size)
            exact (hb.setCell (p := ⟨w.heap.size + 1, 0, none⟩) (by show w.heap.size ≤ w.heap.size + 1; omega) _).setCell (p := ⟨w.heap.size + 1 + 1, 0, none⟩) (by show w.heap.size ≤ w.heap.size + 1 + 1; omega) _
        · have hd2 : decide (y ≤ n) = false := decide_eq_false hq
          have HLE : Hid (¬ x.w ≤ n) := Lib.hid (by rw [HY.out]; exact hq)
          gi_wp2
          exact ⟨HKO.out, HKP.out, (fun z hz => by
            rcases List.mem_append.1 hz with h | h
            · exact HNO.out z h
            · obtain rfl : z = x := by simpa using h
              exact HLE.out), HB9.out⟩
      case done =>
        rintro D ys W hD rfl ⟨hno, hB⟩ hK
        have HR := Lib.hid (lw_no (HV.out.trans (bw_none hno)))
        have a3 : Boxed W (w.heap.size + 1) 3 (.int .i64 0) := (hB.block _ HM3.out.lt).trans HM3.out
        have a4 : Boxed W (w.heap.size + 1 + 1) 4 (.bool false) := (hB.block _ HM4.out.lt).trans HM4.out
        have f3 := a3.frozen; have g3 := a3.cell; have f4 := a4.frozen; have g4 := a4.cell
        have HBD := Lib.hid (HBW4.out.trans (hB.mono HBW4.out.size))
        have hDw : w.heap.size ≤ D := by omega
        obtain ⟨W2, hW2⟩ : ∃ x, x = (W.setCell ⟨w.heap.size + 1, 0, none⟩ (.int .i64 0)).setCell ⟨w.heap.size + 1 + 1, 0, none⟩ (.bool false) := ⟨_, rfl⟩
        have hK2 : W2.heap[D]? = some (.deferred (some [])) := by rw [hW2]; exact (KeepsOthers.setCell _ _ _).same D _ ((KeepsOthers.setCell W _ _).same D _ hK rfl) rfl
        have HB2 : Hid (Below w.heap.size w W2) := Lib.hid (by
          rw [hW2]; exact (HBD.out.setCell (p := ⟨w.heap.size + 1, 0, none⟩) (by show w.heap.size ≤ w.heap.size + 1; omega) _).setCell (p := ⟨w.heap.size + 1 + 1, 0, none⟩) (by show w.heap.size ≤ w.heap.size + 1 + 1; omega) _)
        have b3 : Boxed W2 (w.heap.size + 1) 3 (.int .i64 0) := by rw [hW2]; exact ((a3.set _).kept (grownBy_setCell' _ _ _) (fun e => by have := Option.some.inj e; omega))
        have b4 : Boxed W2 (w.heap.size + 1 + 1) 4 (.bool false) := by rw [hW2]; exact (a4.kept (grownBy_setCell' _ _ _) (fun e => by have := Option.some.inj e; omega)).set _
        have HW2 := Lib.hid hW2; have HK2 := Lib.hid hK2; have HC3 := Lib.hid b3; have HC4 := Lib.hid b4
        clear hno hB hK hW2 hK2 a3 a4 b3 b4
        go_wp2
        rw [← HW2.out]
        refine ⟨by simp, .inl ⟨_, _, rfl, run_takeDeferred HK2.out, ?_⟩⟩
        have hc3 := cell_kept HC3.out.cell (grownBy_putObj' _ D (.deferred none)) (fun r e => by cases e; exact ⟨_, HK2.out, rfl⟩)
        have hc4 := cell_kept HC4.out.cell (grownBy_putObj' _ D (.deferred none)) (fun r e => by cases e; exact ⟨_, HK2.out, rfl⟩)
        exact ⟨.tuple #[.int .i64 0, .bool false], by simp [results, Tryd.f25, go_sem, hc3, hc4], ret_ib HR.out.1.symm HR.out.2.symm, below_put _ HB2.out hDw HK2.out⟩
      case stop =>
        rintro D cd pre W hD hpre ⟨⟨⟨rfl, q, x, hqx, hno, ht⟩, ha3, ha4⟩, hB⟩ hK
        obtain ⟨k, hk, hz⟩ := hpre
        have hM := bw_hit hk (hz.symm.trans hqx) ht hno
        have h2 := HP2.out x.w (List.getElem_mem x.lt)
        have HR1 : Hid (lwV ps es wd n = x.w) := Lib.hid (HV.out.trans hM)
        have HR2 : Hid (lwB ps es wd n = true) := Lib.hid (by rw [HVB.out, HR1.out]; exact decide_eq_true (by omega))
        rw [hqx, lastB_snoc] at ha3
        have HC3 := Lib.hid ha3; have HC4 := Lib.hid ha4; have HK2 := Lib.hid hK; have HB2 := Lib.hid hB
        have hDw : w.heap.size ≤ D := by omega
        clear hM hqx hno ht ha3 ha4 hB hK hz h2
        gi_wp2
        refine ⟨by simp, .inl ⟨_, _, rfl, run_takeDeferred HK2.out, ?_⟩⟩
        have hc3 := cell_kept HC3.out.cell (grownBy_putObj' _ D (.deferred none)) (fun r e => by cases e; exact ⟨_, HK2.out, rfl⟩)
        have hc4 := cell_kept HC4.out.cell (grownBy_putObj' _ D (.deferred none)) (fun r e => by cases e; exact ⟨_, HK2.out, rfl⟩)
        exact ⟨.tuple #[.int .i64 x.w, .bool true], by simp [results, Tryd.f25, go_sem, hc3, hc4], ret_ib HR1.out.symm HR2.out.symm, below_put _ HB2.out hDw HK2.out⟩
end Go.Proofs.YtcbhhbcfnaekpaaDoor

/-
  A region that draws its order, what comes first only reads or calls what changes nothing below a block number; then one operation makes a block; then a tail in a forced order. What only reads may also come behind the making. One walk in the order of the text serves every order. (No function is named here.)
-/
import Derived.Test.YteagclokobkigaaBase
import Derived.StillTail
import Derived.CallsIn
import Derived.RangeFuncIn
import Derived.Shelf.RegionOpen
import Derived.TacticsInMore
namespace Go.Proofs.Yteagclokobkigaa
open Go.RowKit Go.Shelf
set_option linter.unusedVariables false

section
variable {P : Program} {ops : Array Oper} {md : Region.Mode}

/-- The worlds behind w that hold the promised new blocks. -/
def Prom (w : World) (s : Nat → Option Obj) (x : World) : Prop := Below w.heap.size w x ∧ ∀ p o, s p = some o → w.heap.size ≤ p ∧ x.heap[p]? = some o
def upd (s : Nat → Option Obj) (p : Nat) (o : Obj) : Nat → Option Obj := fun q => if q = p then some o else s q
theorem upd_comm (s : Nat → Option Obj) {p q : Nat} (o u : Obj) (h : p ≠ q) : upd (upd s p o) q u = upd (upd s q u) p o := by
  funext r
  unfold upd
  by_cases h1 : r = p <;> by_cases h2 : r = q <;> simp_all
theorem Prom.next {w x y : World} {s : Nat → Option Obj} (h : Prom w s x) (hb : Below x.heap.size x y) : Prom w s y :=
  ⟨h.1.trans (hb.mono h.1.size), fun p o hp => ⟨(h.2 p o hp).1, by
    have h2 := (h.2 p o hp).2
    exact (hb.block p (lt_of_heap h2)).trans h2⟩⟩
theorem Prom.alloc {w x : World} {s : Nat → Option Obj} (h : Prom w s x) (o : Obj) : s x.heap.size = none ∧ Prom w (upd s x.heap.size o) (x.alloc o) := by
  have h0 : s x.heap.size = none := by
    cases hs : s x.heap.size with
    | none => rfl
    | some u => have := lt_of_heap (h.2 _ _ hs).2; omega
  have h1 := h.next ((Below.refl x.heap.size x).alloc (Nat.le_refl _) o)
  refine ⟨h0, h1.1, fun p u hp => ?_⟩
  unfold upd at hp
  split at hp
  · rename_i e; subst e; cases hp; exact ⟨h.1.size, heap_new _ _⟩
  · exact h1.2 p u hp

/-- The operation makes a new block of this shape, and yields a value that tells which. -/
def MakesAt (P : Program) (ops : Array Oper) (o : Oper) (z : Obj) (f : Nat → Value) (a : Act) : Prop :=
  Region.wanted o (yielded ops a.tmps) = true ∧ ∀ w : World, (execOp a.eval o).run P w = .ok (.value (f w.heap.size)) (w.alloc z)

def YieldsP (P : Program) (ops : Array Oper) (w : World) (o : Oper) (v : Value) (a : Act) : Prop := ∀ s, YieldsIn P ops (Prom w s) o v a

/-- Whatever of the head comes up. -/
def headP (P : Program) (md : Region.Mode) (ops : Array Oper) (w : World) (n : Nat) (al : Nat → Option (Obj × (Nat → Value))) (L : Array Bool → Act → (Nat → Option Obj) → Prop) : Nat → Array Bool → Act → (Nat → Option Obj) → Prop
  | 0, listed, a, s => L listed a s
  | f + 1, listed, a, s =>
    Region.ready md ops listed ≠ [] ∧ ∀ i ∈ Region.ready md ops listed, i < n ∧ ∃ oi, ops[i]? = some oi ∧
      match al i with
      | none => ∃ v, YieldsP P ops w oi v a ∧ headP P md ops w n al L f (listed.setIfInBounds i true) (a.put oi.dst v) s
      | some z => MakesAt P ops oi z.1 z.2 a ∧ ∀ p, s p = none → headP P md ops w n al L f (listed.setIfInBounds i true) (a.put oi.dst (z.2 p)) (upd s p z.1)

theorem any_of_headP {n g : Nat} {w : World} {al : Nat → Option (Obj × (Nat → Value))} {L : Array Bool → Act → (Nat → Option Obj) → Prop} {Q' : Exit → Act → World → Prop} (hL : ∀ listed a s x, Prom w s x → L listed a s → wpAny P md ops Q' g listed a x) :
    ∀ (f : Nat) (listed : Array Bool) (a : Act) (s : Nat → Option Obj) (x : World), Prom w s x → headP P md ops w n al L f listed a s → wpAny P md ops Q' (f + g) listed a x
  | 0, listed, a, s, x, hx, h => by rw [Nat.zero_add]; exact hL _ _ _ _ hx h
  | f + 1, listed, a, s, x, hx, h => by
    rw [show f + 1 + g = (f + g) + 1 by omega]
    refine ⟨fun h0 => absurd h0 h.1, fun i hi => ?_⟩
    obtain ⟨_, oi, hoi, hm⟩ := h.2 i hi
    cases hal : al i with
    | none =>
      rw [hal] at hm
      obtain ⟨v, hy, hk⟩ := hm
      exact wpOp_of_qOp (C := Prom w s) (K := fun a' => headP P md ops w n al L f (listed.setIfInBounds i true) a' s) hx (fun a' w' hw' h' => any_of_headP hL f _ a' s w' hw' h') ((hy s).qOp hoi hk)
    | some z =>
      rw [hal] at hm
      obtain ⟨hmk, hk⟩ := hm
      obtain ⟨hw, hr⟩ := hmk
      unfold wpOp
      simp only [hoi, hw, if_true]
      left
      unfold Oper.wp
      rw [hr x]
      have h1 := hx.alloc z.1
      exact any_of_headP hL f _ _ _ _ h1.2 (hk _ h1.1)

theorem YieldsP.put {w : World} {oi oj : Oper} {v : Value} {a : Act} (hap : oi.apart ops oj = true) (hsi : ∀ cs b, oi.op ≠ .select cs b) (hy : YieldsP P ops w oi v a) (u : Value) : YieldsP P ops w oi v (a.put oj.dst u) := fun s =>
  (hy s).of_same (execOp_put oi hsi a oj.dst u (Oper.apart_spec hap).2.2) (wanted_put oi a oj.dst u (Oper.apart_spec hap).2.2)
theorem YieldsP.unput {w : World} {oi oj : Oper} {v u : Value} {a : Act} (hap : oi.apart ops oj = true) (hsj : ∀ cs b, oj.op ≠ .select cs b) (hy : YieldsP P ops w oj u (a.put oi.dst v)) : YieldsP P ops w oj u a := fun s =>
  (hy s).of_same (execOp_put oj hsj a oi.dst v (Oper.apart_spec hap).1).symm (wanted_put oj a oi.dst v (Oper.apart_spec hap).1).symm

theorem MakesAt.unput {w : World} {oi oj : Oper} {v : Value} {a : Act} {z : Obj} {f : Nat → Value} (hap : oi.apart ops oj = true) (hsj : ∀ cs b, oj.op ≠ .select cs b) (h : MakesAt P ops oj z f (a.put oi.dst v)) : MakesAt P ops oj z f a := by
  have e1 := execOp_put oj hsj a oi.dst v (Oper.apart_spec hap).1
  have e2 := wanted_put (ops := ops) oj a oi.dst v (Oper.apart_spec hap).1
  refine ⟨by rw [← e2]; exact h.1, fun w => by rw [← e1]; exact h.2 w⟩
theorem free_set {i j : Nat} {oi : Oper} {listed : Array Bool} (hjun : listed.getD j true = false)
    (hfree : ∀ j oj, ops[j]? = some oj → j ≠ i → listed.getD j true = false → (∀ e ∈ oj.after, Region.binds md e = true → e.on ≠ i) → oi.apart ops oj = true) :
    ∀ k ok, ops[k]? = some ok → k ≠ i → (listed.setIfInBounds j true).getD k true = false → (∀ e ∈ ok.after, Region.binds md e = true → e.on ≠ i) → oi.apart ops ok = true := fun k ok hk hki hun hno => by
  refine hfree k ok hk hki ?_ hno
  by_cases hjk : j = k
  · subst hjk; exact hjun
  · rw [getD_set_ne true hjk] at hun; exact hun
theorem not_on {i j : Nat} {oj : Oper} {listed : Array Bool} (hr : i ∈ Region.ready md ops listed) (hall : ∀ e ∈ oj.after, Region.binds md e = true → listed.getD e.on false = true) :
    ∀ e ∈ oj.after, Region.binds md e = true → e.on ≠ i := fun e he hb heq => by
  have h1 := hall e he hb
  rw [heq, getD_both (mem_ready.1 hr).1] at h1
  cases h1

theorem headP_first {n i : Nat} {w : World} {oi : Oper} {v : Value} {al : Nat → Option (Obj × (Nat → Value))} {L : Array Bool → Act → (Nat → Option Obj) → Prop} (hi : ops[i]? = some oi) (hali : al i = none)
    (hsel : ∀ (j : Nat) (o : Oper) cs b, ops[j]? = some o → o.op ≠ .select cs b)
    (hs : Region.sinkB md ops n = true) (hc : Region.chainB md ops n = true) (hn : n < ops.size) (hin : i < n)
    (hdone : ∀ listed a s, L listed a s → ∀ j ∈ Region.ready md ops listed, n ≤ j) :
    ∀ (f : Nat) (listed : Array Bool) (a : Act) (s : Nat → Option Obj), HeadInv md ops n listed →
      (∀ j oj, ops[j]? = some oj → j ≠ i → listed.getD j true = false → (∀ e ∈ oj.after, Region.binds md e = true → e.on ≠ i) → oi.apart ops oj = true) →
      i ∈ Region.ready md ops listed → YieldsP P ops w oi v a →
      headP P md ops w n al L f (listed.setIfInBounds i true) (a.put oi.dst v) s → headP P md ops w n al L (f + 1) listed a s := by
  intro f
  induction f with
  | zero =>
    intro listed a s inv _ hr hy H
    have hun := (mem_ready.1 hr).1
    refine ⟨fun h => (by rw [h] at hr; cases hr), fun j hj => ?_⟩
    have hjn : j < n := by
      rcases Nat.lt_or_ge j n with h | h
      · exact h
      · exact absurd hj (tail_waits hs hc hn inv _ i rfl hin hun j h)
    refine ⟨hjn, ?_⟩
    by_cases hji : j = i
    · subst hji; refine ⟨oi, hi, ?_⟩; rw [hali]; exact ⟨v, hy, H⟩
    · have := hdone _ _ _ H j (ready_mono hj hji)
      omega
  | succ f ih =>
    intro listed a s inv hfree hr hy H
    have hun := (mem_ready.1 hr).1
    refine ⟨fun h => (by rw [h] at hr; cases hr), fun j hj => ?_⟩
    have hjn : j < n := by
      rcases Nat.lt_or_ge j n with h | h
      · exact h
      · exact absurd hj (tail_waits hs hc hn inv _ i rfl hin hun j h)
    refine ⟨hjn, ?_⟩
    by_cases hji : j = i
    · subst hji; refine ⟨oi, hi, ?_⟩; rw [hali]; exact ⟨v, hy, H⟩
    · obtain ⟨_, oj, hoj, hm⟩ := H.2 j (ready_mono hj hji)
      obtain ⟨hjun, oj', hoj', hall⟩ := mem_ready.1 hj
      obtain rfl : oj = oj' := Option.some.inj (hoj.symm.trans hoj')
      have hap := hfree j oj hoj hji hjun (not_on (j := j) hr hall)
      have hput : ∀ u, (a.put oi.dst v).put oj.dst u = (a.put oj.dst u).put oi.dst v := fun u => Act.put_comm a v u (Oper.apart_spec hap).2.1
      have hgo : ∀ u s', headP P md ops w n al L f ((listed.setIfInBounds i true).setIfInBounds j true) ((a.put oi.dst v).put oj.dst u) s' → headP P md ops w n al L (f + 1) (listed.setIfInBounds j true) (a.put oj.dst u) s' := fun u s' hh => by
        refine ih (listed.setIfInBounds j true) _ s' (inv.set hj hjn) (free_set hjun hfree) (ready_mono hr (Ne.symm hji)) (hy.put hap (fun cs b => hsel i oi cs b hi) u) ?_
        rw [Array.setIfInBounds_comm _ _ hji, ← hput u]
        exact hh
      refine ⟨oj, hoj, ?_⟩
      cases hal : al j with
      | none =>
        rw [hal] at hm
        obtain ⟨u, hyj, hk⟩ := hm
        exact ⟨u, hyj.unput hap (fun cs b => hsel j oj cs b hoj), hgo u s hk⟩
      | some z =>
        rw [hal] at hm
        exact ⟨hm.1.unput (w := w) hap (fun cs b => hsel j oj cs b hoj), fun p hp => hgo _ _ (hm.2 p hp)⟩

theorem headP_make {n i : Nat} {w : World} {oi : Oper} {z : Obj × (Nat → Value)} {al : Nat → Option (Obj × (Nat → Value))} {L : Array Bool → Act → (Nat → Option Obj) → Prop} {a : Act} (hi : ops[i]? = some oi) (hali : al i = some z) (hmk : MakesAt P ops oi z.1 z.2 a)
    (hs : Region.sinkB md ops n = true) (hc : Region.chainB md ops n = true) (hn : n < ops.size) (hin : i < n) (hone : ∀ j, al j ≠ none → j = i)
    (f : Nat) (listed : Array Bool) (s : Nat → Option Obj) (inv : HeadInv md ops n listed) (hq : ∀ j, j < n → al j = none → listed.getD j true = true) (hr : i ∈ Region.ready md ops listed)
    (H : ∀ p, s p = none → headP P md ops w n al L f (listed.setIfInBounds i true) (a.put oi.dst (z.2 p)) (upd s p z.1)) : headP P md ops w n al L (f + 1) listed a s := by
  have hun := (mem_ready.1 hr).1
  refine ⟨fun h => (by rw [h] at hr; cases hr), fun j hj => ?_⟩
  have hjn : j < n := by
    rcases Nat.lt_or_ge j n with h | h
    · exact h
    · exact absurd hj (tail_waits hs hc hn inv _ i rfl hin hun j h)
  refine ⟨hjn, ?_⟩
  have hji : j = i := by
    by_cases hal : al j = none
    · have h1 := (mem_ready.1 hj).1
      rw [hq j hjn hal] at h1; cases h1
    · exact hone j hal
  subst hji
  refine ⟨oi, hi, ?_⟩
  rw [hali]
  exact ⟨hmk, H⟩

/-- The walk in the order of the text: numbers k, k + 1 .. -/
def walkP (P : Program) (ops : Array Oper) (w : World) (al : Nat → Option (Obj × (Nat → Value))) (L : Act → (Nat → Option Obj) → Prop) : List Oper → Nat → Act → (Nat → Option Obj) → Prop
  | [], _, a, s => L a s
  | o :: l, k, a, s =>
    match al k with
    | none => ∃ v, YieldsP P ops w o v a ∧ walkP P ops w al L l (k + 1) (a.put o.dst v) s
    | some z => MakesAt P ops o z.1 z.2 a ∧ ∀ p, s p = none → walkP P ops w al L l (k + 1) (a.put o.dst (z.2 p)) (upd s p z.1)

theorem headP_lex {n g : Nat} {w : World} {al : Nat → Option (Obj × (Nat → Value))} {L : Act → (Nat → Option Obj) → Prop} (hsel : Region.noSelect ops = true) (hs : Region.sinkB md ops n = true) (hc : Region.chainB md ops n = true) (hn : n < ops.size)
    (hlast : ∀ i j, i ≤ j → j < n → al i ≠ none → al j ≠ none) (hone : ∀ i j, al i ≠ none → al j ≠ none → j = i) :
    ∀ (l : List Oper) (k : Nat) (listed : Array Bool) (a : Act) (s : Nat → Option Obj), (∀ j, j < l.length → l[j]? = ops[k + j]?) → k + l.length = n → HeadInv md ops n listed →
    Region.lexHead md ops g l.length k listed = true → (∀ j, j < k → listed.getD j true = true) → (∃ N, ∀ p, N ≤ p → s p = none) → walkP P ops w al L l k a s →
    headP P md ops w n al (fun listed' a' s' => Region.seqB md ops g n listed' = true ∧ L a' s') l.length listed a s
  | [], k, listed, a, s, _, hk, _, hB, _, _, h => by
    have : k = n := by simpa using hk
    subst this
    exact ⟨by simpa [Region.lexHead] using hB, h⟩
  | o :: l, k, listed, a, s, hl, hk, inv, hB, hlt, hfin, h => by
    have h0 : ops[k]? = some o := by simpa using (hl 0 (by simp)).symm
    simp only [List.length_cons, Region.lexHead, Bool.and_eq_true] at hB
    obtain ⟨⟨hr, hf⟩, hB'⟩ := hB
    have hkn : k < n := by simp only [List.length_cons] at hk; omega
    have hr' : k ∈ Region.ready md ops listed := by simpa using hr
    have hl' : ∀ j, j < l.length → l[j]? = ops[k + 1 + j]? := fun j hj => by have := hl (j + 1) (by simp; omega); simpa [Nat.add_assoc, Nat.add_comm 1 j] using this
    have hk' : k + 1 + l.length = n := by simp only [List.length_cons] at hk; omega
    have hlt' : ∀ j, j < k + 1 → (listed.setIfInBounds k true).getD j true = true := fun j hj => by
      by_cases hjk : k = j
      · subst hjk
        by_cases hsz : k < listed.size <;> simp [Array.getD, hsz]
      · rw [getD_set_ne true hjk]; exact hlt j (by omega)
    simp only [walkP] at h
    cases hal : al k with
    | none =>
      rw [hal] at h
      obtain ⟨v, hy, hK⟩ := h
      exact headP_first h0 hal (Region.noSelect_spec hsel) hs hc hn hkn (fun _ _ _ hL => seqB_ready hL.1) l.length listed a s inv (Region.free_spec h0 hf) hr' hy
        (headP_lex hsel hs hc hn hlast hone l (k + 1) _ _ _ hl' hk' (inv.set hr' hkn) hB' hlt' hfin hK)
    | some z =>
      rw [hal] at h
      exact headP_make h0 hal h.1 hs hc hn hkn (fun j hj => hone k j (by rw [hal]; simp) hj) l.length listed s inv
        (fun j hj hjn => hlt j (by
          rcases Nat.lt_or_ge j k with h1 | h1
          · exact h1
          · exact absurd hjn (hlast k j h1 hj (by rw [hal]; simp)))) hr'
        (fun p hp => headP_lex hsel hs hc hn hlast hone l (k + 1) _ _ _ hl' hk' (inv.set hr' hkn) hB' hlt' (by
          obtain ⟨N, hN⟩ := hfin
          exact ⟨max N (p + 1), fun q hq => by unfold upd; rw [if_neg (by omega)]; exact hN q (by omega)⟩) (h.2 p hp))

theorem quietAt_mono {o : Oper} {a : Act} {C D : World → Prop} {w : World} {v : Value} (h : ∀ y, C y → D y) (hq : o.quietAt P a C w v) : o.quietAt P a D w v := by
  unfold Oper.quietAt at *
  generalize (execOp a.eval o).run P w = r at *
  cases r with
  | ok n w' =>
    cases n <;> simp only [Oper.quietUpon] at hq ⊢
    case value => exact hq
    case skip => exact hq
    case enter => exact ⟨hq.1, hq.2.mono fun e w'' he => ⟨he.1, h _ he.2⟩⟩
  | halt x w' => simp only [Oper.quietUpon] at hq

/-- The worlds behind x that are as x was below its size. -/
def After (x : World) : World → Prop := fun y => ∃ k : KeptW x.heap.size x, y = k.at_
theorem slot_put {a : Act} {d e : Nat} {v : Value} (h : d ≠ e) : (a.put (some d) v).tmps[e]? = a.tmps[e]? := by
  simp [Act.put, h]
theorem slot_kept {C : World → Prop} {z : Act} {e : Nat} : ∀ (l : List Oper) (b : Act), (∀ o ∈ l, o.dst ≠ some e) → wpQuiet P ops C (fun x => x = z) l b → z.tmps[e]? = b.tmps[e]?
  | [], b, _, h => by rw [show b = z from h]
  | o :: l, b, hd, h => by
    have h1 : o.dst ≠ some e := hd o (by simp)
    have hput : ∀ v, (b.put o.dst v).tmps[e]? = b.tmps[e]? := fun v => by
      cases hdst : o.dst with
      | none => rfl
      | some d => exact slot_put (fun hh => h1 (by rw [hdst, hh]))
    simp only [wpQuiet] at h
    split at h
    · obtain ⟨v, _, hr⟩ := h
      exact (slot_kept l _ (fun o ho => hd o (by simp [ho])) hr).trans (hput v)
    · exact (slot_kept l _ (fun o ho => hd o (by simp [ho])) h).trans (hput _)
/-- Each operation yields into a slot of its own, of a frame of this size. -/
def slotsB (size : Nat) : List Oper → Bool
  | [] => true
  | o :: l => (match o.dst with | some d => decide (d < size) && l.all (fun u => u.dst != some d) | none => false) && slotsB size l

theorem walk_quiet {w : World} {al : Nat → Option (Obj × (Nat → Value))} {L : Act → (Nat → Option Obj) → Prop} {z : Act} {s : Nat → Option Obj} {l2 : List Oper} :
    ∀ (l : List Oper) (k : Nat) (a : Act), (∀ j, k ≤ j → j < k + l.length → al j = none) → slotsB a.tmps.size l = true →
    (∀ x : KeptW w.heap.size w, wpQuiet P ops (After x.at_) (fun b => b = z) l a) → walkP P ops w al L l2 (k + l.length) z s → walkP P ops w al L (l ++ l2) k a s
  | [], k, a, _, _, hq, h => by
    have e : a = z := hq ⟨w, Below.refl _ _⟩
    rw [e]; exact h
  | o :: l, k, a, hal, hsl, hq, h => by
    simp only [List.cons_append, walkP]
    rw [hal k (Nat.le_refl _) (by simp)]
    simp only [slotsB, Bool.and_eq_true] at hsl
    obtain ⟨hd, hsl⟩ := hsl
    cases hdst : o.dst with
    | none => rw [hdst] at hd; cases hd
    | some d =>
      rw [hdst] at hd
      simp only [Bool.and_eq_true, decide_eq_true_eq] at hd
      obtain ⟨hds, hne⟩ := hd
      have hne' : ∀ u ∈ l, u.dst ≠ some d := fun u hu => by
        have := List.all_eq_true.1 hne u hu
        simpa using this
      have hval : ∀ C v, wpQuiet P ops C (fun b => b = z) l (a.put (some d) v) → z.tmps[d]? = some v := fun C v hh => by
        rw [slot_kept l _ hne' hh]
        simp [Act.put, hds]
      have hsz : ∀ v, (a.put (some d) v).tmps.size = a.tmps.size := fun v => by simp [Act.put]
      by_cases hw : Region.wanted o (yielded ops a.tmps) = true
      · have hq' : ∀ x : KeptW w.heap.size w, ∃ v, (∀ y, After x.at_ y → o.quietAt P a (After x.at_) y v) ∧ wpQuiet P ops (After x.at_) (fun b => b = z) l (a.put o.dst v) := fun x => by
          have := hq x
          simp only [wpQuiet, hw, if_true] at this
          exact this
        obtain ⟨v, _, hv⟩ := hq' ⟨w, Below.refl _ _⟩
        rw [hdst] at hv
        have hz := hval _ v hv
        have huni : ∀ x : KeptW w.heap.size w, (∀ y, After x.at_ y → o.quietAt P a (After x.at_) y v) ∧ wpQuiet P ops (After x.at_) (fun b => b = z) l (a.put (some d) v) := fun x => by
          obtain ⟨u, h1, h2⟩ := hq' x
          rw [hdst] at h2
          have := hval _ u h2
          rw [hz] at this
          obtain rfl : v = u := Option.some.inj this
          exact ⟨h1, h2⟩
        refine ⟨v, fun s' => .inl ⟨hw, fun y hy => ?_⟩, walk_quiet l (k + 1) _ (fun j h1 h2 => hal j (by omega) (by simp; omega)) (by rw [hsz]; exact hsl) (fun x => (huni x).2) (by rw [show k + 1 + l.length = k + (o :: l).length from by simp; omega]; exact h)⟩
        refine quietAt_mono (fun u hu => ?_) ((huni ⟨y, hy.1⟩).1 y ⟨⟨y, Below.refl _ _⟩, rfl⟩)
        obtain ⟨k, rfl⟩ := hu
        exact hy.next k.below
      · have hw' : Region.wanted o (yielded ops a.tmps) = false := by simpa using hw
        refine ⟨undef, fun s' => .inr ⟨hw', rfl⟩, walk_quiet l (k + 1) _ (fun j h1 h2 => hal j (by omega) (by simp; omega)) (by rw [hsz]; exact hsl) (fun x => ?_) (by rw [show k + 1 + l.length = k + (o :: l).length from by simp; omega]; exact h)⟩
        have := hq x
        simp only [wpQuiet, hw', hdst] at this
        exact this

end
section
variable {P : Program} {n r : Nat} {ops : Array Oper} {Q : Exit → Act → World → Prop} {md : Region.Mode}
theorem rowsIn_wide {row : String} {args : Array Value} {w : World} {R : Value → World → Prop} (h : Rows P row args w R) : RowsIn Fence.wide n P row args w R := fun c cs _ =>
  let ⟨v, w', h1, h2⟩ := h c cs
  ⟨v, w', h1, stepsIn_wide.2 h2⟩
theorem oper_wide {o : Oper} {a : Act} {w : World} {K : Act → World → Prop} (h : o.wp P a w K Q) : o.wpIn Fence.wide n P a w K Q := by
  refine ⟨fun _ _ => trivial, ?_⟩
  show o.uponIn Fence.wide n P a K Q ((execOp a.eval o).run P w)
  unfold Oper.wp at h
  generalize (execOp a.eval o).run P w = x at *
  cases x with
  | ok nx w' =>
    cases nx <;> first | exact h | exact ⟨fun hd => (by cases hd), callsIn_wide.2 h⟩ | exact ⟨fun hd => (by cases hd), rowsIn_wide h⟩ | exact h.elim
  | halt x w' => cases x <;> exact h
theorem op_wide (hQ : ¬ LetsOut Q) {i : Nat} {a : Act} {w : World} {K K' : Act → World → Prop} (hK : ∀ a w, K a w → K' a w) (h : wpOp P ops Q i K a w) : wpOpIn Fence.wide n P ops Q i K' a w := by
  unfold wpOp at h
  unfold wpOpIn
  cases ho : ops[i]? with
  | none => simp only [ho] at h ⊢; exact hK _ _ h
  | some o =>
    simp only [ho] at h ⊢
    split
    · rename_i hw
      rw [if_pos hw] at h
      rcases h with h | h
      · exact oper_wide (Oper.wp_mono hK h)
      · exact absurd h.2 hQ
    · rename_i hw; rw [if_neg hw] at h; exact ⟨fun _ _ => trivial, hK _ _ h⟩
theorem any_wide (hQ : ¬ LetsOut Q) : ∀ (fuel : Nat) (listed : Array Bool) (a : Act) (w : World), wpAny P md ops Q fuel listed a w → wpAnyIn Fence.wide n P md ops Q fuel listed a w
  | 0, _, _, _, h => h
  | fuel + 1, listed, a, w, h => ⟨h.1, fun i hi => op_wide hQ (any_wide hQ fuel _) (h.2 i hi)⟩
/-- m quiet operations, one that makes a block, then the tail. -/
theorem any_make (m : Nat) (zo : Obj) (f : Nat → Value) {o : Oper} {a z : Act} {w : World} {l : List Oper} (ho : l[m]? = some o) (hB : Region.lexTailB .any l.toArray (m + 1) = true) (hsl : slotsB a.tmps.size (l.take m) = true)
    (hq : ∀ x : KeptW w.heap.size w, wpQuiet P l.toArray (After x.at_) (fun b => b = z) (l.take m) a)
    (hmk : MakesAt P l.toArray o zo f z)
    (ht : ∀ p x, Below w.heap.size w x → w.heap.size ≤ p → x.heap[p]? = some zo → wpList P l.toArray Q (l.drop (m + 1)) (z.put o.dst (f p)) x) : wpAny P .any l.toArray Q l.toArray.size (Array.replicate l.toArray.size false) a { w with drawn := w.drawn + 1 } := by
  simp only [Region.lexTailB, Bool.and_eq_true, decide_eq_true_eq] at hB
  obtain ⟨⟨⟨⟨hsel, hn⟩, hs⟩, hc⟩, hlex⟩ := hB
  have hn' : m + 1 < l.length := by simpa using hn
  have htl : (l.take (m + 1)).length = m + 1 := by simp; omega
  have hml : (l.take m).length = m := by simp; omega
  have hdl : (l.drop (m + 1)).length = l.toArray.size - (m + 1) := by simp
  have inv0 : HeadInv .any l.toArray (m + 1) (Array.replicate l.toArray.size false) :=
    ⟨by simp, fun j oj _ hl => (by rw [getD_replicate_false] at hl; cases hl), fun t _ ht => getD_in (by simpa using ht) (getD_replicate_false _ _)⟩
  have hwk := walk_quiet (P := P) (ops := l.toArray) (w := w) (al := fun i => if i = m then some (zo, f) else none) (L := fun a' (s : Nat → Option Obj) => ∀ x, Prom w s x → wpList P l.toArray Q (l.drop (m + 1)) a' x) (z := z) (s := fun _ => none) (l2 := [o]) (l.take m) 0 a
    (fun j _ hj => by rw [hml] at hj; exact if_neg (by omega)) hsl hq (by
      rw [hml, Nat.zero_add]
      simp only [walkP, if_true]
      exact ⟨hmk, fun p hp x hx => by
        obtain ⟨h1, h2⟩ := hx.2 p zo (by simp [upd])
        exact ht p x hx.1 h1 h2⟩)
  have hsp : l.take m ++ [o] = l.take (m + 1) := by
    obtain ⟨hm1, rfl⟩ := List.getElem?_eq_some_iff.1 ho
    exact (List.take_succ_eq_append_getElem hm1).symm
  rw [hsp] at hwk
  have H := headP_lex (md := .any) (g := l.toArray.size - (m + 1)) hsel hs hc hn (fun i j hij hj hi => by
      by_cases h1 : i = m
      · have h2 : j = m := by omega
        simp [h2]
      · simp [h1] at hi) (fun i j hi hj => by
      have h1 : i = m := by by_cases h : i = m; · exact h
                            · simp [h] at hi
      have h2 : j = m := by by_cases h : j = m; · exact h
                            · simp [h] at hj
      omega) (l.take (m + 1)) 0 _ a (fun _ => none) (fun j hj => by
    have hj' : j < m + 1 := by rw [htl] at hj; exact hj
    simp [hj']) (by simpa using htl) inv0 (by rw [htl]; exact hlex) (fun j hj => by omega) ⟨0, fun _ _ => rfl⟩ hwk
  have hP : Prom w (fun _ => none) { w with drawn := w.drawn + 1 } := ⟨(Below.refl _ _).drew, fun p o h => by cases h⟩
  have := any_of_headP (Q' := Q) (g := l.toArray.size - (m + 1)) (fun listed a' s x hx hL => by
    have := wpAny_of_seq (md := .any) (Q' := Q) (l.drop (m + 1)) (m + 1) listed a' x (fun j => by simp [List.getElem?_drop]) (by rw [hdl]; exact hL.1) (hL.2 x hx)
    rwa [hdl] at this) _ _ _ _ _ hP H
  rw [htl, show m + 1 + (l.toArray.size - (m + 1)) = l.toArray.size by omega] at this
  exact this
theorem region_make (m : Nat) (zo : Obj) (f : Nat → Value) {o : Oper} {id : Nat} {a z : Act} {w : World} {l : List Oper} (ho : l[m]? = some o) (hm : P.follows .mixedOrders = true) (hB : Region.lexTailB .any l.toArray (m + 1) = true) (hsl : slotsB a.tmps.size (l.take m) = true)
    (hq : ∀ x : KeptW w.heap.size w, wpQuiet P l.toArray (After x.at_) (fun b => b = z) (l.take m) a)
    (hmk : MakesAt P l.toArray o zo f z)
    (ht : ∀ p x, Below w.heap.size w x → w.heap.size ≤ p → x.heap[p]? = some zo → wpList P l.toArray Q (l.drop (m + 1)) (z.put o.dst (f p)) x) : (Code.region id l.toArray true).wp P Q a w :=
  wp_region_any hm (any_make m zo f ho hB hsl hq hmk ht)
end
end Go.Proofs.Yteagclokobkigaa

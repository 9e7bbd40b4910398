/-
  Orders of castings, searched: the plain words of the search, of what one visits, and the contracts of slices.Clone at ints and of spec.l1Own.
-/
import Derived.Test.YtpocghcdfpcedaaKj
import Derived.OwnWalk
import Derived.Maps.AppendAt
import Derived.Lib.SliceRun
import Derived.Deep.Upon
namespace Go.Proofs.Ytpocghcdfpcedaa
open Go.RowKit
set_option linter.unusedVariables false

section
variable {σ : Type}
def foldN (g : Nat → σ → σ) : Nat → σ → σ
  | 0, s => s
  | k + 1, s => g k (foldN g k s)
/-- One round for each casting that is not yet in the order. -/
def lpF (rec : List Int → σ → σ) (o : List Int) : Nat → σ → σ := foldN fun i s => if hasB o (i : Int) = true then s else rec (o ++ [(i : Int)]) s
/-- The search behind an order: d rounds deep at most. -/
def rc (vis : σ → List Int → Int → σ × Bool) (tm : List Int → Int) (n : Nat) : Nat → List Int → σ → σ
  | 0 => fun _ s => s
  | d + 1 => fun o s => if (vis s o (tm o)).2 = true then lpF (rc vis tm n d) o n (vis s o (tm o)).1 else (vis s o (tm o)).1
theorem rc_no {vis : σ → List Int → Int → σ × Bool} {tm : List Int → Int} {n d : Nat} {o : List Int} {s : σ} (h : (vis s o (tm o)).2 = false) : rc vis tm n (d + 1) o s = (vis s o (tm o)).1 := by
  show (if _ then _ else _) = _; rw [if_neg (by rw [h]; decide)]
theorem rc_yes {vis : σ → List Int → Int → σ × Bool} {tm : List Int → Int} {n d : Nat} {o : List Int} {s : σ} (h : (vis s o (tm o)).2 = true) : rc vis tm n (d + 1) o s = lpF (rc vis tm n d) o n (vis s o (tm o)).1 := by
  show (if _ then _ else _) = _; rw [if_pos h]
theorem lpF_skip {rec : List Int → σ → σ} {o : List Int} {k : Nat} {s : σ} (h : hasB o (k : Int) = true) : lpF rec o (k + 1) s = lpF rec o k s := by
  show (if _ then _ else _) = _; rw [if_pos h]; rfl
theorem lpF_step {rec : List Int → σ → σ} {o : List Int} {k : Nat} {s : σ} (h : hasB o (k : Int) = false) : lpF rec o (k + 1) s = rec (o ++ [(k : Int)]) (lpF rec o k s) := by
  show (if _ then _ else _) = _; rw [if_neg (by rw [h]; decide)]; rfl
end

/-- Different indices of n castings. -/
def OkO (n : Nat) (o : List Int) : Prop := o.Nodup ∧ ∀ x ∈ o, ∃ j : Nat, x = (j : Int) ∧ j < n
theorem okO_nil (n : Nat) : OkO n [] := ⟨List.nodup_nil, fun x h => by cases h⟩
theorem hasB_iff (l : List Int) (a : Int) : hasB l a = true ↔ a ∈ l := by
  unfold hasB
  rw [List.any_eq_true]
  constructor
  · rintro ⟨x, hx, e⟩
    have : x = a := by simpa using e
    exact this ▸ hx
  · intro h
    exact ⟨a, h, by simp⟩
theorem hasB_no {l : List Int} {a : Int} (h : hasB l a = false) : a ∉ l := fun hm => by rw [(hasB_iff l a).2 hm] at h; cases h
theorem okO_snoc {n : Nat} {o : List Int} {i : Nat} (h : OkO n o) (hi : i < n) (hno : hasB o (i : Int) = false) : OkO n (o ++ [(i : Int)]) := by
  refine ⟨?_, fun x hx => ?_⟩
  · rw [List.nodup_append]
    refine ⟨h.1, by simp, fun a ha b hb e => ?_⟩
    have hb' : b = (i : Int) := by simpa using hb
    rw [hb'] at e
    exact hasB_no hno (e ▸ ha)
  · rw [List.mem_append] at hx
    rcases hx with hx | hx
    · exact h.2 x hx
    · exact ⟨i, by simpa using hx, hi⟩
theorem okO_len : ∀ (n : Nat) (o : List Int), OkO n o → o.length ≤ n
  | 0, [], _ => Nat.le_refl _
  | 0, x :: r, h => by obtain ⟨j, _, hj⟩ := h.2 x (by simp); omega
  | n + 1, o, h => by
    by_cases hm : (n : Int) ∈ o
    · have h2 : OkO n (o.erase (n : Int)) := by
        refine ⟨h.1.erase _, fun x hx => ?_⟩
        obtain ⟨hne, hx2⟩ := (List.Nodup.mem_erase_iff h.1).1 hx
        obtain ⟨j, e, hj⟩ := h.2 x hx2
        exact ⟨j, e, by omega⟩
      have ih := okO_len n _ h2
      rw [List.length_erase_of_mem hm] at ih
      omega
    · have h2 : OkO n o := ⟨h.1, fun x hx => by
        obtain ⟨j, e, hj⟩ := h.2 x hx
        refine ⟨j, e, ?_⟩
        rcases Nat.lt_or_ge j n with h3 | h3
        · exact h3
        · have : j = n := by omega
          subst this
          exact absurd (e ▸ hx) hm⟩
      have ih := okO_len n o h2
      omega
theorem okO_room {n : Nat} {o : List Int} {i : Nat} (h : OkO n o) (hi : i < n) (hno : hasB o (i : Int) = false) : o.length + 1 ≤ n := by
  have := okO_len n _ (okO_snoc h hi hno)
  simpa using this
theorem okO_in {f : List Ca} {o : List Int} (h : OkO f.length o) : InO f o := fun k hk => h.2 _ (List.getElem_mem hk)

/-- All blocks of w but those of E are as they were. -/
structure Kep (E : Nat → Prop) (w w' : World) : Prop where
  os : w'.os = w.os
  tape : w'.tape = w.tape
  output : w'.output = w.output
  size : w.heap.size ≤ w'.heap.size
  block : ∀ k, k < w.heap.size → ¬ E k → w'.heap[k]? = w.heap[k]?
theorem Kep.refl (E : Nat → Prop) (w : World) : Kep E w w := ⟨rfl, rfl, rfl, Nat.le_refl _, fun _ _ _ => rfl⟩
theorem Kep.trans {E : Nat → Prop} {a b c : World} (h : Kep E a b) (k : Kep E b c) : Kep E a c :=
  ⟨k.os.trans h.os, k.tape.trans h.tape, k.output.trans h.output, Nat.le_trans h.size k.size, fun i hi hne => (k.block i (Nat.lt_of_lt_of_le hi h.size) hne).trans (h.block i hi hne)⟩
theorem Kep.next {E : Nat → Prop} {a b c : World} (h : Kep E a b) (k : Below b.heap.size b c) : Kep E a c :=
  ⟨k.os.trans h.os, k.tape.trans h.tape, k.output.trans h.output, Nat.le_trans h.size k.size, fun i hi hne => (k.block i (Nat.lt_of_lt_of_le hi h.size)).trans (h.block i hi hne)⟩
theorem Kep.alloc {E : Nat → Prop} {a b : World} (h : Kep E a b) (o : Obj) : Kep E a (b.alloc o) := h.next ((Below.refl _ _).alloc (Nat.le_refl _) _)
theorem Kep.set {E : Nat → Prop} {a b : World} (h : Kep E a b) {p : Nat} (hp : E p ∨ a.heap.size ≤ p) (i : Nat) (v : Value) : Kep E a (b.setCell ⟨p, i, none⟩ v) :=
  ⟨h.os, h.tape, h.output, by simpa [World.setCell] using h.size, fun k hk hne => (Below.heap_setCell b ⟨p, i, none⟩ v k (fun e => by
    have e' : k = p := e
    rcases hp with hp | hp
    · exact hne (e' ▸ hp)
    · omega)).trans (h.block k hk hne)⟩
theorem Kep.grown {E : Nat → Prop} {a b c : World} {row : Option Nat} (h : Kep E a b) (hg : b.grownBy c row) (hr : ∀ k, row = some k → E k ∨ a.heap.size ≤ k) : Kep E a c :=
  ⟨hg.os.trans h.os, hg.tape.trans h.tape, hg.output.trans h.output, Nat.le_trans h.size hg.size, fun i hi hne => (hg.block i (Nat.lt_of_lt_of_le hi h.size) (fun e => by rcases hr i e.symm with h2 | h2; exact hne h2; omega)).trans (h.block i hi hne)⟩
theorem Kep.mono {E F : Nat → Prop} {a b : World} (h : Kep E a b) (hE : ∀ k, E k → F k) : Kep F a b := ⟨h.os, h.tape, h.output, h.size, fun k hk hne => h.block k hk fun e => hne (hE k e)⟩
theorem Kep.below {E : Nat → Prop} {a b : World} (h : Kep E a b) {B : Nat} (hB : B ≤ a.heap.size) (hE : ∀ k, E k → B ≤ k) : Below B a b :=
  ⟨h.os, h.tape, h.output, h.size, fun k hk => h.block k (Nat.lt_of_lt_of_le hk hB) fun e => by have := hE k e; omega⟩
theorem Kep.of {E : Nat → Prop} {a b : World} (h : Below a.heap.size a b) : Kep E a b := (Kep.refl E a).next h
theorem Kep.heap {E : Nat → Prop} {a b : World} (h : Kep E a b) {k : Nat} {o : Obj} (ho : a.heap[k]? = some o) (hne : ¬ E k) : b.heap[k]? = some o := (h.block k (lt_of_heap ho) hne).trans ho
theorem Kep.owns {E : Nat → Prop} {a b : World} (h : Kep E a b) {base size n : Nat} {e : TypeId} {v : Value} {xs : List Value} (ho : a.ownsRow base e size v n xs) (hne : ∀ k, v.ownBlock = some k → ¬ E k) : b.ownsRow base e size v n xs := by
  refine ⟨ho.1, ho.2.imp id ?_⟩
  rintro ⟨g, cap, cur, hv, hg, hh, h1, h2, h3, h4⟩
  exact ⟨g, cap, cur, hv, hg, h.heap hh (hne g (by rw [hv]; rfl)), h1, h2, h3, h4⟩
/-- A box of one value. -/
def Box1 (w : World) (p : Nat) (t : TypeId) (v : Value) : Prop := w.heap[p]? = some (.cells #[v] t (0, 0))
theorem Box1.cell {w : World} {p : Nat} {t : TypeId} {v : Value} (h : Box1 w p t v) : w.cell? ⟨p, 0, none⟩ = some v := by rw [cell_of_heap h]; rfl
theorem Box1.free {w : World} {p : Nat} {t : TypeId} {v : Value} (h : Box1 w p t v) : w.frozen? ⟨p, 0, none⟩ = false := free_of_heap h 0
theorem Box1.lt {w : World} {p : Nat} {t : TypeId} {v : Value} (h : Box1 w p t v) : p < w.heap.size := lt_of_heap h
theorem Box1.set {w : World} {p : Nat} {t : TypeId} {v : Value} (h : Box1 w p t v) (u : Value) : Box1 (w.setCell ⟨p, 0, none⟩ u) p t u := by
  unfold Box1 at *; rw [heap_set h]; simp
theorem Box1.far {w : World} {p q i : Nat} {t : TypeId} {v : Value} (h : Box1 w p t v) (hne : p ≠ q) (u : Value) : Box1 (w.setCell ⟨q, i, none⟩ u) p t v := heap_far h hne u
theorem Box1.next {w w' : World} {p : Nat} {t : TypeId} {v : Value} (h : Box1 w p t v) (hb : Below w.heap.size w w') : Box1 w' p t v := (hb.block p h.lt).trans h
theorem Box1.alloc {w : World} {p : Nat} {t : TypeId} {v : Value} (h : Box1 w p t v) (o : Obj) : Box1 (w.alloc o) p t v := h.next ((Below.refl _ _).alloc (Nat.le_refl _) _)
theorem Box1.kep {E : Nat → Prop} {w w' : World} {p : Nat} {t : TypeId} {v : Value} (h : Box1 w p t v) (hk : Kep E w w') (hne : ¬ E p) : Box1 w' p t v := hk.heap h hne
theorem Box1.grown {w w' : World} {p : Nat} {t : TypeId} {v : Value} {row : Option Nat} (h : Box1 w p t v) (hg : w.grownBy w' row) (hne : row ≠ some p) : Box1 w' p t v := (hg.block p h.lt (fun e => hne e.symm)).trans h
/-- A row's first cells. -/
theorem own_trunc {w : World} {base g n cap : Nat} {e : TypeId} {xs : List Value} {x : Value} (h : w.ownsRow base e 1 (.slice (some ⟨g, 0, none⟩) (n + 1) cap) (n + 1) (xs ++ [x])) (hx : xs.length = n) : w.ownsRow base e 1 (.slice (some ⟨g, 0, none⟩) n cap) n xs := by
  rcases h.2 with ⟨h0, _⟩ | ⟨g', cap', cur, hv, hg, hh, h1, h2, h3, h4⟩
  · cases h0
  · injection hv with e1 e2 e3
    have e4 := Option.some.inj e1
    rw [Addr.mk.injEq] at e4
    obtain ⟨rfl, _, _⟩ := e4
    subst e3
    refine ⟨by omega, .inr ⟨g, cap, cur, rfl, hg, hh, by omega, h2, h3, ?_⟩⟩
    have h5 := congrArg (List.take n) h4
    rw [List.take_take] at h5
    rw [show min n ((n + 1) * 1) = n from by omega] at h5
    rw [List.take_append_of_le_length (by omega), show List.take n xs = xs from List.take_of_length_le (by omega)] at h5
    rw [Nat.mul_one]
    exact h5

theorem intsZ_one (l : List Int) : ∀ u ∈ intsZ l, u.oneCell' = true := by
  intro u hu
  simp only [intsZ, List.mem_map] at hu
  obtain ⟨x, _, rfl⟩ := hu
  rfl
theorem news_ints {w : World} {b off : Nat} {l : List Int} (hc : ∀ k (h : k < l.length), w.cell? ⟨b, off + k, none⟩ = some (.int .i64 l[k])) : ∀ j u, (intsZ l)[j]? = some u → w.cell? ((⟨b, off, none⟩ : Addr).add j) = some u := by
  intro j u hu
  rw [add_flat]
  have hj : j < l.length := by
    rcases Nat.lt_or_ge j l.length with h | h
    · exact h
    · rw [List.getElem?_eq_none (by rw [intsZ_len]; exact h)] at hu; cases hu
  have e : (intsZ l)[j]? = some (.int .i64 l[j]) := by simp [intsZ, hj]
  rw [e] at hu
  rw [hc j hj]; exact hu
def OwnTo (w w' : World) (e : Ending) (l : List Int) : Prop := ∃ v, e = .returned v ∧ Below w.heap.size w w' ∧ w'.ownsRow w.heap.size 3 1 v l.length (intsZ l)
set_option maxRecDepth 100000 in
theorem l1OwnS_any (l : List Int) (b off : Nat) (c : Nat) (w : World) (hc : ∀ k (h : k < l.length), w.cell? ⟨b, off + k, none⟩ = some (.int .i64 l[k])) (hn : l.length ≤ 1048576) :
    Calls Try.prog 74 #[.slice (some ⟨b, off, none⟩) l.length c] w fun e w' => OwnTo w w' e l := by
  obtain ⟨i0, hi, hz0, hz1, hz2⟩ := info_parts info3
  have HI0 := Lib.hid hi; have HZ0 := Lib.hid hz0; have HZ1 := Lib.hid hz1; have HZ2 := Lib.hid hz2
  clear hi hz0 hz1 hz2
  have hc' : ∀ k (h : k < l.length), (w.alloc (.cells #[] 3)).cell? ⟨b, off + k, none⟩ = some (.int .i64 l[k]) := fun k hk => by
    rw [World.cell?_alloc_lt _ _ _ (World.block_lt_of_cell? _ _ (hc k hk))]; exact hc k hk
  have hnews := news_ints hc'
  have hown : (w.alloc (.cells #[] 3)).ownsRow w.heap.size 3 1 (.slice (some ⟨w.heap.size, 0, none⟩) 0 0) 0 [] := own_noneI _ (heap_new _ _) (Nat.le_refl _)
  have HNW := Lib.hid hnews; have HOW := Lib.hid hown
  have hmx : 0 + l.length ≤ maxLen := by unfold maxLen; omega
  clear hc hc' hnews hown
  go_enter Try.func74, Try.ntmps74
  go_wp2_with (at_builtin; refine wpList_append_own _ rfl _ _ 42 rfl w.heap.size 3 i0 (.int .i64 0) 1 8 Try.underlying42 HI0.out HZ0.out HZ1.out HZ2.out rfl (by decide) _ _ _ rfl HOW.out ⟨b, off, none⟩ l.length c (intsZ l) rfl (by rw [intsZ_len]; omega) HNW.out (intsZ_one l) hmx (by omega) (by simp) ?_)
  intro v' w4 hown' hgrow _
  have HB1 : Hid (Below w.heap.size w w4) := Lib.hid (((Below.refl _ _).alloc (Nat.le_refl _) _).grown hgrow (by simp) (own_lt HOW.out))
  have HO : Hid (w4.ownsRow w.heap.size 3 1 v' l.length (intsZ l)) := Lib.hid (by simpa using hown')
  clear hown' hgrow
  go_wp2
  go_ret
  exact ⟨_, rfl, HB1.out, HO.out⟩
set_option maxRecDepth 100000 in
theorem cloneS_any (l : List Int) (b off : Nat) (c : Nat) (w : World) (hc : ∀ k (h : k < l.length), w.cell? ⟨b, off + k, none⟩ = some (.int .i64 l[k])) (hn : l.length ≤ 1048576) :
    Calls Try.prog 61 #[.slice (some ⟨b, off, none⟩) l.length c] w fun e w' => OwnTo w w' e l := by
  have qT : ∀ (w : World) (a : Option Addr) (n c n' c' : Nat), (binOp .eql 42 (.slice a n c) (.slice none n' c')).run Try.prog w = .ok (.bool a.isNone) w := fun w a n c n' c' => Lib.run_eql_slice_nil w _ _ a n c n' c' Try.underlying42
  obtain ⟨i0, hi, hz0, hz1, hz2⟩ := info_parts info3
  have HI0 := Lib.hid hi; have HZ0 := Lib.hid hz0; have HZ1 := Lib.hid hz1; have HZ2 := Lib.hid hz2
  clear hi hz0 hz1 hz2
  have hc' : ∀ k (h : k < l.length), (w.alloc (.cells #[] 3)).cell? ⟨b, off + k, none⟩ = some (.int .i64 l[k]) := fun k hk => by
    rw [World.cell?_alloc_lt _ _ _ (World.block_lt_of_cell? _ _ (hc k hk))]; exact hc k hk
  have hnews := news_ints hc'
  have hown : (w.alloc (.cells #[] 3)).ownsRow w.heap.size 3 1 (.slice (some ⟨w.heap.size, 0, none⟩) 0 0) 0 [] := own_noneI _ (heap_new _ _) (Nat.le_refl _)
  have HNW := Lib.hid hnews; have HOW := Lib.hid hown
  have hmx : 0 + l.length ≤ maxLen := by unfold maxLen; omega
  clear hc hc' hnews hown
  go_enter Try.func61, Try.ntmps61
  go_wp2_with (at_builtin; refine wpList_append_own _ rfl _ _ 42 rfl w.heap.size 3 i0 (.int .i64 0) 1 8 Try.underlying42 HI0.out HZ0.out HZ1.out HZ2.out rfl (by decide) _ _ _ rfl HOW.out ⟨b, off, none⟩ l.length c (intsZ l) rfl (by rw [intsZ_len]; omega) HNW.out (intsZ_one l) hmx (by omega) (by simp) ?_)
  intro v' w4 hown' hgrow _
  have HB1 : Hid (Below w.heap.size w w4) := Lib.hid (((Below.refl _ _).alloc (Nat.le_refl _) _).grown hgrow (by simp) (own_lt HOW.out))
  have HO : Hid (w4.ownsRow w.heap.size 3 1 v' l.length (intsZ l)) := Lib.hid (by simpa using hown')
  clear hown' hgrow
  go_wp2
  go_ret
  exact ⟨_, rfl, HB1.out, HO.out⟩
theorem wpList_append_is {P : Program} {ops : Array Oper} {rest : List Oper} {o : Oper} {a : Act} {Q : Exit → Act → World → Prop} (w w' : World) (v v0 v1 : Value) (hgd : o.guard = none) (s x : Operand) (t ty : TypeId)
    (ho : o.op = .call { callee := .builtin .append, args := #[s, x], argTypes := #[t, t] }) (hty : o.type = ty) (hs : a.eval s = v0) (hx : a.eval x = v1)
    (hrun : (Builtin.append_ #[t, t] ty #[v0, v1]).run P w = .ok v w') (h : wpList P ops Q rest (a.put o.dst v) w') : wpList P ops Q (o :: rest) a w := by
  subst hty; subst hs; subst hx
  refine wpList_plain hgd fun K hK' => ?_
  unfold Oper.wp
  simp [execOp, ho, resolve, invoke, builtin, hrun, Result.andThen]
  exact hK' _ _ h
theorem l1OwnN_any (w : World) :
    Calls Try.prog 74 #[.slice none 0 0] w fun e w' => OwnTo w w' e [] := by
  obtain ⟨i0, hi, hz0, hz1, hz2⟩ := info_parts info3
  have hap : (Builtin.append_ #[42, 42] 42 #[.slice (some ⟨w.heap.size, 0, none⟩) 0 0, .slice none 0 0]).run Try.prog (w.alloc (.cells #[] 3)) = .ok (.slice (some ⟨w.heap.size, 0, none⟩) 0 0) (w.alloc (.cells #[] 3)) :=
    run_append_nothing (P := Try.prog) _ 42 42 42 3 i0 Try.underlying42 hi _ 0 0 (Nat.le_refl _) _ (Src.ofNil (w := _) Try.underlying42 0)
  have HAP := Lib.hid hap
  clear hap hi hz0 hz1 hz2
  go_enter Try.func74, Try.ntmps74
  go_wp2_with (at_builtin; refine wpList_append_is _ _ _ _ _ rfl _ _ 42 42 rfl rfl rfl rfl HAP.out ?_)
  go_wp2
  go_ret
  exact ⟨_, rfl, (Below.refl _ _).alloc (Nat.le_refl _) _, own_noneI _ (heap_new _ _) (Nat.le_refl _)⟩
/-- A copy of a row of its own. -/
theorem l1OwnR_any (l : List Int) {base : Nat} {v : Value} {T : TypeId} (w : World) (h : w.ownsRow base T 1 v l.length (intsZ l)) (hn : l.length ≤ 1048576) :
    Calls Try.prog 74 #[v] w fun e w' => OwnTo w w' e l := by
  rcases h.2 with ⟨rfl, h0⟩ | ⟨g, cap, cur, rfl, hg, hh, h1, h2, h3, h4⟩
  · obtain rfl : l = [] := by cases l with | nil => rfl | cons x r => exact absurd h0 (by simp)
    exact l1OwnN_any w
  · refine l1OwnS_any l g 0 cap w (fun k hk => ?_) hn
    rw [h.cellAt (0 + k) (by omega)]
    simp [intsZ, hk]
end Go.Proofs.Ytpocghcdfpcedaa

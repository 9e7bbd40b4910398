/-
  Plain words on bills: the need of words as counts; rows of a call's own, known whole. (No function of the program is named here.)
-/
import Derived.Test.YtcbhhbcfnaekpaaDoorWds
import Derived.Test.YtcbhhbcfnaekpaaDoorWide
namespace Go.Proofs.YtcbhhbcfnaekpaaDoor
open Go.RowKit
set_option linter.unusedVariables false

/-- Block b is a row of the call's own: all its cells are known, none is frozen. -/
def Own (w : World) (b : Nat) (t : TypeId) (cs : List Value) : Prop := w.heap[b]? = some (.cells cs.toArray t (0, 0))
theorem Own.lt {w : World} {b : Nat} {t : TypeId} {cs : List Value} (h : Own w b t cs) : b < w.heap.size := lt_of_heap h
theorem Own.below {w w' : World} {b B : Nat} {t : TypeId} {cs : List Value} (h : Own w b t cs) (hb : Below B w w') (hB : b < B) : Own w' b t cs := (hb.block b hB).trans h
theorem Own.next {w w' : World} {b : Nat} {t : TypeId} {cs : List Value} (h : Own w b t cs) (hb : Below w.heap.size w w') : Own w' b t cs := (hb.block b h.lt).trans h
theorem Own.cell {w : World} {b : Nat} {t : TypeId} {cs : List Value} (h : Own w b t cs) (i : Nat) : w.cell? ⟨b, i, none⟩ = cs[i]? := by rw [cell_of_heap h]; simp
theorem Own.free {w : World} {b : Nat} {t : TypeId} {cs : List Value} (h : Own w b t cs) (i : Nat) : w.frozen? ⟨b, i, none⟩ = false := free_of_heap h i
theorem Own.set {w : World} {b : Nat} {t : TypeId} {cs : List Value} (h : Own w b t cs) (i : Nat) (v : Value) : Own (w.setCell ⟨b, i, none⟩ v) b t (cs.set i v) := by
  unfold Own; rw [heap_set h]; simp
theorem Own.other {w : World} {b : Nat} {t : TypeId} {cs : List Value} (h : Own w b t cs) {p : Addr} (hp : b ≠ p.block) (v : Value) : Own (w.setCell p v) b t cs := (Below.heap_setCell _ _ _ _ hp).trans h
theorem Own.alloc {w : World} {b : Nat} {t : TypeId} {cs : List Value} (h : Own w b t cs) (o : Obj) : Own (w.alloc o) b t cs := h.next ((Below.refl _ _).alloc (Nat.le_refl _) _)
theorem Own.owns {w : World} {b base : Nat} {t : TypeId} {cs : List Value} (h : Own w b t cs) (hb : base ≤ b) (hn : cs.length ≤ maxLen) : w.ownsRow base t 1 (.slice (some ⟨b, 0, none⟩) cs.length cs.length) cs.length cs :=
  ⟨by omega, .inr ⟨b, cs.length, _, rfl, hb, h, Nat.le_refl _, hn, by simp, by simp⟩⟩
theorem intsZ_len (l : List Int) : (intsZ l).length = l.length := by simp [intsZ]
theorem intsZ_snoc (l : List Int) (i : Int) : intsZ (l ++ [i]) = intsZ l ++ [.int .i64 i] := by simp [intsZ]
theorem intsZ_set (l : List Int) (i : Nat) (x : Int) : (intsZ l).set i (.int .i64 x) = intsZ (l.set i x) := by simp [intsZ, List.map_set]
theorem intsZ_at {l : List Int} {i : Nat} (h : i < l.length) : (intsZ l)[i]? = some (.int .i64 l[i]) := by simp [intsZ, h]
theorem Own.ints {w : World} {b : Nat} {t : TypeId} {l : List Int} (h : Own w b t (intsZ l)) : IntsIn w (some ⟨b, 0, none⟩) l := fun _ =>
  ⟨b, 0, rfl, h.lt, fun k hk => by rw [h.cell, Nat.zero_add]; simp [intsZ, hk]⟩
theorem Own.owns_ints {w : World} {b base : Nat} {t : TypeId} {l : List Int} (h : Own w b t (intsZ l)) (hb : base ≤ b) (hn : l.length ≤ maxLen) : w.ownsRow base t 1 (.slice (some ⟨b, 0, none⟩) l.length l.length) l.length (intsZ l) := by
  have := h.owns hb (by rw [intsZ_len]; exact hn)
  rwa [intsZ_len] at this

/-- A slice of ints at A, not in block g, reads as l. -/
def IntsOff (w : World) (g : Nat) (A : Option Addr) (l : List Int) : Prop :=
  0 < l.length → ∃ b off, A = some ⟨b, off, none⟩ ∧ b ≠ g ∧ b < w.heap.size ∧ ∀ k (h : k < l.length), w.cell? ⟨b, off + k, none⟩ = some (.int .i64 l[k])
theorem own_off {w : World} {base g n m c : Nat} {e : TypeId} {A : Option Addr} {l : List Int} (h : w.ownsRow base e 1 (.slice A m c) n (intsZ l)) (hg : g < base) : IntsOff w g A l := by
  intro hn
  obtain ⟨b, off, rfl, hb, hc⟩ := own_in h hn
  have h1 := own_from h hg b rfl
  exact ⟨b, off, rfl, by omega, hb, hc⟩
theorem cell_grown {w w' : World} {g b o : Nat} (h : w.grownBy w' (some g)) (hne : b ≠ g) (hb : b < w.heap.size) : w'.cell? ⟨b, o, none⟩ = w.cell? ⟨b, o, none⟩ := by
  have := h.block b hb (fun e => hne (Option.some.inj e))
  simp [World.cell?, this]
/-- What is answered: a list of ints and true, or nothing and false. -/
def IntsTo (w w' : World) (e : Ending) (r : Option (List Int)) : Prop :=
  ∃ v, e = .returned (.tuple #[v, .bool r.isSome]) ∧ Below w.heap.size w w' ∧ w'.ownsRow w.heap.size 3 1 v (r.getD []).length (intsZ (r.getD []))
theorem IntsTo.no {w w' : World} {r : Option (List Int)} (h : r = none) (hb : Below w.heap.size w w') : IntsTo w w' (.returned (.tuple #[.slice none 0 0, .bool false])) r := by
  subst h; exact ⟨_, rfl, hb, own_nil _ _ _ _⟩
theorem IntsTo.yes {w w' : World} {r : Option (List Int)} {l : List Int} {v : Value} (h : r = some l) (hb : Below w.heap.size w w') (ho : w'.ownsRow w.heap.size 3 1 v l.length (intsZ l)) : IntsTo w w' (.returned (.tuple #[v, .bool true])) r := by
  subst h; exact ⟨_, rfl, hb, ho⟩
theorem IntsTo.own {w w' : World} {r : Option (List Int)} {l : List Int} {b : Nat} (h : r = some l) (hb : Below w.heap.size w w') (ho : Own w' b 3 (intsZ l)) (hB : w.heap.size ≤ b) (hn : l.length ≤ maxLen) : IntsTo w w' (.returned (.tuple #[.slice (some ⟨b, 0, none⟩) l.length l.length, .bool true])) r :=
  IntsTo.yes h hb (ho.owns_ints hB hn)

/-- The sorts with which a word is set. -/
def sg (f : List (ByteArray × Int)) (s : ByteArray) : List Nat := (setW f s).getD []
def canB (f : List (ByteArray × Int)) (ws : List ByteArray) : Bool := ws.all fun s => (setW f s).isSome
/-- The sorts of all words, one after the other. -/
def flS (f : List (ByteArray × Int)) (ws : List ByteArray) : List Nat := ws.flatMap (sg f)
theorem flS_snoc (f : List (ByteArray × Int)) {ws : List ByteArray} {k : Nat} (h : k < ws.length) : flS f (ws.take (k + 1)) = flS f (ws.take k) ++ sg f ws[k] := by
  unfold flS; rw [List.take_succ_eq_append_getElem h, List.flatMap_append]; simp
theorem canB_snoc {f : List (ByteArray × Int)} {ws : List ByteArray} {k : Nat} (h : k < ws.length) (hs : canB f (ws.take k) = true) (hk : (setW f ws[k]).isSome = true) : canB f (ws.take (k + 1)) = true := by
  unfold canB at *; rw [List.take_succ_eq_append_getElem h, List.all_append, hs]; simp [hk]
theorem canB_no {f : List (ByteArray × Int)} {ws : List ByteArray} {k : Nat} (h : k < ws.length) (hk : setW f ws[k] = none) : canB f ws = false := by
  unfold canB; rw [List.all_eq_false]; exact ⟨ws[k], List.getElem_mem h, by simp [hk]⟩
theorem canB_at {f : List (ByteArray × Int)} {ws : List ByteArray} {k : Nat} (h : k < ws.length) (hc : canB f ws = true) : setW f ws[k] = some (sg f ws[k]) := by
  have := List.all_eq_true.1 hc _ (List.getElem_mem h)
  obtain ⟨l, hl⟩ := Option.isSome_iff_exists.1 this
  unfold sg; rw [hl]; rfl
theorem sg_mem {f : List (ByteArray × Int)} {s : ByteArray} : ∀ i ∈ sg f s, i < f.length := setW_mem
theorem sg_len {f : List (ByteArray × Int)} {s : ByteArray} (hs : s.size ≤ 16) : (sg f s).length ≤ 16 := setW_len hs
theorem flS_mem {f : List (ByteArray × Int)} {ws : List ByteArray} : ∀ i ∈ flS f ws, i < f.length := by
  intro i hi
  obtain ⟨s, _, hs⟩ := List.mem_flatMap.1 hi
  exact sg_mem i hs
theorem words_size {ws : List ByteArray} {j : Nat} (h : wordsB ws = true) (hj : j < ws.length) : ws[j].size ≤ 16 := by
  unfold wordsB at h
  simp only [Bool.and_eq_true] at h
  exact (isWord_len (List.all_eq_true.1 h.2 _ (List.getElem_mem hj))).2
theorem words_40 {ws : List ByteArray} (h : wordsB ws = true) : ws.length ≤ 40 := by
  unfold wordsB at h
  simp only [Bool.and_eq_true, decide_eq_true_eq] at h
  omega
theorem flS_len {f : List (ByteArray × Int)} : ∀ {ws : List ByteArray}, (∀ s ∈ ws, s.size ≤ 16) → (flS f ws).length ≤ 16 * ws.length
  | [], _ => by simp [flS]
  | s :: r, h => by
    have h1 := sg_len (f := f) (h s (by simp))
    have h2 := flS_len (f := f) (ws := r) fun x hx => h x (by simp [hx])
    simp only [flS, List.flatMap_cons, List.length_append, List.length_cons] at *
    omega
theorem flS_640 {f : List (ByteArray × Int)} {ws : List ByteArray} (h : wordsB ws = true) (k : Nat) : (flS f (ws.take k)).length ≤ 16 * k := by
  have h1 : (flS f (ws.take k)).length ≤ 16 * (ws.take k).length := flS_len fun s hs => by
    obtain ⟨i, hi, rfl⟩ := List.getElem_of_mem (List.mem_of_mem_take hs)
    exact words_size h hi
  rw [List.length_take] at h1
  omega

/-- How often each of n numbers is in a list. -/
def cntL (n : Nat) (L : List Nat) : List Int := (List.range n).map fun i => ((L.count i : Nat) : Int)
theorem cntL_len (n : Nat) (L : List Nat) : (cntL n L).length = n := by simp [cntL]
theorem cntL_get {n i : Nat} {L : List Nat} (h : i < (cntL n L).length) : (cntL n L)[i] = ((L.count i : Nat) : Int) := by simp [cntL]
theorem cntL_at {n i : Nat} {L : List Nat} (h : i < n) : (intsZ (cntL n L))[i]? = some (.int .i64 ((L.count i : Nat) : Int)) := by
  rw [intsZ_at (by rw [cntL_len]; exact h), cntL_get]
theorem cntL_snoc {n i : Nat} (L : List Nat) (h : i < n) : (intsZ (cntL n L)).set i (.int .i64 (((L.count i : Nat) : Int) + 1)) = intsZ (cntL n (L ++ [i])) := by
  rw [intsZ_set]
  congr 1
  apply List.ext_getElem
  · simp [cntL]
  · intro j h1 h2
    rw [List.getElem_set, cntL_get]
    by_cases hij : i = j
    · subst hij; rw [if_pos rfl, cntL_get, List.count_append]; simp
    · rw [if_neg hij, cntL_get, List.count_append]
      simp [hij]
theorem cntL_nil (n : Nat) : intsZ (cntL n []) = List.replicate n (.int .i64 0) := by
  apply List.ext_getElem
  · simp [intsZ, cntL]
  · intro j h1 h2; simp [intsZ, cntL]
theorem count_le (L : List Nat) (i : Nat) : L.count i ≤ L.length := List.count_le_length
theorem cntL_bound {n i : Nat} {L : List Nat} (h : i < (cntL n L).length) : 0 ≤ (cntL n L)[i] ∧ (cntL n L)[i] ≤ L.length := by
  rw [cntL_get]; have := count_le L i; omega

/-- Words are copy for a font. -/
noncomputable def copyB (f : List (ByteArray × Int)) (ws : List ByteArray) : Bool := fontB f && wordsB ws && canB f ws
def needF (f : List (ByteArray × Int)) (ws : List ByteArray) : List Int := cntL f.length (flS f ws)
noncomputable def needR (f : List (ByteArray × Int)) (ws : List ByteArray) : Option (List Int) := if copyB f ws then some (needF f ws) else none
theorem needF_len (f : List (ByteArray × Int)) (ws : List ByteArray) : (needF f ws).length = f.length := cntL_len _ _
theorem need_no {f : List (ByteArray × Int)} {ws : List ByteArray} (h : copyB f ws = false) : needR f ws = none := by unfold needR; rw [h]; rfl
theorem need_yes {f : List (ByteArray × Int)} {ws : List ByteArray} (h : copyB f ws = true) : needR f ws = some (needF f ws) := by unfold needR; rw [h]; rfl
theorem copy_parts {f : List (ByteArray × Int)} {ws : List ByteArray} (h : copyB f ws = true) : Font f ∧ wordsB ws = true ∧ canB f ws = true := by
  unfold copyB at h
  simp only [Bool.and_eq_true] at h
  exact ⟨fontB_iff.1 h.1.1, h.1.2, h.2⟩
theorem needF_bound {f : List (ByteArray × Int)} {ws : List ByteArray} (hw : wordsB ws = true) {i : Nat} (h : i < (needF f ws).length) : 0 ≤ (needF f ws)[i] ∧ (needF f ws)[i] ≤ 640 := by
  have h1 := cntL_bound (n := f.length) (L := flS f ws) (i := i) h
  have h2 := flS_640 (f := f) hw ws.length
  have h3 := words_40 hw
  rw [List.take_length] at h2
  unfold needF at *
  omega

theorem needR_short (f : List (ByteArray × Int)) (ws : List ByteArray) : ((needR f ws).getD []).length ≤ 64 := by
  unfold needR
  split
  · rename_i h
    have := (copy_parts h).1.2.2
    rw [Option.getD_some, needF_len]; omega
  · simp

/-- Numbers are a stock of a font. -/
def stockB (f : List (ByteArray × Int)) (st : List Int) : Bool := decide (st.length = f.length) && st.all fun a => decide (0 ≤ a) && decide (a ≤ 100000)
end Go.Proofs.YtcbhhbcfnaekpaaDoor

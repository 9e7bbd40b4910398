/-
  Slips put together by their Lengths, in plain words: what a list says of a Length, the list that rises and says the same. (No function is named here.)
-/
import Derived.Test.YtljakcfdjcjdbaaPw
namespace Go.Proofs.Ytljakcfdjcjdbaa
open Go.RowKit
set_option linter.unusedVariables false

/-- Pieces of a Length more. -/
def putS : List Sl → Int → Int → List Sl
  | [], n, c => [⟨n, c⟩]
  | x :: r, n, c => if x.len < n then x :: putS r n c else if x.len = n then ⟨x.len, x.cnt + c⟩ :: r else ⟨n, c⟩ :: x :: r
def Rise (l : List Sl) : Prop := l.Pairwise fun x y => x.len < y.len
/-- What a list says of a Length. -/
def asM : List Sl → Int → Option Int
  | [], _ => none
  | x :: r, a => if a = x.len then some x.cnt else asM r a
theorem asM_mem : ∀ {l : List Sl}, Rise l → ∀ {x : Sl}, x ∈ l → asM l x.len = some x.cnt
  | y :: r, hr, x, hx => by
    obtain ⟨h1, h2⟩ := List.pairwise_cons.1 hr
    unfold asM
    rcases List.mem_cons.1 hx with rfl | hx'
    · rw [if_pos rfl]
    · have := h1 x hx'
      rw [if_neg (by omega)]; exact asM_mem h2 hx'
theorem asM_none : ∀ {l : List Sl} {a : Int}, (∀ x ∈ l, x.len ≠ a) → asM l a = none
  | [], _, _ => rfl
  | y :: r, a, h => by
    unfold asM; rw [if_neg (fun e => h y (by simp) e.symm)]
    exact asM_none fun x hx => h x (List.mem_cons_of_mem _ hx)
theorem asM_some : ∀ {l : List Sl} {a v : Int}, asM l a = some v → (⟨a, v⟩ : Sl) ∈ l
  | [], _, _, h => by cases h
  | y :: r, a, v, h => by
    unfold asM at h
    by_cases e : a = y.len
    · rw [if_pos e] at h
      cases h; subst e; simp
    · rw [if_neg e] at h
      exact List.mem_cons_of_mem _ (asM_some h)
theorem asM_isSome {l : List Sl} (hr : Rise l) {a : Int} : (asM l a).isSome = true ↔ a ∈ l.map (·.len) := by
  constructor
  · intro h
    obtain ⟨v, hv⟩ := Option.isSome_iff_exists.1 h
    exact List.mem_map.2 ⟨_, asM_some hv, rfl⟩
  · intro h
    obtain ⟨x, hx, rfl⟩ := List.mem_map.1 h
    rw [asM_mem hr hx]; rfl
theorem putS_mem : ∀ {l : List Sl} {n c : Int} {x : Sl}, x ∈ putS l n c → x.len = n ∨ x ∈ l
  | [], n, c, x, h => by simp [putS] at h; subst h; exact .inl rfl
  | y :: r, n, c, x, h => by
    unfold putS at h
    split at h
    · rcases List.mem_cons.1 h with rfl | h
      · exact .inr (by simp)
      · rcases putS_mem h with h1 | h1
        · exact .inl h1
        · exact .inr (List.mem_cons_of_mem _ h1)
    · split at h
      · rename_i e
        rcases List.mem_cons.1 h with rfl | h
        · exact .inl e
        · exact .inr (List.mem_cons_of_mem _ h)
      · rcases List.mem_cons.1 h with rfl | h
        · exact .inl rfl
        · exact .inr h
theorem putS_rise : ∀ {l : List Sl}, Rise l → ∀ (n c : Int), Rise (putS l n c)
  | [], _, n, c => by unfold putS Rise; simp
  | y :: r, hr, n, c => by
    obtain ⟨h1, h2⟩ := List.pairwise_cons.1 hr
    unfold putS
    split
    · rename_i e
      refine List.pairwise_cons.2 ⟨fun x hx => ?_, putS_rise h2 n c⟩
      rcases putS_mem hx with h3 | h3
      · omega
      · exact h1 x h3
    · split
      · exact List.pairwise_cons.2 ⟨fun x hx => h1 x hx, h2⟩
      · refine List.pairwise_cons.2 ⟨fun x hx => ?_, hr⟩
        rcases List.mem_cons.1 hx with rfl | hx
        · show n < _; omega
        · have := h1 x hx; show n < _; omega
theorem putS_as : ∀ {l : List Sl}, Rise l → ∀ (n c a : Int), asM (putS l n c) a = if a = n then some ((asM l n).getD 0 + c) else asM l a
  | [], _, n, c, a => by
    unfold putS asM
    by_cases e : a = n
    · rw [if_pos e, if_pos e]; simp [asM]
    · rw [if_neg e, if_neg e]; rfl
  | y :: r, hr, n, c, a => by
    obtain ⟨h1, h2⟩ := List.pairwise_cons.1 hr
    have ih := putS_as h2 n c a
    unfold putS
    by_cases e1 : y.len < n
    · rw [if_pos e1]
      unfold asM
      by_cases e2 : a = y.len
      · rw [if_pos e2, if_neg (by omega), if_pos e2]
      · rw [if_neg e2, ih, if_neg (show ¬ n = y.len by omega), if_neg e2]
    · rw [if_neg e1]
      by_cases e2 : y.len = n
      · rw [if_pos e2]
        unfold asM
        show (if a = y.len then some (y.cnt + c) else asM r a) = _
        rw [← e2, if_pos rfl]
        by_cases e3 : a = y.len
        · rw [if_pos e3, if_pos e3]; rfl
        · rw [if_neg e3, if_neg e3, if_neg e3]
      · rw [if_neg e2]
        have hn : asM (y :: r) n = none := asM_none fun x hx => by
          rcases List.mem_cons.1 hx with rfl | hx
          · exact e2
          · have := h1 x hx; omega
        rw [hn]
        show (if a = n then some c else asM (y :: r) a) = _
        by_cases e3 : a = n
        · rw [if_pos e3, if_pos e3]; simp
        · rw [if_neg e3, if_neg e3]
/-- Two rising lists that say the same are the same. -/
theorem rise_ext : ∀ {l m : List Sl}, Rise l → Rise m → (∀ a, asM l a = asM m a) → l = m
  | [], [], _, _, _ => rfl
  | [], y :: s, _, h2, h => by have := h y.len; rw [asM_mem h2 (by simp)] at this; cases this
  | x :: r, [], h1, _, h => by have := h x.len; rw [asM_mem h1 (by simp)] at this; cases this
  | x :: r, y :: s, h1, h2, h => by
    obtain ⟨a1, a2⟩ := List.pairwise_cons.1 h1
    obtain ⟨b1, b2⟩ := List.pairwise_cons.1 h2
    have hx : (⟨x.len, x.cnt⟩ : Sl) ∈ y :: s := asM_some (by rw [← h x.len, asM_mem h1 (by simp)])
    have hy : (⟨y.len, y.cnt⟩ : Sl) ∈ x :: r := asM_some (by rw [h y.len, asM_mem h2 (by simp)])
    have exy : x = y := by
      rcases List.mem_cons.1 hx with e | e
      · exact e
      · have h3 := b1 _ e
        rcases List.mem_cons.1 hy with e2 | e2
        · exact e2.symm
        · have h4 := a1 _ e2
          have h3' : y.len < x.len := h3
          have h4' : x.len < y.len := h4
          omega
    subst exy
    rw [rise_ext a2 b2 fun a => by
      have h5 := h a
      unfold asM at h5
      by_cases e : a = x.len
      · rw [asM_none fun z hz => by have := a1 z hz; omega, asM_none fun z hz => by have := b1 z hz; omega]
      · rw [if_neg e, if_neg e] at h5; exact h5]
/-- All slips of a list, put together. -/
def srt (L : List Sl) : List Sl := L.foldl (fun l x => putS l x.len x.cnt) []
theorem srt_snoc (L : List Sl) (x : Sl) : srt (L ++ [x]) = putS (srt L) x.len x.cnt := by unfold srt; rw [List.foldl_append]; rfl
theorem srt_rise (L : List Sl) : Rise (srt L) := by
  unfold srt
  have : ∀ (L l : List Sl), Rise l → Rise (L.foldl (fun l x => putS l x.len x.cnt) l) := fun L => by
    induction L with
    | nil => exact fun l h => h
    | cons x r ih => exact fun l h => ih _ (putS_rise h _ _)
  exact this L [] List.Pairwise.nil
/-- What the first k say together. -/
def mpF (L : List Sl) : Nat → Int → Option Int
  | 0 => fun _ => none
  | k + 1 => upM (mpF L k) (L.getD k ⟨0, 0⟩).len ((mpF L k (L.getD k ⟨0, 0⟩).len).getD 0 + (L.getD k ⟨0, 0⟩).cnt)
theorem mpF_succ {L : List Sl} {k : Nat} (h : k < L.length) : mpF L (k + 1) = upM (mpF L k) L[k].len ((mpF L k L[k].len).getD 0 + L[k].cnt) := by
  rw [mpF, getS h]
theorem mpF_srt (L : List Sl) : ∀ k, k ≤ L.length → ∀ a, mpF L k a = asM (srt (L.take k)) a
  | 0, _, a => rfl
  | k + 1, hk, a => by
    have ih := mpF_srt L k (by omega)
    rw [mpF_succ (by omega), List.take_succ_eq_append_getElem (by omega), srt_snoc, putS_as (srt_rise _)]
    unfold upM
    by_cases e : a = L[k].len
    · rw [if_pos e, if_pos e, ih]
    · rw [if_neg e, if_neg e, ih]
theorem mpF_all (L : List Sl) (a : Int) : mpF L L.length a = asM (srt L) a := by
  have := mpF_srt L L.length (Nat.le_refl _) a
  rwa [List.take_length] at this
theorem srt_of_rise : ∀ {L : List Sl}, Rise L → srt L = L := fun {L} h => by
  have key : ∀ k, k ≤ L.length → srt (L.take k) = L.take k := fun k => by
    induction k with
    | zero => intro _; rfl
    | succ k ih =>
      intro hk
      rw [List.take_succ_eq_append_getElem (show k < L.length by omega), srt_snoc, ih (by omega)]
      have : ∀ (l : List Sl) (x : Sl), (∀ y ∈ l, y.len < x.len) → putS l x.len x.cnt = l ++ [x] := fun l x => by
        induction l with
        | nil => intro _; rfl
        | cons y r ih => intro hy; unfold putS; rw [if_pos (hy y (by simp)), ih (fun z hz => hy z (List.mem_cons_of_mem _ hz))]; rfl
      refine this _ _ fun y hy => ?_
      obtain ⟨i, hi, rfl⟩ := List.mem_iff_getElem.1 hy
      rw [List.length_take] at hi
      rw [List.getElem_take]
      exact List.pairwise_iff_getElem.1 h i k (by omega) (by omega) (by omega)
  have := key L.length (Nat.le_refl _)
  rwa [List.take_length] at this
theorem GoodS.risen {f : List Sl} (h : GoodS f) : Rise f := List.pairwise_iff_getElem.2 fun i j hi hj hij => h.lt hj hij
theorem GoodS.says {f : List Sl} (h : GoodS f) {a v : Int} (e : asM f a = some v) : (1 ≤ a ∧ a ≤ 200) ∧ 0 ≤ v ∧ v ≤ 20 := by
  obtain ⟨j, hj, hx⟩ := List.mem_iff_getElem.1 (asM_some e)
  have := h.bd hj
  rw [hx] at this; exact this
/-- The place of a Length. -/
theorem putS_at : ∀ {l : List Sl} {n c : Int} {k : Nat}, k ≤ l.length → (∀ i (h : i < l.length), i < k → l[i].len < n) → (∀ h : k < l.length, n ≤ l[k].len) →
    putS l n c = if (l.getD k ⟨0, 0⟩).len = n ∧ k < l.length then l.set k ⟨n, (l.getD k ⟨0, 0⟩).cnt + c⟩ else l.take k ++ ([⟨n, c⟩] ++ l.drop k)
  | [], n, c, k, hk, _, _ => by
    obtain rfl : k = 0 := by simpa using hk
    rw [if_neg (by simp)]; rfl
  | y :: r, n, c, 0, hk, h1, h2 => by
    have h3 : n ≤ y.len := h2 (by simp)
    unfold putS
    rw [if_neg (by omega)]
    by_cases e : y.len = n
    · rw [if_pos e, if_pos ⟨e, by simp⟩, e]; rfl
    · rw [if_neg e, if_neg (fun h => e h.1)]; rfl
  | y :: r, n, c, k + 1, hk, h1, h2 => by
    have h3 : y.len < n := h1 0 (by simp) (by omega)
    have ih := putS_at (l := r) (n := n) (c := c) (k := k) (by simpa using hk) (fun i hi hik => h1 (i + 1) (by simpa using hi) (by omega)) (fun h => h2 (by simpa using h))
    unfold putS
    rw [if_pos h3, ih]
    have e1 : (y :: r).getD (k + 1) ⟨0, 0⟩ = r.getD k ⟨0, 0⟩ := by simp
    rw [e1]
    by_cases e : (r.getD k ⟨0, 0⟩).len = n ∧ k < r.length
    · rw [if_pos e, if_pos ⟨e.1, by simp; omega⟩]; rfl
    · rw [if_neg e, if_neg (fun h => e ⟨h.1, by simpa using h.2⟩)]; rfl
end Go.Proofs.Ytljakcfdjcjdbaa

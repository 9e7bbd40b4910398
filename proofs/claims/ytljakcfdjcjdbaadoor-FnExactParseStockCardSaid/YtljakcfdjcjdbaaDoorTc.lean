/-
  A slip's text and a stock's text read, in plain words. (No world is named here.)
-/
import Derived.Test.YtljakcfdjcjdbaaDoorDec
import Derived.Test.YtljakcfdjcjdbaaDoorCut
import Derived.Test.YtljakcfdjcjdbaaDoorPb
namespace Go.Proofs.YtljakcfdjcjdbaaDoor
open Go.RowKit Go.Proofs.YtljakcfdjcjdbaaDoor.T1
set_option linter.unusedVariables false

theorem read_decZ {s : ByteArray} {v : Int} (h : readF s = v) (h1 : 0 ≤ v) : decP s = (v, true) := by
  unfold readF at h
  split at h
  · rename_i hc
    obtain ⟨⟨s1, s6⟩, hh, hd⟩ := hc
    have hl : s.data.toList.length = s.size := Array.length_toList
    have hne : s.data.toList ≠ [] := by intro e; rw [e] at hl; simp at hl; omega
    have ha := atoi_digs s1 s6 hd (by rw [h]; exact h1)
    rw [h] at ha
    by_cases hz : s.data.toList.head? = some 48
    · have hs1 : s.size = 1 := by have : ¬ 1 < s.size := fun h' => hh ⟨hz, h'⟩; omega
      obtain ⟨c, r, hx⟩ := List.exists_cons_of_ne_nil hne
      rw [hx] at hl hz
      obtain rfl : r = [] := by
        cases r with
        | nil => rfl
        | cons _ _ => simp at hl; omega
      obtain rfl : c = 48 := by simpa using hz
      have hv0 : v = 0 := by rw [← h, hx]; decide
      refine decP_ok ha ?_
      rw [hv0, ← ba_data s, hx, show Lib.itoa 0 = Lib.decDigits 0 from Lib.itoa_nonneg 0, Lib.decDigits_one (by omega)]
      rfl
    · obtain ⟨_, i2⟩ := canon _ s.data.toList rfl hd hne hz
      rw [h] at i2
      refine decP_ok ha ?_
      obtain ⟨n, hn⟩ := Int.eq_ofNat_of_zero_le h1
      rw [hn, Lib.itoa_nonneg, ← show (v.toNat : Nat) = n by omega, i2, ba_data]
  · omega
theorem dec_digits {s : ByteArray} {v : Int} (h : decP s = (v, true)) (h1 : 0 ≤ v) : s.data.toList = Lib.decDigits v.toNat := by
  have he : baOf (Lib.itoa v) = s := by
    unfold decP at h
    split at h
    · split at h
      · rename_i u _ hu
        have : u = v := by simpa using h
        rw [← this]; exact hu
      · simp at h
    · simp at h
  obtain ⟨n, rfl⟩ := Int.eq_ofNat_of_zero_le h1
  rw [Lib.itoa_nonneg] at he
  rw [← he]; rfl
theorem dec_readZ {s : ByteArray} {v : Int} (h : decP s = (v, true)) (h1 : 0 ≤ v) (h9 : v ≤ 999999) : readF s = v := by
  have hs := dec_digits h h1
  obtain ⟨n, rfl⟩ := Int.eq_ofNat_of_zero_le h1
  rw [Int.toNat_natCast] at hs
  have hl : s.data.toList.length = s.size := Array.length_toList
  rw [hs, Lib.decDigits_length] at hl
  have h6 := nDig_pow 5 n (by omega)
  have h0 : 1 ≤ Lib.nDigits n := by rw [Lib.nDigits]; split <;> omega
  unfold readF
  rw [if_pos ⟨⟨by omega, by omega⟩, fun hx => by
    rcases (by omega : n = 0 ∨ 1 ≤ n) with rfl | hn
    · have e1 : Lib.nDigits 0 = 1 := by rw [Lib.nDigits]; rfl
      rw [e1] at hl; omega
    · exact dec_head n hn (by rw [← hs]; exact hx.1), by rw [hs]; exact dec_digs n⟩, hs, dec_val]
/-- What a cut at a byte gives. -/
def CutIs (c : UInt8) (p a r : ByteArray) : Prop := (pcs c p = [p] ∧ a = p ∧ r = ⟨#[]⟩) ∨ pcs c p = a :: pcs c r
theorem pcs_empty (c : UInt8) : pcs c ⟨#[]⟩ = [⟨#[]⟩] := by unfold pcs; rw [show (⟨#[]⟩ : ByteArray).size = 0 from rfl, Lib.splitB_zero]
theorem pcs_cons (c : UInt8) (s : ByteArray) : pcs c s = [s] ∨ ∃ a r, pcs c s = a :: pcs c r := by
  rcases Lib.indexB_cases s (sepB c) with h | ⟨i, h, hr⟩
  · left; exact Lib.splitB_miss _ _ _ _ h
  · right
    rw [sep_size] at hr
    exact ⟨_, _, pcs_hit h hr⟩
theorem pcs_some (c : UInt8) (s : ByteArray) : 0 < (pcs c s).length := by
  rcases pcs_cons c s with h | ⟨a, r, h⟩ <;> rw [h] <;> simp
theorem pcs_one {c : UInt8} {s : ByteArray} (h : (pcs c s).length = 1) : pcs c s = [s] := by
  rcases pcs_cons c s with h1 | ⟨a, r, h1⟩
  · exact h1
  · have := pcs_some c r
    rw [h1, List.length_cons] at h; omega
theorem dec_none : (decP ⟨#[]⟩).2 = false := by rw [decP_bad (s := ⟨#[]⟩) rfl]
theorem digs_noC {s : ByteArray} (h : digs s.data.toList = true) : pcs 120 s = [s] := by
  have e := pcs_end (c := 120) (s := s) (a := 0) (fun j hj _ _ e => by
    have hd := digs_no s j hj
    have h2 : digs (s.data.toList) = true := h
    have hm : ∀ x ∈ s.data.toList, isDig x = true := List.all_eq_true.1 h2
    have hx : isDig s[j] = true := hm _ (List.mem_iff_getElem?.2 ⟨j, list_at hj⟩)
    rw [e] at hx
    exact absurd hx (by decide))
  rwa [ex_all] at e
/-- The slip that spec reads, and its two parts. -/
def slR (p : ByteArray) : Sl := ⟨readF ((pcs 120 p).getD 1 ⟨#[]⟩), readF ((pcs 120 p).getD 0 ⟨#[]⟩)⟩
theorem slR_two {p a r : ByteArray} (h : pcs 120 p = [a, r]) : slR p = ⟨readF r, readF a⟩ := by unfold slR; rw [h]; rfl
theorem cut_two {p a r : ByteArray} (hc : CutIs 120 p a r) (h2 : (pcs 120 p).length = 2) : pcs 120 p = [a, r] := by
  rcases hc with ⟨h, _⟩ | h
  · rw [h] at h2; cases h2
  · rw [h] at h2 ⊢
    rw [pcs_one (by simpa using h2)]
/-- The slip that impl reads. -/
def Rel (p : ByteArray) (x : Sl) : Prop := ∃ a r, CutIs 120 p a r ∧ decP a = (x.cnt, true) ∧ decP r = (x.len, true)
theorem rel_good {p : ByteArray} {x : Sl} (h : Rel p x) (hg : goodSl x = true) : (pcs 120 p).length = 2 ∧ slR p = x := by
  obtain ⟨a, r, hc, ha, hr⟩ := h
  obtain ⟨⟨g1, g2⟩, g3, g4⟩ := goodSl_iff.1 hg
  have hd := dec_digits hr (by omega)
  have hp : pcs 120 p = [a, r] := by
    rcases hc with ⟨_, _, rfl⟩ | h
    · have := dec_none; rw [hr] at this; cases this
    · rw [h, digs_noC (s := r) (by rw [hd]; exact dec_digs _)]
  exact ⟨by rw [hp]; rfl, by rw [slR_two hp, dec_readZ hr (by omega) (by omega), dec_readZ ha (by omega) (by omega)]⟩
theorem good_dec {p a r : ByteArray} (hc : CutIs 120 p a r) (h2 : (pcs 120 p).length = 2) (hg : goodSl (slR p) = true) : decP a = ((slR p).cnt, true) ∧ decP r = ((slR p).len, true) := by
  have hp := cut_two hc h2
  rw [slR_two hp] at hg ⊢
  obtain ⟨⟨g1, g2⟩, g3, g4⟩ := goodSl_iff.1 hg
  exact ⟨read_decZ rfl g3, read_decZ rfl (Int.le_trans (by decide) g1)⟩
theorem rel_same {p : ByteArray} {x : Sl} (h : Rel p x) (h2 : (pcs 120 p).length = 2) (hg : goodSl (slR p) = true) : slR p = x := by
  obtain ⟨a, r, hc, ha, hr⟩ := h
  obtain ⟨e1, e2⟩ := good_dec hc h2 hg
  rw [e1] at ha; rw [e2] at hr
  cases x with | mk l c =>
  have q1 : (slR p).cnt = c := (Prod.mk.injEq .. ▸ ha).1
  have q2 : (slR p).len = l := (Prod.mk.injEq .. ▸ hr).1
  rw [← q1, ← q2]
inductive Rels : List ByteArray → List Sl → Prop
  | nil : Rels [] []
  | snoc {E : List ByteArray} {F : List Sl} {p : ByteArray} {x : Sl} : Rels E F → Rel p x → Rels (E ++ [p]) (F ++ [x])
theorem Rels.len {E : List ByteArray} {F : List Sl} (h : Rels E F) : E.length = F.length := by induction h <;> simp_all
theorem Rels.good {E : List ByteArray} {F : List Sl} (h : Rels E F) : (∀ x ∈ F, goodSl x = true) → (∀ p ∈ E, (pcs 120 p).length = 2) ∧ E.map slR = F := by
  induction h with
  | nil => exact fun _ => ⟨(fun _ h => by cases h), rfl⟩
  | snoc h1 h2 ih =>
    intro hg
    obtain ⟨i1, i2⟩ := ih (fun x hx => hg x (List.mem_append_left _ hx))
    obtain ⟨j1, j2⟩ := rel_good h2 (hg _ (by simp))
    refine ⟨fun p hp => ?_, by rw [List.map_append, i2]; simp [j2]⟩
    rcases List.mem_append.1 hp with h | h
    · exact i1 p h
    · rw [List.mem_singleton.1 h]; exact j1
theorem Rels.same {E : List ByteArray} {F : List Sl} (h : Rels E F) : (∀ p ∈ E, (pcs 120 p).length = 2 ∧ goodSl (slR p) = true) → E.map slR = F := by
  induction h with
  | nil => exact fun _ => rfl
  | snoc h1 h2 ih =>
    intro hg
    have i := ih (fun p hp => hg p (List.mem_append_left _ hp))
    have j := hg _ (List.mem_append_right _ (List.mem_singleton_self _))
    rw [List.map_append, i]; simp [rel_same h2 j.1 j.2]
/-- A text of a stock. -/
structure ParsB (s : ByteArray) : Prop where
  nine : (pcs 32 s).length ≤ 9
  last : (pcs 32 s).getLast? = some ⟨#[]⟩
  two : ∀ p ∈ (pcs 32 s).dropLast, (pcs 120 p).length = 2
  good : GoodS ((pcs 32 s).dropLast.map slR)
open Classical in
noncomputable def psA (s : ByteArray) : Bool := decide (ParsB s)
theorem psA_iff {s : ByteArray} : psA s = true ↔ ParsB s := by unfold psA; exact @decide_eq_true_iff _ (Classical.propDecidable _)
theorem psA_no {s : ByteArray} (h : ¬ ParsB s) : psA s = false := by cases hb : psA s with | false => rfl | true => exact absurd (psA_iff.1 hb) h
noncomputable def psV (s : ByteArray) : List Sl := if psA s then (pcs 32 s).dropLast.map slR else []
theorem ps_no {s : ByteArray} (h : ¬ ParsB s) : psV s = [] ∧ psA s = false := by unfold psV; rw [psA_no h]; exact ⟨rfl, rfl⟩
theorem ps_yes {s : ByteArray} (h : ParsB s) : psV s = (pcs 32 s).dropLast.map slR ∧ psA s = true := by unfold psV; rw [psA_iff.2 h]; exact ⟨rfl, rfl⟩
theorem psV_short (s : ByteArray) : (psV s).length ≤ 1048576 := by
  cases h : psA s
  · have e := (ps_no (show ¬ ParsB s from fun hp => by rw [psA_iff.2 hp] at h; cases h)).1
    rw [e]; simp
  · rw [(ps_yes (psA_iff.1 h)).1]
    have := (psA_iff.1 h).good.eight
    omega
theorem GoodS.all {f : List Sl} (h : GoodS f) : ∀ x ∈ f, goodSl x = true := fun x hx => by
  obtain ⟨j, hj, rfl⟩ := List.mem_iff_getElem.1 hx
  exact h.at_ hj
/-- The end of impl's loop. -/
theorem ps_end {s : ByteArray} {E : List ByteArray} {F : List Sl} (h : pcs 32 s = E ++ [⟨#[]⟩]) (hr : Rels E F) (h8 : F.length ≤ 8) : psA s = stkB F ∧ (stkB F = true → psV s = F) := by
  have hd : (pcs 32 s).dropLast = E := by rw [h]; simp
  have hl : (pcs 32 s).getLast? = some ⟨#[]⟩ := by rw [h]; simp
  have hn : (pcs 32 s).length ≤ 9 := by rw [h, List.length_append, hr.len]; simp; omega
  cases hg : stkB F
  · refine ⟨psA_no fun hp => ?_, fun h => by cases h⟩
    have h2 := hp.two; have h3 := hp.good
    rw [hd] at h2 h3
    have e := hr.same (fun p hp => ⟨h2 p hp, h3.all _ (List.mem_map_of_mem hp)⟩)
    rw [e] at h3
    rw [stkB_iff.2 h3] at hg; cases hg
  · have hG := stkB_iff.1 hg
    obtain ⟨i1, i2⟩ := hr.good hG.all
    have hp : ParsB s := ⟨hn, hl, by rw [hd]; exact i1, by rw [hd, i2]; exact hG⟩
    exact ⟨psA_iff.2 hp, fun _ => by rw [(ps_yes hp).1, hd, i2]⟩
theorem ps_miss {s R : ByteArray} {E : List ByteArray} (h : pcs 32 s = E ++ pcs 32 R) (hm : pcs 32 R = [R]) (hR : R.size ≠ 0) : ¬ ParsB s := fun hp => by
  have hl := hp.last
  rw [h, hm] at hl
  have : R = ⟨#[]⟩ := by simpa using hl
  rw [this] at hR; exact hR rfl
theorem ps_bad {s R p r a b : ByteArray} {E : List ByteArray} (h : pcs 32 s = E ++ pcs 32 R) (hm : pcs 32 R = p :: pcs 32 r) (hc : CutIs 120 p a b) (hb : ((decP a).2 && (decP b).2) = false) : ¬ ParsB s := fun hp => by
  have hr := pcs_some 32 r
  have hd : p ∈ (pcs 32 s).dropLast := by
    rw [h, hm]
    cases hq : pcs 32 r with
    | nil => rw [hq] at hr; cases hr
    | cons q L =>
      rw [List.dropLast_append_of_ne_nil (by simp), List.dropLast_cons_of_ne_nil (by simp)]
      simp
  have h2 := hp.two p hd
  have h3 := hp.good.all _ (List.mem_map_of_mem hd)
  obtain ⟨e1, e2⟩ := good_dec hc h2 h3
  rw [e1, e2] at hb; cases hb
theorem ps_full {s R p r : ByteArray} {E : List ByteArray} {F : List Sl} (h : pcs 32 s = E ++ pcs 32 R) (hm : pcs 32 R = p :: pcs 32 r) (hr : Rels E F) (h8 : F.length = 8) : ¬ ParsB s := fun hp => by
  have h9 := hp.nine
  have := pcs_some 32 r
  rw [h, hm, List.length_append, List.length_cons, hr.len] at h9
  omega
end Go.Proofs.YtljakcfdjcjdbaaDoor

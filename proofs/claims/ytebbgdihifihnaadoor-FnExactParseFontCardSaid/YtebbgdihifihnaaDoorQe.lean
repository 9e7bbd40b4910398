/-
  spec.ParseFont and impl.ParseFont, in plain words, answer the same. (For ParseFont.)
-/
import Derived.Test.YtebbgdihifihnaaDoorQk
namespace Go.Proofs.YtebbgdihifihnaaDoor.P
open Go.RowKit
set_option linter.unusedVariables false

def digitsL : List UInt8 := [48, 49, 50, 51, 52, 53, 54, 55, 56, 57]
/-- What impl.parseSort takes of a piece. -/
def sortOf (p : ByteArray) : Option (ByteArray × Int) :=
  if Lib.indexAny p.data.toList digitsL < 0 then none
  else if (decP (p.extract (Lib.indexAny p.data.toList digitsL).toNat p.size)).2 && tySortF (p.extract 0 (Lib.indexAny p.data.toList digitsL).toNat) (decP (p.extract (Lib.indexAny p.data.toList digitsL).toNat p.size)).1 then
    some (p.extract 0 (Lib.indexAny p.data.toList digitsL).toNat, (decP (p.extract (Lib.indexAny p.data.toList digitsL).toNat p.size)).1)
  else none
theorem digits_isDig (c : UInt8) : digitsL.contains c = isDig c := by
  rw [Bool.eq_iff_iff, isDig_int]
  simp only [digitsL, List.contains_iff_mem, List.mem_cons, List.not_mem_nil, or_false, Bool.and_eq_true, decide_eq_true_eq, ← UInt8.toNat_inj]
  have e : ∀ n : Nat, n < 256 → (UInt8.ofNat n).toNat = n := fun n h => by simp; omega
  show (c.toNat = 48 ∨ c.toNat = 49 ∨ c.toNat = 50 ∨ c.toNat = 51 ∨ c.toNat = 52 ∨ c.toNat = 53 ∨ c.toNat = 54 ∨ c.toNat = 55 ∨ c.toNat = 56 ∨ c.toNat = 57) ↔ _
  omega
theorem let_not_dig {c : UInt8} (h : isLet c = true) : isDig c = false := by
  cases hd : isDig c
  · rfl
  · rw [dig_not_let hd] at h; cases h
theorem piece_index {c : ByteArray} {n : Int} (hc : lets c.data.toList = true) (h1 : 1 ≤ n) : Lib.indexAny (pieceB (c, n)).data.toList digitsL = c.size := by
  obtain ⟨x, r, hx, hd⟩ := num_head h1
  have e : c.data.toList.length = c.size := Array.length_toList
  rw [← e]
  refine Lib.indexAny_hit (x := x) (fun j y hj hy => ?_) ?_ (by rw [digits_isDig]; exact hd)
  · rw [piece_list, List.getElem?_append_left hj] at hy
    rw [digits_isDig]
    exact let_not_dig (List.all_eq_true.1 hc y (List.mem_of_getElem? hy))
  · rw [piece_list, List.getElem?_append_right (Nat.le_refl _), hx]; simp
theorem sort_piece {c : ByteArray} {n : Int} (h : tySortF c n = true) : sortOf (pieceB (c, n)) = some (c, n) := by
  obtain ⟨h1, h2, h3⟩ := sort_facts h
  obtain ⟨p1, p2⟩ := piece_cut c n
  unfold sortOf
  rw [piece_index h1 h2, if_neg (by omega), Int.toNat_natCast, p1, p2, num_dec h2 (by omega)]
  simp [h]
theorem index_le (p : ByteArray) (h : ¬ Lib.indexAny p.data.toList digitsL < 0) : (Lib.indexAny p.data.toList digitsL).toNat ≤ p.size := by
  have e : p.data.toList.length = p.size := Array.length_toList
  rcases Nat.lt_or_ge p.size (Lib.indexAny p.data.toList digitsL).toNat with hl | hl
  · exfalso
    have : ∀ l : List UInt8, Lib.indexAny l digitsL ≤ l.length := by
      intro l
      induction l with
      | nil => simp [Lib.indexAny]
      | cons b l ih =>
        unfold Lib.indexAny
        split
        · simp; omega
        · split
          · simp; omega
          · simp; omega
    have := this p.data.toList
    omega
  · exact hl
theorem piece_sort {p c : ByteArray} {n : Int} (h : sortOf p = some (c, n)) : p = pieceB (c, n) ∧ tySortF c n = true := by
  unfold sortOf at h
  split at h
  · cases h
  · rename_i hi
    split at h
    · rename_i hb
      rw [Bool.and_eq_true] at hb
      have hle := index_le p hi
      generalize (Lib.indexAny p.data.toList digitsL).toNat = i at *
      have h' := Option.some.inj h
      have e1 : p.extract 0 i = c := congrArg Prod.fst h'
      have e2 : (decP (p.extract i p.size)).1 = n := congrArg Prod.snd h'
      rw [e1, e2] at hb
      obtain ⟨g1, g2, g3⟩ := sort_facts hb.2
      have e3 : decP (p.extract i p.size) = (n, true) := by rw [← e2, ← hb.1]
      have := piece_of_cut hle e3 g2
      rw [e1] at this
      exact ⟨this, hb.2⟩
    · cases h

def impF : List ByteArray → List (ByteArray × Int) → Option (List (ByteArray × Int))
  | [], acc => none
  | [p], acc => if p = ⟨#[]⟩ then some acc else none
  | p :: q :: r, acc => match sortOf p with
    | none => none
    | some f => if acc.length = 32 then none else impF (q :: r) (acc ++ [f])
theorem imp_some : ∀ (L : List ByteArray) (acc F : List (ByteArray × Int)), impF L acc = some F → ∃ G, F = acc ++ G ∧ L = G.map pieceB ++ [⟨#[]⟩]
  | [], acc, F, h => by cases h
  | [p], acc, F, h => by
    unfold impF at h
    split at h
    · rename_i hp
      exact ⟨[], by rw [← Option.some.inj h]; simp, by rw [hp]; rfl⟩
    · cases h
  | p :: q :: r, acc, F, h => by
    unfold impF at h
    cases hs : sortOf p with
    | none => rw [hs] at h; cases h
    | some f =>
      rw [hs] at h
      simp only at h
      split at h
      · cases h
      · obtain ⟨G, h1, h2⟩ := imp_some (q :: r) _ F h
        obtain ⟨c, n⟩ := f
        refine ⟨(c, n) :: G, by rw [h1]; simp, ?_⟩
        rw [h2, (piece_sort hs).1]; rfl
theorem imp_of : ∀ (G acc : List (ByteArray × Int)), (∀ r ∈ G, tySortF r.1 r.2 = true) → acc.length + G.length ≤ 32 → impF (G.map pieceB ++ [⟨#[]⟩]) acc = some (acc ++ G)
  | [], acc, _, _ => by simp [impF]
  | (c, n) :: G, acc, h, hl => by
    have hs := sort_piece (h (c, n) (List.mem_cons_self ..))
    have ih := imp_of G (acc ++ [(c, n)]) (fun r hr => h r (List.mem_cons_of_mem _ hr)) (by simp at hl ⊢; omega)
    have hne : ¬ acc.length = 32 := by simp at hl; omega
    cases hG : G.map pieceB ++ [(⟨#[]⟩ : ByteArray)] with
    | nil => simp at hG
    | cons q r =>
      rw [hG] at ih
      show impF (pieceB (c, n) :: (G.map pieceB ++ [⟨#[]⟩])) acc = _
      rw [hG]
      unfold impF
      rw [hs]
      simp only
      rw [if_neg hne, ih]; simp
noncomputable def impP (s : ByteArray) : Option (List (ByteArray × Int)) := (impF (pcs 59 s) []).bind fun F => if fontB F then some F else none
def specR (s : ByteArray) : List (ByteArray × Int) := (pcs 59 s).dropLast.map rowOf
noncomputable def specP (s : ByteArray) : Option (List (ByteArray × Int)) := @ite _ ((pcs 59 s).length ≤ 33 ∧ fontB (specR s) = true ∧ baOf (ftK (specR s) (specR s).length) = s) (Classical.propDecidable _) (some (specR s)) none
theorem font_sorts {F : List (ByteArray × Int)} (h : fontB F = true) : (∀ r ∈ F, tySortF r.1 r.2 = true) ∧ F.length ≤ 32 := by
  have hF := fontB_iff.1 h
  refine ⟨fun r hr => ?_, hF.2.2⟩
  obtain ⟨k, hk, rfl⟩ := List.getElem_of_mem hr
  have := hF.1 k hk
  unfold okAt at this
  simp only [Bool.and_eq_true] at this
  exact this.1
theorem list_of {L : List ByteArray} {M : List (List UInt8)} (h : L.map (·.data.toList) = M) : L = M.map fun l => (⟨l.toArray⟩ : ByteArray) := by
  rw [← h, List.map_map]
  conv => lhs; rw [← List.map_id L]
  refine List.map_congr_left fun x _ => ?_
  show x = ⟨x.data.toList.toArray⟩
  first | rfl | simp
theorem pcs_text {F : List (ByteArray × Int)} (h : ∀ r ∈ F, tySortF r.1 r.2 = true) : pcs 59 (baOf (ftK F F.length)) = F.map pieceB ++ [⟨#[]⟩] := by
  have e : (baOf (ftK F F.length)).data.toList = withC 59 (F.map fun r => (pieceB r).data.toList) := by
    have := text_pieces F F.length (Nat.le_refl _)
    rw [List.take_length] at this
    exact this
  have h1 := pcs_lp 59 (baOf (ftK F F.length))
  rw [e, lp_withC 59 _ (fun p hp => by
    obtain ⟨r, hr, rfl⟩ := List.mem_map.1 hp
    exact piece_no59 (h r hr))] at h1
  rw [list_of h1, List.map_append, List.map_map]
  rfl
theorem rows_of {F : List (ByteArray × Int)} (h : ∀ r ∈ F, tySortF r.1 r.2 = true) : (F.map pieceB).map rowOf = F := by
  rw [List.map_map]
  conv => rhs; rw [← List.map_id F]
  exact List.map_congr_left fun r hr => row_sort (h r hr)
theorem text_of {s : ByteArray} {F : List (ByteArray × Int)} (h : pcs 59 s = F.map pieceB ++ [⟨#[]⟩]) : baOf (ftK F F.length) = s := by
  have h1 := pcs_lp 59 s
  have h2 := lp_all 59 s.data.toList
  rw [← h1, h, List.map_append, List.map_map] at h2
  have h3 : withC 59 (F.map ((·.data.toList) ∘ pieceB) ++ [[]]) = withC 59 (F.map fun r => (pieceB r).data.toList) ++ [59] := by
    unfold withC; rw [List.flatMap_append]; rfl
  have h4 : withC 59 (F.map fun r => (pieceB r).data.toList) ++ [59] = s.data.toList ++ [59] := h3.symm.trans h2
  have h5 := List.append_cancel_right h4
  have h6 := text_pieces F F.length (Nat.le_refl _)
  rw [List.take_length] at h6
  apply ba_ext
  show ftK F F.length = _
  rw [h6, h5]
/-- The two parsers say the same. -/
theorem parse_same (s : ByteArray) : impP s = specP s := by
  unfold impP specP
  by_cases hc : (pcs 59 s).length ≤ 33 ∧ fontB (specR s) = true ∧ baOf (ftK (specR s) (specR s).length) = s
  · rw [if_pos hc]
    obtain ⟨h1, h2, h3⟩ := hc
    obtain ⟨g1, g2⟩ := font_sorts h2
    have h4 := pcs_text g1
    rw [h3] at h4
    rw [h4, imp_of _ [] g1 (by simpa using g2)]
    simp [h2]
  · rw [if_neg hc]
    cases hF : impF (pcs 59 s) [] with
    | none => rfl
    | some F =>
      show (if fontB F then some F else none) = none
      cases hg : fontB F
      · rfl
      · exfalso
        obtain ⟨G, h1, h2⟩ := imp_some _ _ _ hF
        obtain rfl : F = G := by simpa using h1
        obtain ⟨g1, g2⟩ := font_sorts hg
        have e1 : specR s = F := by
          unfold specR
          rw [h2, List.dropLast_concat, rows_of g1]
        refine hc ⟨by rw [h2]; simp; omega, by rw [e1]; exact hg, by rw [e1]; exact text_of h2⟩
end Go.Proofs.YtebbgdihifihnaaDoor.P

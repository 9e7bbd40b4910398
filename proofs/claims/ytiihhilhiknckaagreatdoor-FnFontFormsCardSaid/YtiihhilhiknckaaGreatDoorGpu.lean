/-
  Plain facts for FnFontForms: a sort that came can go again; a font's text is read back; missing letters are met and have no sort.
-/
import Derived.Test.YtiihhilhiknckaaGreatDoorWs
import Derived.Test.YtiihhilhiknckaaGreatDoorWo
import Derived.Test.YtiihhilhiknckaaGreatDoorSoc
import Derived.Test.YtiihhilhiknckaaGreatDoorMis
import Derived.Test.YtiihhilhiknckaaGreatDoorQw
namespace Go.Proofs.YtiihhilhiknckaaGreatDoor
open Go.RowKit
set_option linter.unusedVariables false

theorem ws_parts {f L : List (ByteArray × Int)} {c : ByteArray} {n : Int} (h : wsF f c n = some L) : fontB f = true ∧ tySortF c n = true ∧ findI f c 0 < 0 ∧ f.length ≠ 32 ∧ L = putIn f c n := by
  by_cases h0 : fontB f = true ∧ tySortF c n = true ∧ findI f c 0 < 0 ∧ f.length ≠ 32
  · obtain ⟨h1, h2, h3, h4⟩ := h0
    rw [ws_yes h1 h2 h3 h4] at h
    exact ⟨h1, h2, h3, h4, (Option.some.inj h).symm⟩
  · rw [ws_no (by
      by_cases h1 : fontB f = true
      · by_cases h2 : tySortF c n = true
        · by_cases h3 : findI f c 0 < 0
          · exact .inr (.inr (.inr (by by_cases h4 : f.length = 32; exact h4; exact absurd ⟨h1, h2, h3, h4⟩ h0)))
          · exact .inr (.inr (.inl h3))
        · exact .inr (.inl (by simpa using h2))
      · exact .inl (by simpa using h1))] at h
    cases h

theorem ws_wo {f L : List (ByteArray × Int)} {c : ByteArray} {n : Int} (h : wsF f c n = some L) : woF L c = some f := by
  obtain ⟨h1, h2, h3, h4, rfl⟩ := ws_parts h
  have hF := fontB_iff.1 h1
  have hno : ∀ i, i < f.length → codeAt f i ≠ c.data.toList := by
    rcases findI_cases f c with ⟨_, h⟩ | ⟨i, _, _, h⟩
    · exact h
    · omega
  have hp := posF_le f c
  have hLF : fontB (putIn f c n) = true := fontB_iff.2 (putIn_font hF h2 hno h4)
  have hcode : ∀ i, codeAt (putIn f c n) i = if i < posF f c then codeAt f i else if i = posF f c then c.data.toList else codeAt f (i - 1) := fun i => by
    unfold codeAt
    rw [putIn_get]
    split
    · rfl
    · split <;> rfl
  have hfi : findI (putIn f c n) c 0 = (posF f c : Int) := by
    rcases findI_cases (putIn f c n) c with ⟨_, h⟩ | ⟨i, hi, he, h⟩
    · exact absurd (by rw [hcode]; simp) (h (posF f c) (by rw [putIn_len]; omega))
    · rw [h]
      rw [hcode] at he
      rw [putIn_len] at hi
      split at he
      · exact absurd he (hno i (by omega))
      · split at he
        · rename_i e; rw [e]
        · exact absurd he (hno (i - 1) (by omega))
  rw [wo_yes hLF hfi (by rw [putIn_len]; have := hF.2.1; omega)]
  congr 1
  unfold putIn
  have e : (f.take (posF f c)).length = posF f c := by rw [List.length_take]; omega
  rw [List.take_append_of_le_length (by omega), List.take_of_length_le (by omega), List.drop_append, List.drop_of_length_le (by omega), e]
  rw [show posF f c + 1 - posF f c = 1 by omega]
  simp

theorem wo_soc {f : List (ByteArray × Int)} {s : ByteArray} (h : (woF f s).isSome = true) : (socF f s).isSome = true := by
  unfold woF at h
  unfold socF
  split at h
  · rename_i h1
    simp only [Bool.and_eq_true] at h1
    rw [if_pos (by simp [h1.1, h1.2.1])]; rfl
  · cases h

theorem miss_at {f : List (ByteArray × Int)} {ws : List ByteArray} {n : Nat} {x : UInt8} (h : x ∈ missL f ws n) : ∃ k, k < n ∧ x = letB k ∧ metIn ws x = true ∧ findI f (oneB k) 0 < 0 := by
  unfold missL at h
  obtain ⟨k, hk, rfl⟩ := List.mem_map.1 h
  obtain ⟨h1, h2⟩ := List.mem_filter.1 hk
  unfold isMiss at h2
  simp only [Bool.and_eq_true, decide_eq_true_eq] at h2
  exact ⟨k, by simpa using h1, rfl, h2.1, h2.2⟩

theorem parse_text {f : List (ByteArray × Int)} (hf : fontB f = true) : P.specP (P.baOf (P.ftK f f.length)) = some f := by
  obtain ⟨hs, hl⟩ := P.font_sorts hf
  have hp := P.pcs_text hs
  have hR : P.specR (P.baOf (P.ftK f f.length)) = f := by
    unfold P.specR
    rw [hp, List.dropLast_concat, P.rows_of hs]
  have := P.specP_some (s := P.baOf (P.ftK f f.length)) (by
    rw [hR, hp]
    refine ⟨by simp; omega, hf, rfl⟩)
  rw [this, hR]
end Go.Proofs.YtiihhilhiknckaaGreatDoor

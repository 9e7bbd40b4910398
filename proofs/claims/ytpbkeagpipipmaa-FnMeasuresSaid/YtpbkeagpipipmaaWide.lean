/-
  The contracts of spec.tyWide, spec.tyWidth, spec.WidthOfWord and impl.WidthOfWord: the sum of the widths of the sorts with which a word is set.
-/
import Derived.Test.YtpbkeagpipipmaaMxf
namespace Go.Proofs.Ytpbkeagpipipmaa.S1
open Go.RowKit
set_option linter.unusedVariables false

def widthAt (f : List (ByteArray × Int)) (i : Nat) : Int := (f.getD i (.empty, 0)).2
theorem widthAt_of {f : List (ByteArray × Int)} {i : Nat} (h : i < f.length) : widthAt f i = f[i].2 := by
  unfold widthAt; rw [List.getD_eq_getElem?_getD, List.getElem?_eq_getElem h]; rfl
def wideF (f : List (ByteArray × Int)) : List Nat → Int
  | [] => 0
  | i :: r => widthAt f i + wideF f r
theorem wideF_append (f : List (ByteArray × Int)) (a b : List Nat) : wideF f (a ++ b) = wideF f a + wideF f b := by
  induction a with
  | nil => simp [wideF]
  | cons x a ih => simp only [List.cons_append, wideF, ih]; omega
theorem wideF_snoc (f : List (ByteArray × Int)) (l : List Nat) (k : Nat) (h : k < l.length) : wideF f (l.take (k + 1)) = wideF f (l.take k) + widthAt f l[k] := by
  rw [List.take_succ_eq_append_getElem h, wideF_append]; simp [wideF]
theorem wideF_bound {f : List (ByteArray × Int)} (hf : Font f) : ∀ (l : List Nat), (∀ i ∈ l, i < f.length) → 0 ≤ wideF f l ∧ wideF f l ≤ 54 * (l.length : Int)
  | [], _ => ⟨Int.le_refl _, by simp [wideF]⟩
  | i :: r, h => by
    have h1 := h i (by simp)
    have h2 := hf.width h1
    have h3 := wideF_bound hf r fun j hj => h j (by simp [hj])
    simp only [wideF, widthAt_of h1, List.length_cons]
    omega
theorem setF_mem {f : List (ByteArray × Int)} {s : ByteArray} : ∀ {n p : Nat} {l : List Nat}, setF f s n p = some l → ∀ i ∈ l, i < f.length
  | 0, p, l, h => by
    simp only [setF] at h
    split at h
    · simp at h; subst h; simp
    · cases h
  | n + 1, p, l, h => by
    simp only [setF] at h
    split at h
    · simp at h; subst h; simp
    · split at h
      · cases h
      · rename_i i hi
        cases hr : setF f s n (p + (codeAt f i).length) with
        | none => rw [hr] at h; cases h
        | some m =>
          rw [hr] at h
          simp at h
          subst h
          intro j hj
          rcases List.mem_cons.1 hj with rfl | hj
          · exact (lastPre_some hi).1
          · exact setF_mem hr j hj
theorem intL_get (l : List Nat) (k : Nat) (h : k < (intL l).length) : (intL l)[k] = ((l[k]'(by rw [intL_len] at h; exact h) : Nat) : Int) := by simp [intL]

theorem tyWide_any (f : List (ByteArray × Int)) (l : List Nat) (A B : Option Addr) (c d : Nat) (lo : Nat) (w : World) (hf : SortsIn w lo A f) (hg : IntsIn w B (intL l)) (hF : Font f) (hi : ∀ i ∈ l, i < f.length) (hn : l.length ≤ 1000) :
    Calls Try.prog 97 #[.slice A f.length c, .slice B l.length d] w fun e w' => e = .returned (.int .i64 (wideF f l)) ∧ w = w' := by
  have HF := Lib.hid hf; clear hf
  have HG := Lib.hid hg; clear hg
  have HFF := Lib.hid hF
  have hn32 : f.length ≤ 32 := hF.2.2
  have HI := Lib.hid hi
  clear hi hF
  go_enter Try.func97, Try.ntmps97
  go_wp2
  go_loop [5, 10] (fun q i => ∃ (k : Nat) (S : Int), k ≤ l.length ∧ i = .int .i64 k ∧ q = .int .i64 S ∧ S = wideF f (l.take k) ∧ 0 ≤ S ∧ S ≤ 54 * (k : Int)) (fun _ i => l.length - (intOf i).toNat)
  case atStart => exact ⟨0, 0, Nat.zero_le _, rfl, rfl, by simp [wideF], by omega, by omega⟩
  case round =>
    obtain ⟨k, S, hk, rfl, rfl, hs, hs0, hs1⟩ := hrel
    have HS := Lib.hid hs; clear hs
    by_cases hlt : k < l.length
    · obtain ⟨b', off', rfl, hbl', hd⟩ := HG.out (by rw [intL_len]; omega)
      have hd0 := hd k (by rw [intL_len]; exact hlt)
      rw [intL_get] at hd0
      clear hd
      have hix : l[k] < f.length := HI.out _ (List.getElem_mem hlt)
      obtain ⟨b, off, rfl, _, hbl, hc⟩ := HF.out (by omega)
      have hc1 := (hc l[k] hix).2
      clear hc
      have hw := HFF.out.width hix
      have HST := Lib.hid (wideF_snoc f l k hlt)
      have HWA := Lib.hid (widthAt_of hix)
      generalize hgi : l[k] = i at *
      have HGI := Lib.hid hgi; clear hgi
      go_wp2
      go_round
      case rel => exact ⟨k + 1, _, by omega, by go_num, rfl, by rw [HST.out, HWA.out, HS.out], by omega, by omega⟩
      case measure => simp [intOf]; omega
    · obtain rfl : k = l.length := by omega
      go_wp2
      go_ret
      exact ⟨ret_int (by rw [HS.out, List.take_length]), rfl⟩

theorem setW_mem {f : List (ByteArray × Int)} {s : ByteArray} : ∀ i ∈ (setW f s).getD [], i < f.length := by
  cases h : setW f s with
  | none => simp
  | some l => exact setF_mem h
theorem setW_len {f : List (ByteArray × Int)} {s : ByteArray} (hs : s.size ≤ 16) : ((setW f s).getD []).length ≤ 16 := by
  cases h : setW f s with
  | none => simp
  | some l => have := setF_len h; simp; omega

theorem tyWidth_any (f : List (ByteArray × Int)) (A : Option Addr) (cap : Nat) (s : ByteArray) (lo : Nat) (w : World) (hf : SortsIn w lo A f) (hF : Font f) (hs : s.size ≤ 16) :
    Calls Try.prog 89 #[.slice A f.length cap, .string s] w fun e w' => e = .returned (.tuple #[.int .i64 (wideF f ((setW f s).getD [])), .bool (setW f s).isSome]) ∧ Below w.heap.size w w' := by
  have HS := Lib.hid hf; clear hf
  have HF := Lib.hid hF; clear hF
  go_enter Try.func89, Try.ntmps89
  go_wp2_with fail
  refine (tySet_any f A cap s lo _ HS.out HF.out hs).mono ?_
  intro e w1 hto
  obtain ⟨v, rfl, hb, ho⟩ := hto.get
  obtain ⟨B, d, rfl⟩ := own_form ho
  have HI := Lib.hid (own_in ho)
  have HM := Lib.hid (setW_mem (f := f) (s := s))
  have hlen := setW_len (f := f) hs
  have H1 := Lib.hid (HS.out.below hb (Nat.le_refl _))
  clear hto ho
  generalize hbb : (setW f s).isSome = bb at *
  generalize hll : (setW f s).getD [] = l at *
  have HBB := Lib.hid hbb; have HLL := Lib.hid hll
  clear hbb hll
  rw [intL_len]
  go_wp2_with fail
  refine (tyWide_any f l A B _ _ lo _ H1.out HI.out HF.out HM.out (by omega)).mono ?_
  rintro e w2 ⟨rfl, rfl⟩
  go_wp2
  go_ret2
  exact ⟨by rw [HBB.out, HLL.out]; rfl, hb⟩

theorem sow_of_font {f : List (ByteArray × Int)} {s : ByteArray} (h : (fontB f && isWordF s) = true) : sowF f s = setW f s := by unfold sowF; rw [h]; rfl
theorem sow_of_no {f : List (ByteArray × Int)} {s : ByteArray} (h : (fontB f && isWordF s) = false) : sowF f s = none := by unfold sowF; rw [h]; rfl

theorem sowF_mem {f : List (ByteArray × Int)} {s : ByteArray} : ∀ i ∈ (sowF f s).getD [], i < f.length := by
  unfold sowF; split
  · exact setW_mem
  · simp
theorem sowF_font {f : List (ByteArray × Int)} {s : ByteArray} (h : (sowF f s).isSome = true) : Font f := by
  unfold sowF at h
  split at h
  · rename_i hv
    simp only [Bool.and_eq_true] at hv
    exact fontB_iff.1 hv.1
  · cases h

set_option maxHeartbeats 400000 in
theorem implWidth_any (f : List (ByteArray × Int)) (A : Option Addr) (cap : Nat) (s : ByteArray) (lo : Nat) (w : World) (hf : SortsIn w lo A f) (hn : f.length ≤ 1048576) (ho : CodesOk f) (hs : s.size ≤ maxLen) :
    Calls Try.prog 39 #[.slice A f.length cap, .string s] w fun e w' => e = .returned (.tuple #[.int .i64 (wideF f ((sowF f s).getD [])), .bool (sowF f s).isSome]) ∧ Below w.heap.size w w' := by
  have HS := Lib.hid hf; clear hf
  have HO := Lib.hid ho; clear ho
  go_enter Try.func39, Try.ntmps39
  go_wp2_with fail
  refine (implSow_any f A cap s lo _ HS.out hn HO.out hs).mono ?_
  intro e w1 hto
  cases hr : sowF f s with
  | none =>
    rw [hr] at hto
    obtain ⟨hb1, rfl⟩ := hto
    have HR := Lib.hid hr; clear hr
    go_wp2
    go_ret2
    exact ⟨by rw [HR.out]; rfl, hb1⟩
  | some l =>
    obtain ⟨v, rfl, hb, ho⟩ := hto.get
    obtain ⟨B, d, rfl⟩ := own_form ho
    have HG := Lib.hid (own_in ho)
    have HI := Lib.hid (sowF_mem (f := f) (s := s))
    have hlen := sow_len f s
    have HFF := Lib.hid (sowF_font (f := f) (s := s) (by rw [hr]; rfl))
    have hn32 : f.length ≤ 32 := HFF.out.2.2
    have HF := Lib.hid (HS.out.below hb (Nat.le_refl _))
    rw [hr] at HG HI hlen
    simp only [hr, Option.getD_some, Option.isSome_some] at HG HI hlen ⊢
    rw [intL_len] at hlen ⊢
    have HR := Lib.hid hr
    clear hto ho hr
    go_wp2
    go_loop [8, 21] (fun q i => ∃ (k : Nat) (S : Int), k ≤ l.length ∧ i = .int .i64 k ∧ q = .int .i64 S ∧ S = wideF f (l.take k) ∧ 0 ≤ S ∧ S ≤ 54 * (k : Int)) (fun _ i => l.length - (intOf i).toNat)
    case atStart => exact ⟨0, 0, Nat.zero_le _, rfl, rfl, by simp [wideF], by omega, by omega⟩
    case round =>
      obtain ⟨k, S, hk, rfl, rfl, hs', hs0, hs1⟩ := hrel
      have HSS := Lib.hid hs'; clear hs'
      by_cases hlt : k < l.length
      · obtain ⟨b', off', rfl, hbl', hd⟩ := HG.out (by rw [intL_len]; omega)
        have hd0 := hd k (by rw [intL_len]; exact hlt)
        rw [intL_get] at hd0
        clear hd
        have hix : l[k] < f.length := HI.out _ (List.getElem_mem hlt)
        obtain ⟨b, off, rfl, _, hbl, hc⟩ := HF.out (by omega)
        have hc1 := (hc l[k] hix).2
        clear hc
        have hw := HFF.out.width hix
        have HST := Lib.hid (wideF_snoc f l k hlt)
        have HWA := Lib.hid (widthAt_of hix)
        generalize hgi : l[k] = i at *
        have HGI := Lib.hid hgi; clear hgi
        go_wp2
        go_round
        case rel => exact ⟨k + 1, _, by omega, by go_num, rfl, by rw [HST.out, HWA.out, HSS.out], by omega, by omega⟩
        case measure => simp [intOf]; omega
      · obtain rfl : k = l.length := by omega
        have HE : Hid (S = wideF f l) := by show S = _; rw [HSS.out, List.take_length]
        go_wp2
        go_ret2
        exact ⟨by rw [HR.out]; show _ = Ending.returned (.tuple #[.int .i64 (wideF f l), .bool true]); rw [← HE.out]; rfl, hb⟩
end Go.Proofs.Ytpbkeagpipipmaa.S1

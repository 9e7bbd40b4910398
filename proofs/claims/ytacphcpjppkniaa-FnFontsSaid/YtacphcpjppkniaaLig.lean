/-
  The contracts of spec.LigaturesIn and impl.LigaturesIn: the Codes of more than one letter with which a word is set, in memory of the call's own.
-/
import Derived.Test.YtacphcpjppkniaaWide
import Derived.Test.YtacphcpjppkniaaStr
namespace Go.Proofs.Ytacphcpjppkniaa
open Go.RowKit
set_option linter.unusedVariables false

def codeB (f : List (ByteArray × Int)) (i : Nat) : ByteArray := (f.getD i (.empty, 0)).1
theorem codeB_of {f : List (ByteArray × Int)} {i : Nat} (h : i < f.length) : codeB f i = f[i].1 := by
  unfold codeB; rw [List.getD_eq_getElem?_getD, List.getElem?_eq_getElem h]; rfl
def ligF (f : List (ByteArray × Int)) : List Nat → List ByteArray
  | [] => []
  | i :: r => (if 1 < (codeB f i).size then [codeB f i] else []) ++ ligF f r
theorem ligF_append (f : List (ByteArray × Int)) (a b : List Nat) : ligF f (a ++ b) = ligF f a ++ ligF f b := by
  induction a with
  | nil => simp [ligF]
  | cons x a ih => simp only [List.cons_append, ligF, ih, List.append_assoc]
theorem ligF_snoc (f : List (ByteArray × Int)) (l : List Nat) (k : Nat) (h : k < l.length) : ligF f (l.take (k + 1)) = ligF f (l.take k) ++ (if 1 < (codeB f l[k]).size then [codeB f l[k]] else []) := by
  rw [List.take_succ_eq_append_getElem h, ligF_append]; simp [ligF]
theorem ligF_len (f : List (ByteArray × Int)) : ∀ l : List Nat, (ligF f l).length ≤ l.length
  | [] => by simp [ligF]
  | i :: r => by
    have := ligF_len f r
    simp only [ligF, List.length_append, List.length_cons]
    split <;> simp <;> omega
theorem strs_snoc (l : List ByteArray) (s : ByteArray) : strs (l ++ [s]) = strs l ++ [.string s] := by simp [strs]
theorem strs_len (l : List ByteArray) : (strs l).length = l.length := by simp [strs]
theorem info9 : (Try.prog.info? 9).map (fun i => (i.zero, i.size, i.bytes)) = some (some (.string .empty), 1, 16) := by kernel_rfl

/-- A call's answer: a slice of strings of its own, and whether there is one. -/
def StrsTo (w w' : World) (e : Ending) (r : Option (List ByteArray)) : Prop :=
  ∃ v, e = .returned (.tuple #[v, .bool r.isSome]) ∧ Below w.heap.size w w' ∧ w'.ownsRow w.heap.size 9 1 v (r.getD []).length (strs (r.getD []))
theorem StrsTo.no {w w' : World} {r : Option (List ByteArray)} (h : r = none) (hb : Below w.heap.size w w') : StrsTo w w' (.returned (.tuple #[.slice none 0 0, .bool false])) r := by subst h; exact ⟨_, rfl, hb, own_nil _ _ _ _⟩
theorem StrsTo.yes {w w' : World} {r : Option (List ByteArray)} {l : List ByteArray} {v : Value} (h : r = some l) (hb : Below w.heap.size w w') (ho : w'.ownsRow w.heap.size 9 1 v l.length (strs l)) : StrsTo w w' (.returned (.tuple #[v, .bool true])) r := by subst h; exact ⟨v, rfl, hb, ho⟩
noncomputable def ligW (f : List (ByteArray × Int)) (s : ByteArray) : Option (List ByteArray) := (sowF f s).map (ligF f)

theorem below_append {w1 wr w4 : World} {B : Nat} {o : Obj} {v : Value} (hb : Below B w1 wr) (hg : (wr.alloc o).grownBy w4 v.ownBlock) (hB : B ≤ wr.heap.size) (hv : ∀ k, v.ownBlock = some k → B ≤ k) : Below B w1 w4 :=
  (hb.alloc hB o).grown hg (by simp; omega) hv

set_option maxRecDepth 100000 in
set_option maxHeartbeats 1000000 in
theorem implLig_any (f : List (ByteArray × Int)) (A : Option Addr) (cap : Nat) (s : ByteArray) (lo : Nat) (w : World) (hf : SortsIn w lo A f) (hn : f.length ≤ 1048576) (ho : CodesOk f) (hs : s.size ≤ maxLen) :
    Calls Try.prog 19 #[.slice A f.length cap, .string s] w fun e w' => StrsTo w w' e (ligW f s) := by
  have HS := Lib.hid hf; clear hf
  have HO := Lib.hid ho; clear ho
  go_enter Try.func19, Try.ntmps19
  go_wp2_with fail
  refine (implSow_any f A cap s lo _ HS.out hn HO.out hs).mono ?_
  intro e w1 hto
  cases hr : sowF f s with
  | none =>
    rw [hr] at hto
    obtain ⟨hb1, rfl⟩ := hto
    have HR : Hid (ligW f s = none) := by show _ = _; unfold ligW; rw [hr]; rfl
    clear hr
    go_wp2
    go_ret2
    exact StrsTo.no HR.out hb1
  | some l =>
    obtain ⟨v, rfl, hb, ho⟩ := hto.get
    obtain ⟨B, d, rfl⟩ := own_form ho
    have HG := Lib.hid (own_in ho)
    have HI := Lib.hid (sowF_mem (f := f) (s := s))
    have hlen := sow_len f s
    have HFF := Lib.hid (sowF_font (f := f) (s := s) (by rw [hr]; rfl))
    have hn32 : f.length ≤ 32 := HFF.out.2.2
    have HF := Lib.hid (HS.out.below hb (Nat.le_refl _))
    simp only [hr, Option.getD_some, Option.isSome_some] at HG HI hlen ⊢
    rw [intL_len] at hlen ⊢
    have HR := Lib.hid hr
    clear hto ho hr
    obtain ⟨i0, hi, hz0, hz1, hz2⟩ := info_parts info9
    have HI0 := Lib.hid hi; have HZ0 := Lib.hid hz0; have HZ1 := Lib.hid hz1; have HZ2 := Lib.hid hz2
    clear hi hz0 hz1 hz2
    go_wp2
    go_loopw [8, 21] (fun o i wr => ∃ (k : Nat) (acc : List ByteArray), k ≤ l.length ∧ i = .int .i64 k ∧ acc = ligF f (l.take k) ∧ acc.length ≤ k ∧ wr.ownsRow w1.heap.size 9 1 o acc.length (strs acc) ∧ Below w1.heap.size w1 wr) (fun _ i _ => l.length - (intOf i).toNat)
    case atStart => exact ⟨0, [], Nat.zero_le _, rfl, by simp [ligF], Nat.le_refl _, own_nil _ _ _ _, Below.refl _ _⟩
    case round =>
      obtain ⟨k, acc, hk, rfl, hs', hal, hown, hb1⟩ := hrel
      have HSS := Lib.hid hs'; clear hs'
      by_cases hlt : k < l.length
      · obtain ⟨b', off', rfl, hbl', hd⟩ := HG.out (by rw [intL_len]; omega)
        have hd0 := hd k (by rw [intL_len]; exact hlt)
        rw [intL_get] at hd0
        clear hd
        have hix : l[k] < f.length := HI.out _ (List.getElem_mem hlt)
        obtain ⟨b, off, rfl, _, hbl, hc⟩ := HF.out (by omega)
        have hc0 := (hc l[k] hix).1
        clear hc
        rw [← hb1.cell (p := ⟨b', off' + k, none⟩) hbl'] at hd0
        have hcr := (hb1.cell (p := ⟨b, off + l[k] * 2, none⟩) hbl).trans hc0
        have HST := Lib.hid (ligF_snoc f l k hlt)
        have HWA := Lib.hid (codeB_of hix)
        have hsz3 := (HFF.out.size hix).2.1
        rw [codeAt_of hix, len_list] at hsz3
        generalize hgi : l[k] = i at *
        have HGI := Lib.hid hgi; clear hgi hc0
        by_cases h1 : 1 < f[i].1.size
        · have hmx : acc.length + 1 ≤ maxLen := by unfold maxLen; omega
          have h1' : (1 : Int) < (f[i].1.size : Int) := by omega
          have hsw : w1.heap.size ≤ wr.heap.size := hb1.size
          go_wp2_with (at_builtin; refine wpList_append_own _ rfl _ _ 31 rfl w1.heap.size 9 i0 (.string .empty) 1 16 Try.underlying31 HI0.out HZ0.out HZ1.out HZ2.out rfl (by decide) _ _ _ rfl (hown.alloc _) ⟨wr.heap.size, 0, none⟩ 1 1 [.string f[i].1] rfl rfl (cell_one_new _ _ _) (by simp [Value.oneCell']) hmx (by omega) (by simp; omega) ?_)
          intro v' w4 hown' hgrow _
          have hb4 : Below w1.heap.size w1 w4 := below_append hb1 hgrow hb1.size (own_lt hown)
          have HO1 : Hid (w4.ownsRow w1.heap.size 9 1 v' (acc ++ [f[i].1]).length (strs (acc ++ [f[i].1]))) := by rw [List.length_append, strs_snoc]; exact hown'
          clear hown' hgrow hown hd0 hcr hb1
          go_wp2
          go_roundw
          case rel => exact ⟨k + 1, acc ++ [f[i].1], by omega, by go_num, by rw [HST.out, HWA.out, if_pos h1, HSS.out], by simp; omega, HO1.out, hb4⟩
          case measure => simp [intOf]; omega
        · have h1' : ¬ (1 : Int) < (f[i].1.size : Int) := by omega
          go_wp2
          go_roundw
          case rel => exact ⟨k + 1, acc, by omega, by go_num, by rw [HST.out, HWA.out, if_neg h1, HSS.out, List.append_nil], by omega, hown, hb1⟩
          case measure => simp [intOf]; omega
      · obtain rfl : k = l.length := by omega
        have HE : Hid (ligW f s = some acc) := by show _ = _; unfold ligW; rw [HR.out, HSS.out, List.take_length]; rfl
        have hbf := hb.trans (hb1.mono hb.size)
        go_wp2
        go_ret2
        exact StrsTo.yes HE.out hbf (Joins.ownsRow_le hown hb.size)

set_option maxRecDepth 100000 in
set_option maxHeartbeats 1000000 in
theorem specLig_any (f : List (ByteArray × Int)) (A : Option Addr) (cap : Nat) (s : ByteArray) (lo : Nat) (w : World) (hf : SortsIn w lo A f) (hn : f.length ≤ 1048576) (ho : CodesOk f) (hs : s.size ≤ maxLen) :
    Calls Try.prog 20 #[.slice A f.length cap, .string s] w fun e w' => StrsTo w w' e (ligW f s) := by
  have HS := Lib.hid hf; clear hf
  have HO := Lib.hid ho; clear ho
  go_enter Try.func20, Try.ntmps20
  go_wp2_with fail
  refine (tyAsked_any f A cap s lo _ HS.out hn HO.out hs).mono ?_
  rintro e w0 ⟨rfl, hb0⟩
  cases hv : fontB f && isWordF s
  · have HN : Hid (ligW f s = none) := by show _ = _; unfold ligW; rw [sow_of_no hv]; rfl
    clear hv
    go_wp2
    go_ret2
    exact StrsTo.no HN.out hb0
  · have HY := Lib.hid (sow_of_font hv)
    simp only [Bool.and_eq_true] at hv
    have HFF := Lib.hid (fontB_iff.1 hv.1)
    have hw := isWord_len hv.2
    have hn32 : f.length ≤ 32 := HFF.out.2.2
    have H1 := Lib.hid (HS.out.below hb0 (Nat.le_refl _))
    clear hv
    go_wp2_with fail
    refine (tySet_any f A cap s lo _ H1.out HFF.out hw.2).mono ?_
    intro e w1 hto
    have hsz0 := hb0.size
    cases hr : setW f s with
    | none =>
      rw [hr] at hto
      obtain ⟨hb1, rfl⟩ := hto
      have HR : Hid (ligW f s = none) := by show _ = _; unfold ligW; rw [HY.out, hr]; rfl
      have hb := hb0.trans (hb1.mono hsz0)
      clear hr
      go_wp2
      go_ret2
      exact StrsTo.no HR.out hb
    | some l =>
      obtain ⟨v, rfl, hb1, ho⟩ := hto.get
      obtain ⟨B, d, rfl⟩ := own_form ho
      have hb := hb0.trans (hb1.mono hsz0)
      have HG := Lib.hid (own_in ho)
      have HI := Lib.hid (setW_mem (f := f) (s := s))
      have hlen := setW_len (f := f) hw.2
      have HF := Lib.hid (HS.out.below hb (Nat.le_refl _))
      have HR : Hid (sowF f s = some l) := HY.out.trans hr
      simp only [hr, Option.getD_some, Option.isSome_some] at HG HI hlen ⊢
      rw [intL_len]
      clear hto ho hr hb0 hb1 H1
      obtain ⟨i0, hi, hz0, hz1, hz2⟩ := info_parts info9
      have HI0 := Lib.hid hi; have HZ0 := Lib.hid hz0; have HZ1 := Lib.hid hz1; have HZ2 := Lib.hid hz2
      clear hi hz0 hz1 hz2
      go_wp2
      go_loopw [8, 25] (fun o i wr => ∃ (k : Nat) (acc : List ByteArray), k ≤ l.length ∧ i = .int .i64 k ∧ acc = ligF f (l.take k) ∧ acc.length ≤ k ∧ wr.ownsRow w1.heap.size 9 1 o acc.length (strs acc) ∧ Below w1.heap.size w1 wr) (fun _ i _ => l.length - (intOf i).toNat)
      case atStart => exact ⟨0, [], Nat.zero_le _, rfl, by simp [ligF], Nat.le_refl _, own_nil _ _ _ _, Below.refl _ _⟩
      case round =>
        obtain ⟨k, acc, hk, rfl, hs', hal, hown, hb1⟩ := hrel
        have HSS := Lib.hid hs'; clear hs'
        by_cases hlt : k < l.length
        · obtain ⟨b', off', rfl, hbl', hd⟩ := HG.out (by rw [intL_len]; omega)
          have hd0 := hd k (by rw [intL_len]; exact hlt)
          rw [intL_get] at hd0
          clear hd
          have hix : l[k] < f.length := HI.out _ (List.getElem_mem hlt)
          obtain ⟨b, off, rfl, _, hbl, hc⟩ := HF.out (by omega)
          have hc0 := (hc l[k] hix).1
          clear hc
          rw [← hb1.cell (p := ⟨b', off' + k, none⟩) hbl'] at hd0
          have hcr := (hb1.cell (p := ⟨b, off + l[k] * 2, none⟩) hbl).trans hc0
          have HST := Lib.hid (ligF_snoc f l k hlt)
          have HWA := Lib.hid (codeB_of hix)
          have hsz3 := (HFF.out.size hix).2.1
          rw [codeAt_of hix, len_list] at hsz3
          generalize hgi : l[k] = i at *
          have HGI := Lib.hid hgi; clear hgi hc0
          by_cases h1 : 1 < f[i].1.size
          · have hmx : acc.length + 1 ≤ maxLen := by unfold maxLen; omega
            have h1' : (1 : Int) < (f[i].1.size : Int) := by omega
            have hsw : w1.heap.size ≤ wr.heap.size := hb1.size
            go_wp2_with (at_builtin; refine wpList_append_own _ rfl _ _ 31 rfl w1.heap.size 9 i0 (.string .empty) 1 16 Try.underlying31 HI0.out HZ0.out HZ1.out HZ2.out rfl (by decide) _ _ _ rfl (hown.alloc _) ⟨wr.heap.size, 0, none⟩ 1 1 [.string f[i].1] rfl rfl (cell_one_new _ _ _) (by simp [Value.oneCell']) hmx (by omega) (by simp; omega) ?_)
            intro v' w4 hown' hgrow _
            have hb4 : Below w1.heap.size w1 w4 := below_append hb1 hgrow hb1.size (own_lt hown)
            have HO1 : Hid (w4.ownsRow w1.heap.size 9 1 v' (acc ++ [f[i].1]).length (strs (acc ++ [f[i].1]))) := by rw [List.length_append, strs_snoc]; exact hown'
            clear hown' hgrow hown hd0 hcr hb1
            go_wp2
            go_roundw
            case rel => exact ⟨k + 1, acc ++ [f[i].1], by omega, by go_num, by rw [HST.out, HWA.out, if_pos h1, HSS.out], by simp; omega, HO1.out, hb4⟩
            case measure => simp [intOf]; omega
          · have h1' : ¬ (1 : Int) < (f[i].1.size : Int) := by omega
            go_wp2
            go_roundw
            case rel => exact ⟨k + 1, acc, by omega, by go_num, by rw [HST.out, HWA.out, if_neg h1, HSS.out, List.append_nil], by omega, hown, hb1⟩
            case measure => simp [intOf]; omega
        · obtain rfl : k = l.length := by omega
          have HE : Hid (ligW f s = some acc) := by show _ = _; unfold ligW; rw [HR.out, HSS.out, List.take_length]; rfl
          have hbf := hb.trans (hb1.mono hb.size)
          go_wp2
          go_ret2
          exact StrsTo.yes HE.out hbf (Joins.ownsRow_le hown hb.size)
theorem lig_len (f : List (ByteArray × Int)) (s : ByteArray) : ((ligW f s).getD []).length ≤ 16 := by
  unfold ligW
  have h := sow_len f s
  cases hr : sowF f s with
  | none => simp
  | some l =>
    rw [hr, intL_len] at h
    have := ligF_len f l
    simp at h ⊢; omega
end Go.Proofs.Ytacphcpjppkniaa

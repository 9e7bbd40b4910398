/-
  What MissingLetters answers, told plainly; the contract of spec.MissingLetters.
-/
import Derived.Test.YtiihhilhiknckaaGreatDoorWds
import Derived.Test.YtiihhilhiknckaaGreatDoorMark
namespace Go.Proofs.YtiihhilhiknckaaGreatDoor
open Go.RowKit
set_option linter.unusedVariables false

/-- The letter k of the alphabet, counted from 0 on. -/
def letB (k : Nat) : UInt8 := UInt8.ofNat (97 + k)
theorem letB_nat {k : Nat} (h : k < 26) : (letB k).toNat = 97 + k := by unfold letB; simp; omega
theorem letB_int {k : Nat} (h : k < 26) : ((letB k).toNat : Int) = 97 + (k : Int) := by rw [letB_nat h]; omega
def oneB (k : Nat) : ByteArray := ⟨[letB k].toArray⟩
def metW (s : ByteArray) (c : UInt8) : Bool := s.data.toList.any (· == c)
def metIn (ws : List ByteArray) (c : UInt8) : Bool := ws.any (metW · c)
def isMiss (f : List (ByteArray × Int)) (ws : List ByteArray) (k : Nat) : Bool := metIn ws (letB k) && decide (findI f (oneB k) 0 < 0)
/-- The letters before letter n that are met in a word and have no sort. -/
def missL (f : List (ByteArray × Int)) (ws : List ByteArray) (n : Nat) : List UInt8 := ((List.range n).filter (isMiss f ws)).map letB
theorem missL_len (f : List (ByteArray × Int)) (ws : List ByteArray) (n : Nat) : (missL f ws n).length ≤ n := by
  unfold missL
  rw [List.length_map]
  exact Nat.le_trans (List.length_filter_le _ _) (by simp)
theorem missL_yes {f : List (ByteArray × Int)} {ws : List ByteArray} {n : Nat} (h : isMiss f ws n = true) : missL f ws (n + 1) = missL f ws n ++ [letB n] := by
  unfold missL; rw [List.range_succ, List.filter_append]; simp [h]
theorem missL_no {f : List (ByteArray × Int)} {ws : List ByteArray} {n : Nat} (h : isMiss f ws n = false) : missL f ws (n + 1) = missL f ws n := by
  unfold missL; rw [List.range_succ, List.filter_append]; simp [h]
/-- What MissingLetters answers. -/
noncomputable def missV (f : List (ByteArray × Int)) (ws : List ByteArray) : ByteArray × Bool := if fontB f && wordsB ws then (⟨(missL f ws 26).toArray⟩, true) else (.empty, false)
def MissTo (e : Ending) (p : ByteArray × Bool) : Prop := e = .returned (.tuple #[.string p.1, .bool p.2])
theorem missV_no {f : List (ByteArray × Int)} {ws : List ByteArray} (h : fontB f = false ∨ wordsB ws = false) : missV f ws = (.empty, false) := by
  unfold missV
  rcases h with h | h <;> simp [h]
theorem missV_yes {f : List (ByteArray × Int)} {ws : List ByteArray} (h1 : fontB f = true) (h2 : wordsB ws = true) : missV f ws = (⟨(missL f ws 26).toArray⟩, true) := by
  unfold missV; simp [h1, h2]
theorem MissTo.no {e : Ending} {p : ByteArray × Bool} (h : p = (.empty, false)) (he : e = .returned (.tuple #[.string .empty, .bool false])) : MissTo e p := by subst h; exact he

theorem cut_one {s : ByteArray} {i : Nat} (h : i < s.size) (c : UInt8) : ((s.extract i (i + 1)).toList == (⟨[c].toArray⟩ : ByteArray).toList) = (s[i] == c) := by
  have e : s.extract i (i + 1) = ⟨[s[i]].toArray⟩ := by
    apply ByteArray.ext
    apply Array.ext'
    simp [ByteArray.data_extract]
    rw [List.drop_eq_getElem_cons (by simpa using h)]
    simp
    rfl
  rw [e]
  by_cases hc : s[i] = c
  · rw [hc]; simp
  · rw [beq_eq_false_iff_ne.2 hc]
    apply str_neb
    intro e
    apply hc
    have := congrArg ByteArray.data e
    simpa using this
theorem any_snoc {s : ByteArray} {i : Nat} (h : i < s.size) (c : UInt8) : (s.data.toList.take (i + 1)).any (· == c) = ((s.data.toList.take i).any (· == c) || (s[i] == c)) := by
  rw [take_snoc s i h, List.any_append]; simp
theorem metIn_snoc {ws : List ByteArray} {j : Nat} (h : j < ws.length) (c : UInt8) : metIn (ws.take (j + 1)) c = (metIn (ws.take j) c || metW ws[j] c) := by
  unfold metIn; rw [List.take_succ_eq_append_getElem h, List.any_append]; simp

theorem one_list (c : UInt8) : (⟨[c].toArray⟩ : ByteArray).toList = [c] := by simp [ByteArray.toList_eq]
theorem bytes_snoc (a : List UInt8) (c : UInt8) : (⟨a.toArray⟩ : ByteArray) ++ ⟨[c].toArray⟩ = ⟨(a ++ [c]).toArray⟩ := by
  apply ByteArray.ext
  apply Array.ext'
  simp
theorem tyFont_is (f : List (ByteArray × Int)) (A : Option Addr) (c : Nat) (lo : Nat) (w : World) (b : Bool) (hf : SortsIn w lo A f) (hn : f.length ≤ 1048576) (ho : CodesOk f) (h : Hid (fontB f = b)) :
    Calls Tryz.prog 30 #[.slice A f.length c] w fun e w' => e = .returned (.bool b) ∧ Below w.heap.size w w' := by
  have := tyFont_any f A c lo w hf hn ho; rw [h.out] at this; exact this
theorem tyWords_is (l : List ByteArray) (A : Option Addr) (c : Nat) (w : World) (b : Bool) (hf : StrsIn w A l) (ho : StrsOk l) (hn : l.length ≤ 1048576) (h : Hid (wordsB l = b)) :
    Calls Tryz.prog 43 #[.slice A l.length c] w fun e w' => e = .returned (.bool b) ∧ Below w.heap.size w w' := by
  have := tyWords_any l A c w hf ho hn; rw [h.out] at this; exact this

set_option maxHeartbeats 1000000 in
set_option maxRecDepth 100000 in
theorem specMiss_any (f : List (ByteArray × Int)) (A : Option Addr) (cap : Nat) (ws : List ByteArray) (B : Option Addr) (cap' : Nat) (w : World) (hf : SortsIn w 0 A f) (hn : f.length ≤ 1048576) (ho : CodesOk f)
    (hg : StrsIn w B ws) (ho' : StrsOk ws) (hn' : ws.length ≤ 1048576) :
    Calls Tryz.prog 16 #[.slice A f.length cap, .slice B ws.length cap'] w fun e w' => MissTo e (missV f ws) ∧ Below w.heap.size w w' := by
  have HS := Lib.hid hf; clear hf
  have HG := Lib.hid hg; clear hg
  have HO := Lib.hid ho; clear ho
  have HO' := Lib.hid ho'; clear ho'
  cases h1 : fontB f
  · have HV := Lib.hid h1; clear h1
    go_enter Tryz.func16, Tryz.ntmps16
    go_wp2_with fail
    refine (tyFont_is f A cap 0 _ false HS.out hn HO.out HV).mono ?_
    rintro e w1 ⟨rfl, hb1⟩
    go_wp2
    go_ret2
    exact ⟨MissTo.no (missV_no (.inl HV.out)) rfl, hb1⟩
  have HV := Lib.hid h1; clear h1
  cases h2 : wordsB ws
  · have HW := Lib.hid h2; clear h2
    go_enter Tryz.func16, Tryz.ntmps16
    go_wp2_with fail
    refine (tyFont_is f A cap 0 _ true HS.out hn HO.out HV).mono ?_
    rintro e w1 ⟨rfl, hb1⟩
    have HG1 := Lib.hid (HG.out.below hb1 (Nat.le_refl _))
    go_wp2_with fail
    refine (tyWords_is ws B cap' _ false HG1.out HO'.out hn' HW).mono ?_
    rintro e w2 ⟨rfl, hb2⟩
    have hb := hb1.trans (hb2.mono hb1.size)
    go_wp2
    go_ret2
    exact ⟨MissTo.no (missV_no (.inr HW.out)) rfl, hb⟩
  have HW := Lib.hid h2; clear h2
  have HY := Lib.hid (missV_yes HV.out HW.out)
  go_enter Tryz.func16, Tryz.ntmps16
  go_wp2_with fail
  refine (tyFont_is f A cap 0 _ true HS.out hn HO.out HV).mono ?_
  rintro e w1 ⟨rfl, hb1⟩
  have HG1 := Lib.hid (HG.out.below hb1 (Nat.le_refl _))
  go_wp2_with fail
  refine (tyWords_is ws B cap' _ true HG1.out HO'.out hn' HW).mono ?_
  rintro e w2 ⟨rfl, hb2⟩
  have hb := hb1.trans (hb2.mono hb1.size)
  clear hb1 hb2 HG1
  go_wp2
  go_loopw [6, 7] (fun o b wr => ∃ (k : Nat) (acc : List UInt8), k ≤ 26 ∧ b = .int .i32 (97 + (k : Int)) ∧ o = .string ⟨acc.toArray⟩ ∧ acc.length ≤ k ∧ acc = missL f ws k ∧ Below w.heap.size w wr) (fun _ b _ => 123 - (intOf b).toNat)
  case atStart => exact ⟨0, [], Nat.zero_le _, rfl, rfl, Nat.le_refl _, rfl, hb⟩
  case round =>
    clear hb
    obtain ⟨k, acc, hk, rfl, rfl, hal, hacc, hb⟩ := hrel
    have HA := Lib.hid hacc; clear hacc
    by_cases hlt : k < 26
    · have hk1 : 97 + (k : Int) ≤ 122 := by omega
      have hk0 : (0 : Int) ≤ (k : Int) := by omega
      have HBY := Lib.hid (letB_int hlt)
      have hcv : ∀ W : World, W.cell? ⟨wr.heap.size, 0, none⟩ = some (.int .u8 (97 + (k : Int))) → (convert 22 9 (.slice (some ⟨wr.heap.size, 0, none⟩) 1 1)).run Tryz.prog W = .ok (.string ⟨([letB k] : List UInt8).toArray⟩) W := fun W hW =>
        run_convert_bytes_back (P := Tryz.prog) W 22 9 5 ⟨wr.heap.size, 0, none⟩ 1 [letB k] Tryz.underlying22 Tryz.underlying5 Tryz.underlying9 (fun i hi => by
          obtain rfl : i = 0 := by simp at hi; omega
          rw [show ([letB k] : List UInt8)[0] = letB k from rfl, HBY.out]
          exact hW)
      have HB := Lib.hid (hb.alloc hb.size (.cells #[.int .u8 (97 + (k : Int))] 5))
      clear hb
      go_wp2
      go_loopw [9, 31] (fun m j wr => ∃ (j' : Nat), j' ≤ ws.length ∧ j = .int .i64 j' ∧ m = .bool (metIn (ws.take j') (letB k)) ∧ Below w.heap.size w wr) (fun _ j _ => ws.length - (intOf j).toNat)
      case atStart => exact ⟨0, Nat.zero_le _, rfl, rfl, HB.out⟩
      case round =>
        clear HB hcv
        obtain ⟨j, hj, rfl, rfl, hb⟩ := hrel
        by_cases hlj : j < ws.length
        · obtain ⟨b, off, rfl, hbl, hc⟩ := HG.out (by omega)
          have hc0 := hc j hlj
          clear hc
          rw [← hb.cell (p := ⟨b, off + j, none⟩) hbl] at hc0
          have hok := HO'.out j hlj
          unfold maxLen at hok
          have HMS := Lib.hid (metIn_snoc hlj (letB k))
          generalize metIn (ws.take j) (letB k) = m0 at *
          generalize ws[j] = s at *
          go_wp2
          go_loopw [9, 12] (fun m i wr => ∃ (i' : Nat), i' ≤ s.size ∧ i = .int .i64 i' ∧ m = .bool (m0 || (s.data.toList.take i').any (· == letB k)) ∧ Below w.heap.size w wr) (fun _ i _ => s.size - (intOf i).toNat)
          case atStart => exact ⟨0, Nat.zero_le _, rfl, by simp, hb⟩
          case round =>
            clear hb hc0
            obtain ⟨i, hi, rfl, rfl, hb⟩ := hrel
            by_cases hli : i < s.size
            · have HAS := Lib.hid (any_snoc hli (letB k))
              have HCO := Lib.hid (cut_one hli (letB k))
              have hi1 : (i : Int) + 1 ≤ (s.size : Int) := by omega
              generalize (List.take i s.data.toList).any (· == letB k) = a0 at *
              cases hm : (m0 || a0)
              · go_wp2
                go_roundw
                case rel => 
                  refine ⟨i + 1, by omega, by go_num, ?_, hb⟩
                  rw [HAS.out, ← Bool.or_assoc, hm, ← HCO.out, one_list]; rfl
                case measure => simp [intOf]; omega
              · go_wp2
                go_roundw
                case rel => 
                  refine ⟨i + 1, by omega, by go_num, ?_, hb⟩
                  rw [HAS.out, ← Bool.or_assoc, hm]; rfl
                case measure => simp [intOf]; omega
            · obtain rfl : i = s.size := by omega
              go_wp2
              go_roundw
              case rel => exact ⟨j + 1, by omega, by go_num, by rw [HMS.out, List.take_of_length_le (by simp)]; rfl, hb⟩
              case measure => simp [intOf]; omega
        · obtain rfl : j = ws.length := by omega
          rw [List.take_length]
          have HF' := Lib.hid (HS.out.below hb (Nat.le_refl _))
          have hal' : ¬ (9223372036854775807 : Nat) < acc.length + 1 := by omega
          have HM0 : Hid (isMiss f ws k = (metIn ws (letB k) && decide (findI f (oneB k) 0 < 0))) := rfl
          generalize metIn ws (letB k) = mt at *
          cases mt
          · have HN := Lib.hid (missL_no HM0.out)
            go_wp2
            go_roundw
            case rel => exact ⟨k + 1, acc, by omega, by go_num, rfl, by omega, by rw [HN.out, HA.out], hb⟩
            case measure => simp [intOf]; omega
          · go_wp2_with fail
            refine (tyFind_any f A cap (oneB k) 0 _ HF'.out hn).mono ?_
            rintro e w3 ⟨rfl, hb3⟩
            have hb' := hb.trans (hb3.mono hb.size)
            clear hb hb3
            generalize findI f (oneB k) 0 = r at *
            by_cases hr : r < 0
            · have HN := Lib.hid (missL_yes (by rw [HM0.out]; simp [hr]))
              go_wp2
              go_roundw
              case rel => exact ⟨k + 1, acc ++ [letB k], by omega, by go_num, congrArg Value.string (bytes_snoc _ _), by simp; omega, by rw [HN.out, HA.out], hb'⟩
              case measure => simp [intOf]; omega
            · have HN := Lib.hid (missL_no (by rw [HM0.out]; simp [hr]))
              go_wp2
              go_roundw
              case rel => exact ⟨k + 1, acc, by omega, by go_num, rfl, by omega, by rw [HN.out, HA.out], hb'⟩
              case measure => simp [intOf]; omega
    · obtain rfl : k = 26 := by omega
      go_wp2
      go_ret2
      exact ⟨by rw [HY.out, ← HA.out]; rfl, hb⟩
end Go.Proofs.YtiihhilhiknckaaGreatDoor

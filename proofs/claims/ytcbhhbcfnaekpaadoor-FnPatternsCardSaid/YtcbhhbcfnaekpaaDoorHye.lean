/-
  Lists of patterns and of exceptions, told plainly; the contracts of spec.l1HasS and spec.hyGood.
-/
import Derived.Test.YtcbhhbcfnaekpaaDoorHyd
import Derived.Test.YtcbhhbcfnaekpaaDoorHyc
namespace Go.Proofs.YtcbhhbcfnaekpaaDoor
open Go.RowKit
set_option linter.unusedVariables false

/-- Each text has at most 2^20 bytes. -/
def StrsLe (l : List ByteArray) : Prop := ∀ k (h : k < l.length), l[k].size ≤ 1048576
def hasS (l : List ByteArray) (s : ByteArray) : Bool := l.any fun x => decide (x = s)
theorem hasS_step {l : List ByteArray} {k : Nat} {s : ByteArray} (h : k < l.length) : hasS (l.take (k + 1)) s = (hasS (l.take k) s || decide (l[k] = s)) := by
  unfold hasS; rw [List.take_succ_eq_append_getElem h, List.any_append]; simp
theorem hasS_found {l : List ByteArray} {k : Nat} {s : ByteArray} (h : k < l.length) (e : l[k] = s) : hasS l s = true := by
  unfold hasS; rw [List.any_eq_true]; exact ⟨l[k], List.getElem_mem h, by simp [e]⟩
theorem hasS_mem {l : List ByteArray} {s : ByteArray} : hasS l s = true ↔ s ∈ l := by
  unfold hasS
  rw [List.any_eq_true]
  constructor
  · rintro ⟨x, h1, h2⟩; simp at h2; subst h2; exact h1
  · intro h; exact ⟨s, h, by simp⟩
set_option maxRecDepth 100000 in
theorem l1HasS_any (l : List ByteArray) (A : Option Addr) (c : Nat) (s : ByteArray) (w : World) (hf : StrsIn w A l) (hn : l.length ≤ maxLen) :
    Calls Tryd.prog 93 #[.slice A l.length c, .string s] w fun e w' => e = .returned (.bool (hasS l s)) ∧ w' = w := by
  unfold maxLen at hn
  have HF := Lib.hid hf; clear hf
  go_enter Tryd.func93, Tryd.ntmps93
  go_wp2
  go_loop [9] (fun i => ∃ k : Nat, k ≤ l.length ∧ i = .int .i64 k ∧ hasS (l.take k) s = false) (fun i => l.length - (intOf i).toNat)
  case atStart => exact ⟨0, Nat.zero_le _, rfl, rfl⟩
  case round =>
    obtain ⟨k, hk, rfl, hs⟩ := hrel
    have HS := Lib.hid hs; clear hs
    by_cases hlt : k < l.length
    · obtain ⟨b, off, rfl, hbl, hc⟩ := HF.out (by omega)
      have hc0 := hc k hlt
      clear hc
      have HST := Lib.hid (hasS_step (s := s) hlt)
      by_cases he : l[k] = s
      · have ht := str_eq he
        have HE := Lib.hid (hasS_found hlt he)
        clear he
        go_wp2
        go_ret
        exact ⟨ret_bool HE.out.symm, rfl⟩
      · have ht := str_neb he
        have HE := Lib.hid he; clear he
        go_wp2
        go_round
        case rel => exact ⟨k + 1, by omega, by go_num, by rw [HST.out, HS.out, decide_eq_false HE.out]; rfl⟩
        case measure => simp [intOf]; omega
    · obtain rfl : k = l.length := by omega
      have HE : Hid (hasS l s = false) := Lib.hid (by have := HS.out; rw [List.take_length] at this; exact this)
      go_wp2
      go_ret
      exact ⟨ret_bool HE.out.symm, rfl⟩

def patsA (l : List ByteArray) : Bool := l.all ptB
def exsA (l : List ByteArray) : Bool := l.all exB && decide ((l.map exW).Nodup)
def patsB (l : List ByteArray) : Bool := patsA l && decide ((l.length : Int) ≤ 20)
def exsB (l : List ByteArray) : Bool := exsA l && decide ((l.length : Int) ≤ 20)
def hyB (ps es : List ByteArray) : Bool := patsB ps && exsB es
theorem patsA_step {l : List ByteArray} {k : Nat} (h : k < l.length) (h1 : patsA (l.take k) = true) (h2 : ptB l[k] = true) : patsA (l.take (k + 1)) = true := by
  unfold patsA at *; rw [List.take_succ_eq_append_getElem h, List.all_append, h1]; simp [h2]
theorem patsA_no {l : List ByteArray} {k : Nat} (h : k < l.length) (h2 : ptB l[k] = false) : patsA l = false := by
  unfold patsA; rw [List.all_eq_false]; exact ⟨l[k], List.getElem_mem h, by simp [h2]⟩
theorem patsA_mem {l : List ByteArray} (h : patsA l = true) {k : Nat} (hk : k < l.length) : ptB l[k] = true := by
  unfold patsA at h; rw [List.all_eq_true] at h; exact h _ (List.getElem_mem hk)
theorem exsA_step {l : List ByteArray} {k : Nat} (h : k < l.length) (h1 : exsA (l.take k) = true) (h2 : exB l[k] = true) (h3 : hasS ((l.take k).map exW) (exW l[k]) = false) : exsA (l.take (k + 1)) = true := by
  unfold exsA at *
  simp only [Bool.and_eq_true, decide_eq_true_eq] at h1 ⊢
  rw [List.take_succ_eq_append_getElem h, List.all_append, h1.1, List.map_append, List.nodup_append]
  refine ⟨by simp [h2], h1.2, by simp, fun a ha b hb e => ?_⟩
  obtain rfl : b = exW l[k] := by simpa using hb
  subst e
  rw [hasS_mem.2 ha] at h3; cases h3
theorem exsA_no {l : List ByteArray} {k : Nat} (h : k < l.length) (h2 : exB l[k] = false) : exsA l = false := by
  unfold exsA
  rw [show l.all exB = false from List.all_eq_false.2 ⟨l[k], List.getElem_mem h, by simp [h2]⟩]; rfl
theorem exsA_dup {l : List ByteArray} {k : Nat} (h : k < l.length) (h3 : hasS ((l.take k).map exW) (exW l[k]) = true) : exsA l = false := by
  unfold exsA
  rw [Bool.and_eq_false_iff]
  refine .inr (decide_eq_false fun hd => ?_)
  have e : l = l.take (k + 1) ++ l.drop (k + 1) := (List.take_append_drop _ l).symm
  rw [e, List.map_append] at hd
  have h4 := (List.nodup_append.1 hd).1
  rw [List.take_succ_eq_append_getElem h, List.map_append, List.nodup_append] at h4
  exact h4.2.2 _ (hasS_mem.1 h3) _ (by simp) rfl
theorem exsA_mem {l : List ByteArray} (h : exsA l = true) {k : Nat} (hk : k < l.length) : exB l[k] = true := by
  unfold exsA at h; rw [Bool.and_eq_true, List.all_eq_true] at h; exact h.1 _ (List.getElem_mem hk)
theorem exsA_nodup {l : List ByteArray} (h : exsA l = true) : (l.map exW).Nodup := by
  unfold exsA at h; rw [Bool.and_eq_true] at h; exact of_decide_eq_true h.2
theorem patsB_all {l : List ByteArray} (h : patsB l = true) : patsA l = true ∧ l.length ≤ 20 := by
  unfold patsB at h; rw [Bool.and_eq_true, decide_eq_true_eq] at h; exact ⟨h.1, by omega⟩
theorem exsB_all {l : List ByteArray} (h : exsB l = true) : exsA l = true ∧ l.length ≤ 20 := by
  unfold exsB at h; rw [Bool.and_eq_true, decide_eq_true_eq] at h; exact ⟨h.1, by omega⟩
theorem hyB_nil : hyB [] [] = true := by decide
theorem patsB_nil : patsB [] = true := by decide
theorem exsB_nil : exsB [] = true := by decide
theorem specIsPattern_is (s : ByteArray) (b : Bool) (w : World) (hs : s.size ≤ 1048576) (h : Hid (ptB s = b)) :
    Calls Tryd.prog 39 #[.string s] w fun e w' => e = .returned (.bool b) ∧ Below w.heap.size w w' := by
  have := specIsPattern_any s w hs; rw [h.out] at this; exact this
/-- hyBare at a text of which it is known whether it is an exception. -/
theorem hyBare_is (s : ByteArray) (b : Bool) (w : World) (hs : s.size ≤ 1048576) (h : Hid (exB s = b)) :
    Calls Tryd.prog 76 #[.string s] w fun e w' => ∃ A c, e = .returned (.tuple #[.string (exW s), .slice A (exP s).length c, .bool b]) ∧ Below w.heap.size w w' ∧ w'.ownsRow w.heap.size 3 1 (.slice A (exP s).length c) (exP s).length (intsZ (exP s)) := by
  refine (hyBare_any s w hs).mono ?_
  rintro e w' ⟨v, rfl, hb, ho⟩
  obtain ⟨A, c, rfl⟩ := own_form ho
  exact ⟨A, c, by rw [h.out], hb, ho⟩
theorem exW_size (s : ByteArray) : (exW s).size ≤ s.size := by
  unfold exW
  split
  · exact bareB_size s
  · exact Nat.zero_le _
theorem l1HasS_is (l : List ByteArray) (A : Option Addr) (c n : Nat) (s : ByteArray) (b : Bool) (w : World) (hf : StrsIn w A l) (hn : l.length ≤ maxLen) (hl : n = l.length) (h : Hid (hasS l s = b)) :
    Calls Tryd.prog 93 #[.slice A n c, .string s] w fun e w' => e = .returned (.bool b) ∧ w' = w := by
  subst hl
  have := l1HasS_any l A c s w hf hn; rw [h.out] at this; exact this
set_option maxRecDepth 100000 in
set_option maxHeartbeats 2000000 in
theorem hyGood_any (ps : List ByteArray) (A : Option Addr) (c : Nat) (es : List ByteArray) (B : Option Addr) (d : Nat) (w : World) (hf : StrsIn w A ps) (ho : StrsLe ps) (hn : ps.length ≤ 1048576) (hf' : StrsIn w B es) (ho' : StrsLe es) (hn' : es.length ≤ 1048576) :
    Calls Tryd.prog 68 #[.slice A ps.length c, .slice B es.length d] w fun e w' => e = .returned (.bool (hyB ps es)) ∧ Below w.heap.size w w' := by
  obtain ⟨i0, hi, hz0, hz1, hz2⟩ := info_parts info9
  have HI0 := Lib.hid hi; have HZ0 := Lib.hid hz0; have HZ1 := Lib.hid hz1; have HZ2 := Lib.hid hz2
  clear hi hz0 hz1 hz2
  have HF := Lib.hid hf; have HF' := Lib.hid hf'; have HO := Lib.hid ho; have HO' := Lib.hid ho'
  clear hf hf' ho ho'
  go_enter Tryd.func68, Tryd.ntmps68
  go_wp2
  go_loopw [15] (fun i wr => ∃ (k : Nat), k ≤ ps.length ∧ i = .int .i64 k ∧ Hid (patsA (ps.take k) = true) ∧ Hid (Below w.heap.size w wr)) (fun i _ => ps.length - (intOf i).toNat)
  case atStart => exact ⟨0, Nat.zero_le _, rfl, Lib.hid rfl, Lib.hid (Below.refl _ _)⟩
  case round =>
    obtain ⟨k, hk, rfl, HS, HB⟩ := hrel
    by_cases hlt : k < ps.length
    · obtain ⟨b, off, hA, hbl, hc⟩ := HF.out (by omega)
      subst hA
      have hc0 := (HB.out.cell (p := ⟨b, off + k, none⟩) hbl).trans (hc k hlt)
      clear hc
      have hok := HO.out k hlt
      cases hp : ptB ps[k]
      · have HP := Lib.hid hp
        have HN : Hid (hyB ps es = false) := Lib.hid (by unfold hyB patsB; rw [patsA_no hlt hp]; rfl)
        clear hp
        go_wp2_with fail
        refine (specIsPattern_is _ _ _ hok HP).mono ?_
        rintro e w1 ⟨rfl, hb1⟩
        have hb' := HB.out.trans (hb1.mono HB.out.size)
        go_wp2
        go_ret
        exact ⟨ret_bool HN.out.symm, hb'⟩
      · have HP := Lib.hid hp
        have HN := Lib.hid (patsA_step hlt HS.out hp)
        clear hp
        go_wp2_with fail
        refine (specIsPattern_is _ _ _ hok HP).mono ?_
        rintro e w1 ⟨rfl, hb1⟩
        have HB1 := Lib.hid (HB.out.trans (hb1.mono HB.out.size))
        clear hb1
        go_wp2
        go_roundw
        case rel => exact ⟨k + 1, by omega, by go_num, HN, HB1⟩
        case measure => simp [intOf]; omega
    · obtain rfl : k = ps.length := by omega
      have HPA : Hid (patsA ps = true) := Lib.hid (by have := HS.out; rw [List.take_length] at this; exact this)
      have HB0 := HB
      clear HS HB
      go_wp2
      go_loopw [7, 25] (fun v i wr => ∃ (k : Nat) (A : Option Addr) (c : Nat), k ≤ es.length ∧ i = .int .i64 k ∧ v = .slice A k c ∧ Hid (exsA (es.take k) = true) ∧ Hid (wr.ownsRow w.heap.size 9 1 (.slice A k c) k (strs ((es.take k).map exW))) ∧ Hid (Below w.heap.size w wr)) (fun _ i _ => es.length - (intOf i).toNat)
      case atStart => exact ⟨0, none, 0, Nat.zero_le _, rfl, rfl, Lib.hid rfl, Lib.hid (own_nil _ _ _ _), HB0⟩
      case round =>
        clear HB0
        obtain ⟨k, MA, mc, hk, rfl, rfl, HS, HM, HB⟩ := hrel
        by_cases hlt : k < es.length
        · obtain ⟨b, off, hB, hbl, hc⟩ := HF'.out (by omega)
          subst hB
          have hc0 := (HB.out.cell (p := ⟨b, off + k, none⟩) hbl).trans (hc k hlt)
          clear hc
          have hok := HO'.out k hlt
          cases hp : exB es[k]
          · have HP := Lib.hid hp
            have HN : Hid (hyB ps es = false) := Lib.hid (by unfold hyB exsB; rw [exsA_no hlt hp]; simp)
            clear hp
            go_wp2_with fail
            refine (hyBare_is _ _ _ hok HP).mono ?_
            rintro e w1 ⟨A1, c1, rfl, hb1, -⟩
            have hb' := HB.out.trans (hb1.mono HB.out.size)
            generalize exW es[k] = wd at *
            generalize (exP es[k]).length = pl at *
            go_wp2
            go_ret
            exact ⟨ret_bool HN.out.symm, hb'⟩
          · have HP := Lib.hid hp
            have HEE := Lib.hid hp
            clear hp
            have HML : Hid (k = ((es.take k).map exW).length) := Lib.hid (by simp; omega)
            have hml : ((es.take k).map exW).length ≤ maxLen := by rw [← HML.out]; unfold maxLen; omega
            cases hh : hasS ((es.take k).map exW) (exW es[k])
            · have HN := Lib.hid (exsA_step hlt HS.out HEE.out hh)
              have HHS := Lib.hid hh
              have HRW : Hid (strs ((es.take (k + 1)).map exW) = strs ((es.take k).map exW) ++ [.string (exW es[k])]) := Lib.hid (by rw [List.take_succ_eq_append_getElem hlt, List.map_append]; exact strs_snoc _ _)
              have hmx : k + 1 ≤ maxLen := by unfold maxLen; omega
              clear hh
              go_wp2_with fail
              refine (hyBare_is _ _ _ hok HP).mono ?_
              rintro e w1 ⟨A1, c1, rfl, hb1, -⟩
              have HM1 := Lib.hid (own_below HM.out hb1)
              have HB1 := Lib.hid (HB.out.trans (hb1.mono HB.out.size))
              have hbs := HB1.out.size
              clear hb1
              generalize exW es[k] = wd at *
              generalize (exP es[k]).length = pl at *
              go_wp2_with fail
              refine (l1HasS_is _ _ _ _ _ _ _ (own_in_s HM1.out) hml HML.out HHS).mono ?_
              rintro e w2 ⟨rfl, rfl⟩
              go_wp2_with (at_builtin; refine wpList_append_own _ rfl _ _ 23 rfl w.heap.size 9 i0 (.string .empty) 1 16 Tryd.underlying23 HI0.out HZ0.out HZ1.out HZ2.out rfl (by decide) _ _ _ rfl (HM1.out.alloc _) ⟨w2.heap.size, 0, none⟩ 1 1 [.string wd] rfl rfl (cell_one_new _ _ _) (by simp [Value.oneCell']) hmx (by omega) (by simp; omega) ?_)
              intro v' w4 hown' hgrow _
              have hb4 : Below w.heap.size w w4 := below_append HB1.out hgrow HB1.out.size (own_lt HM1.out)
              rw [← List.map_take, ← HRW.out] at hown'
              obtain ⟨A4, c4, hv4⟩ := own_shape hown'
              subst hv4
              have HM4 := Lib.hid hown'; have HB4 := Lib.hid hb4
              clear hown' hgrow hb4
              go_wp2
              go_roundw
              case rel => exact ⟨k + 1, A4, c4, by omega, by go_num, rfl, HN, HM4, HB4⟩
              case measure => simp [intOf]; omega
            · have HN : Hid (hyB ps es = false) := Lib.hid (by unfold hyB exsB; rw [exsA_dup hlt hh]; simp)
              have HHS := Lib.hid hh
              clear hh
              go_wp2_with fail
              refine (hyBare_is _ _ _ hok HP).mono ?_
              rintro e w1 ⟨A1, c1, rfl, hb1, -⟩
              have HM1 := Lib.hid (own_below HM.out hb1)
              have HB1 := Lib.hid (HB.out.trans (hb1.mono HB.out.size))
              clear hb1
              generalize exW es[k] = wd at *
              generalize (exP es[k]).length = pl at *
              go_wp2_with fail
              refine (l1HasS_is _ _ _ _ _ _ _ (own_in_s HM1.out) hml HML.out HHS).mono ?_
              rintro e w2 ⟨rfl, rfl⟩
              go_wp2
              go_ret
              exact ⟨ret_bool HN.out.symm, HB1.out⟩
        · obtain rfl : k = es.length := by omega
          have HE : Hid (hyB ps es = (decide ((ps.length : Int) ≤ 20) && decide ((es.length : Int) ≤ 20))) := Lib.hid (by
            have h2 := HS.out
            rw [List.take_length] at h2
            unfold hyB patsB exsB; rw [HPA.out, h2]; simp)
          by_cases h20 : (ps.length : Int) ≤ 20
          · have HE2 : Hid (decide ((es.length : Int) ≤ 20) = hyB ps es) := Lib.hid (by rw [HE.out, decide_eq_true h20]; simp)
            go_wp2
            go_ret
            exact ⟨ret_bool HE2.out, HB.out⟩
          · have HE2 : Hid (hyB ps es = false) := Lib.hid (by rw [HE.out, decide_eq_false h20]; rfl)
            go_wp2
            go_ret
            exact ⟨ret_bool HE2.out.symm, HB.out⟩
end Go.Proofs.YtcbhhbcfnaekpaaDoor

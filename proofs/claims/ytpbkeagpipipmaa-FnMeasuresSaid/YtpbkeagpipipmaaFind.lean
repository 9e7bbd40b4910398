/-
  The contracts of spec.tyFind, spec.tyWord, impl.isWord, spec.tyAsked, strings.HasPrefix, impl.longestSort, spec.l1Least: each returns what the plain function here says and changes nothing that was there.
-/
import Derived.Test.YtpbkeagpipipmaaIsFont
import Derived.WalkSpells
namespace Go.Proofs.Ytpbkeagpipipmaa.S1
open Go.RowKit
set_option linter.unusedVariables false

/-- The index of the first sort with a Code, counted from k on; -1 if there is none. -/
def findI : List (ByteArray × Int) → ByteArray → Nat → Int
  | [], _, _ => -1
  | x :: r, c, k => if x.1 = c then (k : Int) else findI r c (k + 1)
theorem findI_drop (f : List (ByteArray × Int)) (c : ByteArray) (k : Nat) (h : k < f.length) : findI (f.drop k) c k = if f[k].1 = c then (k : Int) else findI (f.drop (k + 1)) c (k + 1) := by
  rw [List.drop_eq_getElem_cons h]; rfl
theorem str_eq {c d : ByteArray} (h : c = d) : (c.toList == d.toList) = true := by subst h; simp
theorem str_neb {c d : ByteArray} (h : ¬ c = d) : (c.toList == d.toList) = false := beq_eq_false_iff_ne.2 fun e => h (str_inj e)

theorem tyFind_any (f : List (ByteArray × Int)) (A : Option Addr) (cap : Nat) (s : ByteArray) (lo : Nat) (w : World) (hf : SortsIn w lo A f) (hn : f.length ≤ 1048576) :
    Calls Try.prog 102 #[.slice A f.length cap, .string s] w fun e w' => e = .returned (.int .i64 (findI f s 0)) ∧ Below w.heap.size w w' := by
  have HF := Lib.hid hf; clear hf
  go_enter Try.func102, Try.ntmps102
  go_wp2
  go_loopw [9] (fun i wr => ∃ (k : Nat), k ≤ f.length ∧ i = .int .i64 k ∧ findI f s 0 = findI (f.drop k) s k ∧ Below w.heap.size w wr) (fun i _ => f.length - (intOf i).toNat)
  case atStart => exact ⟨0, Nat.zero_le _, rfl, rfl, Below.refl _ _⟩
  case round =>
    obtain ⟨k, hk, rfl, hs, hb⟩ := hrel
    have HS := Lib.hid hs; clear hs
    by_cases hlt : k < f.length
    · obtain ⟨b, off, rfl, _, hbl, hc⟩ := HF.out (by omega)
      obtain ⟨hc0, hc1⟩ := hc k hlt
      clear hc
      rw [← hb.cell (p := ⟨b, off + k * 2, none⟩) hbl] at hc0
      rw [← hb.cell (p := ⟨b, off + k * 2 + 1, none⟩) hbl] at hc1
      have HD := Lib.hid (findI_drop f s k hlt)
      have hb' := Lib.hid (hb.alloc hb.size (.cells #[.string f[k].1, .int .i64 f[k].2] 91))
      clear hb
      by_cases he : f[k].1 = s
      · have ht := str_eq he
        have HE := Lib.hid he; clear he
        go_wp2
        go_ret
        exact ⟨ret_int (by rw [HS.out, HD.out, if_pos HE.out]), hb'.out⟩
      · have ht := str_neb he
        have HE := Lib.hid he; clear he
        go_wp2
        go_roundw
        case rel => exact ⟨k + 1, by omega, by go_num, by rw [HS.out, HD.out, if_neg HE.out], hb'.out⟩
        case measure => simp [intOf]; omega
    · obtain rfl : k = f.length := by omega
      go_wp2
      go_ret
      exact ⟨ret_int (by rw [HS.out, List.drop_length]; rfl), hb⟩

def isWordF (s : ByteArray) : Bool := tyLettersF s.data.toList 16

theorem tyWord_any (s : ByteArray) (w : World) (hs : s.size ≤ maxLen) :
    Calls Try.prog 91 #[.string s] w fun e w' => e = .returned (.bool (isWordF s)) ∧ w = w' := by
  go_enter Try.func91, Try.ntmps91
  go_wp2_with fail
  refine (tyLetters_any _ _ _ hs).mono ?_
  rintro e w' ⟨rfl, rfl⟩
  go_wp2
  go_ret
  exact ⟨rfl, rfl⟩

theorem isWord_any (s : ByteArray) (w : World) (hs : s.size ≤ maxLen) :
    Calls Try.prog 93 #[.string s] w fun e w' => e = .returned (.bool (isWordF s)) ∧ Below w.heap.size w w' := by
  have H : ((decide (1 ≤ (s.size : Int)) && decide ((s.size : Int) ≤ ((16 : Nat) : Int))) && lets s.data.toList) = isWordF s := by
    have H := isCodeF_eq s.data.toList 16
    unfold isCodeF at H
    rw [len_list] at H
    exact H
  have HE := Lib.hid H; clear H
  rcases (by omega : (s.size : Int) < 1 ∨ (16 : Int) < s.size ∨ (1 ≤ (s.size : Int) ∧ (s.size : Int) ≤ 16)) with h | h | ⟨h1, h2⟩
  · go_enter Try.func93, Try.ntmps93
    have h1 : ¬ 1 ≤ (s.size : Int) := by omega
    go_wp2
    go_ret
    have d1 : decide (1 ≤ (s.size : Int)) = false := decide_eq_false (by omega)
    exact ⟨ret_bool (by have e := HE.out; rw [d1] at e; simpa using e), Below.refl _ _⟩
  · go_enter Try.func93, Try.ntmps93
    have h1 : 1 ≤ (s.size : Int) := by omega
    have h2 : ¬ (s.size : Int) ≤ 16 := by omega
    go_wp2
    go_ret
    have d1 : decide (1 ≤ (s.size : Int)) = true := decide_eq_true (by omega)
    have d2 : decide ((s.size : Int) ≤ ((16 : Nat) : Int)) = false := decide_eq_false (by omega)
    exact ⟨ret_bool (by have e := HE.out; rw [d1, d2] at e; simpa using e), Below.refl _ _⟩
  · go_enter Try.func93, Try.ntmps93
    go_wp2_with fail
    refine (areLetters_any _ _ hs).mono ?_
    rintro e w' ⟨rfl, hb⟩
    go_wp2
    go_ret
    have d1 : decide (1 ≤ (s.size : Int)) = true := decide_eq_true (by omega)
    have d2 : decide ((s.size : Int) ≤ ((16 : Nat) : Int)) = true := decide_eq_true (by omega)
    exact ⟨ret_bool (by have e := HE.out; rw [d1, d2] at e; simpa using e), hb⟩

theorem least_any (a b : Int) (w : World) :
    Calls Try.prog 83 #[.int .i64 a, .int .i64 b] w fun e w' => e = .returned (.int .i64 (if a < b then a else b)) ∧ w = w' := by
  by_cases h : a < b
  · go_enter Try.func83, Try.ntmps83
    go_wp2
    go_ret
    exact ⟨rfl, rfl⟩
  · go_enter Try.func83, Try.ntmps83
    go_wp2
    go_ret
    exact ⟨rfl, rfl⟩

/-- t begins with c. -/
def preB (t c : ByteArray) : Bool := decide (c.data.toList <+: t.data.toList)
theorem preB_cut {t c : ByteArray} : ((t.extract 0 c.size).toList == c.toList) = preB t c := by
  unfold preB
  rw [ByteArray.toList_eq, ByteArray.toList_eq, Bool.eq_iff_iff, beq_iff_eq, decide_eq_true_eq, List.prefix_iff_eq_take, len_list]
  have e : (t.extract 0 c.size).data.toList = t.data.toList.take c.size := by simp
  rw [e]
  exact eq_comm
theorem preB_long {t c : ByteArray} (h : t.size < c.size) : preB t c = false := by
  unfold preB
  apply decide_eq_false
  intro hp
  have := hp.length_le
  rw [len_list, len_list] at this
  omega

theorem hasPrefix0_any (t c : ByteArray) (w : World) (ht : t.size ≤ maxLen) (hc : c.size ≤ maxLen) :
    Calls Try.prog 104 #[.string t, .string c] w fun e w' => e = .returned (.bool (preB t c)) ∧ w = w' := by
  unfold maxLen at ht hc
  by_cases h : (c.size : Int) ≤ t.size
  · go_enter Try.func104, Try.ntmps104
    have hn : c.size ≤ t.size := by omega
    go_wp2
    go_ret
    exact ⟨ret_bool preB_cut, rfl⟩
  · go_enter Try.func104, Try.ntmps104
    go_wp2
    go_ret
    exact ⟨ret_bool (preB_long (by omega)).symm, rfl⟩

theorem hasPrefix_any (t c : ByteArray) (w : World) (ht : t.size ≤ maxLen) (hc : c.size ≤ maxLen) :
    Calls Try.prog 101 #[.string t, .string c] w fun e w' => e = .returned (.bool (preB t c)) ∧ w = w' := by
  go_enter Try.func101, Try.ntmps101
  go_wp2_with fail
  refine (hasPrefix0_any _ _ _ ht hc).mono ?_
  rintro e w' ⟨rfl, rfl⟩
  go_wp2
  go_ret
  exact ⟨rfl, rfl⟩

/-- The last sort with whose Code the text begins, of those up to k. -/
def lastPre (f : List (ByteArray × Int)) (t : ByteArray) : Nat → Option Nat
  | 0 => none
  | k + 1 => if preB t (f.getD k (.empty, 0)).1 then some k else lastPre f t k
def optI : Option Nat → Int | some k => k | none => 0

theorem longestSort_any (f : List (ByteArray × Int)) (A : Option Addr) (cap : Nat) (s : ByteArray) (lo : Nat) (w : World) (hf : SortsIn w lo A f) (hn : f.length ≤ 1048576) (ho : CodesOk f) (hs : s.size ≤ maxLen) :
    Calls Try.prog 94 #[.slice A f.length cap, .string s] w fun e w' => e = .returned (.tuple #[.int .i64 (optI (lastPre f s f.length)), .bool (lastPre f s f.length).isSome]) ∧ Below w.heap.size w w' := by
  have HF := Lib.hid hf; clear hf
  have HO := Lib.hid ho; clear ho
  go_enter Try.func94, Try.ntmps94
  go_wp2
  go_loopw [6, 7, 12] (fun l g i wr => ∃ (k : Nat), k ≤ f.length ∧ i = .int .i64 k ∧ l = .int .i64 (optI (lastPre f s k)) ∧ g = .bool (lastPre f s k).isSome ∧ Below w.heap.size w wr) (fun _ _ i _ => f.length - (intOf i).toNat)
  case atStart => exact ⟨0, Nat.zero_le _, rfl, rfl, rfl, Below.refl _ _⟩
  case round =>
    obtain ⟨k, hk, rfl, rfl, rfl, hb⟩ := hrel
    by_cases hlt : k < f.length
    · obtain ⟨b, off, rfl, _, hbl, hc⟩ := HF.out (by omega)
      obtain ⟨hc0, hc1⟩ := hc k hlt
      clear hc
      rw [← hb.cell (p := ⟨b, off + k * 2, none⟩) hbl] at hc0
      rw [← hb.cell (p := ⟨b, off + k * 2 + 1, none⟩) hbl] at hc1
      have hb' := Lib.hid (hb.alloc hb.size (.cells #[.string f[k].1, .int .i64 f[k].2] 91))
      have hg : f.getD k (.empty, 0) = f[k] := by rw [List.getD_eq_getElem?_getD, List.getElem?_eq_getElem hlt]; rfl
      have HG := Lib.hid hg
      have hok := HO.out k hlt
      clear hb hg
      go_wp2_with fail
      refine (hasPrefix_any _ _ _ hs hok).mono ?_
      rintro e w1 ⟨rfl, rfl⟩
      cases hp : preB s f[k].1
      · have HP := Lib.hid hp; clear hp
        go_wp2
        go_roundw
        case rel => exact ⟨k + 1, by omega, by go_num, by simp only [lastPre]; rw [HG.out, HP.out]; rfl, by simp only [lastPre]; rw [HG.out, HP.out]; rfl, hb'.out⟩
        case measure => simp [intOf]; omega
      · have HP := Lib.hid hp; clear hp
        go_wp2
        go_roundw
        case rel => exact ⟨k + 1, by omega, by go_num, by simp only [lastPre]; rw [HG.out, HP.out]; rfl, by simp only [lastPre]; rw [HG.out, HP.out]; rfl, hb'.out⟩
        case measure => simp [intOf]; omega
    · obtain rfl : k = f.length := by omega
      go_wp2
      go_ret2
      exact ⟨rfl, hb⟩
end Go.Proofs.Ytpbkeagpipipmaa.S1

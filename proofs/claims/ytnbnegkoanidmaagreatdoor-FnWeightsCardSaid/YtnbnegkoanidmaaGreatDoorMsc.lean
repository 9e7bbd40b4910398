import Derived.Test.YtnbnegkoanidmaaGreatDoorMsb
import Derived.WalkSpells
import Derived.Lib.Strings
import Derived.Lib.SmallJoins
/-
  The contracts of spec.tyFind, spec.tyWord, impl.isWord, spec.tyAsked, strings.HasPrefix, impl.longestSort, spec.l1Least: each returns what the plain function here says and changes nothing that was there.
-/
namespace Go.Proofs.YtnbnegkoanidmaaGreatDoor.S1
open Go.RowKit
set_option linter.unusedVariables false

/-- The index of the first sort with a Code, counted from k on; -1 if there is none. -/
def findI : List (ByteArray × Int) → ByteArray → Nat → Int
  | [], _, _ => -1
  | x :: r, c, k => if x.1 = c then (k : Int) else findI r c (k + 1)
theorem findI_drop (f : List (ByteArray × Int)) (c : ByteArray) (k : Nat) (h : k < f.length) : findI (f.drop k) c k = if f[k].1 = c then (k : Int) else findI (f.drop (k + 1)) c (k + 1) := by
  rw [List.drop_eq_getElem_cons h]; rfl
theorem str_eq {c d : ByteArray} (h : c = d) : (c.toList == d.toList) = true := by subst h; simp
theorem str_neb {c d : ByteArray} (h : ¬ c = d) : (c.toList == d.toList) = false := beq_eq_false_iff_ne.2 fun e => h (str_inj e)

theorem tyFind_any (f : List (ByteArray × Int)) (A : Option Addr) (cap : Nat) (s : ByteArray) (lo : Nat) (w : World) (hf : SortsIn w lo A f) (hn : f.length ≤ 1048576) :
    Calls Tryz.prog 72 #[.slice A f.length cap, .string s] w fun e w' => e = .returned (.int .i64 (findI f s 0)) ∧ Below w.heap.size w w' := by
  have HF := Lib.hid hf; clear hf
  go_enter Tryz.func72, Tryz.ntmps72
  go_wp2
  go_loopw [9] (fun i wr => ∃ (k : Nat), k ≤ f.length ∧ i = .int .i64 k ∧ findI f s 0 = findI (f.drop k) s k ∧ Below w.heap.size w wr) (fun i _ => f.length - (intOf i).toNat)
  case atStart => exact ⟨0, Nat.zero_le _, rfl, rfl, Below.refl _ _⟩
  case round =>
    obtain ⟨k, hk, rfl, hs, hb⟩ := hrel
    have HS := Lib.hid hs; clear hs
    by_cases hlt : k < f.length
    · obtain ⟨b, off, rfl, _, hbl, hc⟩ := HF.out (by omega)
      obtain ⟨hc0, hc1⟩ := hc k hlt
      clear hc
      rw [← hb.cell (p := ⟨b, off + k * 2, none⟩) hbl] at hc0
      rw [← hb.cell (p := ⟨b, off + k * 2 + 1, none⟩) hbl] at hc1
      have HD := Lib.hid (findI_drop f s k hlt)
      have hb' := Lib.hid (hb.alloc hb.size (.cells #[.string f[k].1, .int .i64 f[k].2] 75))
      clear hb
      by_cases he : f[k].1 = s
      · have ht := str_eq he
        have HE := Lib.hid he; clear he
        go_wp2
        go_ret
        exact ⟨ret_int (by rw [HS.out, HD.out, if_pos HE.out]), hb'.out⟩
      · have ht := str_neb he
        have HE := Lib.hid he; clear he
        go_wp2
        go_roundw
        case rel => exact ⟨k + 1, by omega, by go_num, by rw [HS.out, HD.out, if_neg HE.out], hb'.out⟩
        case measure => simp [intOf]; omega
    · obtain rfl : k = f.length := by omega
      go_wp2
      go_ret
      exact ⟨ret_int (by rw [HS.out, List.drop_length]; rfl), hb⟩

def isWordF (s : ByteArray) : Bool := tyLettersF s.data.toList 16

theorem tyWord_any (s : ByteArray) (w : World) (hs : s.size ≤ maxLen) :
    Calls Tryz.prog 82 #[.string s] w fun e w' => e = .returned (.bool (isWordF s)) ∧ w = w' := by
  go_enter Tryz.func82, Tryz.ntmps82
  go_wp2_with fail
  refine (tyLetters_any _ _ _ hs).mono ?_
  rintro e w' ⟨rfl, rfl⟩
  go_wp2
  go_ret
  exact ⟨rfl, rfl⟩

theorem isWord_any (s : ByteArray) (w : World) (hs : s.size ≤ maxLen) :
    Calls Tryz.prog 73 #[.string s] w fun e w' => e = .returned (.bool (isWordF s)) ∧ Below w.heap.size w w' := by
  have H : ((decide (1 ≤ (s.size : Int)) && decide ((s.size : Int) ≤ ((16 : Nat) : Int))) && lets s.data.toList) = isWordF s := by
    have H := isCodeF_eq s.data.toList 16
    unfold isCodeF at H
    rw [len_list] at H
    exact H
  have HE := Lib.hid H; clear H
  rcases (by omega : (s.size : Int) < 1 ∨ (16 : Int) < s.size ∨ (1 ≤ (s.size : Int) ∧ (s.size : Int) ≤ 16)) with h | h | ⟨h1, h2⟩
  · go_enter Tryz.func73, Tryz.ntmps73
    have h1 : ¬ 1 ≤ (s.size : Int) := by omega
    go_wp2
    go_ret
    have d1 : decide (1 ≤ (s.size : Int)) = false := decide_eq_false (by omega)
    exact ⟨ret_bool (by have e := HE.out; rw [d1] at e; simpa using e), Below.refl _ _⟩
  · go_enter Tryz.func73, Tryz.ntmps73
    have h1 : 1 ≤ (s.size : Int) := by omega
    have h2 : ¬ (s.size : Int) ≤ 16 := by omega
    go_wp2
    go_ret
    have d1 : decide (1 ≤ (s.size : Int)) = true := decide_eq_true (by omega)
    have d2 : decide ((s.size : Int) ≤ ((16 : Nat) : Int)) = false := decide_eq_false (by omega)
    exact ⟨ret_bool (by have e := HE.out; rw [d1, d2] at e; simpa using e), Below.refl _ _⟩
  · go_enter Tryz.func73, Tryz.ntmps73
    go_wp2_with fail
    refine (areLetters_any _ _ hs).mono ?_
    rintro e w' ⟨rfl, hb⟩
    go_wp2
    go_ret
    have d1 : decide (1 ≤ (s.size : Int)) = true := decide_eq_true (by omega)
    have d2 : decide ((s.size : Int) ≤ ((16 : Nat) : Int)) = true := decide_eq_true (by omega)
    exact ⟨ret_bool (by have e := HE.out; rw [d1, d2] at e; simpa using e), hb⟩

theorem least_any (a b : Int) (w : World) :
    Calls Tryz.prog 71 #[.int .i64 a, .int .i64 b] w fun e w' => e = .returned (.int .i64 (if a < b then a else b)) ∧ w = w' := by
  by_cases h : a < b
  · go_enter Tryz.func71, Tryz.ntmps71
    go_wp2
    go_ret
    exact ⟨rfl, rfl⟩
  · go_enter Tryz.func71, Tryz.ntmps71
    go_wp2
    go_ret
    exact ⟨rfl, rfl⟩

/-- t begins with c. -/
def preB (t c : ByteArray) : Bool := decide (c.data.toList <+: t.data.toList)
theorem preB_cut {t c : ByteArray} : ((t.extract 0 c.size).toList == c.toList) = preB t c := by
  unfold preB
  rw [ByteArray.toList_eq, ByteArray.toList_eq, Bool.eq_iff_iff, beq_iff_eq, decide_eq_true_eq, List.prefix_iff_eq_take, len_list]
  have e : (t.extract 0 c.size).data.toList = t.data.toList.take c.size := by simp
  rw [e]
  exact eq_comm
theorem preB_long {t c : ByteArray} (h : t.size < c.size) : preB t c = false := by
  unfold preB
  apply decide_eq_false
  intro hp
  have := hp.length_le
  rw [len_list, len_list] at this
  omega

theorem hasPrefix0_any (t c : ByteArray) (w : World) (ht : t.size ≤ maxLen) (hc : c.size ≤ maxLen) :
    Calls Tryz.prog 92 #[.string t, .string c] w fun e w' => e = .returned (.bool (preB t c)) ∧ w = w' := by
  unfold maxLen at ht hc
  by_cases h : (c.size : Int) ≤ t.size
  · go_enter Tryz.func92, Tryz.ntmps92
    have hn : c.size ≤ t.size := by omega
    go_wp2
    go_ret
    exact ⟨ret_bool preB_cut, rfl⟩
  · go_enter Tryz.func92, Tryz.ntmps92
    go_wp2
    go_ret
    exact ⟨ret_bool (preB_long (by omega)).symm, rfl⟩

theorem hasPrefix_any (t c : ByteArray) (w : World) (ht : t.size ≤ maxLen) (hc : c.size ≤ maxLen) :
    Calls Tryz.prog 84 #[.string t, .string c] w fun e w' => e = .returned (.bool (preB t c)) ∧ w = w' := by
  go_enter Tryz.func84, Tryz.ntmps84
  go_wp2_with fail
  refine (hasPrefix0_any _ _ _ ht hc).mono ?_
  rintro e w' ⟨rfl, rfl⟩
  go_wp2
  go_ret
  exact ⟨rfl, rfl⟩

/-- The last sort with whose Code the text begins, of those up to k. -/
def lastPre (f : List (ByteArray × Int)) (t : ByteArray) : Nat → Option Nat
  | 0 => none
  | k + 1 => if preB t (f.getD k (.empty, 0)).1 then some k else lastPre f t k
def optI : Option Nat → Int | some k => k | none => 0

theorem longestSort_any (f : List (ByteArray × Int)) (A : Option Addr) (cap : Nat) (s : ByteArray) (lo : Nat) (w : World) (hf : SortsIn w lo A f) (hn : f.length ≤ 1048576) (ho : CodesOk f) (hs : s.size ≤ maxLen) :
    Calls Tryz.prog 74 #[.slice A f.length cap, .string s] w fun e w' => e = .returned (.tuple #[.int .i64 (optI (lastPre f s f.length)), .bool (lastPre f s f.length).isSome]) ∧ Below w.heap.size w w' := by
  have HF := Lib.hid hf; clear hf
  have HO := Lib.hid ho; clear ho
  go_enter Tryz.func74, Tryz.ntmps74
  go_wp2
  go_loopw [6, 7, 12] (fun l g i wr => ∃ (k : Nat), k ≤ f.length ∧ i = .int .i64 k ∧ l = .int .i64 (optI (lastPre f s k)) ∧ g = .bool (lastPre f s k).isSome ∧ Below w.heap.size w wr) (fun _ _ i _ => f.length - (intOf i).toNat)
  case atStart => exact ⟨0, Nat.zero_le _, rfl, rfl, rfl, Below.refl _ _⟩
  case round =>
    obtain ⟨k, hk, rfl, rfl, rfl, hb⟩ := hrel
    by_cases hlt : k < f.length
    · obtain ⟨b, off, rfl, _, hbl, hc⟩ := HF.out (by omega)
      obtain ⟨hc0, hc1⟩ := hc k hlt
      clear hc
      rw [← hb.cell (p := ⟨b, off + k * 2, none⟩) hbl] at hc0
      rw [← hb.cell (p := ⟨b, off + k * 2 + 1, none⟩) hbl] at hc1
      have hb' := Lib.hid (hb.alloc hb.size (.cells #[.string f[k].1, .int .i64 f[k].2] 75))
      have hg : f.getD k (.empty, 0) = f[k] := by rw [List.getD_eq_getElem?_getD, List.getElem?_eq_getElem hlt]; rfl
      have HG := Lib.hid hg
      have hok := HO.out k hlt
      clear hb hg
      go_wp2_with fail
      refine (hasPrefix_any _ _ _ hs hok).mono ?_
      rintro e w1 ⟨rfl, rfl⟩
      cases hp : preB s f[k].1
      · have HP := Lib.hid hp; clear hp
        go_wp2
        go_roundw
        case rel => exact ⟨k + 1, by omega, by go_num, by simp only [lastPre]; rw [HG.out, HP.out]; rfl, by simp only [lastPre]; rw [HG.out, HP.out]; rfl, hb'.out⟩
        case measure => simp [intOf]; omega
      · have HP := Lib.hid hp; clear hp
        go_wp2
        go_roundw
        case rel => exact ⟨k + 1, by omega, by go_num, by simp only [lastPre]; rw [HG.out, HP.out]; rfl, by simp only [lastPre]; rw [HG.out, HP.out]; rfl, hb'.out⟩
        case measure => simp [intOf]; omega
    · obtain rfl : k = f.length := by omega
      go_wp2
      go_ret2
      exact ⟨rfl, hb⟩
end Go.Proofs.YtnbnegkoanidmaaGreatDoor.S1

/-
  Plain facts on fonts: the order of Codes, the first sort with a Code, and that the longest Code with which a text begins is the last one of the font.
-/
namespace Go.Proofs.YtnbnegkoanidmaaGreatDoor.S1
open Go.RowKit
set_option linter.unusedVariables false

theorem bl_irrefl : ∀ x : List UInt8, Op.bytesLess x x = false
  | [] => rfl
  | a :: x => by simp [Op.bytesLess, bl_irrefl x]
theorem bl_trans : ∀ x y z : List UInt8, Op.bytesLess x y = true → Op.bytesLess y z = true → Op.bytesLess x z = true
  | _, [], _, h, _ => by cases ‹List UInt8› <;> simp [Op.bytesLess] at h
  | _, _ :: _, [], _, h => by simp [Op.bytesLess] at h
  | [], _ :: _, _ :: _, _, _ => by simp [Op.bytesLess]
  | a :: x, b :: y, c :: z, h1, h2 => by
    simp only [Op.bytesLess, Bool.or_eq_true, Bool.and_eq_true, decide_eq_true_eq, beq_iff_eq] at h1 h2 ⊢
    rcases h1 with h1 | ⟨rfl, h1⟩
    · rcases h2 with h2 | ⟨rfl, h2⟩
      · exact .inl (UInt8.lt_trans h1 h2)
      · exact .inl h1
    · rcases h2 with h2 | ⟨rfl, h2⟩
      · exact .inl h2
      · exact .inr ⟨rfl, bl_trans x y z h1 h2⟩
theorem bl_prefix : ∀ (x d : List UInt8), d ≠ [] → Op.bytesLess x (x ++ d) = true
  | [], d :: r, _ => by simp [Op.bytesLess]
  | [], [], h => absurd rfl h
  | a :: x, d, h => by simp [Op.bytesLess, bl_prefix x d h]

/-- The Code of sort i. -/
def codeAt (f : List (ByteArray × Int)) (i : Nat) : List UInt8 := (f.getD i (.empty, 0)).1.data.toList
theorem codeAt_of {f : List (ByteArray × Int)} {i : Nat} (h : i < f.length) : codeAt f i = f[i].1.data.toList := by
  unfold codeAt; rw [List.getD_eq_getElem?_getD, List.getElem?_eq_getElem h]; rfl
theorem Font.next {f : List (ByteArray × Int)} (hf : Font f) {i : Nat} (h : i + 1 < f.length) : Op.bytesLess (codeAt f i) (codeAt f (i + 1)) = true := by
  have h1 := hf.1 (i + 1) h
  unfold okAt at h1
  simp only [Bool.and_eq_true, Bool.or_eq_true] at h1
  rcases h1.2 with h2 | h2
  · simp at h2
  · rw [codeAt_of (by omega), codeAt_of h]
    rw [ByteArray.toList_eq, ByteArray.toList_eq] at h2
    exact h2
theorem Font.less {f : List (ByteArray × Int)} (hf : Font f) {i : Nat} : ∀ {j : Nat}, i < j → j < f.length → Op.bytesLess (codeAt f i) (codeAt f j) = true
  | 0, h, _ => absurd h (by omega)
  | j + 1, h, hj => by
    rcases Nat.lt_or_ge i j with h1 | h1
    · exact bl_trans _ _ _ (Font.less hf h1 (by omega)) (hf.next hj)
    · obtain rfl : i = j := by omega
      exact hf.next hj
theorem Font.inj {f : List (ByteArray × Int)} (hf : Font f) {i j : Nat} (hi : i < f.length) (hj : j < f.length) (h : codeAt f i = codeAt f j) : i = j := by
  rcases Nat.lt_trichotomy i j with h1 | h1 | h1
  · have := hf.less h1 hj; rw [h, bl_irrefl] at this; cases this
  · exact h1
  · have := hf.less h1 hi; rw [h, bl_irrefl] at this; cases this
theorem Font.size {f : List (ByteArray × Int)} (hf : Font f) {i : Nat} (hi : i < f.length) : 1 ≤ (codeAt f i).length ∧ (codeAt f i).length ≤ 3 ∧ lets (codeAt f i) = true := by
  have h1 := hf.1 i hi
  unfold okAt tySortF tyLettersF at h1
  simp only [Bool.and_eq_true, decide_eq_true_eq] at h1
  rw [codeAt_of hi]
  refine ⟨h1.1.1.2.1, by have := h1.1.1.2.2; omega, h1.1.1.1⟩
theorem Font.width {f : List (ByteArray × Int)} (hf : Font f) {i : Nat} (hi : i < f.length) : 1 ≤ f[i].2 ∧ f[i].2 ≤ 54 := by
  have h1 := hf.1 i hi
  unfold okAt tySortF tyLettersF at h1
  simp only [Bool.and_eq_true, decide_eq_true_eq] at h1
  exact h1.1.2

theorem findI_none {c : ByteArray} : ∀ {f : List (ByteArray × Int)} {k : Nat}, (∀ i (h : i < f.length), f[i].1 ≠ c) → findI f c k = -1
  | [], _, _ => rfl
  | x :: r, k, h => by
    have h0 : x.1 ≠ c := h 0 (by simp)
    simp only [findI, h0, if_false]
    exact findI_none fun i hi => h (i + 1) (by simpa using hi)
theorem findI_some {c : ByteArray} : ∀ {f : List (ByteArray × Int)} {k : Nat}, (∃ i, ∃ h : i < f.length, f[i].1 = c) → ∃ i, ∃ h : i < f.length, f[i].1 = c ∧ findI f c k = ((k + i : Nat) : Int) ∧ ∀ j (hj : j < f.length), j < i → f[j].1 ≠ c
  | [], _, ⟨i, h, _⟩ => absurd h (by simp)
  | x :: r, k, ⟨i, h, he⟩ => by
    by_cases h0 : x.1 = c
    · exact ⟨0, by simp, h0, by simp [findI, h0], fun j _ hj => absurd hj (by omega)⟩
    · have hi : i ≠ 0 := by rintro rfl; exact h0 he
      obtain ⟨m, rfl⟩ : ∃ m, i = m + 1 := ⟨i - 1, by omega⟩
      obtain ⟨i', h', e', hf, hl⟩ := findI_some (f := r) (k := k + 1) ⟨m, by simpa using h, by simpa using he⟩
      refine ⟨i' + 1, by simpa using h', by simpa using e', ?_, ?_⟩
      · simp only [findI, h0, if_false]; rw [hf]; congr 1; omega
      · intro j hj hji
        cases j with
        | zero => exact h0
        | succ j => exact fun e => hl j (by simpa using hj) (by omega) (by simpa using e)
theorem findI_cases (f : List (ByteArray × Int)) (c : ByteArray) : (findI f c 0 = -1 ∧ ∀ i, i < f.length → codeAt f i ≠ c.data.toList) ∨ ∃ i, i < f.length ∧ codeAt f i = c.data.toList ∧ findI f c 0 = (i : Int) := by
  by_cases h : ∃ i, ∃ h : i < f.length, f[i].1 = c
  · obtain ⟨i, hi, e, hf, _⟩ := findI_some (k := 0) h
    exact .inr ⟨i, hi, by rw [codeAt_of hi, e], by rw [hf]; congr 1; omega⟩
  · refine .inl ⟨findI_none fun i hi e => h ⟨i, hi, e⟩, fun i hi e => h ⟨i, hi, ?_⟩⟩
    rw [codeAt_of hi] at e
    exact ByteArray.ext (Array.ext' e)

theorem lastPre_none {f : List (ByteArray × Int)} {t : ByteArray} : ∀ {n : Nat}, lastPre f t n = none → ∀ i, i < n → ¬ codeAt f i <+: t.data.toList
  | 0, _, _, h => absurd h (by omega)
  | n + 1, h, i, hi => by
    simp only [lastPre] at h
    cases hp : preB t (f.getD n (.empty, 0)).1 with
    | true => rw [hp] at h; cases h
    | false =>
      rw [hp] at h
      rcases Nat.lt_or_ge i n with h1 | h1
      · exact lastPre_none h i h1
      · obtain rfl : i = n := by omega
        exact of_decide_eq_false hp
theorem lastPre_some {f : List (ByteArray × Int)} {t : ByteArray} : ∀ {n k : Nat}, lastPre f t n = some k → k < n ∧ codeAt f k <+: t.data.toList ∧ ∀ i, k < i → i < n → ¬ codeAt f i <+: t.data.toList
  | 0, _, h => by cases h
  | n + 1, k, h => by
    simp only [lastPre] at h
    cases hp : preB t (f.getD n (.empty, 0)).1 with
    | true =>
      rw [hp] at h
      obtain rfl : n = k := by simpa using h
      exact ⟨by omega, of_decide_eq_true hp, fun i h1 h2 => absurd h1 (by omega)⟩
    | false =>
      rw [hp] at h
      obtain ⟨h1, h2, h3⟩ := lastPre_some (n := n) (by simpa using h)
      refine ⟨by omega, h2, fun i hi hn => ?_⟩
      rcases Nat.lt_or_ge i n with h4 | h4
      · exact h3 i hi h4
      · obtain rfl : i = n := by omega
        exact of_decide_eq_false hp

/-- What spec.tySet seeks: from n letters on downwards the sort whose Code they are. -/
def downF (f : List (ByteArray × Int)) (s : ByteArray) (p : Nat) : Nat → Int
  | 0 => -1
  | n + 1 => if findI f (s.extract p (p + (n + 1))) 0 < 0 then downF f s p n else findI f (s.extract p (p + (n + 1))) 0
theorem cut_list (s : ByteArray) (p m : Nat) : (s.extract p (p + m)).data.toList = (s.data.toList.drop p).take m := by
  rw [Lib.extract_data, Nat.add_sub_cancel_left]
theorem rest_list (s : ByteArray) (p : Nat) : (s.extract p s.size).data.toList = s.data.toList.drop p := by
  rw [Lib.extract_data]
  exact List.take_of_length_le (by rw [List.length_drop, len_list]; omega)
def asInt : Option Nat → Int | some k => k | none => -1

theorem downF_eq {f : List (ByteArray × Int)} (hf : Font f) (s : ByteArray) (p : Nat) : ∀ n, n ≤ s.size - p →
    (∀ i, i < f.length → n < (codeAt f i).length → ¬ codeAt f i <+: s.data.toList.drop p) → downF f s p n = asInt (lastPre f (s.extract p s.size) f.length) := by
  intro n
  induction n with
  | zero =>
    intro _ h
    cases hl : lastPre f (s.extract p s.size) f.length with
    | none => rfl
    | some k =>
      obtain ⟨h1, h2, _⟩ := lastPre_some hl
      rw [rest_list] at h2
      exact absurd h2 (h k h1 (by have := hf.size h1; omega))
  | succ n ih =>
    intro hn h
    have hlen : (s.data.toList.drop p).length = s.size - p := by rw [List.length_drop, len_list]
    rcases findI_cases f (s.extract p (p + (n + 1))) with ⟨h1, h2⟩ | ⟨i, hi, he, h1⟩
    · simp only [downF, h1]
      rw [if_pos (by omega)]
      refine ih (by omega) fun i hi hlt hp => ?_
      rcases Nat.lt_or_ge (n + 1) (codeAt f i).length with h3 | h3
      · exact h i hi h3 hp
      · refine h2 i hi ?_
        rw [cut_list]
        have := List.prefix_iff_eq_take.1 hp
        rw [show (codeAt f i).length = n + 1 from by omega] at this
        exact this
    · simp only [downF, h1]
      rw [if_neg (by omega)]
      rw [cut_list] at he
      have hpre : codeAt f i <+: s.data.toList.drop p := by rw [he]; exact List.take_prefix _ _
      have hil : (codeAt f i).length = n + 1 := by rw [he, List.length_take, hlen]; omega
      cases hl : lastPre f (s.extract p s.size) f.length with
      | none =>
        have := lastPre_none hl i hi
        rw [rest_list] at this
        exact absurd hpre this
      | some k =>
        obtain ⟨g1, g2, g3⟩ := lastPre_some hl
        rw [rest_list] at g2
        have hik : i ≤ k := by
          rcases Nat.lt_or_ge k i with h4 | h4
          · have := g3 i h4 hi
            rw [rest_list] at this
            exact absurd hpre this
          · exact h4
        have hkl : (codeAt f k).length ≤ n + 1 := by
          rcases Nat.lt_or_ge (n + 1) (codeAt f k).length with h4 | h4
          · exact absurd g2 (h k g1 h4)
          · exact h4
        have hki : codeAt f k <+: codeAt f i := List.prefix_of_prefix_length_le g2 hpre (by omega)
        obtain ⟨d, hd⟩ := hki
        by_cases hd0 : d = []
        · subst hd0
          rw [List.append_nil] at hd
          have := hf.inj g1 hi hd
          subst this; rfl
        · have hless := bl_prefix (codeAt f k) d hd0
          rw [hd] at hless
          rcases Nat.lt_or_ge i k with h4 | h4
          · have := bl_trans _ _ _ (hf.less h4 g1) hless
            rw [bl_irrefl] at this; cases this
          · obtain rfl : i = k := by omega
            rfl
end Go.Proofs.YtnbnegkoanidmaaGreatDoor.S1

/-
  The contracts of spec.tySet, spec.SortsOfWord and impl.SortsOfWord over a font: the list of sorts with which a word is set, in memory of the call's own.
-/
namespace Go.Proofs.YtnbnegkoanidmaaGreatDoor.S1
open Go.RowKit
set_option linter.unusedVariables false

def ints (l : List Nat) : List Value := l.map fun i : Nat => .int .i64 (i : Int)
theorem ints_len (l : List Nat) : (ints l).length = l.length := by simp [ints]
theorem ints_snoc (l : List Nat) (i : Nat) : ints (l ++ [i]) = ints l ++ [.int .i64 (i : Int)] := by simp [ints]
theorem own_below {w w' : World} {base size n : Nat} {e : TypeId} {v : Value} {xs : List Value} (h : w.ownsRow base e size v n xs) (hb : Below w.heap.size w w') : w'.ownsRow base e size v n xs :=
  h.kept (row := none) ⟨hb.os, hb.tape, hb.output, hb.size, fun k hk _ => hb.block k hk⟩ (by cases v.ownBlock <;> simp)
theorem own_lt {w : World} {base size n : Nat} {e : TypeId} {v : Value} {xs : List Value} (h : w.ownsRow base e size v n xs) : ∀ k, v.ownBlock = some k → base ≤ k := fun k hk => (h.lt k hk).1
theorem own_nil (w : World) (base size : Nat) (e : TypeId) : w.ownsRow base e size (.slice none 0 0) 0 [] := ⟨by simp, .inl ⟨rfl, rfl⟩⟩

/-- The sorts with which the rest of a word from p on is set. -/
def setF (f : List (ByteArray × Int)) (s : ByteArray) : Nat → Nat → Option (List Nat)
  | 0, p => if s.size ≤ p then some [] else none
  | n + 1, p => if s.size ≤ p then some [] else
    match lastPre f (s.extract p s.size) f.length with
    | none => none
    | some i => (setF f s n (p + (codeAt f i).length)).map (i :: ·)
def setW (f : List (ByteArray × Int)) (s : ByteArray) : Option (List Nat) := setF f s s.size 0
theorem setF_end {f : List (ByteArray × Int)} {s : ByteArray} {n p : Nat} (h : s.size ≤ p) : setF f s n p = some [] := by
  cases n <;> simp [setF, h]
theorem setF_no {f : List (ByteArray × Int)} {s : ByteArray} {n p : Nat} (h : p < s.size) (hl : lastPre f (s.extract p s.size) f.length = none) : setF f s n p = none := by
  cases n <;> simp [setF, Nat.not_le.2 h, hl]
/-- So far acc, from p on with n left to go. -/
def SetSo (f : List (ByteArray × Int)) (s : ByteArray) (acc : List Nat) (p : Nat) : Prop := p ≤ s.size ∧ acc.length ≤ p ∧ ∃ n, s.size - p ≤ n ∧ setW f s = (setF f s n p).map (acc ++ ·)
theorem SetSo.start (f : List (ByteArray × Int)) (s : ByteArray) : SetSo f s [] 0 := ⟨Nat.zero_le _, Nat.le_refl _, s.size, by omega, by simp [setW]⟩
theorem SetSo.step {f : List (ByteArray × Int)} {s : ByteArray} {acc : List Nat} {p i : Nat} (hf : Font f) (h : SetSo f s acc p) (hp : p < s.size) (hl : lastPre f (s.extract p s.size) f.length = some i) : SetSo f s (acc ++ [i]) (p + (codeAt f i).length) := by
  obtain ⟨h1, h2, n, hn, h3⟩ := h
  obtain ⟨g1, g2, _⟩ := lastPre_some hl
  have hsz := hf.size g1
  have hle := g2.length_le
  rw [rest_list, List.length_drop, len_list] at hle
  cases n with
  | zero => omega
  | succ n =>
    refine ⟨by omega, by simp; omega, n, by omega, ?_⟩
    rw [h3]
    simp only [setF]
    rw [if_neg (by omega), hl]
    simp only [Option.map_map]
    congr 1
    funext x
    simp
theorem SetSo.no {f : List (ByteArray × Int)} {s : ByteArray} {acc : List Nat} {p : Nat} (h : SetSo f s acc p) (hp : p < s.size) (hl : lastPre f (s.extract p s.size) f.length = none) : setW f s = none := by
  obtain ⟨_, _, n, _, h3⟩ := h
  rw [h3, setF_no hp hl]; rfl
theorem SetSo.done {f : List (ByteArray × Int)} {s : ByteArray} {acc : List Nat} (h : SetSo f s acc s.size) : setW f s = some acc := by
  obtain ⟨_, _, n, _, h3⟩ := h
  rw [h3, setF_end (Nat.le_refl _)]; simp

def SetsTo (w w' : World) (e : Ending) (r : Option (List Nat)) : Prop := Below w.heap.size w w' ∧
  match r with
  | none => e = .returned (.tuple #[.slice none 0 0, .bool false])
  | some l => ∃ v, e = .returned (.tuple #[v, .bool true]) ∧ w'.ownsRow w.heap.size 3 1 v l.length (ints l)

theorem SetsTo.no {w w' : World} {r : Option (List Nat)} (h : r = none) (hb : Below w.heap.size w w') : SetsTo w w' (.returned (.tuple #[.slice none 0 0, .bool false])) r := by subst h; exact ⟨hb, rfl⟩
theorem SetsTo.yes {w w' : World} {r : Option (List Nat)} {l : List Nat} {v : Value} (h : r = some l) (hb : Below w.heap.size w w') (ho : w'.ownsRow w.heap.size 3 1 v l.length (ints l)) : SetsTo w w' (.returned (.tuple #[v, .bool true])) r := by subst h; exact ⟨hb, v, rfl, ho⟩
theorem info3 : (Tryz.prog.info? 3).map (fun i => (i.zero, i.size, i.bytes)) = some (some (.int .i64 0), 1, 8) := by kernel_rfl

theorem least_nat (a : Int) (h0 : 0 ≤ a) : ∃ M : Nat, (if (3 : Int) < a then (3 : Int) else a) = (M : Int) ∧ M ≤ 3 ∧ (M : Int) ≤ a ∧ (M = 3 ∨ (M : Int) = a) := by
  by_cases h : (3 : Int) < a
  · exact ⟨3, by rw [if_pos h]; rfl, by omega, by omega, .inl rfl⟩
  · exact ⟨a.toNat, by rw [if_neg h]; omega, by omega, by omega, .inr (by omega)⟩
theorem asInt_some {o : Option Nat} {k : Nat} (h : o = some k) : asInt o = (k : Int) := by rw [h]; rfl

set_option maxRecDepth 100000 in
set_option maxHeartbeats 1000000 in
theorem tySet_any (f : List (ByteArray × Int)) (A : Option Addr) (cap : Nat) (s : ByteArray) (lo : Nat) (w : World) (hf : SortsIn w lo A f) (hF : Font f) (hs : s.size ≤ 16) :
    Calls Tryz.prog 55 #[.slice A f.length cap, .string s] w fun e w' => SetsTo w w' e (setW f s) := by
  have HS := Lib.hid hf; clear hf
  have hn : f.length ≤ 32 := hF.2.2
  have HF := Lib.hid hF; clear hF
  obtain ⟨i0, hi, hz0, hz1, hz2⟩ := info_parts info3
  have HI := Lib.hid hi; have HZ0 := Lib.hid hz0; have HZ1 := Lib.hid hz1; have HZ2 := Lib.hid hz2
  clear hi hz0 hz1 hz2
  go_enter Tryz.func55, Tryz.ntmps55
  go_wp2
  go_loopw [6, 7] (fun v t wr => ∃ (acc : List Nat) (p : Nat), t = .int .i64 p ∧ SetSo f s acc p ∧ wr.ownsRow w.heap.size 3 1 v acc.length (ints acc) ∧ Below w.heap.size w wr) (fun _ t _ => s.size - (intOf t).toNat)
  case atStart => exact ⟨[], 0, rfl, SetSo.start f s, own_nil _ _ _ _, Below.refl _ _⟩
  case round =>
    obtain ⟨acc, p, rfl, hso, hown, hb⟩ := hrel
    have hp := hso.1
    have HSO := Lib.hid hso; clear hso
    have HOWN := Lib.hid hown; clear hown
    by_cases hlt : p < s.size
    · go_wp2_with fail
      refine (least_any _ _ _).mono ?_
      rintro e w1 ⟨rfl, rfl⟩
      obtain ⟨M, hM, hM3, hMp, hMc⟩ := least_nat ((s.size : Int) - (p : Int)) (by omega)
      rw [hM]
      have hdown : downF f s p M = asInt (lastPre f (s.extract p s.size) f.length) := by
        refine downF_eq HF.out s p M (by omega) fun i hi hlt hp => ?_
        have := HF.out.size hi
        have := hp.length_le
        rw [List.length_drop, len_list] at this
        omega
      have HDOWN := Lib.hid hdown; clear hdown hM hMc
      go_wp2
      obtain ⟨wo, hwo⟩ : ∃ wo : World, wo = wr := ⟨_, rfl⟩
      subst hwo
      go_loopw [8, 9] (fun b n wr => ∃ (j : Nat) (r : Int), n = .int .i64 j ∧ b = .int .i64 r ∧ j ≤ M ∧ (r < 0 → r = -1 ∧ downF f s p M = downF f s p j) ∧ (0 ≤ r → r = downF f s p M) ∧ Below wo.heap.size wo wr) (fun _ n _ => (intOf n).toNat)
      case atStart => exact ⟨M, -1, rfl, rfl, Nat.le_refl _, fun _ => ⟨rfl, rfl⟩, fun h => absurd h (by omega), Below.refl _ _⟩
      case round =>
        obtain ⟨j, r, rfl, rfl, hj, hr1, hr2, hbi⟩ := hrel
        have HR1 := Lib.hid hr1; have HR2 := Lib.hid hr2
        clear hr1 hr2
        by_cases hgo : 0 < j ∧ r < 0
        · obtain ⟨hj0, hr0⟩ := hgo
          obtain ⟨m, rfl⟩ : ∃ m, j = m + 1 := ⟨j - 1, by omega⟩
          have h1 : (0 : Int) < ((m + 1 : Nat) : Int) := by omega
          have HFS := Lib.hid (HS.out.below (hb.trans (hbi.mono hb.size)) (Nat.le_refl _))
          go_wp2_with fail
          refine (tyFind_any f A cap _ lo _ HFS.out (by omega)).mono ?_
          rintro e w2 ⟨rfl, hb2⟩
          have HD : Hid (downF f s p (m + 1) = if findI f (s.extract p (p + (m + 1))) 0 < 0 then downF f s p m else findI f (s.extract p (p + (m + 1))) 0) := rfl
          have HC := Lib.hid (findI_cases f (s.extract p (p + (m + 1))))
          have HB := Lib.hid (hbi.trans (hb2.mono hbi.size))
          clear hbi hb2 HFS
          generalize findI f (s.extract p (p + (m + 1))) 0 = q at *
          go_wp2
          go_roundw
          case rel =>
            refine ⟨m, q, by go_num, rfl, by omega, fun hq => ?_, fun hq => ?_, HB.out⟩
            · refine ⟨?_, ?_⟩
              · rcases HC.out with ⟨h, _⟩ | ⟨i, _, _, h⟩ <;> omega
              · rw [(HR1.out hr0).2, HD.out, if_pos hq]
            · rw [(HR1.out hr0).2, HD.out, if_neg (by omega)]
          case measure => simp [intOf]
        · have hr : r = downF f s p M := by
            by_cases h0 : 0 ≤ r
            · exact HR2.out h0
            · have hj0 : j = 0 := by omega
              obtain ⟨e1, e2⟩ := HR1.out (by omega)
              rw [e2, hj0, e1]; rfl
          have hr' := hr.trans HDOWN.out
          have hstop : ¬ 0 < (j : Int) ∨ (0 < (j : Int) ∧ ¬ r < 0) := by omega
          have hbw := hb.trans (hbi.mono hb.size)
          have hownw := own_below HOWN.out hbi
          clear HR1 HR2 HDOWN hr hbi hb HOWN hgo
          cases hl : lastPre f (s.extract p s.size) f.length with
          | none =>
            rw [hl] at hr'
            obtain rfl : r = -1 := hr'
            have HNO := Lib.hid (HSO.out.no hlt hl)
            have HW := Lib.hid hbw
            clear hl hownw hbw
            have h : ¬ 0 < (j : Int) := by omega
            clear hstop
            go_wp2
            go_ret2
            exact SetsTo.no HNO.out HW.out
          | some i =>
            rw [hl] at hr'
            obtain rfl : r = (i : Int) := hr'
            have hil := (lastPre_some hl).1
            have HSTEP := Lib.hid (HSO.out.step HF.out hlt hl)
            obtain ⟨bb, off, rfl, _, hbl, hc⟩ := HS.out (by omega)
            have hc0 := (hc i hil).1
            have hcl := HF.out.size hil
            rw [codeAt_of hil] at HSTEP hcl
            rw [len_list] at HSTEP hcl
            have hal := HSO.out.2.1
            clear hl hc
            have h0i : ¬ (i : Int) < 0 := by omega
            have hmx : acc.length + 1 ≤ maxLen := by unfold maxLen; omega
            rcases hstop with h | ⟨h, h'⟩
            all_goals
              go_wp2_with (at_builtin; refine wpList_append_own _ rfl _ _ 23 rfl w.heap.size 3 i0 (.int .i64 0) 1 8 Tryz.underlying23 HI.out HZ0.out HZ1.out HZ2.out rfl (by decide) _ _ _ rfl (hownw.alloc _) ⟨wr.heap.size, 0, none⟩ 1 1 [.int .i64 (i : Int)] rfl rfl (cell_one_new _ _ _) (by simp [Value.oneCell']) hmx (by omega) (by have := hbw.size; simp; omega) ?_)
              intro v' w1 hown' hgrow _
              have hb1 : Below w.heap.size w w1 := (hbw.alloc hbw.size _).grown hgrow (by have := hbw.size; simp; omega) (own_lt hownw)
              have hc1 := (hb1.cell (p := ⟨bb, off + i * 2, none⟩) hbl).trans hc0
              have HO1 : Hid (w1.ownsRow w.heap.size 3 1 v' (acc ++ [i]).length (ints (acc ++ [i]))) := by rw [List.length_append, ints_snoc]; exact hown'
              have HB1 := Lib.hid hb1
              clear hown' hgrow hb1 hbw hownw hc0
              go_wp2
              go_roundw
              case rel => exact ⟨acc ++ [i], p + f[i].1.size, by go_num, HSTEP.out, HO1.out, HB1.out⟩
              case measure => simp [intOf]; omega
    · obtain rfl : p = s.size := by omega
      have HD := Lib.hid HSO.out.done
      go_wp2
      go_ret2
      exact SetsTo.yes HD.out hb HOWN.out
end Go.Proofs.YtnbnegkoanidmaaGreatDoor.S1

/-
  The contracts of spec.SortsOfWord and impl.SortsOfWord: both answer the list of sorts with which a word is set, in memory of the call's own.
-/
namespace Go.Proofs.YtnbnegkoanidmaaGreatDoor.S1
open Go.RowKit
set_option linter.unusedVariables false

noncomputable def sowF (f : List (ByteArray × Int)) (s : ByteArray) : Option (List Nat) := if fontB f && isWordF s then setW f s else none
theorem isWord_len {s : ByteArray} (h : isWordF s = true) : 1 ≤ s.size ∧ s.size ≤ 16 := by
  unfold isWordF tyLettersF at h
  simp only [Bool.and_eq_true, decide_eq_true_eq, len_list] at h
  omega

def strLen : Value → Nat | .string s => s.size | _ => 0
theorem rest_zero (s : ByteArray) : s = s.extract 0 s.size := ByteArray.ext (Array.ext' (by rw [rest_list]; rfl))
theorem rest_size (s : ByteArray) (p : Nat) : (s.extract p s.size).size = s.size - p := by rw [← len_list, rest_list, List.length_drop, len_list]
theorem rest_cut (s : ByteArray) (p c : Nat) : (s.extract p s.size).extract c (s.extract p s.size).size = s.extract (p + c) s.size :=
  ByteArray.ext (Array.ext' (by rw [rest_list, rest_list, rest_list, List.drop_drop]))
theorem empty_iff (r : ByteArray) : r.toList.isEmpty = decide (r.size = 0) := by
  rw [ByteArray.toList_eq, ← len_list, Bool.eq_iff_iff, List.isEmpty_iff, decide_eq_true_eq, List.length_eq_zero_iff]

set_option maxRecDepth 100000 in
set_option maxHeartbeats 1000000 in
theorem implSow_any (f : List (ByteArray × Int)) (A : Option Addr) (cap : Nat) (s : ByteArray) (lo : Nat) (w : World) (hf : SortsIn w lo A f) (hn : f.length ≤ 1048576) (ho : CodesOk f) (hs : s.size ≤ maxLen) :
    Calls Tryz.prog 57 #[.slice A f.length cap, .string s] w fun e w' => SetsTo w w' e (sowF f s) := by
  have HS := Lib.hid hf; clear hf
  have HO := Lib.hid ho; clear ho
  go_enter Tryz.func57, Tryz.ntmps57
  go_wp2_with fail
  refine (implIsFont_any f A cap lo _ HS.out hn HO.out).mono ?_
  rintro e w1 ⟨rfl, hb1⟩
  cases hv : fontB f
  · have HN : Hid (sowF f s = none) := by show sowF f s = none; unfold sowF; rw [hv]; rfl
    clear hv
    go_wp2
    go_ret2
    exact SetsTo.no HN.out hb1
  · have HFF := Lib.hid (fontB_iff.1 hv)
    have hn32 : f.length ≤ 32 := (fontB_iff.1 hv).2.2
    have HY0 : Hid (sowF f s = if isWordF s then setW f s else none) := by show sowF f s = _; unfold sowF; rw [hv]; rfl
    clear hv
    go_wp2_with fail
    refine (isWord_any s _ hs).mono ?_
    rintro e w2 ⟨rfl, hb2⟩
    have hb := hb1.trans (hb2.mono hb1.size)
    clear hb1 hb2
    cases hv : isWordF s
    · have HN : Hid (sowF f s = none) := by show sowF f s = none; rw [HY0.out, hv]; rfl
      clear hv
      go_wp2
      go_ret2
      exact SetsTo.no HN.out hb
    · have HY : Hid (sowF f s = setW f s) := by show sowF f s = _; rw [HY0.out, hv]; rfl
      have hw := isWord_len hv
      clear hv
      obtain ⟨i0, hi, hz0, hz1, hz2⟩ := info_parts info3
      have HI := Lib.hid hi; have HZ0 := Lib.hid hz0; have HZ1 := Lib.hid hz1; have HZ2 := Lib.hid hz2
      clear hi hz0 hz1 hz2
      go_wp2
      go_loopw [6, 7] (fun v t wr => ∃ (acc : List Nat) (p : Nat) (r : ByteArray), t = .string r ∧ r = s.extract p s.size ∧ SetSo f s acc p ∧ wr.ownsRow w.heap.size 3 1 v acc.length (ints acc) ∧ Below w.heap.size w wr) (fun _ t _ => (strLen t))
      case atStart => exact ⟨[], 0, s, rfl, rest_zero s, SetSo.start f s, own_nil _ _ _ _, hb⟩
      case round =>
        obtain ⟨acc, p, r, rfl, hr, hso, hown, hb⟩ := hrel
        have hp := hso.1
        have HSO := Lib.hid hso; clear hso
        have HOWN := Lib.hid hown; clear hown
        have hrs : r.size = s.size - p := by rw [hr, rest_size]
        have HR := Lib.hid hr; clear hr
        have HRS := Lib.hid hrs
        by_cases hlt : p < s.size
        · have hne : r.toList.isEmpty = false := by rw [empty_iff, decide_eq_false (by omega)]
          have hrm : r.size ≤ maxLen := by unfold maxLen; omega
          have H1 := Lib.hid (HS.out.below hb (Nat.le_refl _))
          clear hrs
          go_wp2_with fail
          refine (longestSort_any f A cap r lo _ H1.out hn HO.out hrm).mono ?_
          rintro e w3 ⟨rfl, hb3⟩
          have hbw := hb.trans (hb3.mono hb.size)
          have hownw := own_below HOWN.out hb3
          clear hb hb3 H1 HOWN
          cases hl : lastPre f r f.length with
          | none =>
            have hl' : lastPre f (s.extract p s.size) f.length = none := by rw [← HR.out]; exact hl
            have HNO := Lib.hid (HY.out.trans (HSO.out.no hlt hl'))
            clear hl hl' hownw
            have HW := Lib.hid hbw
            clear hbw
            go_wp2
            go_ret2
            exact SetsTo.no HNO.out HW.out
          | some i =>
            have hl' : lastPre f (s.extract p s.size) f.length = some i := by rw [← HR.out]; exact hl
            have hil := (lastPre_some hl').1
            have HSTEP := Lib.hid (HSO.out.step HFF.out hlt hl')
            have hle := (lastPre_some hl').2.1.length_le
            rw [rest_list, List.length_drop, len_list] at hle
            have hcl := HFF.out.size hil
            rw [codeAt_of hil] at HSTEP hcl hle
            rw [len_list] at HSTEP hcl hle
            have hal := HSO.out.2.1
            have hmx : acc.length + 1 ≤ maxLen := by unfold maxLen; omega
            have hcr : f[i].1.size ≤ r.size := by have := HRS.out; omega
            have HCUT : Hid (r.extract f[i].1.size r.size = s.extract (p + f[i].1.size) s.size) := by
              show _ = _
              have := HR.out
              subst this
              exact rest_cut s p _
            obtain ⟨bb, off, rfl, _, hbl, hc⟩ := HS.out (by omega)
            have hc0 := (hc i hil).1
            clear hl hl' hc hle
            dsimp only [optI, Option.isSome]
            go_wp2_with (at_builtin; refine wpList_append_own _ rfl _ _ 23 rfl w.heap.size 3 i0 (.int .i64 0) 1 8 Tryz.underlying23 HI.out HZ0.out HZ1.out HZ2.out rfl (by decide) _ _ _ rfl (hownw.alloc _) ⟨w3.heap.size, 0, none⟩ 1 1 [.int .i64 (i : Int)] rfl rfl (cell_one_new _ _ _) (by simp [Value.oneCell']) hmx (by omega) (by have := hbw.size; simp; omega) ?_)
            intro v' w4 hown' hgrow _
            have hb1 : Below w.heap.size w w4 := (hbw.alloc hbw.size _).grown hgrow (by have := hbw.size; simp; omega) (own_lt hownw)
            have hc1 := (hb1.cell (p := ⟨bb, off + i * 2, none⟩) hbl).trans hc0
            have HO1 : Hid (w4.ownsRow w.heap.size 3 1 v' (acc ++ [i]).length (ints (acc ++ [i]))) := by rw [List.length_append, ints_snoc]; exact hown'
            have HB1 := Lib.hid hb1
            clear hown' hgrow hb1 hbw hownw hc0
            go_wp2
            go_roundw
            case rel => exact ⟨acc ++ [i], p + f[i].1.size, _, rfl, HCUT.out, HSTEP.out, HO1.out, HB1.out⟩
            case measure =>
              show (r.extract f[i].1.size r.size).size < r.size
              rw [HCUT.out, rest_size]
              have := HRS.out
              omega
        · have hne : r.toList.isEmpty = true := by rw [empty_iff, decide_eq_true (by omega)]
          obtain rfl : p = s.size := by omega
          have HD := Lib.hid (HY.out.trans HSO.out.done)
          clear hrs
          go_wp2
          go_ret2
          exact SetsTo.yes HD.out hb HOWN.out
end Go.Proofs.YtnbnegkoanidmaaGreatDoor.S1

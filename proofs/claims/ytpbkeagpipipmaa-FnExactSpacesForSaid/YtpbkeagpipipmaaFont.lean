/-
  The contracts of the functions on a slice of sorts that only read (laws.szSortS, laws.toSortS, laws.eqSortS, spec.tyFont, impl.IsFont): each returns what the plain function here says and changes nothing that was there.
-/
import Derived.Test.YtpbkeagpipipmaaOne
import Derived.WalkLawsBesides
import Derived.StillTailTactics
import Derived.Sort.Walk0
namespace Go.Proofs.Ytpbkeagpipipmaa.S1
open Go.RowKit
set_option linter.unusedVariables false

/-- A slice of sorts at A reads as the list f; its block lies from lo on and below the heap's end. -/
def SortsIn (w : World) (lo : Nat) (A : Option Addr) (f : List (ByteArray × Int)) : Prop :=
  0 < f.length → ∃ b off, A = some ⟨b, off, none⟩ ∧ lo ≤ b ∧ b < w.heap.size ∧ ∀ k (h : k < f.length), w.cell? ⟨b, off + k * 2, none⟩ = some (.string f[k].1) ∧ w.cell? ⟨b, off + k * 2 + 1, none⟩ = some (.int .i64 f[k].2)
/-- Each Code is no longer than a string can be. -/
def CodesOk (f : List (ByteArray × Int)) : Prop := ∀ k (h : k < f.length), f[k].1.size ≤ maxLen

theorem SortsIn.below {w w' : World} {lo B : Nat} {A : Option Addr} {f : List (ByteArray × Int)} (h : SortsIn w lo A f) (hb : Below B w w') (hB : w.heap.size ≤ B) : SortsIn w' lo A f := by
  intro hn
  obtain ⟨b, off, rfl, h1, h2, h3⟩ := h hn
  refine ⟨b, off, rfl, h1, Nat.lt_of_lt_of_le h2 hb.size, fun k hk => ?_⟩
  rw [hb.cell (by show b < B; omega), hb.cell (by show b < B; omega)]
  exact h3 k hk

theorem ret_int {k : IntKind} {a b : Int} (h : a = b) : Ending.returned (.int k a) = .returned (.int k b) := by rw [h]
def szF : List (ByteArray × Int) → Int → Int
  | [], l => l
  | x :: r, l => if l < x.1.size then -1 else szF r (l - x.1.size)
def szSortSF (f : List (ByteArray × Int)) (l : Int) : Int := if l < f.length then -1 else szF f (l - f.length)
theorem szF_drop (f : List (ByteArray × Int)) (k : Nat) (h : k < f.length) (l : Int) : szF (f.drop k) l = if l < f[k].1.size then -1 else szF (f.drop (k + 1)) (l - f[k].1.size) := by
  rw [List.drop_eq_getElem_cons h]; rfl

theorem sz_len (f : List (ByteArray × Int)) (h : 0 ≤ szSortSF f 1048576) : f.length ≤ 1048576 := by
  unfold szSortSF at h
  split at h <;> omega

theorem szSortS_any (f : List (ByteArray × Int)) (A : Option Addr) (c : Nat) (l : Int) (lo : Nat) (w : World) (hf : SortsIn w lo A f) (ho : CodesOk f) (hn : f.length ≤ maxLen) (h1 : 0 ≤ l) (h2 : l ≤ 1048576) :
    Calls Try.prog 45 #[.slice A f.length c, .int .i64 l] w fun e w' => e = .returned (.int .i64 (szSortSF f l)) ∧ Below w.heap.size w w' := by
  unfold maxLen at hn
  have HO := Lib.hid ho; clear ho
  have HF := Lib.hid hf; clear hf
  by_cases h : l < f.length
  · go_enter Try.func45, Try.ntmps45
    have h' : l - (f.length : Int) < 0 := by omega
    go_wp2
    go_ret
    exact ⟨ret_int (by unfold szSortSF; rw [if_pos h]), Below.refl _ _⟩
  · have hd : szSortSF f l = szF (f.drop 0) (l - f.length) := by unfold szSortSF; rw [if_neg h]; rfl
    have HD := Lib.hid hd; clear hd
    go_enter Try.func45, Try.ntmps45
    have h' : ¬ l - (f.length : Int) < 0 := by omega
    go_wp2
    go_loopw [1, 5] (fun t i wr => ∃ (k : Nat) (L : Int), k ≤ f.length ∧ i = .int .i64 k ∧ t = .int .i64 L ∧ 0 ≤ L ∧ L ≤ 1048576 ∧ szSortSF f l = szF (f.drop k) L ∧ Below w.heap.size w wr) (fun _ i _ => f.length - (intOf i).toNat)
    case atStart => exact ⟨0, _, Nat.zero_le _, rfl, rfl, by omega, by omega, HD.out, Below.refl _ _⟩
    case round =>
      obtain ⟨k, L, hk, rfl, rfl, hL1, hL2, hs, hb⟩ := hrel
      have HS := Lib.hid hs; clear hs
      by_cases hlt : k < f.length
      · obtain ⟨b, off, rfl, _, hbl, hc⟩ := HF.out (by omega)
        obtain ⟨hc0, hc1⟩ := hc k hlt
        clear hc
        rw [← hb.cell (p := ⟨b, off + k * 2, none⟩) hbl] at hc0
        rw [← hb.cell (p := ⟨b, off + k * 2 + 1, none⟩) hbl] at hc1
        have hsz := szF_drop f k hlt L
        have HZ := Lib.hid hsz; clear hsz
        have hok := HO.out k hlt
        go_wp2_with fail
        refine (szSort_any _ _ _ _ hok hL1 hL2).mono ?_
        rintro e w1 ⟨rfl, hb1⟩
        have hb' : Below w.heap.size w w1 := hb.trans (hb1.mono hb.size)
        clear hb hb1 hc0 hc1 hok
        by_cases hl : L < (f[k].1.size : Int)
        · rw [if_pos hl]
          go_wp2
          go_ret
          exact ⟨ret_int (by rw [HS.out, HZ.out, if_pos hl]), hb'⟩
        · rw [if_neg hl]
          have hl' : ¬ L - (f[k].1.size : Int) < 0 := by omega
          go_wp2
          go_roundw
          case rel => exact ⟨k + 1, _, by omega, by go_num, rfl, by omega, by omega, by rw [HS.out, HZ.out, if_neg (by omega)], hb'⟩
          case measure => simp [intOf]; omega
      · obtain rfl : k = f.length := by omega
        go_wp2
        go_ret
        exact ⟨ret_int (by rw [HS.out, List.drop_length]; rfl), hb⟩

theorem str_inj {c d : ByteArray} (e : c.toList = d.toList) : c = d := by
  rw [ByteArray.toList_eq, ByteArray.toList_eq] at e
  exact ByteArray.ext (Array.ext' e)
theorem str_ne {c d : ByteArray} (h : ¬ c = d) : (!c.toList == d.toList) = true := by
  have : c.toList ≠ d.toList := fun e => h (str_inj e)
  rw [beq_eq_false_iff_ne.2 this]; rfl

theorem eqSort_any (c d : ByteArray) (n m : Int) (w : World) :
    Calls Try.prog 79 #[.agg #[.string c, .int .i64 n], .agg #[.string d, .int .i64 m]] w fun e w' => e = .returned (.bool (decide ((c, n) = (d, m)))) ∧ Below w.heap.size w w' := by
  have hb : Below w.heap.size w ((w.alloc (.cells #[.string c, .int .i64 n] 91)).alloc (.cells #[.string d, .int .i64 m] 91)) := ((Below.refl _ _).alloc (Nat.le_refl _) _).alloc (by simp) _
  by_cases h1 : c = d
  · subst h1
    by_cases h2 : n = m
    · subst h2
      go_enter Try.func79, Try.ntmps79
      go_wp2
      go_ret
      exact ⟨by simp, hb⟩
    · have h3 : (n != m) = true := by simp [h2]
      have H2 := Lib.hid h2; clear h2
      go_enter Try.func79, Try.ntmps79
      go_wp2
      go_ret
      exact ⟨by simp [H2.out], hb⟩
  · have h3 : (!c.toList == d.toList) = true := str_ne h1
    have H2 := Lib.hid h1; clear h1
    go_enter Try.func79, Try.ntmps79
    go_wp2
    go_ret
    exact ⟨by simp [H2.out], hb⟩

set_option maxRecDepth 100000 in
theorem eqSortS_any (f g : List (ByteArray × Int)) (A B : Option Addr) (c d : Nat) (lo lo' : Nat) (w : World) (hf : SortsIn w lo A f) (hg : SortsIn w lo' B g) (hn : f.length ≤ maxLen) (hm : g.length ≤ maxLen) :
    Calls Try.prog 49 #[.slice A f.length c, .slice B g.length d] w fun e w' => e = .returned (.bool (decide (f = g))) ∧ Below w.heap.size w w' := by
  unfold maxLen at hn hm
  have HF := Lib.hid hf; clear hf
  have HG := Lib.hid hg; clear hg
  by_cases h : f.length = g.length
  · have HL := Lib.hid h
    have h' : ((f.length : Int) != (g.length : Int)) = false := by simp [h]
    clear h
    go_enter Try.func49, Try.ntmps49
    go_wp2
    go_loopw [5] (fun i wr => ∃ (k : Nat), k ≤ f.length ∧ i = .int .i64 k ∧ f.take k = g.take k ∧ Below w.heap.size w wr) (fun i _ => f.length - (intOf i).toNat)
    case atStart => exact ⟨0, Nat.zero_le _, rfl, rfl, Below.refl _ _⟩
    case round =>
      obtain ⟨k, hk, rfl, hs, hb⟩ := hrel
      have HS := Lib.hid hs; clear hs
      by_cases hlt : k < f.length
      · have hkg : k < g.length := by have := HL.out; omega
        obtain ⟨b, off, rfl, _, hbl, hc⟩ := HF.out (by omega)
        obtain ⟨hc0, hc1⟩ := hc k hlt
        clear hc
        rw [← hb.cell (p := ⟨b, off + k * 2, none⟩) hbl] at hc0
        rw [← hb.cell (p := ⟨b, off + k * 2 + 1, none⟩) hbl] at hc1
        obtain ⟨b', off', rfl, _, hbl', hd⟩ := HG.out (by omega)
        obtain ⟨hd0, hd1⟩ := hd k hkg
        clear hd
        rw [← hb.cell (p := ⟨b', off' + k * 2, none⟩) hbl'] at hd0
        rw [← hb.cell (p := ⟨b', off' + k * 2 + 1, none⟩) hbl'] at hd1
        go_wp2_with fail
        go_still_tail 8, (by kernel_rfl)
        change wpList _ _ _ _ _ wr.drew
        go_wp2_with fail
        refine (eqSort_any _ _ _ _ _).mono ?_
        rintro e w1 ⟨rfl, hb1⟩
        have hb' : Below w.heap.size w w1 := (hb.drew).trans (hb1.mono hb.size)
        clear hb hb1 hc0 hc1 hd0 hd1
        by_cases hl : f[k] = g[k]
        · rw [show decide ((f[k].1, f[k].2) = (g[k].1, g[k].2)) = true from decide_eq_true hl]
          have HE := Lib.hid hl; clear hl
          go_wp2
          go_roundw
          case rel => exact ⟨k + 1, by omega, by go_num, by rw [List.take_succ_eq_append_getElem hlt, List.take_succ_eq_append_getElem hkg, HS.out, HE.out], hb'⟩
          case measure => simp [intOf]; omega
        · rw [show decide ((f[k].1, f[k].2) = (g[k].1, g[k].2)) = false from decide_eq_false hl]
          have HE := Lib.hid hl; clear hl
          go_wp2
          go_ret
          exact ⟨ret_bool (by
            symm; apply decide_eq_false; intro he; apply HE.out; subst he; rfl), hb'⟩
      · obtain rfl : k = f.length := by omega
        go_wp2
        go_ret
        exact ⟨ret_bool (by
          symm; apply decide_eq_true
          have e := HS.out
          rw [List.take_length, HL.out, List.take_length] at e
          exact e), hb⟩
  · have H := Lib.hid h
    have h' : ((f.length : Int) != (g.length : Int)) = true := by simp; omega
    clear h
    go_enter Try.func49, Try.ntmps49
    go_wp2
    go_ret
    exact ⟨ret_bool (by symm; apply decide_eq_false; intro he; apply H.out; rw [he]), Below.refl _ _⟩
end Go.Proofs.Ytpbkeagpipipmaa.S1

import Derived.Test.YtiihhilhiknckaaGreatDoorGA
import Derived.Lib.ItoaMem
import Derived.Lib.Split
import Derived.Lib.SplitLaws
import Derived.Lib.IndexBytes
import Derived.Lib.IndexLaws
import Derived.Deep.SlicePairs
import Derived.OwnWalk
import Derived.Maps.AppendAt
import Derived.Test.YtiihhilhiknckaaGreatDoorLet
import Derived.IntWalk
/-
  Plain words that the numbers' and the strikes' readers share: bytes to a string, the library's table of powers.
-/
namespace Go.Proofs.YtiihhilhiknckaaGreatDoor.P
open Go.RowKit
set_option linter.unusedVariables false

def baOf (l : List UInt8) : ByteArray := ⟨l.toArray⟩
theorem baOf_size (l : List UInt8) : (baOf l).size = l.length := rfl
theorem ba_data (c : ByteArray) : baOf c.data.toList = c := by unfold baOf; simp
def digU (n : Nat) : UInt8 := UInt8.ofNat (48 + n)
theorem digU_int {n : Nat} (h : n < 10) : ((digU n).toNat : Int) = 48 + (n : Int) := by
  unfold digU
  rw [UInt8.toNat_ofNat', Nat.mod_eq_of_lt (by omega)]; omega
def Tab (w : World) : Prop := Lib.TabIs Tryz.prog w "internal/strconv.uint64pow10" .u64 Lib.pow10Tab
theorem Tab.below {w w' : World} (h : Tab w) (hb : Below w.heap.size w w') : Tab w' := by
  unfold Tab Lib.TabIs World.var? at h ⊢
  obtain ⟨g, hg⟩ : ∃ g, Tryz.prog.globalNamed "internal/strconv.uint64pow10" = some g := by
    cases hg : Tryz.prog.globalNamed "internal/strconv.uint64pow10" with
    | none => rw [hg] at h; cases h
    | some g => exact ⟨g, rfl⟩
  rw [hg] at h ⊢
  simp only [Option.bind_some] at h ⊢
  have hlt : g < w.heap.size := by
    rcases Nat.lt_or_ge g w.heap.size with h' | h'
    · exact h'
    · rw [Array.getElem?_eq_none h'] at h; cases h
  rw [hb.block g hlt]
  exact h
end Go.Proofs.YtiihhilhiknckaaGreatDoor.P

/-
  Cutting a text at a byte: what the pieces are; the contract of spec.l1Split: it answers them all, in a row of its own, and changes nothing that was there.
-/
namespace Go.Proofs.YtiihhilhiknckaaGreatDoor.P
open Go.RowKit
set_option linter.unusedVariables false

def strs (l : List ByteArray) : List Value := l.map fun s => .string s
/-- A slice of strings at A reads as l. -/
def StrsIn (w : World) (A : Option Addr) (l : List ByteArray) : Prop :=
  0 < l.length → ∃ b off, A = some ⟨b, off, none⟩ ∧ b < w.heap.size ∧ ∀ k (h : k < l.length), w.cell? ⟨b, off + k, none⟩ = some (.string l[k])
theorem StrsIn.below {w w' : World} {B : Nat} {A : Option Addr} {l : List ByteArray} (h : StrsIn w A l) (hb : Below B w w') (hB : w.heap.size ≤ B) : StrsIn w' A l := by
  intro hn
  obtain ⟨b, off, rfl, h2, h3⟩ := h hn
  refine ⟨b, off, rfl, Nat.lt_of_lt_of_le h2 hb.size, fun k hk => ?_⟩
  rw [hb.cell (by show b < B; omega)]
  exact h3 k hk
theorem own_strs {w : World} {base n : Nat} {e : TypeId} {v : Value} {l : List ByteArray} (h : w.ownsRow base e 1 v n (strs l)) : ∃ A c, v = .slice A l.length c ∧ n = l.length ∧ l.length ≤ c ∧ StrsIn w A l := by
  have hn : n = l.length := by have := h.1; simp [strs] at this; omega
  subst hn
  rcases h.2 with ⟨rfl, h0⟩ | ⟨g, cap, cur, rfl, hg, hh, h1, h2, h3, h4⟩
  · exact ⟨none, 0, by rw [h0], rfl, by omega, fun h => absurd h (by omega)⟩
  · refine ⟨_, _, rfl, rfl, h1, fun _ => ⟨g, 0, rfl, lt_of_heap hh, fun k hk => ?_⟩⟩
    rw [h.cellAt (0 + k) (by omega)]
    simp [strs, hk]
theorem own_form_s {w : World} {base n : Nat} {e : TypeId} {v : Value} {l : List ByteArray} (h : w.ownsRow base e 1 v n (strs l)) : ∃ A c, v = .slice A l.length c := by
  obtain ⟨A, c, hv, _, _, _⟩ := own_strs h
  exact ⟨A, c, hv⟩
theorem strs_snoc (l : List ByteArray) (s : ByteArray) : strs (l ++ [s]) = strs l ++ [.string s] := by simp [strs]
theorem info_str : (Tryz.prog.info? 9).map (fun i => (i.zero, i.size, i.bytes)) = some (some (.string .empty), 1, 16) := by kernel_rfl

def sepB (c : UInt8) : ByteArray := ⟨#[c]⟩
/-- All the pieces of s between its bytes c. -/
def pcs (c : UInt8) (s : ByteArray) : List ByteArray := Lib.splitB (sepB c) 0 s.size s
theorem sep_size (c : UInt8) : (sepB c).size = 1 := rfl

theorem cut_many (c : UInt8) (n : Nat) : ∀ (s : ByteArray) (m : Nat), s.size ≤ n → s.size ≤ m → Lib.splitB (sepB c) 0 n s = Lib.splitB (sepB c) 0 m s := by
  induction n with
  | zero =>
    intro s m h1 h2
    rcases Lib.indexB_cases s (sepB c) with h | ⟨i, h, hr⟩
    · rw [Lib.splitB_miss _ _ _ _ h, Lib.splitB_miss _ _ _ _ h]
    · rw [sep_size] at hr; omega
  | succ n ih =>
    intro s m h1 h2
    rcases Lib.indexB_cases s (sepB c) with h | ⟨i, h, hr⟩
    · rw [Lib.splitB_miss _ _ _ _ h, Lib.splitB_miss _ _ _ _ h]
    · rw [sep_size] at hr
      obtain ⟨m, rfl⟩ : ∃ k, m = k + 1 := ⟨m - 1, by omega⟩
      rw [Lib.splitB_hit _ _ _ _ i h, Lib.splitB_hit _ _ _ _ i h, ih _ m (by rw [ByteArray.size_extract, sep_size]; omega) (by rw [ByteArray.size_extract, sep_size]; omega)]
/-- Cut at k places at most: the same, or too many both. -/
theorem cut_some (c : UInt8) (k : Nat) : ∀ (s : ByteArray) (n : Nat), s.size ≤ n → Lib.splitB (sepB c) 0 k s = Lib.splitB (sepB c) 0 n s ∨ ((Lib.splitB (sepB c) 0 k s).length = k + 1 ∧ k + 1 < (Lib.splitB (sepB c) 0 n s).length) := by
  induction k with
  | zero =>
    intro s n hn
    rcases Lib.indexB_cases s (sepB c) with h | ⟨i, h, hr⟩
    · rw [Lib.splitB_miss _ _ _ _ h, Lib.splitB_miss _ _ _ _ h]; exact .inl rfl
    · rw [sep_size] at hr
      obtain ⟨n, rfl⟩ : ∃ k, n = k + 1 := ⟨n - 1, by omega⟩
      right
      refine ⟨rfl, ?_⟩
      rw [Lib.splitB_hit _ _ _ _ i h, List.length_cons]
      have : 1 ≤ (Lib.splitB (sepB c) 0 n (s.extract (i + (sepB c).size) s.size)).length := by
        cases n with
        | zero => exact Nat.le_refl _
        | succ n => unfold Lib.splitB; split <;> simp
      omega
  | succ k ih =>
    intro s n hn
    rcases Lib.indexB_cases s (sepB c) with h | ⟨i, h, hr⟩
    · rw [Lib.splitB_miss _ _ _ _ h, Lib.splitB_miss _ _ _ _ h]; exact .inl rfl
    · rw [sep_size] at hr
      obtain ⟨n, rfl⟩ : ∃ k, n = k + 1 := ⟨n - 1, by omega⟩
      rw [Lib.splitB_hit _ _ _ _ i h, Lib.splitB_hit _ _ _ _ i h]
      rcases ih (s.extract (i + (sepB c).size) s.size) n (by rw [ByteArray.size_extract, sep_size]; omega) with h1 | ⟨h1, h2⟩
      · left; rw [h1]
      · right; rw [List.length_cons, List.length_cons]; omega

theorem ba_ext {a b : ByteArray} (h : a.data.toList = b.data.toList) : a = b := ByteArray.ext (Array.ext' h)
theorem ex_list (s : ByteArray) (a b : Nat) : (s.extract a b).data.toList = (s.data.toList.drop a).take (b - a) := by rw [Lib.extract_data]
theorem ex_rest (s : ByteArray) (a : Nat) : (s.extract a s.size).data.toList = s.data.toList.drop a := by
  rw [ex_list]
  exact List.take_of_length_le (by rw [List.length_drop]; show s.data.toList.length - a ≤ _; rw [Array.length_toList]; exact Nat.le_refl _)
theorem ex_all (s : ByteArray) : s.extract 0 s.size = s := ba_ext (by rw [ex_rest]; rfl)
theorem ix_at {l : List UInt8} {c : UInt8} {o : Nat} (h : l[o]? = some c) (hno : ∀ j, j < o → l[j]? ≠ some c) : Lib.indexByte l c = o := by
  have hge := Lib.indexByte_ge l c
  by_cases h1 : Lib.indexByte l c = -1
  · exact absurd h (Lib.indexByte_none h1 o)
  · obtain ⟨i, hi⟩ : ∃ i : Nat, Lib.indexByte l c = i := ⟨(Lib.indexByte l c).toNat, by omega⟩
    obtain ⟨g1, g2⟩ := Lib.indexByte_some hi
    rcases Nat.lt_trichotomy i o with h2 | h2 | h2
    · exact absurd g1 (hno i h2)
    · rw [hi, h2]
    · exact absurd h (g2 o h2)
theorem ix_no {l : List UInt8} {c : UInt8} (hno : ∀ j : Nat, l[j]? ≠ some c) : Lib.indexByte l c = -1 := by
  have hge := Lib.indexByte_ge l c
  by_cases h1 : Lib.indexByte l c = -1
  · exact h1
  · obtain ⟨i, hi⟩ : ∃ i : Nat, Lib.indexByte l c = i := ⟨(Lib.indexByte l c).toNat, by omega⟩
    exact absurd (Lib.indexByte_some hi).1 (hno i)
theorem ixB (s : ByteArray) (c : UInt8) : Lib.indexB s (sepB c) = Lib.indexByte s.data.toList c := Lib.index_one s.data.toList c
/-- From a up to k there is no byte c. -/
def NoC (s : ByteArray) (c : UInt8) (a k : Nat) : Prop := ∀ j (h : j < s.size), a ≤ j → j < k → s[j] ≠ c
theorem list_at {s : ByteArray} {j : Nat} (h : j < s.size) : s.data.toList[j]? = some s[j] := by
  have h' : j < s.data.toList.length := by simpa using h
  rw [List.getElem?_eq_getElem h']; rfl
theorem NoC.step {s : ByteArray} {c : UInt8} {a k : Nat} (h : NoC s c a k) (hk : k < s.size) (hc : ¬ s[k] = c) : NoC s c a (k + 1) := fun j hj h1 h2 => by
  by_cases e : j = k
  · subst e; exact hc
  · exact h j hj h1 (by omega)
theorem NoC.nil (s : ByteArray) (c : UInt8) (a : Nat) : NoC s c a a := fun j _ h1 h2 => by omega
theorem pcs_step {c : UInt8} {s : ByteArray} {a k : Nat} (hak : a ≤ k) (hk : k < s.size) (hno : NoC s c a k) (hc : s[k] = c) : pcs c (s.extract a s.size) = s.extract a k :: pcs c (s.extract (k + 1) s.size) := by
  have hix : Lib.indexB (s.extract a s.size) (sepB c) = ((k - a : Nat) : Int) := by
    rw [ixB, ex_rest]
    refine ix_at ?_ fun j hj => ?_
    · rw [List.getElem?_drop, show a + (k - a) = k by omega, list_at hk, hc]
    · rw [List.getElem?_drop, list_at (by omega)]
      intro e
      exact hno (a + j) (by omega) (by omega) (by omega) (Option.some.inj e)
  have hsz : (s.extract a s.size).size = s.size - a := by rw [ByteArray.size_extract]; omega
  obtain ⟨n, hn⟩ : ∃ n, s.size - a = n + 1 := ⟨s.size - a - 1, by omega⟩
  have e1 : (s.extract a s.size).extract 0 (k - a + 0) = s.extract a k := by
    apply ba_ext
    rw [ex_list, ex_rest, ex_list]; simp
  have e2 : (s.extract a s.size).extract (k - a + (sepB c).size) (s.extract a s.size).size = s.extract (k + 1) s.size := by
    apply ba_ext
    rw [ex_rest, ex_rest, ex_rest, List.drop_drop, sep_size, show a + (k - a + 1) = k + 1 by omega]
  unfold pcs
  rw [hsz, hn, Lib.splitB_hit _ _ _ _ _ hix, e1, e2]
  congr 1
  exact cut_many c _ _ _ (by rw [ByteArray.size_extract]; omega) (Nat.le_refl _)
theorem pcs_end {c : UInt8} {s : ByteArray} {a : Nat} (hno : NoC s c a s.size) : pcs c (s.extract a s.size) = [s.extract a s.size] := by
  unfold pcs
  refine Lib.splitB_miss _ _ _ _ ?_
  rw [ixB, ex_rest]
  refine ix_no fun j => ?_
  rw [List.getElem?_drop]
  intro e
  have hj : a + j < s.size := by
    rcases Nat.lt_or_ge (a + j) s.size with h | h
    · exact h
    · rw [List.getElem?_eq_none (by simpa using h)] at e; cases e
  rw [list_at hj] at e
  exact hno (a + j) hj (by omega) hj (Option.some.inj e)
theorem pcs_le (c : UInt8) (s : ByteArray) : (pcs c s).length ≤ s.size + 1 := Lib.splitB_length_le _ _ _ _

def SplTo (c : UInt8) (s : ByteArray) (w w' : World) (e : Ending) : Prop := ∃ A q, e = .returned (.slice A (pcs c s).length q) ∧ Below w.heap.size w w' ∧ (pcs c s).length ≤ q ∧ StrsIn w' A (pcs c s)
theorem SplTo.mk {c : UInt8} {s : ByteArray} {w w' : World} {v : Value} {ps : List ByteArray} (hp : pcs c s = ps) (hb : Below w.heap.size w w') (ho : w'.ownsRow w.heap.size 9 1 v ps.length (strs ps)) : SplTo c s w w' (.returned v) := by
  subst hp
  obtain ⟨A, q, rfl, _, hq, h⟩ := own_strs ho
  exact ⟨A, q, rfl, hb, hq, h⟩

set_option maxRecDepth 100000 in
set_option maxHeartbeats 2000000 in
theorem l1Split_any (c : UInt8) (s : ByteArray) (w : World) (hs : s.size ≤ 1048576) :
    Calls Tryz.prog 48 #[.string s, .int .u8 (c.toNat : Int)] w fun e w' => SplTo c s w w' e := by
  obtain ⟨i0, hi, hz0, hz1, hz2⟩ := info_parts info_str
  have HI0 := Lib.hid hi; have HZ0 := Lib.hid hz0; have HZ1 := Lib.hid hz1; have HZ2 := Lib.hid hz2
  clear hi hz0 hz1 hz2
  go_enter Tryz.func48, Tryz.ntmps48
  go_wp2
  go_loopw [5, 6, 7] (fun v av i wr => ∃ (k a : Nat) (ps : List ByteArray), k ≤ s.size ∧ a ≤ k ∧ i = .int .i64 k ∧ av = .int .i64 a ∧ NoC s c a k ∧ pcs c s = ps ++ pcs c (s.extract a s.size) ∧ ps.length ≤ a ∧ wr.ownsRow w.heap.size 9 1 v ps.length (strs ps) ∧ Below w.heap.size w wr) (fun _ _ i _ => s.size - (intOf i).toNat)
  case atStart => exact ⟨0, 0, [], Nat.zero_le _, Nat.le_refl _, rfl, rfl, NoC.nil _ _ _, by rw [ex_all]; rfl, Nat.le_refl _, own_nil _ _ _ _, Below.refl _ _⟩
  case round =>
    obtain ⟨k, a, ps, hk, hak, rfl, rfl, hno, hps, hpl, hown, hb⟩ := hrel
    have HN := Lib.hid hno; have HP := Lib.hid hps; have HO := Lib.hid hown; have HB := Lib.hid hb
    clear hno hps hown hb
    have hownw := HO.out
    have hsz := HB.out.size
    have hmx : ps.length + 1 ≤ maxLen := by unfold maxLen; omega
    by_cases hlt : k < s.size
    · by_cases hc : (s[k].toNat : Int) = (c.toNat : Int)
      · have hcc : s[k] = c := UInt8.toNat_inj.1 (by omega)
        have HST := Lib.hid (pcs_step hak hlt HN.out hcc)
        clear hcc
        go_wp2_with (at_builtin; go_loud (refine wpList_append_own _ rfl _ _ 37 rfl w.heap.size 9 i0 (.string .empty) 1 16 Tryz.underlying37 HI0.out HZ0.out HZ1.out HZ2.out rfl (by decide) _ _ _ rfl (hownw.alloc _) ⟨wr.heap.size, 0, none⟩ 1 1 [.string (s.extract a k)] rfl rfl (cell_one_new _ _ _) (by simp [Value.oneCell']) hmx (by omega) (by simp; omega) ?_))
        intro v' w4 hown' hgrow _
        have HB1 : Hid (Below w.heap.size w w4) := Lib.hid ((HB.out.alloc HB.out.size _).grown hgrow (by have := HB.out.size; simp; omega) (own_lt hownw))
        have HO3 : Hid (w4.ownsRow w.heap.size 9 1 v' (ps ++ [s.extract a k]).length (strs (ps ++ [s.extract a k]))) := Lib.hid (by
          rw [List.length_append, strs_snoc]; exact hown')
        clear hown' hgrow hownw HO HB
        go_wp2
        go_roundw
        case rel => exact ⟨k + 1, k + 1, ps ++ [s.extract a k], by omega, Nat.le_refl _, by go_num, by go_num, NoC.nil _ _ _, by rw [HP.out, HST.out]; simp, by simp; omega, HO3.out, HB1.out⟩
        case measure => simp [intOf]; omega
      · have hcc : ¬ s[k] = c := fun e => hc (by rw [e])
        have HN1 := Lib.hid (HN.out.step hlt hcc)
        clear hcc hownw
        go_wp2
        go_roundw
        case rel => exact ⟨k + 1, a, ps, by omega, by omega, by go_num, rfl, HN1.out, HP.out, hpl, HO.out, HB.out⟩
        case measure => simp [intOf]; omega
    · obtain rfl : k = s.size := by omega
      have HST := Lib.hid (pcs_end HN.out)
      go_wp2_with (at_builtin; go_loud (refine wpList_append_own _ rfl _ _ 37 rfl w.heap.size 9 i0 (.string .empty) 1 16 Tryz.underlying37 HI0.out HZ0.out HZ1.out HZ2.out rfl (by decide) _ _ _ rfl (hownw.alloc _) ⟨wr.heap.size, 0, none⟩ 1 1 [.string (s.extract a s.size)] rfl rfl (cell_one_new _ _ _) (by simp [Value.oneCell']) hmx (by omega) (by simp; omega) ?_))
      intro v' w4 hown' hgrow _
      have HB1 : Hid (Below w.heap.size w w4) := Lib.hid ((HB.out.alloc HB.out.size _).grown hgrow (by have := HB.out.size; simp; omega) (own_lt hownw))
      have HO3 : Hid (w4.ownsRow w.heap.size 9 1 v' (ps ++ [s.extract a s.size]).length (strs (ps ++ [s.extract a s.size]))) := Lib.hid (by
        rw [List.length_append, strs_snoc]; exact hown')
      clear hown' hgrow hownw HO HB
      go_wp2
      go_ret
      exact SplTo.mk (by rw [HP.out, HST.out]) HB1.out HO3.out
end Go.Proofs.YtiihhilhiknckaaGreatDoor.P

/-
  Cutting a list of bytes at a byte, by recursion on the list: what the pieces put together again are, and what the pieces of such a text are. (For ParseFont. No function is named here.)
-/
namespace Go.Proofs.YtiihhilhiknckaaGreatDoor.P
open Go.RowKit
set_option linter.unusedVariables false

def consHead (x : UInt8) : List (List UInt8) → List (List UInt8)
  | [] => [[x]]
  | p :: r => (x :: p) :: r
/-- The pieces of a list between its bytes c. -/
def lp (c : UInt8) : List UInt8 → List (List UInt8)
  | [] => [[]]
  | x :: l => if x = c then [] :: lp c l else consHead x (lp c l)
theorem ix_cons (b c : UInt8) (l : List UInt8) : Lib.index (b :: l) [c] = if b = c then 0 else if Lib.index l [c] == -1 then -1 else Lib.index l [c] + 1 := by
  rw [Lib.index_one, Lib.index_one]
  show (if (b == c) = true then (0 : Int) else _) = _
  by_cases h : b = c <;> simp [h]
theorem splitK_cons_ne (c x : UInt8) (l : List UInt8) (n : Nat) (h : ¬ x = c) : Lib.splitK [c] 0 (n + 1) (x :: l) = consHead x (Lib.splitK [c] 0 (n + 1) l) := by
  unfold Lib.splitK
  rw [ix_cons, if_neg h]
  by_cases hm : Lib.index l [c] = -1
  · simp [hm, consHead]
  · have hge := Lib.index_ge l [c]
    obtain ⟨j, hj⟩ : ∃ j : Nat, Lib.index l [c] = j := ⟨(Lib.index l [c]).toNat, by omega⟩
    have e1 : ((j : Int) == -1) = false := by rw [beq_eq_false_iff_ne]; omega
    have e2 : ((j : Int) + 1 == -1) = false := by rw [beq_eq_false_iff_ne]; omega
    have e3 : ((j : Int) + 1).toNat = j + 1 := by omega
    simp [hj, e1, e2, e3, consHead]
theorem splitK_cons_eq (c : UInt8) (l : List UInt8) (n : Nat) : Lib.splitK [c] 0 (n + 1) (c :: l) = [] :: Lib.splitK [c] 0 n l := by
  conv => lhs; unfold Lib.splitK
  rw [ix_cons, if_pos rfl]
  simp
theorem splitK_lp (c : UInt8) : ∀ (l : List UInt8) (n : Nat), l.length ≤ n → Lib.splitK [c] 0 n l = lp c l
  | [], n, _ => by
    cases n with
    | zero => rfl
    | succ n => unfold Lib.splitK; simp [Lib.index_one, Lib.indexByte, lp]
  | x :: l, n, h => by
    obtain ⟨m, rfl⟩ : ∃ m, n = m + 1 := ⟨n - 1, by rw [List.length_cons] at h; omega⟩
    rw [List.length_cons] at h
    by_cases hx : x = c
    · subst hx
      rw [splitK_cons_eq, splitK_lp x l m (by omega)]; simp [lp]
    · rw [splitK_cons_ne c x l m hx, splitK_lp c l (m + 1) (by omega)]; simp [lp, hx]
theorem pcs_lp (c : UInt8) (s : ByteArray) : (pcs c s).map (·.data.toList) = lp c s.data.toList := by
  unfold pcs
  rw [Lib.splitB_data]
  exact splitK_lp c _ _ (by show s.data.toList.length ≤ s.size; rw [Array.length_toList]; exact Nat.le_refl _)
theorem lp_ne (c : UInt8) (l : List UInt8) : lp c l ≠ [] := by
  cases l with
  | nil => simp [lp]
  | cons x l =>
    unfold lp
    split
    · simp
    · cases lp c l <;> simp [consHead]
/-- Each piece with c behind it. -/
def withC (c : UInt8) (L : List (List UInt8)) : List UInt8 := L.flatMap fun p => p ++ [c]
/-- The pieces, each with c behind it, are the text with c behind it. -/
theorem lp_all (c : UInt8) : ∀ l : List UInt8, withC c (lp c l) = l ++ [c]
  | [] => by simp [lp, withC]
  | x :: l => by
    have ih := lp_all c l
    unfold lp
    split
    · rename_i h
      subst h
      show [] ++ [x] ++ withC x (lp x l) = _
      rw [ih]; simp
    · cases hl : lp c l with
      | nil => exact absurd hl (lp_ne c l)
      | cons p r =>
        rw [hl] at ih
        show (x :: p) ++ [c] ++ withC c r = _
        have e : withC c (p :: r) = p ++ [c] ++ withC c r := rfl
        rw [e] at ih
        rw [List.cons_append, List.cons_append, ih]; simp
theorem lp_app (c : UInt8) : ∀ (p l : List UInt8), (∀ x ∈ p, ¬ x = c) → lp c (p ++ [c] ++ l) = p :: lp c l
  | [], l, _ => by simp [lp]
  | x :: p, l, h => by
    have ih := lp_app c p l (fun y hy => h y (List.mem_cons_of_mem _ hy))
    have hx := h x (List.mem_cons_self ..)
    show lp c (x :: (p ++ [c] ++ l)) = _
    rw [lp, if_neg hx, ih]; rfl
/-- The pieces of a text made of pieces with c behind each. -/
theorem lp_withC (c : UInt8) : ∀ L : List (List UInt8), (∀ p ∈ L, ∀ x ∈ p, ¬ x = c) → lp c (withC c L) = L ++ [[]]
  | [], _ => by simp [withC, lp]
  | p :: r, h => by
    have ih := lp_withC c r (fun q hq => h q (List.mem_cons_of_mem _ hq))
    have e : withC c (p :: r) = p ++ [c] ++ withC c r := rfl
    rw [e, lp_app c p _ (h p (List.mem_cons_self ..)), ih]; rfl
end Go.Proofs.YtiihhilhiknckaaGreatDoor.P

/-
  The contract of spec.l1Read: it answers the number that a canonical decimal text of at most six digits spells, else -1, and leaves the world as it is.
-/
namespace Go.Proofs.YtiihhilhiknckaaGreatDoor.P
open Go.RowKit
set_option linter.unusedVariables false

def isDig (c : UInt8) : Bool := 48 ≤ c && c ≤ 57
def digs (l : List UInt8) : Bool := l.all isDig
def valL (l : List UInt8) : Int := l.foldl (fun n c => 10 * n + ((c.toNat : Int) - 48)) 0
theorem isDig_int (c : UInt8) : isDig c = (decide (48 ≤ (c.toNat : Int)) && decide ((c.toNat : Int) ≤ 57)) := by
  unfold isDig
  have e1 : (48 : UInt8) ≤ c ↔ 48 ≤ (c.toNat : Int) := by rw [UInt8.le_iff_toNat_le]; simp; omega
  have e2 : c ≤ (57 : UInt8) ↔ (c.toNat : Int) ≤ 57 := by rw [UInt8.le_iff_toNat_le]; simp; omega
  simp [e1, e2]
theorem digs_snoc (l : List UInt8) (c : UInt8) : digs (l ++ [c]) = (digs l && isDig c) := by simp [digs]
theorem valL_snoc (l : List UInt8) (c : UInt8) : valL (l ++ [c]) = 10 * valL l + ((c.toNat : Int) - 48) := by simp [valL]
theorem digs_no (s : ByteArray) (k : Nat) (h : k < s.size) (hf : isDig s[k] = false) : digs s.data.toList = false := by
  unfold digs
  rw [List.all_eq_false]
  refine ⟨s[k], ?_, by simp [hf]⟩
  exact List.getElem_mem (l := s.data.toList) (by simpa using h)
theorem val_bound (s : ByteArray) : ∀ k, k ≤ s.size → k ≤ 6 → digs (s.data.toList.take k) = true → 0 ≤ valL (s.data.toList.take k) ∧ valL (s.data.toList.take k) ≤ 999999 ∧ valL (s.data.toList.take k) < 10 ^ k
  | 0, _, _, _ => by simp [valL]
  | k + 1, hk, h6, hd => by
    rw [take_snoc s k (by omega)] at hd ⊢
    rw [digs_snoc, Bool.and_eq_true] at hd
    obtain ⟨b1, b2, b3⟩ := val_bound s k (by omega) (by omega) hd.1
    have hc := hd.2
    rw [isDig_int] at hc
    simp only [Bool.and_eq_true, decide_eq_true_eq] at hc
    rw [valL_snoc]
    have hc6 : k = 0 ∨ k = 1 ∨ k = 2 ∨ k = 3 ∨ k = 4 ∨ k = 5 := by omega
    rcases hc6 with rfl | rfl | rfl | rfl | rfl | rfl <;> simp [show valL [] = 0 from rfl] at b3 ⊢ <;> omega
/-- The number that l1Read reads. -/
def readF (s : ByteArray) : Int := if (1 ≤ s.size ∧ s.size ≤ 6) ∧ ¬ (s.data.toList.head? = some 48 ∧ 1 < s.size) ∧ digs s.data.toList = true then valL s.data.toList else -1
theorem ret_i64 {a b : Int} (h : a = b) : Ending.returned (.int .i64 a) = .returned (.int .i64 b) := by rw [h]

set_option maxRecDepth 100000 in
set_option maxHeartbeats 2000000 in
theorem l1Read_any (s : ByteArray) (w : World) (hs : s.size ≤ maxLen) :
    Calls Tryz.prog 49 #[.string s] w fun e w' => e = .returned (.int .i64 (readF s)) ∧ w = w' := by
  unfold maxLen at hs
  by_cases h16 : 1 ≤ s.size ∧ s.size ≤ 6
  · obtain ⟨h1, h6⟩ := h16
    have HP : Hid ((1 ≤ s.size ∧ s.size ≤ 6)) := Lib.hid ⟨h1, h6⟩
    have hl0 : 0 < s.size := h1
    have HHD : Hid (s.data.toList.head? = some s[0]) := by
      show _ = _
      rw [List.head?_eq_getElem?, List.getElem?_eq_getElem (by simpa using hl0)]; rfl
    have hm1 : (1 : Int) ≤ (s.size : Int) := by omega
    have hm6 : (s.size : Int) ≤ 6 := by omega
    have HIN : Hid (∀ W, Calls Tryz.prog 54 #[.int .i64 s.size, .int .i64 1, .int .i64 6] W fun e w' => e = .returned (.bool true) ∧ W = w') := by
      intro W
      have := in_any (s.size : Int) 1 6 W
      rw [decide_eq_true hm1, decide_eq_true hm6] at this
      exact this
    by_cases hz : s[0].toNat = 48 ∧ 1 < s.size
    · obtain ⟨hz1, hz2⟩ := hz
      have HV : Hid (readF s = -1) := by
        show _ = _
        unfold readF
        rw [if_neg]
        rintro ⟨_, h, _⟩
        exact h ⟨by rw [HHD.out]; congr 1; exact UInt8.toNat_inj.1 hz1, hz2⟩
      have hz1' : (s[0].toNat : Int) = 48 := by omega
      have hz2' : (1 : Int) < (s.size : Int) := by omega
      go_enter Tryz.func49, Tryz.ntmps49
      go_wp2_with (go_at_call 54; refine (HIN.out _).mono ?_; rintro e w' ⟨rfl, rfl⟩)
      go_ret
      exact ⟨ret_i64 HV.out.symm, rfl⟩
    have HNZ : Hid (¬ (s.data.toList.head? = some 48 ∧ 1 < s.size)) := by
      show ¬ _
      rintro ⟨h, h2⟩
      rw [HHD.out] at h
      exact hz ⟨by rw [Option.some.inj h]; rfl, h2⟩
    have hz' : (¬ (s[0].toNat : Int) = 48) ∨ ((s[0].toNat : Int) = 48 ∧ ¬ (1 : Int) < (s.size : Int)) := by omega
    clear hz
    rcases hz' with hz1 | ⟨hz1, hz2⟩
    all_goals
      go_enter Tryz.func49, Tryz.ntmps49
      go_wp2_with (go_at_call 54; refine (HIN.out _).mono ?_; rintro e w' ⟨rfl, rfl⟩)
      go_loop [3, 4] (fun n i => ∃ k : Nat, k ≤ s.size ∧ i = .int .i64 k ∧ n = .int .i64 (valL (s.data.toList.take k)) ∧ digs (s.data.toList.take k) = true) (fun _ i => s.size - (intOf i).toNat)
      case atStart => exact ⟨0, Nat.zero_le _, rfl, rfl, rfl⟩
      case round =>
        obtain ⟨k, hk, rfl, rfl, hl⟩ := hrel
        have HL := Lib.hid hl; clear hl
        by_cases hlt : k < s.size
        · obtain ⟨b1, b2, b3⟩ := val_bound s k hk (by omega) HL.out
          have hst : valL (s.data.toList.take (k + 1)) = 10 * valL (s.data.toList.take k) + ((s[k].toNat : Int) - 48) := by rw [take_snoc s k hlt, valL_snoc]
          have hdg : digs (s.data.toList.take (k + 1)) = isDig s[k] := by rw [take_snoc s k hlt, digs_snoc, HL.out]; rfl
          have hno := digs_no s k hlt
          rw [isDig_int] at hdg hno
          have HST := Lib.hid hst; have HDG := Lib.hid hdg; have HNO := Lib.hid hno
          clear hst hdg hno
          by_cases c1 : 48 ≤ (s[k].toNat : Int)
          · by_cases c2 : (s[k].toNat : Int) ≤ 57
            · have HDY : Hid (digs (s.data.toList.take (k + 1)) = true) := by show _ = _; rw [HDG.out]; simp [c1, c2]
              clear HDG HNO
              obtain ⟨z, hz⟩ : ∃ z : Int, z = (s[k].toNat : Int) := ⟨_, rfl⟩
              generalize valL (s.data.toList.take k) = n at *
              have c1z : 48 ≤ z := by omega
              have c2z : z ≤ 57 := by omega
              have e1 : IntKind.u8.wrap (z - 48) = z - 48 := by
                rw [show IntKind.u8.wrap (z - 48) = (z - 48) % 256 from by simp [IntKind.wrap, IntKind.bits, IntKind.signed]]
                omega
              have e2 : IntKind.i64.wrap (10 * n) = 10 * n := IntWalk.i64_in _ (by omega)
              have e3 : IntKind.i64.wrap (z - 48) = z - 48 := IntWalk.i64_in _ (by omega)
              have e4 : IntKind.i64.wrap (10 * n + (z - 48)) = 10 * n + (z - 48) := IntWalk.i64_in _ (by omega)
              rw [hz] at e1 e3 e4
              clear hz c1z c2z
              go_wp2
              go_round
              case rel => exact ⟨k + 1, by omega, by go_num, by rw [HST.out], HDY.out⟩
              case measure => simp [intOf]; omega
            · have HV : Hid (readF s = -1) := by
                show _ = _; unfold readF
                rw [if_neg]
                rintro ⟨_, _, h⟩
                rw [HNO.out (by simp; omega)] at h; cases h
              go_wp2
              go_ret
              exact ⟨ret_i64 HV.out.symm, rfl⟩
          · have HV : Hid (readF s = -1) := by
              show _ = _; unfold readF
              rw [if_neg]
              rintro ⟨_, _, h⟩
              rw [HNO.out (by simp; omega)] at h; cases h
            go_wp2
            go_ret
            exact ⟨ret_i64 HV.out.symm, rfl⟩
        · obtain rfl : k = s.size := by omega
          have HV : Hid (readF s = valL (s.data.toList.take s.size)) := by
            show _ = _
            have e := HL.out
            rw [List.take_of_length_le (by simp)] at e ⊢
            unfold readF; rw [if_pos ⟨HP.out, HNZ.out, e⟩]
          go_wp2
          go_ret
          exact ⟨ret_i64 HV.out.symm, rfl⟩
  · have HV : Hid (readF s = -1) := by show _ = _; unfold readF; rw [if_neg (fun h => h16 h.1)]
    have HIN : Hid (∀ W, Calls Tryz.prog 54 #[.int .i64 s.size, .int .i64 1, .int .i64 6] W fun e w' => e = .returned (.bool false) ∧ W = w') := by
      intro W
      have := in_any (s.size : Int) 1 6 W
      rw [show (decide ((1 : Int) ≤ s.size) && decide ((s.size : Int) ≤ 6)) = false by simp; omega] at this
      exact this
    clear h16
    go_enter Tryz.func49, Tryz.ntmps49
    go_wp2_with (go_at_call 54; refine (HIN.out _).mono ?_; rintro e w' ⟨rfl, rfl⟩)
    go_ret
    exact ⟨ret_i64 HV.out.symm, rfl⟩
end Go.Proofs.YtiihhilhiknckaaGreatDoor.P

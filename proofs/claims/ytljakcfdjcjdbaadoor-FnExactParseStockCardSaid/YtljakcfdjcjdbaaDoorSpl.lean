/-
  Cutting a text at a byte: what the pieces are; the contract of spec.l1Split: it answers them all, in a row of its own, and changes nothing that was there.
-/
import Derived.Test.YtljakcfdjcjdbaaDoorPdb
import Derived.Lib.Split
import Derived.Lib.SplitLaws
import Derived.Lib.IndexBytes
import Derived.Lib.IndexLaws
import Derived.Deep.SlicePairs
import Derived.OwnWalk
import Derived.Maps.AppendAt
namespace Go.Proofs.YtljakcfdjcjdbaaDoor
open Go.RowKit
set_option linter.unusedVariables false

def strs (l : List ByteArray) : List Value := l.map fun s => .string s
/-- A slice of strings at A reads as l. -/
def StrsIn (w : World) (A : Option Addr) (l : List ByteArray) : Prop :=
  0 < l.length → ∃ b off, A = some ⟨b, off, none⟩ ∧ b < w.heap.size ∧ ∀ k (h : k < l.length), w.cell? ⟨b, off + k, none⟩ = some (.string l[k])
theorem StrsIn.below {w w' : World} {B : Nat} {A : Option Addr} {l : List ByteArray} (h : StrsIn w A l) (hb : Below B w w') (hB : w.heap.size ≤ B) : StrsIn w' A l := by
  intro hn
  obtain ⟨b, off, rfl, h2, h3⟩ := h hn
  refine ⟨b, off, rfl, Nat.lt_of_lt_of_le h2 hb.size, fun k hk => ?_⟩
  rw [hb.cell (by show b < B; omega)]
  exact h3 k hk
theorem own_strs {w : World} {base n : Nat} {e : TypeId} {v : Value} {l : List ByteArray} (h : w.ownsRow base e 1 v n (strs l)) : ∃ A c, v = .slice A l.length c ∧ n = l.length ∧ l.length ≤ c ∧ StrsIn w A l := by
  have hn : n = l.length := by have := h.1; simp [strs] at this; omega
  subst hn
  rcases h.2 with ⟨rfl, h0⟩ | ⟨g, cap, cur, rfl, hg, hh, h1, h2, h3, h4⟩
  · exact ⟨none, 0, by rw [h0], rfl, by omega, fun h => absurd h (by omega)⟩
  · refine ⟨_, _, rfl, rfl, h1, fun _ => ⟨g, 0, rfl, lt_of_heap hh, fun k hk => ?_⟩⟩
    rw [h.cellAt (0 + k) (by omega)]
    simp [strs, hk]
theorem own_form_s {w : World} {base n : Nat} {e : TypeId} {v : Value} {l : List ByteArray} (h : w.ownsRow base e 1 v n (strs l)) : ∃ A c, v = .slice A l.length c := by
  obtain ⟨A, c, hv, _, _, _⟩ := own_strs h
  exact ⟨A, c, hv⟩
theorem strs_snoc (l : List ByteArray) (s : ByteArray) : strs (l ++ [s]) = strs l ++ [.string s] := by simp [strs]
theorem info_str : (Tryd.prog.info? 9).map (fun i => (i.zero, i.size, i.bytes)) = some (some (.string .empty), 1, 16) := by kernel_rfl

def sepB (c : UInt8) : ByteArray := ⟨#[c]⟩
/-- All the pieces of s between its bytes c. -/
def pcs (c : UInt8) (s : ByteArray) : List ByteArray := Lib.splitB (sepB c) 0 s.size s
theorem sep_size (c : UInt8) : (sepB c).size = 1 := rfl

theorem cut_many (c : UInt8) (n : Nat) : ∀ (s : ByteArray) (m : Nat), s.size ≤ n → s.size ≤ m → Lib.splitB (sepB c) 0 n s = Lib.splitB (sepB c) 0 m s := by
  induction n with
  | zero =>
    intro s m h1 h2
    rcases Lib.indexB_cases s (sepB c) with h | ⟨i, h, hr⟩
    · rw [Lib.splitB_miss _ _ _ _ h, Lib.splitB_miss _ _ _ _ h]
    · rw [sep_size] at hr; omega
  | succ n ih =>
    intro s m h1 h2
    rcases Lib.indexB_cases s (sepB c) with h | ⟨i, h, hr⟩
    · rw [Lib.splitB_miss _ _ _ _ h, Lib.splitB_miss _ _ _ _ h]
    · rw [sep_size] at hr
      obtain ⟨m, rfl⟩ : ∃ k, m = k + 1 := ⟨m - 1, by omega⟩
      rw [Lib.splitB_hit _ _ _ _ i h, Lib.splitB_hit _ _ _ _ i h, ih _ m (by rw [ByteArray.size_extract, sep_size]; omega) (by rw [ByteArray.size_extract, sep_size]; omega)]
/-- Cut at k places at most: the same, or too many both. -/
theorem cut_some (c : UInt8) (k : Nat) : ∀ (s : ByteArray) (n : Nat), s.size ≤ n → Lib.splitB (sepB c) 0 k s = Lib.splitB (sepB c) 0 n s ∨ ((Lib.splitB (sepB c) 0 k s).length = k + 1 ∧ k + 1 < (Lib.splitB (sepB c) 0 n s).length) := by
  induction k with
  | zero =>
    intro s n hn
    rcases Lib.indexB_cases s (sepB c) with h | ⟨i, h, hr⟩
    · rw [Lib.splitB_miss _ _ _ _ h, Lib.splitB_miss _ _ _ _ h]; exact .inl rfl
    · rw [sep_size] at hr
      obtain ⟨n, rfl⟩ : ∃ k, n = k + 1 := ⟨n - 1, by omega⟩
      right
      refine ⟨rfl, ?_⟩
      rw [Lib.splitB_hit _ _ _ _ i h, List.length_cons]
      have : 1 ≤ (Lib.splitB (sepB c) 0 n (s.extract (i + (sepB c).size) s.size)).length := by
        cases n with
        | zero => exact Nat.le_refl _
        | succ n => unfold Lib.splitB; split <;> simp
      omega
  | succ k ih =>
    intro s n hn
    rcases Lib.indexB_cases s (sepB c) with h | ⟨i, h, hr⟩
    · rw [Lib.splitB_miss _ _ _ _ h, Lib.splitB_miss _ _ _ _ h]; exact .inl rfl
    · rw [sep_size] at hr
      obtain ⟨n, rfl⟩ : ∃ k, n = k + 1 := ⟨n - 1, by omega⟩
      rw [Lib.splitB_hit _ _ _ _ i h, Lib.splitB_hit _ _ _ _ i h]
      rcases ih (s.extract (i + (sepB c).size) s.size) n (by rw [ByteArray.size_extract, sep_size]; omega) with h1 | ⟨h1, h2⟩
      · left; rw [h1]
      · right; rw [List.length_cons, List.length_cons]; omega

theorem ba_ext {a b : ByteArray} (h : a.data.toList = b.data.toList) : a = b := ByteArray.ext (Array.ext' h)
theorem ex_list (s : ByteArray) (a b : Nat) : (s.extract a b).data.toList = (s.data.toList.drop a).take (b - a) := by rw [Lib.extract_data]
theorem ex_rest (s : ByteArray) (a : Nat) : (s.extract a s.size).data.toList = s.data.toList.drop a := by
  rw [ex_list]
  exact List.take_of_length_le (by rw [List.length_drop]; show s.data.toList.length - a ≤ _; rw [Array.length_toList]; exact Nat.le_refl _)
theorem ex_all (s : ByteArray) : s.extract 0 s.size = s := ba_ext (by rw [ex_rest]; rfl)
theorem ix_at {l : List UInt8} {c : UInt8} {o : Nat} (h : l[o]? = some c) (hno : ∀ j, j < o → l[j]? ≠ some c) : Lib.indexByte l c = o := by
  have hge := Lib.indexByte_ge l c
  by_cases h1 : Lib.indexByte l c = -1
  · exact absurd h (Lib.indexByte_none h1 o)
  · obtain ⟨i, hi⟩ : ∃ i : Nat, Lib.indexByte l c = i := ⟨(Lib.indexByte l c).toNat, by omega⟩
    obtain ⟨g1, g2⟩ := Lib.indexByte_some hi
    rcases Nat.lt_trichotomy i o with h2 | h2 | h2
    · exact absurd g1 (hno i h2)
    · rw [hi, h2]
    · exact absurd h (g2 o h2)
theorem ix_no {l : List UInt8} {c : UInt8} (hno : ∀ j : Nat, l[j]? ≠ some c) : Lib.indexByte l c = -1 := by
  have hge := Lib.indexByte_ge l c
  by_cases h1 : Lib.indexByte l c = -1
  · exact h1
  · obtain ⟨i, hi⟩ : ∃ i : Nat, Lib.indexByte l c = i := ⟨(Lib.indexByte l c).toNat, by omega⟩
    exact absurd (Lib.indexByte_some hi).1 (hno i)
theorem ixB (s : ByteArray) (c : UInt8) : Lib.indexB s (sepB c) = Lib.indexByte s.data.toList c := Lib.index_one s.data.toList c
/-- From a up to k there is no byte c. -/
def NoC (s : ByteArray) (c : UInt8) (a k : Nat) : Prop := ∀ j (h : j < s.size), a ≤ j → j < k → s[j] ≠ c
theorem list_at {s : ByteArray} {j : Nat} (h : j < s.size) : s.data.toList[j]? = some s[j] := by
  have h' : j < s.data.toList.length := by simpa using h
  rw [List.getElem?_eq_getElem h']; rfl
theorem NoC.step {s : ByteArray} {c : UInt8} {a k : Nat} (h : NoC s c a k) (hk : k < s.size) (hc : ¬ s[k] = c) : NoC s c a (k + 1) := fun j hj h1 h2 => by
  by_cases e : j = k
  · subst e; exact hc
  · exact h j hj h1 (by omega)
theorem NoC.nil (s : ByteArray) (c : UInt8) (a : Nat) : NoC s c a a := fun j _ h1 h2 => by omega
theorem pcs_step {c : UInt8} {s : ByteArray} {a k : Nat} (hak : a ≤ k) (hk : k < s.size) (hno : NoC s c a k) (hc : s[k] = c) : pcs c (s.extract a s.size) = s.extract a k :: pcs c (s.extract (k + 1) s.size) := by
  have hix : Lib.indexB (s.extract a s.size) (sepB c) = ((k - a : Nat) : Int) := by
    rw [ixB, ex_rest]
    refine ix_at ?_ fun j hj => ?_
    · rw [List.getElem?_drop, show a + (k - a) = k by omega, list_at hk, hc]
    · rw [List.getElem?_drop, list_at (by omega)]
      intro e
      exact hno (a + j) (by omega) (by omega) (by omega) (Option.some.inj e)
  have hsz : (s.extract a s.size).size = s.size - a := by rw [ByteArray.size_extract]; omega
  obtain ⟨n, hn⟩ : ∃ n, s.size - a = n + 1 := ⟨s.size - a - 1, by omega⟩
  have e1 : (s.extract a s.size).extract 0 (k - a + 0) = s.extract a k := by
    apply ba_ext
    rw [ex_list, ex_rest, ex_list]; simp
  have e2 : (s.extract a s.size).extract (k - a + (sepB c).size) (s.extract a s.size).size = s.extract (k + 1) s.size := by
    apply ba_ext
    rw [ex_rest, ex_rest, ex_rest, List.drop_drop, sep_size, show a + (k - a + 1) = k + 1 by omega]
  unfold pcs
  rw [hsz, hn, Lib.splitB_hit _ _ _ _ _ hix, e1, e2]
  congr 1
  exact cut_many c _ _ _ (by rw [ByteArray.size_extract]; omega) (Nat.le_refl _)
theorem pcs_end {c : UInt8} {s : ByteArray} {a : Nat} (hno : NoC s c a s.size) : pcs c (s.extract a s.size) = [s.extract a s.size] := by
  unfold pcs
  refine Lib.splitB_miss _ _ _ _ ?_
  rw [ixB, ex_rest]
  refine ix_no fun j => ?_
  rw [List.getElem?_drop]
  intro e
  have hj : a + j < s.size := by
    rcases Nat.lt_or_ge (a + j) s.size with h | h
    · exact h
    · rw [List.getElem?_eq_none (by simpa using h)] at e; cases e
  rw [list_at hj] at e
  exact hno (a + j) hj (by omega) hj (Option.some.inj e)
theorem pcs_le (c : UInt8) (s : ByteArray) : (pcs c s).length ≤ s.size + 1 := Lib.splitB_length_le _ _ _ _

def SplTo (c : UInt8) (s : ByteArray) (w w' : World) (e : Ending) : Prop := ∃ A q, e = .returned (.slice A (pcs c s).length q) ∧ Below w.heap.size w w' ∧ (pcs c s).length ≤ q ∧ StrsIn w' A (pcs c s)
theorem SplTo.mk {c : UInt8} {s : ByteArray} {w w' : World} {v : Value} {ps : List ByteArray} (hp : pcs c s = ps) (hb : Below w.heap.size w w') (ho : w'.ownsRow w.heap.size 9 1 v ps.length (strs ps)) : SplTo c s w w' (.returned v) := by
  subst hp
  obtain ⟨A, q, rfl, _, hq, h⟩ := own_strs ho
  exact ⟨A, q, rfl, hb, hq, h⟩

set_option maxRecDepth 100000 in
set_option maxHeartbeats 2000000 in
theorem l1Split_any (c : UInt8) (s : ByteArray) (w : World) (hs : s.size ≤ 1048576) :
    Calls Tryd.prog 23 #[.string s, .int .u8 (c.toNat : Int)] w fun e w' => SplTo c s w w' e := by
  obtain ⟨i0, hi, hz0, hz1, hz2⟩ := info_parts info_str
  have HI0 := Lib.hid hi; have HZ0 := Lib.hid hz0; have HZ1 := Lib.hid hz1; have HZ2 := Lib.hid hz2
  clear hi hz0 hz1 hz2
  go_enter Tryd.func23, Tryd.ntmps23
  go_wp2
  go_loopw [5, 6, 7] (fun v av i wr => ∃ (k a : Nat) (ps : List ByteArray), k ≤ s.size ∧ a ≤ k ∧ i = .int .i64 k ∧ av = .int .i64 a ∧ NoC s c a k ∧ pcs c s = ps ++ pcs c (s.extract a s.size) ∧ ps.length ≤ a ∧ wr.ownsRow w.heap.size 9 1 v ps.length (strs ps) ∧ Below w.heap.size w wr) (fun _ _ i _ => s.size - (intOf i).toNat)
  case atStart => exact ⟨0, 0, [], Nat.zero_le _, Nat.le_refl _, rfl, rfl, NoC.nil _ _ _, by rw [ex_all]; rfl, Nat.le_refl _, own_nil _ _ _ _, Below.refl _ _⟩
  case round =>
    obtain ⟨k, a, ps, hk, hak, rfl, rfl, hno, hps, hpl, hown, hb⟩ := hrel
    have HN := Lib.hid hno; have HP := Lib.hid hps; have HO := Lib.hid hown; have HB := Lib.hid hb
    clear hno hps hown hb
    have hownw := HO.out
    have hsz := HB.out.size
    have hmx : ps.length + 1 ≤ maxLen := by unfold maxLen; omega
    by_cases hlt : k < s.size
    · by_cases hc : (s[k].toNat : Int) = (c.toNat : Int)
      · have hcc : s[k] = c := UInt8.toNat_inj.1 (by omega)
        have HST := Lib.hid (pcs_step hak hlt HN.out hcc)
        clear hcc
        go_wp2_with (at_builtin; go_loud (refine wpList_append_own _ rfl _ _ 52 rfl w.heap.size 9 i0 (.string .empty) 1 16 Tryd.underlying52 HI0.out HZ0.out HZ1.out HZ2.out rfl (by decide) _ _ _ rfl (hownw.alloc _) ⟨wr.heap.size, 0, none⟩ 1 1 [.string (s.extract a k)] rfl rfl (cell_one_new _ _ _) (by simp [Value.oneCell']) hmx (by omega) (by simp; omega) ?_))
        intro v' w4 hown' hgrow _
        have HB1 : Hid (Below w.heap.size w w4) := Lib.hid ((HB.out.alloc HB.out.size _).grown hgrow (by have := HB.out.size; simp; omega) (own_lt hownw))
        have HO3 : Hid (w4.ownsRow w.heap.size 9 1 v' (ps ++ [s.extract a k]).length (strs (ps ++ [s.extract a k]))) := Lib.hid (by
          rw [List.length_append, strs_snoc]; exact hown')
        clear hown' hgrow hownw HO HB
        go_wp2
        go_roundw
        case rel => exact ⟨k + 1, k + 1, ps ++ [s.extract a k], by omega, Nat.le_refl _, by go_num, by go_num, NoC.nil _ _ _, by rw [HP.out, HST.out]; simp, by simp; omega, HO3.out, HB1.out⟩
        case measure => simp [intOf]; omega
      · have hcc : ¬ s[k] = c := fun e => hc (by rw [e])
        have HN1 := Lib.hid (HN.out.step hlt hcc)
        clear hcc hownw
        go_wp2
        go_roundw
        case rel => exact ⟨k + 1, a, ps, by omega, by omega, by go_num, rfl, HN1.out, HP.out, hpl, HO.out, HB.out⟩
        case measure => simp [intOf]; omega
    · obtain rfl : k = s.size := by omega
      have HST := Lib.hid (pcs_end HN.out)
      go_wp2_with (at_builtin; go_loud (refine wpList_append_own _ rfl _ _ 52 rfl w.heap.size 9 i0 (.string .empty) 1 16 Tryd.underlying52 HI0.out HZ0.out HZ1.out HZ2.out rfl (by decide) _ _ _ rfl (hownw.alloc _) ⟨wr.heap.size, 0, none⟩ 1 1 [.string (s.extract a s.size)] rfl rfl (cell_one_new _ _ _) (by simp [Value.oneCell']) hmx (by omega) (by simp; omega) ?_))
      intro v' w4 hown' hgrow _
      have HB1 : Hid (Below w.heap.size w w4) := Lib.hid ((HB.out.alloc HB.out.size _).grown hgrow (by have := HB.out.size; simp; omega) (own_lt hownw))
      have HO3 : Hid (w4.ownsRow w.heap.size 9 1 v' (ps ++ [s.extract a s.size]).length (strs (ps ++ [s.extract a s.size]))) := Lib.hid (by
        rw [List.length_append, strs_snoc]; exact hown')
      clear hown' hgrow hownw HO HB
      go_wp2
      go_ret
      exact SplTo.mk (by rw [HP.out, HST.out]) HB1.out HO3.out
end Go.Proofs.YtljakcfdjcjdbaaDoor

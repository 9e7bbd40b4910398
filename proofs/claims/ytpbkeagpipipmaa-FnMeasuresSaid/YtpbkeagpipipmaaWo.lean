/-
  The contracts of spec.WithoutSort and impl.WithoutSort: the font without a sort, in memory of the call's own.
-/
import Derived.Test.YtpbkeagpipipmaaCat
import Derived.Test.YtpbkeagpipipmaaSoc
import Derived.Deep.RegionLaw
namespace Go.Proofs.Ytpbkeagpipipmaa.S1
open Go.RowKit
set_option linter.unusedVariables false

/-- A call's answer: a slice of sorts of its own, and whether there is one. -/
def SortsTo (w w' : World) (e : Ending) (r : Option (List (ByteArray × Int))) : Prop :=
  ∃ v, e = .returned (.tuple #[v, .bool r.isSome]) ∧ Below w.heap.size w w' ∧ w'.ownsRow w.heap.size 91 2 v (r.getD []).length (flat (r.getD []))
theorem SortsTo.no {w w' : World} {r : Option (List (ByteArray × Int))} (h : r = none) (hb : Below w.heap.size w w') : SortsTo w w' (.returned (.tuple #[.slice none 0 0, .bool false])) r := by subst h; exact ⟨_, rfl, hb, own_nil _ _ _ _⟩
theorem SortsTo.yes {w w' : World} {r : Option (List (ByteArray × Int))} {l : List (ByteArray × Int)} {v : Value} (h : r = some l) (hb : Below w.heap.size w w') (ho : w'.ownsRow w.heap.size 91 2 v l.length (flat l)) : SortsTo w w' (.returned (.tuple #[v, .bool true])) r := by subst h; exact ⟨v, rfl, hb, ho⟩

noncomputable def woF (f : List (ByteArray × Int)) (s : ByteArray) : Option (List (ByteArray × Int)) :=
  if fontB f && (decide (0 ≤ findI f s 0) && decide (f.length ≠ 1)) then some (f.take (findI f s 0).toNat ++ f.drop ((findI f s 0).toNat + 1)) else none
theorem wo_no {f : List (ByteArray × Int)} {s : ByteArray} (h : fontB f = false ∨ findI f s 0 < 0 ∨ f.length = 1) : woF f s = none := by
  unfold woF
  rw [if_neg]
  simp only [Bool.and_eq_true, decide_eq_true_eq, not_and]
  intro h1 h2 h3
  rcases h with h | h | h
  · rw [h] at h1; cases h1
  · omega
  · exact h3 h
theorem wo_yes {f : List (ByteArray × Int)} {s : ByteArray} {i : Nat} (h : fontB f = true) (hi : findI f s 0 = (i : Int)) (hl : f.length ≠ 1) : woF f s = some (f.take i ++ f.drop (i + 1)) := by
  unfold woF
  rw [hi, h, if_pos (by simp [hl])]
  simp
theorem add_flat0 (b off k : Nat) : (⟨b, off, none⟩ : Addr).add k = ⟨b, off + k, none⟩ := by
  unfold Addr.add
  by_cases hk : k = 0 <;> simp [hk]
/-- The cells of a run of sorts lie one after the other. -/
theorem run_reads {w : World} {lo b off : Nat} {f : List (ByteArray × Int)} (hb : b < w.heap.size) (hc : ∀ k (h : k < f.length), w.cell? ⟨b, off + k * 2, none⟩ = some (.string f[k].1) ∧ w.cell? ⟨b, off + k * 2 + 1, none⟩ = some (.int .i64 f[k].2)) :
    ∀ j u, (flat f)[j]? = some u → w.cell? ⟨b, off + j, none⟩ = some u := by
  intro j u hu
  have hlt : j < (flat f).length := by
    rcases Nat.lt_or_ge j (flat f).length with h | h
    · exact h
    · rw [List.getElem?_eq_none h] at hu; cases hu
  rw [flat_len] at hlt
  obtain ⟨h1, h2⟩ := hc (j / 2) (by omega)
  obtain ⟨g1, g2⟩ := flat_get f (j / 2) (by omega)
  rcases Nat.mod_two_eq_zero_or_one j with h | h
  · have e : j / 2 * 2 = j := by omega
    rw [e] at h1 g1
    rw [g1] at hu
    rw [h1]; exact hu
  · have e : j / 2 * 2 + 1 = j := by omega
    rw [Nat.add_assoc, e] at h2
    rw [e] at g2
    rw [g2] at hu
    rw [h2]; exact hu
theorem flat_one0 (f : List (ByteArray × Int)) : ∀ u ∈ flat f, u.oneCell' = true := by
  intro u hu
  simp only [flat, List.mem_flatMap] at hu
  obtain ⟨x, _, hx⟩ := hu
  simp at hx
  rcases hx with rfl | rfl <;> rfl

theorem flat_append (a b : List (ByteArray × Int)) : flat (a ++ b) = flat a ++ flat b := by simp [flat]
/-- The first i sorts of a run, as a part. -/
theorem part_head {w : World} {b off cap i : Nat} {f : List (ByteArray × Int)} (hb : b < w.heap.size) (hc : ∀ k (h : k < f.length), w.cell? ⟨b, off + k * 2, none⟩ = some (.string f[k].1) ∧ w.cell? ⟨b, off + k * 2 + 1, none⟩ = some (.int .i64 f[k].2)) (hi : i ≤ f.length) :
    (Part3.mk ⟨b, off, none⟩ i cap (flat (f.take i))).Reads w := by
  refine ⟨by show (flat (f.take i)).length = i * 2; rw [flat_len, List.length_take]; omega, hb, fun j u hu => ?_, flat_one0 _⟩
  show w.cell? ((⟨b, off, none⟩ : Addr).add j) = some u
  rw [add_flat0]
  refine run_reads (lo := 0) hb hc j u ?_
  have hu' : (flat (f.take i))[j]? = some u := hu
  have hl : j < (flat (f.take i)).length := by
    rcases Nat.lt_or_ge j (flat (f.take i)).length with h | h
    · exact h
    · rw [List.getElem?_eq_none h] at hu'; cases hu'
  have e : flat f = flat (f.take i) ++ flat (f.drop i) := by rw [← flat_append, List.take_append_drop]
  rw [e, List.getElem?_append_left hl]
  exact hu'
/-- The sorts from i on, as a part. -/
theorem part_tail {w : World} {b off cap i : Nat} {a2 : Addr} {f : List (ByteArray × Int)} (hb : b < w.heap.size) (hc : ∀ k (h : k < f.length), w.cell? ⟨b, off + k * 2, none⟩ = some (.string f[k].1) ∧ w.cell? ⟨b, off + k * 2 + 1, none⟩ = some (.int .i64 f[k].2)) (hi : i ≤ f.length) (h2 : a2.block = b) (h3 : i < f.length → a2 = ⟨b, off + i * 2, none⟩) :
    (Part3.mk a2 (f.length - i) cap (flat (f.drop i))).Reads w := by
  refine ⟨by show (flat (f.drop i)).length = (f.length - i) * 2; rw [flat_len, List.length_drop]; omega, by show a2.block < _; rw [h2]; exact hb, fun j u hu => ?_, flat_one0 _⟩
  show w.cell? (a2.add j) = some u
  have hu' : (flat (f.drop i))[j]? = some u := hu
  have hl : j < (flat (f.drop i)).length := by
    rcases Nat.lt_or_ge j (flat (f.drop i)).length with h | h
    · exact h
    · rw [List.getElem?_eq_none h] at hu'; cases hu'
  rw [flat_len, List.length_drop] at hl
  rw [h3 (by omega), add_flat0, Nat.add_assoc]
  refine run_reads (lo := 0) hb hc (i * 2 + j) u ?_
  have e : flat f = flat (f.take i) ++ flat (f.drop i) := by rw [← flat_append, List.take_append_drop]
  have hlen : (flat (f.take i)).length = i * 2 := by rw [flat_len, List.length_take]; omega
  rw [e, List.getElem?_append_right (by omega), hlen, Nat.add_sub_cancel_left]
  exact hu'
theorem elem23 : Try.prog.elem 43 = 91 := by kernel_rfl
theorem size39 (W : World) : (sizeOf (Try.prog.elem 43)).run Try.prog W = .ok 2 W := by
  obtain ⟨i0, hi, hz0, hz1, hz2⟩ := info_parts info39
  rw [elem23]
  simp [sizeOf, typeInfo, hi, hz1]
theorem under23 : Try.prog.underlying 43 = some (.slice (Try.prog.elem 43)) := by rw [elem23]; exact Try.underlying43
theorem slice_head (b off n cap k : Nat) (hk : k ≤ n) (hn : n ≤ cap) (W : World) :
    (Instr.slice 43 (.slice (some ⟨b, off, none⟩) n cap) none (some (.int .i64 (k : Int))) none).run Try.prog W = .ok (.slice (some ⟨b, off, none⟩) k cap) W := by
  rw [run_slice_h W _ _ _ _ under23 .i64 (k : Int) (by omega) (by omega), size39]
  by_cases hc : cap = 0 <;> simp [sliced, Result.andThen, Addr.add, hc]
theorem slice_tail (b off n cap k : Nat) (K : Int) (hK : K = (k : Int)) (hk : k ≤ n) (hn : n ≤ cap) :
    ∃ a2 : Addr, (∀ W, (Instr.slice 43 (.slice (some ⟨b, off, none⟩) n cap) (some (.int .i64 K)) none none).run Try.prog W = .ok (.slice (some a2) (n - k) (cap - k)) W) ∧ a2.block = b ∧ (k < n → a2 = ⟨b, off + k * 2, none⟩) := by
  subst hK
  refine ⟨if cap = k then ⟨b, off, none⟩ else (⟨b, off, none⟩ : Addr).add (k * 2), fun W => ?_, ?_, ?_⟩
  · rw [run_slice_l W _ _ _ _ under23 .i64 (k : Int) (by omega) (by omega), size39]
    by_cases hc : cap = k <;> simp [sliced, Result.andThen, hc]
  · split
    · rfl
    · rw [block_add]
  · intro h
    rw [if_neg (by omega), add_flat0]

theorem step_own {P : Program} (w : World) {ops : Array Oper} {o : Oper} {a : Act} {K : Act → World → Prop} {Q : Exit → Act → World → Prop} {E : Prop} (hgd : o.guard = none) (s x : Operand) (t : TypeId)
    (ho : o.op = .call { callee := .builtin .append, args := #[s, x], argTypes := #[t, t] })
    (base : Nat) (e : TypeId) (i : TypeInfo) (z : Value) (size bytes : Nat) (ht : P.underlying t = some (.slice e)) (hi : P.info? e = some i) (hz : i.zero = some z)
    (hsize : i.size = size) (hby : i.bytes = bytes) (hzs : z.cells.size = size) (hsz : 0 < size)
    (v : Value) (n : Nat) (xs : List Value) (hs : a.eval s = v) (hown : w.ownsRow base e size v n xs)
    (ad : Addr) (m c : Nat) (news : List Value) (hx : a.eval x = .slice (some ad) m c) (hl : news.length = m * size) (hnews : ∀ j u, news[j]? = some u → w.cell? (ad.add j) = some u) (h1 : ∀ u ∈ news, u.oneCell' = true)
    (h63 : n + m ≤ maxLen) (hbytes : (n + m) * bytes ≤ 140737488355328) (hbase : base ≤ w.heap.size)
    (h : ∀ v' w', w'.ownsRow base e size v' (n + m) (xs ++ news) → w.grownBy w' v.ownBlock → K (a.put o.dst v') w') :
    if Region.wanted o (yielded ops a.tmps) = true then Oper.wp P o a w K Q else E := by
  have hw : Region.wanted o (yielded ops a.tmps) = true := by simp [Region.wanted, hgd]
  rw [if_pos hw]
  exact wp_append_own w s x t ho base e i z size bytes ht hi hz hsize hby hzs hsz v n xs hs hown ad m c news hx hl hnews h1 h63 hbytes hbase fun v' w' h2 h3 _ => h v' w' h2 h3

theorem wo_len (f : List (ByteArray × Int)) (s : ByteArray) : ((woF f s).getD []).length ≤ 64 := by
  unfold woF
  split
  · rename_i h
    simp only [Bool.and_eq_true] at h
    have := (fontB_iff.1 h.1).2.2
    simp only [Option.getD_some, List.length_append, List.length_take, List.length_drop]
    omega
  · simp
end Go.Proofs.Ytpbkeagpipipmaa.S1

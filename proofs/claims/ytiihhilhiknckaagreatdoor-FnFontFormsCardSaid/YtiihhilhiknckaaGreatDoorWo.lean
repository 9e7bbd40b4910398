/-
  The contracts of spec.WithoutSort and impl.WithoutSort: the font without a sort, in memory of the call's own.
-/
import Derived.Test.YtiihhilhiknckaaGreatDoorCat
import Derived.Test.YtiihhilhiknckaaGreatDoorSoc
import Derived.Deep.RegionLaw
namespace Go.Proofs.YtiihhilhiknckaaGreatDoor
open Go.RowKit
set_option linter.unusedVariables false

/-- A call's answer: a slice of sorts of its own, and whether there is one. -/
def SortsTo (w w' : World) (e : Ending) (r : Option (List (ByteArray × Int))) : Prop :=
  ∃ v, e = .returned (.tuple #[v, .bool r.isSome]) ∧ Below w.heap.size w w' ∧ w'.ownsRow w.heap.size 25 2 v (r.getD []).length (flat (r.getD []))
theorem SortsTo.no {w w' : World} {r : Option (List (ByteArray × Int))} (h : r = none) (hb : Below w.heap.size w w') : SortsTo w w' (.returned (.tuple #[.slice none 0 0, .bool false])) r := by subst h; exact ⟨_, rfl, hb, own_nil _ _ _ _⟩
theorem SortsTo.yes {w w' : World} {r : Option (List (ByteArray × Int))} {l : List (ByteArray × Int)} {v : Value} (h : r = some l) (hb : Below w.heap.size w w') (ho : w'.ownsRow w.heap.size 25 2 v l.length (flat l)) : SortsTo w w' (.returned (.tuple #[v, .bool true])) r := by subst h; exact ⟨v, rfl, hb, ho⟩

noncomputable def woF (f : List (ByteArray × Int)) (s : ByteArray) : Option (List (ByteArray × Int)) :=
  if fontB f && (decide (0 ≤ findI f s 0) && decide (f.length ≠ 1)) then some (f.take (findI f s 0).toNat ++ f.drop ((findI f s 0).toNat + 1)) else none
theorem wo_no {f : List (ByteArray × Int)} {s : ByteArray} (h : fontB f = false ∨ findI f s 0 < 0 ∨ f.length = 1) : woF f s = none := by
  unfold woF
  rw [if_neg]
  simp only [Bool.and_eq_true, decide_eq_true_eq, not_and]
  intro h1 h2 h3
  rcases h with h | h | h
  · rw [h] at h1; cases h1
  · omega
  · exact h3 h
theorem wo_yes {f : List (ByteArray × Int)} {s : ByteArray} {i : Nat} (h : fontB f = true) (hi : findI f s 0 = (i : Int)) (hl : f.length ≠ 1) : woF f s = some (f.take i ++ f.drop (i + 1)) := by
  unfold woF
  rw [hi, h, if_pos (by simp [hl])]
  simp
theorem add_flat0 (b off k : Nat) : (⟨b, off, none⟩ : Addr).add k = ⟨b, off + k, none⟩ := by
  unfold Addr.add
  by_cases hk : k = 0 <;> simp [hk]
/-- The cells of a run of sorts lie one after the other. -/
theorem run_reads {w : World} {lo b off : Nat} {f : List (ByteArray × Int)} (hb : b < w.heap.size) (hc : ∀ k (h : k < f.length), w.cell? ⟨b, off + k * 2, none⟩ = some (.string f[k].1) ∧ w.cell? ⟨b, off + k * 2 + 1, none⟩ = some (.int .i64 f[k].2)) :
    ∀ j u, (flat f)[j]? = some u → w.cell? ⟨b, off + j, none⟩ = some u := by
  intro j u hu
  have hlt : j < (flat f).length := by
    rcases Nat.lt_or_ge j (flat f).length with h | h
    · exact h
    · rw [List.getElem?_eq_none h] at hu; cases hu
  rw [flat_len] at hlt
  obtain ⟨h1, h2⟩ := hc (j / 2) (by omega)
  obtain ⟨g1, g2⟩ := flat_get f (j / 2) (by omega)
  rcases Nat.mod_two_eq_zero_or_one j with h | h
  · have e : j / 2 * 2 = j := by omega
    rw [e] at h1 g1
    rw [g1] at hu
    rw [h1]; exact hu
  · have e : j / 2 * 2 + 1 = j := by omega
    rw [Nat.add_assoc, e] at h2
    rw [e] at g2
    rw [g2] at hu
    rw [h2]; exact hu
theorem flat_one0 (f : List (ByteArray × Int)) : ∀ u ∈ flat f, u.oneCell' = true := by
  intro u hu
  simp only [flat, List.mem_flatMap] at hu
  obtain ⟨x, _, hx⟩ := hu
  simp at hx
  rcases hx with rfl | rfl <;> rfl

theorem flat_append (a b : List (ByteArray × Int)) : flat (a ++ b) = flat a ++ flat b := by simp [flat]
/-- The first i sorts of a run, as a part. -/
theorem part_head {w : World} {b off cap i : Nat} {f : List (ByteArray × Int)} (hb : b < w.heap.size) (hc : ∀ k (h : k < f.length), w.cell? ⟨b, off + k * 2, none⟩ = some (.string f[k].1) ∧ w.cell? ⟨b, off + k * 2 + 1, none⟩ = some (.int .i64 f[k].2)) (hi : i ≤ f.length) :
    (Part3.mk ⟨b, off, none⟩ i cap (flat (f.take i))).Reads w := by
  refine ⟨by show (flat (f.take i)).length = i * 2; rw [flat_len, List.length_take]; omega, hb, fun j u hu => ?_, flat_one0 _⟩
  show w.cell? ((⟨b, off, none⟩ : Addr).add j) = some u
  rw [add_flat0]
  refine run_reads (lo := 0) hb hc j u ?_
  have hu' : (flat (f.take i))[j]? = some u := hu
  have hl : j < (flat (f.take i)).length := by
    rcases Nat.lt_or_ge j (flat (f.take i)).length with h | h
    · exact h
    · rw [List.getElem?_eq_none h] at hu'; cases hu'
  have e : flat f = flat (f.take i) ++ flat (f.drop i) := by rw [← flat_append, List.take_append_drop]
  rw [e, List.getElem?_append_left hl]
  exact hu'
/-- The sorts from i on, as a part. -/
theorem part_tail {w : World} {b off cap i : Nat} {a2 : Addr} {f : List (ByteArray × Int)} (hb : b < w.heap.size) (hc : ∀ k (h : k < f.length), w.cell? ⟨b, off + k * 2, none⟩ = some (.string f[k].1) ∧ w.cell? ⟨b, off + k * 2 + 1, none⟩ = some (.int .i64 f[k].2)) (hi : i ≤ f.length) (h2 : a2.block = b) (h3 : i < f.length → a2 = ⟨b, off + i * 2, none⟩) :
    (Part3.mk a2 (f.length - i) cap (flat (f.drop i))).Reads w := by
  refine ⟨by show (flat (f.drop i)).length = (f.length - i) * 2; rw [flat_len, List.length_drop]; omega, by show a2.block < _; rw [h2]; exact hb, fun j u hu => ?_, flat_one0 _⟩
  show w.cell? (a2.add j) = some u
  have hu' : (flat (f.drop i))[j]? = some u := hu
  have hl : j < (flat (f.drop i)).length := by
    rcases Nat.lt_or_ge j (flat (f.drop i)).length with h | h
    · exact h
    · rw [List.getElem?_eq_none h] at hu'; cases hu'
  rw [flat_len, List.length_drop] at hl
  rw [h3 (by omega), add_flat0, Nat.add_assoc]
  refine run_reads (lo := 0) hb hc (i * 2 + j) u ?_
  have e : flat f = flat (f.take i) ++ flat (f.drop i) := by rw [← flat_append, List.take_append_drop]
  have hlen : (flat (f.take i)).length = i * 2 := by rw [flat_len, List.length_take]; omega
  rw [e, List.getElem?_append_right (by omega), hlen, Nat.add_sub_cancel_left]
  exact hu'
theorem elem23 : Tryz.prog.elem 23 = 25 := by kernel_rfl
theorem size39 (W : World) : (sizeOf (Tryz.prog.elem 23)).run Tryz.prog W = .ok 2 W := by
  obtain ⟨i0, hi, hz0, hz1, hz2⟩ := info_parts info39
  rw [elem23]
  simp [sizeOf, typeInfo, hi, hz1]
theorem under23 : Tryz.prog.underlying 23 = some (.slice (Tryz.prog.elem 23)) := by rw [elem23]; exact Tryz.underlying23
theorem slice_head (b off n cap k : Nat) (hk : k ≤ n) (hn : n ≤ cap) (W : World) :
    (Instr.slice 23 (.slice (some ⟨b, off, none⟩) n cap) none (some (.int .i64 (k : Int))) none).run Tryz.prog W = .ok (.slice (some ⟨b, off, none⟩) k cap) W := by
  rw [run_slice_h W _ _ _ _ under23 .i64 (k : Int) (by omega) (by omega), size39]
  by_cases hc : cap = 0 <;> simp [sliced, Result.andThen, Addr.add, hc]
theorem slice_tail (b off n cap k : Nat) (K : Int) (hK : K = (k : Int)) (hk : k ≤ n) (hn : n ≤ cap) :
    ∃ a2 : Addr, (∀ W, (Instr.slice 23 (.slice (some ⟨b, off, none⟩) n cap) (some (.int .i64 K)) none none).run Tryz.prog W = .ok (.slice (some a2) (n - k) (cap - k)) W) ∧ a2.block = b ∧ (k < n → a2 = ⟨b, off + k * 2, none⟩) := by
  subst hK
  refine ⟨if cap = k then ⟨b, off, none⟩ else (⟨b, off, none⟩ : Addr).add (k * 2), fun W => ?_, ?_, ?_⟩
  · rw [run_slice_l W _ _ _ _ under23 .i64 (k : Int) (by omega) (by omega), size39]
    by_cases hc : cap = k <;> simp [sliced, Result.andThen, hc]
  · split
    · rfl
    · rw [block_add]
  · intro h
    rw [if_neg (by omega), add_flat0]

set_option maxHeartbeats 1000000 in
set_option maxRecDepth 100000 in
theorem implWo_any (f : List (ByteArray × Int)) (A : Option Addr) (cap : Nat) (s : ByteArray) (lo : Nat) (w : World) (hf : SortsIn w lo A f) (hn : f.length ≤ 1048576) (ho : CodesOk f) (hcap : f.length ≤ cap) :
    Calls Tryz.prog 12 #[.slice A f.length cap, .string s] w fun e w' => SortsTo w w' e (woF f s) := by
  have HS := Lib.hid hf; clear hf
  have HO := Lib.hid ho; clear ho
  go_enter Tryz.func12, Tryz.ntmps12
  go_wp2_with fail
  refine (implIsFont_any f A cap lo _ HS.out hn HO.out).mono ?_
  rintro e w1 ⟨rfl, hb1⟩
  cases hv : fontB f
  · have HN := Lib.hid (wo_no (s := s) (.inl hv))
    clear hv
    go_wp2
    go_ret2
    exact SortsTo.no HN.out hb1
  · have HV := Lib.hid hv
    have HF := Lib.hid (fontB_iff.1 hv)
    clear hv
    by_cases hl1 : f.length = 1
    · have HN := Lib.hid (wo_no (f := f) (s := s) (.inr (.inr hl1)))
      have hl : ((f.length : Int) == 1) = true := by rw [beq_iff_eq]; omega
      clear hl1
      go_wp2
      go_ret2
      exact SortsTo.no HN.out hb1
    · have hl : ((f.length : Int) == 1) = false := by rw [beq_eq_false_iff_ne]; omega
      have HL := Lib.hid hl1; clear hl1
      have H1 := Lib.hid (HS.out.below hb1 (Nat.le_refl _))
      go_wp2_with fail
      refine (place_any f A cap s lo _ H1.out HF.out).mono ?_
      intro e w2 hfo
      obtain ⟨i, hp, rfl, hb2⟩ := hfo
      have hb := hb1.trans (hb2.mono hb1.size)
      have H2 := Lib.hid (HS.out.below hb (Nat.le_refl _))
      have HPF := Lib.hid (place_find HF.out hp)
      clear hp hb1 hb2 H1
      by_cases hin : i < f.length ∧ codeB0 f i = s
      · rw [decide_eq_true hin]
        have HY := Lib.hid (wo_yes (i := i) HV.out (by rw [HPF.out, if_pos hin]) HL.out)
        have hi := hin.1
        obtain ⟨b, off, rfl, _, hbl, hc⟩ := H2.out (by omega)
        have HC := Lib.hid hc
        clear hc hin
        have hs1 := slice_head b off f.length cap i (by omega) hcap
        obtain ⟨a2, hs2, ha2, ha3⟩ := slice_tail b off f.length cap (i + 1) ((i : Int) + 1) (by omega) (by omega) hcap
        have HA2 := Lib.hid ha2; have HA3 := Lib.hid ha3
        clear ha2 ha3
        have hi0 : (0 : Int) ≤ (i : Int) := by omega
        have hwr : IntKind.i64.wrap ((i : Int) + 1) = (i : Int) + 1 := by rw [IntKind.wrap_i64]; omega
        go_wp2_with fail
        go_still_tail 7, (by kernel_rfl)
        change wpList _ _ _ _ _ w2.drew
        clear hs1 hs2 hwr
        go_wp2_with fail
        obtain ⟨W3, hW3⟩ : ∃ W3 : World, W3 = (w2.alloc (.cells #[.slice (some ⟨b, off, none⟩) i cap, .slice (some a2) (f.length - (i + 1)) (cap - (i + 1))] 23)).drew := ⟨_, rfl⟩
        rw [← hW3]
        have hbb : Below w2.heap.size w2 W3 := by rw [hW3]; exact ((Below.refl _ _).alloc (Nat.le_refl _) _).drew
        have hb3 : Below w.heap.size w W3 := hb.trans (hbb.mono hb.size)
        obtain ⟨ps, hps⟩ : ∃ ps : List Part3, ps = [⟨⟨b, off, none⟩, i, cap, flat (f.take i)⟩, ⟨a2, f.length - (i + 1), cap - (i + 1), flat (f.drop (i + 1))⟩] := ⟨_, rfl⟩
        have hS : W3.heap[w2.heap.size]? = some (.cells (ps.map Part3.val).toArray 23 (0, 0)) := by rw [hW3, hps]; exact heap_new _ _
        have hr : ∀ p ∈ ps, p.Reads W3 := by
          intro p hp
          rw [hps] at hp
          simp only [List.mem_cons, List.not_mem_nil, or_false] at hp
          rcases hp with rfl | rfl
          · exact (part_head (cap := cap) (i := i) hbl HC.out (by omega)).below hbb (Nat.le_refl _)
          · exact (part_tail (cap := cap - (i + 1)) (i := i + 1) hbl HC.out (by omega) HA2.out HA3.out).below hbb (Nat.le_refl _)
        have hl32 := HF.out.2.2
        have hlen : ps.length = 2 := by rw [hps]; rfl
        have hlens : lens ps = (f.take i ++ f.drop (i + 1)).length := by
          rw [hps]; simp only [lens, List.length_append, List.length_take, List.length_drop]; omega
        have hxs : allXs ps = flat (f.take i ++ f.drop (i + 1)) := by
          rw [hps]; simp only [allXs, List.append_nil, flat_append]
        have hl2 : (f.take i ++ f.drop (i + 1)).length = f.length - 1 := by simp only [List.length_append, List.length_take, List.length_drop]; omega
        have hcon := concat_any ps w2.heap.size W3 hS hr (by rw [hlen]; omega) (by rw [hlens, hl2]; have := HL.out; omega) (by rw [hlens, hl2]; omega)
        rw [hlen] at hcon
        refine hcon.mono ?_
        intro e w4 hct
        obtain ⟨v, rfl, hb4, ho4⟩ := hct
        rw [hlens, hxs] at ho4
        have hbf := hb3.trans (hb4.mono hb3.size)
        have HO4 := Lib.hid (Joins.ownsRow_le ho4 hb3.size)
        clear hb hb3 hbb hr hlens hxs hl2 hb4 ho4 hcon hS hlen hps hW3
        go_wp2
        go_ret2
        exact SortsTo.yes HY.out hbf HO4.out
      · rw [decide_eq_false hin]
        have HN := Lib.hid (wo_no (f := f) (s := s) (.inr (.inl (by rw [HPF.out, if_neg hin]; omega))))
        clear hin
        go_wp2
        go_ret2
        exact SortsTo.no HN.out hb

theorem step_own {P : Program} (w : World) {ops : Array Oper} {o : Oper} {a : Act} {K : Act → World → Prop} {Q : Exit → Act → World → Prop} {E : Prop} (hgd : o.guard = none) (s x : Operand) (t : TypeId)
    (ho : o.op = .call { callee := .builtin .append, args := #[s, x], argTypes := #[t, t] })
    (base : Nat) (e : TypeId) (i : TypeInfo) (z : Value) (size bytes : Nat) (ht : P.underlying t = some (.slice e)) (hi : P.info? e = some i) (hz : i.zero = some z)
    (hsize : i.size = size) (hby : i.bytes = bytes) (hzs : z.cells.size = size) (hsz : 0 < size)
    (v : Value) (n : Nat) (xs : List Value) (hs : a.eval s = v) (hown : w.ownsRow base e size v n xs)
    (ad : Addr) (m c : Nat) (news : List Value) (hx : a.eval x = .slice (some ad) m c) (hl : news.length = m * size) (hnews : ∀ j u, news[j]? = some u → w.cell? (ad.add j) = some u) (h1 : ∀ u ∈ news, u.oneCell' = true)
    (h63 : n + m ≤ maxLen) (hbytes : (n + m) * bytes ≤ 140737488355328) (hbase : base ≤ w.heap.size)
    (h : ∀ v' w', w'.ownsRow base e size v' (n + m) (xs ++ news) → w.grownBy w' v.ownBlock → K (a.put o.dst v') w') :
    if Region.wanted o (yielded ops a.tmps) = true then Oper.wp P o a w K Q else E := by
  have hw : Region.wanted o (yielded ops a.tmps) = true := by simp [Region.wanted, hgd]
  rw [if_pos hw]
  exact wp_append_own w s x t ho base e i z size bytes ht hi hz hsize hby hzs hsz v n xs hs hown ad m c news hx hl hnews h1 h63 hbytes hbase fun v' w' h2 h3 _ => h v' w' h2 h3

set_option maxHeartbeats 1000000 in
set_option maxRecDepth 100000 in
theorem specWo_any (f : List (ByteArray × Int)) (A : Option Addr) (cap : Nat) (s : ByteArray) (lo : Nat) (w : World) (hf : SortsIn w lo A f) (hn : f.length ≤ 1048576) (ho : CodesOk f) (hcap : f.length ≤ cap) :
    Calls Tryz.prog 18 #[.slice A f.length cap, .string s] w fun e w' => SortsTo w w' e (woF f s) := by
  have HS := Lib.hid hf; clear hf
  have HO := Lib.hid ho; clear ho
  go_enter Tryz.func18, Tryz.ntmps18
  go_wp2_with fail
  refine (tyFind_any f A cap s lo _ HS.out hn).mono ?_
  rintro e w1 ⟨rfl, hb1⟩
  have H1 := Lib.hid (HS.out.below hb1 (Nat.le_refl _))
  have HC := Lib.hid (findI_cases f s)
  have HNO : Hid (fontB f = false ∨ findI f s 0 < 0 ∨ f.length = 1 → woF f s = none) := wo_no
  have HYES : Hid (∀ i : Nat, fontB f = true → findI f s 0 = (i : Int) → f.length ≠ 1 → woF f s = some (f.take i ++ f.drop (i + 1))) := fun i h hi hl => wo_yes h hi hl
  generalize findI f s 0 = r at *
  go_wp2_with fail
  refine (tyFont_any f A cap lo _ H1.out hn HO.out).mono ?_
  rintro e w2 ⟨rfl, hb2⟩
  have hb := hb1.trans (hb2.mono hb1.size)
  have H2 := Lib.hid (HS.out.below hb (Nat.le_refl _))
  clear hb1 hb2 H1
  cases hv : fontB f
  · have HN := Lib.hid (HNO.out (.inl hv))
    clear hv
    go_wp2
    go_ret2
    exact SortsTo.no HN.out hb
  · rcases HC.out with ⟨hr, _⟩ | ⟨i, hi, _, hr⟩
    · have HN := Lib.hid (HNO.out (.inr (.inl (by omega))))
      clear hv
      have hlt : r < 0 := by omega
      have HR := Lib.hid hr; clear hr
      go_wp2
      go_ret2
      exact SortsTo.no HN.out hb
    · by_cases hl1 : f.length = 1
      · have HN := Lib.hid (HNO.out (.inr (.inr hl1)))
        have hl : ((f.length : Int) == 1) = true := by rw [beq_iff_eq]; omega
        have hnlt : ¬ r < 0 := by omega
        have HR := Lib.hid hr; clear hr hl1 hv
        go_wp2
        go_ret2
        exact SortsTo.no HN.out hb
      · have hl : ((f.length : Int) == 1) = false := by rw [beq_eq_false_iff_ne]; omega
        have HF := Lib.hid (fontB_iff.1 hv)
        have HY := Lib.hid (HYES.out i hv hr hl1)
        have HL := Lib.hid hl1
        clear hv hl1
        subst hr
        have hnlt : ¬ (i : Int) < 0 := by omega
        obtain ⟨b, off, rfl, _, hbl, hc⟩ := H2.out (by omega)
        have HCC := Lib.hid hc
        clear hc
        have hs1 := slice_head b off f.length cap i (by omega) hcap
        obtain ⟨a2, hs2, ha2, ha3⟩ := slice_tail b off f.length cap (i + 1) ((i : Int) + 1) (by omega) (by omega) hcap
        have HA2 := Lib.hid ha2; have HA3 := Lib.hid ha3
        clear ha2 ha3
        have hi0 : (0 : Int) ≤ (i : Int) := by omega
        have hwr : IntKind.i64.wrap ((i : Int) + 1) = (i : Int) + 1 := by rw [IntKind.wrap_i64]; omega
        obtain ⟨i0, hi0', hz0, hz1, hz2⟩ := info_parts info39
        have HI0 := Lib.hid hi0'; have HZ0 := Lib.hid hz0; have HZ1 := Lib.hid hz1; have HZ2 := Lib.hid hz2
        clear hi0' hz0 hz1 hz2
        have hl32 := HF.out.2.2
        have hbW : Below w2.heap.size w2 (w2.alloc (.cells #[] 25)).drew := ((Below.refl _ _).alloc (Nat.le_refl _) _).drew
        have hown0 : (w2.alloc (.cells #[] 25)).drew.ownsRow w2.heap.size 25 2 (.slice (some ⟨w2.heap.size, 0, none⟩) 0 0) 0 [] :=
          ⟨rfl, .inr ⟨w2.heap.size, 0, #[], rfl, Nat.le_refl _, heap_new _ _, Nat.le_refl _, Nat.zero_le _, rfl, rfl⟩⟩
        have hp1 := (part_head (cap := cap) (i := i) hbl HCC.out (by omega)).below hbW (Nat.le_refl _)
        have hp2 := part_tail (cap := cap - (i + 1)) (i := i + 1) hbl HCC.out (by omega) HA2.out HA3.out
        have HBW := Lib.hid hbW; have HO0 := Lib.hid hown0; have HP1 := Lib.hid hp1; have HP2 := Lib.hid hp2
        have hmx1 : 0 + i ≤ maxLen := by unfold maxLen; omega
        have hmx2 : i + (f.length - (i + 1)) ≤ maxLen := by unfold maxLen; omega
        have hby1 : (0 + i) * 24 ≤ 140737488355328 := by omega
        have hby2 : (i + (f.length - (i + 1))) * 24 ≤ 140737488355328 := by omega
        have tok1 : True := trivial
        clear hbW hown0 hp1 hp2
        go_wp2_with fail
        go_region_law (first
          | (have _t := tok1
             refine step_own _ (by rfl) _ _ _ (by rfl) w2.heap.size 25 i0 (.agg #[.string .empty, .int .i64 0]) 2 24 Tryz.underlying23 HI0.out HZ0.out HZ1.out HZ2.out rfl (by decide) _ 0 [] (by rfl) HO0.out ⟨b, off, none⟩ i cap (flat (f.take i)) (by rfl) HP1.out.1 HP1.out.2.2.1 HP1.out.2.2.2 hmx1 hby1 (by simp) ?_
             intro v1 w4 hown1 hg1
             clear tok1
             have hb4 : Below w2.heap.size w2 w4 := HBW.out.grown hg1 (by simp) (by intro k hk; have : w2.heap.size = k := Option.some.inj hk; omega)
             simp only [Nat.zero_add, List.nil_append] at hown1)
          | (refine step_own _ (by rfl) _ _ _ (by rfl) w2.heap.size 25 i0 (.agg #[.string .empty, .int .i64 0]) 2 24 Tryz.underlying23 HI0.out HZ0.out HZ1.out HZ2.out rfl (by decide) _ i (flat (f.take i)) (by rfl) hown1 a2 (f.length - (i + 1)) (cap - (i + 1)) (flat (f.drop (i + 1))) (by rfl) (HP2.out.below hb4 (Nat.le_refl _)).1 (HP2.out.below hb4 (Nat.le_refl _)).2.2.1 (HP2.out.below hb4 (Nat.le_refl _)).2.2.2 hmx2 hby2 hb4.size ?_
             intro v2 w5 hown2 hg2))
        have hbf : Below w.heap.size w w5 := hb.trans ((hb4.grown hg2 hb4.size (own_lt hown1)).mono hb.size)
        have HO5 : Hid (w5.ownsRow w.heap.size 25 2 v2 (f.take i ++ f.drop (i + 1)).length (flat (f.take i ++ f.drop (i + 1)))) := by
          show w5.ownsRow _ _ _ _ _ _
          rw [flat_append, show (f.take i ++ f.drop (i + 1)).length = i + (f.length - (i + 1)) from by simp only [List.length_append, List.length_take, List.length_drop]; omega]
          exact Joins.ownsRow_le hown2 hb.size
        clear hb hb4 hg1 hg2 hown1 hown2 hs1 hs2 hwr hmx1 hmx2 hby1 hby2
        go_wp2
        go_ret2
        exact SortsTo.yes HY.out hbf HO5.out
theorem wo_len (f : List (ByteArray × Int)) (s : ByteArray) : ((woF f s).getD []).length ≤ 64 := by
  unfold woF
  split
  · rename_i h
    simp only [Bool.and_eq_true] at h
    have := (fontB_iff.1 h.1).2.2
    simp only [Option.getD_some, List.length_append, List.length_take, List.length_drop]
    omega
  · simp
end Go.Proofs.YtiihhilhiknckaaGreatDoor

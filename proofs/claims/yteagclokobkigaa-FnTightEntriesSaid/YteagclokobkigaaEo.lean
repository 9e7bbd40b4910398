/-
  The contracts of slices.Grow of nothing and slices.Concat at entries (lists that may be nil), the first and the last part of a slice of entries.
-/
import Derived.Test.YteagclokobkigaaEr
import Derived.OwnWalk
import Derived.Maps.AppendAt
import Derived.Lib.AppendZerosOnto
import Derived.Lib.SliceRun
import Derived.Deep.Upon
namespace Go.Proofs.Yteagclokobkigaa
open Go.RowKit
set_option linter.unusedVariables false

theorem elemE : Try.prog.elem 24 = 36 := by kernel_rfl
theorem sizeE (W : World) : (sizeOf (Try.prog.elem 24)).run Try.prog W = .ok 3 W := by
  obtain ⟨i0, hi, hz0, hz1, hz2⟩ := info_parts infoEn
  rw [elemE]
  simp [sizeOf, typeInfo, hi, hz1]
theorem underE : Try.prog.underlying 24 = some (.slice (Try.prog.elem 24)) := by rw [elemE]; exact Try.underlying24
theorem slice_headE (b off n cap k : Nat) (hk : k ≤ n) (hn : n ≤ cap) (W : World) :
    (Instr.slice 24 (.slice (some ⟨b, off, none⟩) n cap) none (some (.int .i64 (k : Int))) none).run Try.prog W = .ok (.slice (some ⟨b, off, none⟩) k cap) W := by
  rw [run_slice_h W _ _ _ _ underE .i64 (k : Int) (by omega) (by omega), sizeE]
  by_cases hc : cap = 0 <;> simp [sliced, Result.andThen, Addr.add, hc]
theorem slice_tailE (b off n cap k : Nat) (hk : k ≤ n) (hn : n ≤ cap) :
    ∃ a2 : Addr, (∀ W, (Instr.slice 24 (.slice (some ⟨b, off, none⟩) n cap) (some (.int .i64 (k : Int))) none none).run Try.prog W = .ok (.slice (some a2) (n - k) (cap - k)) W) ∧ a2.block = b ∧ (k < n → a2 = ⟨b, off + k * 3, none⟩) := by
  refine ⟨if cap = k then ⟨b, off, none⟩ else (⟨b, off, none⟩ : Addr).add (k * 3), fun W => ?_, ?_, ?_⟩
  · rw [run_slice_l W _ _ _ _ underE .i64 (k : Int) (by omega) (by omega), sizeE]
    by_cases hc : cap = k <;> simp [sliced, Result.andThen, hc]
  · split
    · rfl
    · unfold Addr.add; split <;> rfl
  · intro h
    rw [if_neg (by omega), add_flat]
theorem ens_take {w : World} {A : Option Addr} {l : List En} (h : EnsIn w A l) (k : Nat) : EnsIn w A (l.take k) := fun h0 => by
  have hl : k ≤ l.length ∨ l.length < k := Nat.lt_or_ge _ _ |>.symm.imp id id
  obtain ⟨b, off, h1, h2, h3⟩ := h (by rw [List.length_take] at h0; omega)
  exact ⟨b, off, h1, h2, fun j hj => by
    have hj' : j < l.length := by rw [List.length_take] at hj; omega
    simp only [List.getElem_take]
    exact h3 j hj'⟩
theorem ens_drop {w : World} {b off k : Nat} {a2 : Addr} {l : List En} (h : EnsIn w (some ⟨b, off, none⟩) l) (ha : k < l.length → a2 = ⟨b, off + k * 3, none⟩) : EnsIn w (some a2) (l.drop k) := fun h0 => by
  rw [List.length_drop] at h0
  obtain ⟨b', off', h1, h2, h3⟩ := h (by omega)
  have e := Option.some.inj h1
  rw [Addr.mk.injEq] at e
  obtain ⟨rfl, rfl, _⟩ := e
  rw [ha (by omega)]
  exact ⟨b, off + k * 3, rfl, h2, fun j hj => by
    have hj' : k + j < l.length := by rw [List.length_drop] at hj; omega
    have := h3 (k + j) hj'
    simp only [List.getElem_drop]
    rw [show off + k * 3 + j * 3 = off + (k + j) * 3 from by omega]
    exact this⟩
theorem newsEn {w : World} {A : Addr} {f : List En} (h : EnsIn w (some A) f) : ∀ j u, (flatEn f)[j]? = some u → w.cell? (A.add j) = some u := by
  intro j u hu
  have hj : j < 3 * f.length := by
    rcases Nat.lt_or_ge j (3 * f.length) with h | h
    · exact h
    · rw [List.getElem?_eq_none (by rw [flatEn_len]; exact h)] at hu; cases hu
  obtain ⟨b, off, hA, hbl, hc⟩ := h (by omega)
  obtain rfl := Option.some.inj hA
  rw [add_flat]
  obtain ⟨k, r, hr, rfl⟩ : ∃ k r, r < 3 ∧ j = k * 3 + r := ⟨j / 3, j % 3, Nat.mod_lt _ (by decide), by omega⟩
  have hk : k < f.length := by omega
  obtain ⟨c0, c1, c2⟩ := hc k hk
  obtain ⟨g0, g1, g2⟩ := flatEn_get f k hk
  rcases (by omega : r = 0 ∨ r = 1 ∨ r = 2) with rfl | rfl | rfl
  · rw [Nat.add_zero] at hu ⊢; rw [c0, ← g0, hu]
  · rw [← Nat.add_assoc, c1, ← g1, hu]
  · rw [← Nat.add_assoc, c2, ← g2, hu]
theorem flatEn_one (f : List En) : ∀ u ∈ flatEn f, u.oneCell' = true := by
  intro u hu
  simp only [flatEn, intsZ, En.zs, List.mem_flatMap, List.mem_map] at hu
  obtain ⟨s, _, z, _, rfl⟩ := hu
  rfl
theorem flatEn_app (f g : List En) : flatEn (f ++ g) = flatEn f ++ flatEn g := by simp [flatEn]
theorem own_noneE (w : World) {g base : Nat} {e : TypeId} (h : w.heap[g]? = some (.cells #[] e (0, 0))) (hb : base ≤ g) : w.ownsRow base e 3 (.slice (some ⟨g, 0, none⟩) 0 0) 0 (flatEn []) :=
  ⟨rfl, .inr ⟨g, 0, #[], rfl, hb, h, Nat.le_refl _, Nat.zero_le _, rfl, rfl⟩⟩
theorem own_capE {w : World} {base size n m c : Nat} {e : TypeId} {A : Option Addr} {xs : List Value} (h : w.ownsRow base e size (.slice A m c) n xs) : m ≤ c := by
  rcases h.2 with ⟨h1, h2⟩ | ⟨g, cap, cur, h1, h2, h3, h4, h5⟩
  · injection h1 with _ e2 e3; omega
  · injection h1 with _ e2 e3; omega
/-- Appending a nil slice. -/
theorem append_nilE (w : World) (B : Option Addr) (n c d : Nat) (h : n ≤ c) :
    (Builtin.append_ #[24, 24] 24 #[.slice B n c, .slice none 0 d]).run Try.prog w = .ok (.slice B n c) w := by
  obtain ⟨i0, hi, hz0, hz1, hz2⟩ := info_parts infoEn
  exact run_append_nothing (P := Try.prog) w 24 24 24 36 i0 Try.underlying24 hi B n c h _ (Src.ofNil (w := _) Try.underlying24 d)
theorem wpList_append_is {P : Program} {ops : Array Oper} {rest : List Oper} {o : Oper} {a : Act} {Q : Exit → Act → World → Prop} (w w' : World) (v v0 v1 : Value) (hgd : o.guard = none) (s x : Operand) (t ty : TypeId)
    (ho : o.op = .call { callee := .builtin .append, args := #[s, x], argTypes := #[t, t] }) (hty : o.type = ty) (hs : a.eval s = v0) (hx : a.eval x = v1)
    (hrun : (Builtin.append_ #[t, t] ty #[v0, v1]).run P w = .ok v w') (h : wpList P ops Q rest (a.put o.dst v) w') : wpList P ops Q (o :: rest) a w := by
  subst hty; subst hs; subst hx
  refine wpList_plain hgd fun K hK' => ?_
  unfold Oper.wp
  simp [execOp, ho, resolve, invoke, builtin, hrun, Result.andThen]
  exact hK' _ _ h
def RowE (w w' : World) (e : Ending) (l : List En) : Prop := ∃ v, e = .returned v ∧ Below w.heap.size w w' ∧ w'.ownsRow w.heap.size 36 3 v l.length (flatEn l)
theorem growZE_any (w : World) : Calls Try.prog 68 #[.slice none 0 0, .int .i64 0] w fun e w' => RowE w w' e [] := by
  go_enter Try.func68, Try.ntmps68
  go_wp2
  go_ret
  exact ⟨_, rfl, Below.refl _ _, own_nil _ _ _ _⟩
set_option maxRecDepth 100000 in
set_option maxHeartbeats 2000000 in
theorem growE_any (n : Nat) (w : World) (h1 : 1 ≤ n) (h8 : n ≤ 1048577) :
    Calls Try.prog 68 #[.slice none 0 0, .int .i64 (n : Int)] w fun e w' => RowE w w' e [] := by
  obtain ⟨i0, hi, hz0, hz1, hz2⟩ := info_parts infoEn
  have hold : (Builtin.firstCells i0.size 0 (.slice none 0 0)).run Try.prog w.drew = .ok ([] : List Value).toArray w.drew := by
    exact run_firstCells_none w.drew i0.size 0 0 0
  have hrz := Lib.run_append_grow_zeros (P := Try.prog) w 24 3 24 36 i0 (.agg #[.int .i64 0, .int .i64 0, .int .i64 0]) .i64 .i64 Try.underlying24 Try.underlying3 hi hz0 none 0 0 [] hold n (by omega) (by rw [hz1]; decide) (by omega) (by omega) (by rw [hz2]; omega) (by rw [hz2, Nat.zero_add]; exact growslice_fits (by omega) (by omega))
  have hG := grownCap_le_maxLen w (0 + n) 0 36 (by unfold maxLen; omega)
  have hG2 := grownCap_ge w (0 + n) 0 36
  have hsz : (([] : List Value).toArray ++ Builtin.zeroCells (Value.agg #[.int .i64 0, .int .i64 0, .int .i64 0]).cells n ++ Builtin.zeroCells (Value.agg #[.int .i64 0, .int .i64 0, .int .i64 0]).cells (grownCap w (0 + n) 0 36 - (0 + n))).size = grownCap w (0 + n) 0 36 * 3 := by
    generalize grownCap w (0 + n) 0 36 = G at *
    simp [Builtin.zeroCells, Value.cells]; omega
  generalize ([] : List Value).toArray ++ Builtin.zeroCells (Value.agg #[.int .i64 0, .int .i64 0, .int .i64 0]).cells n ++ Builtin.zeroCells (Value.agg #[.int .i64 0, .int .i64 0, .int .i64 0]).cells (grownCap w (0 + n) 0 36 - (0 + n)) = cs at *
  generalize grownCap w (0 + n) 0 36 = G at *
  rw [Nat.zero_add] at hrz
  have HO : Hid ((w.drew.alloc (.cells cs 36)).ownsRow w.heap.size 36 3 (.slice (some ⟨w.heap.size, 0, none⟩) 0 G) 0 (flatEn [])) := Lib.hid
    ⟨rfl, .inr ⟨w.heap.size, G, cs, rfl, Nat.le_refl _, heap_new _ _, Nat.zero_le _, hG, by omega, by simp [flatEn]⟩⟩
  have HB : Hid (Below w.heap.size w (w.drew.alloc (.cells cs 36))) := Lib.hid ((Below.refl w.heap.size w).drew.alloc (Nat.le_refl _) _)
  have HRZ := Lib.hid hrz
  have hG63 : G ≤ 9223372036854775807 := by unfold maxLen at hG; omega
  have hn1 : (1 : Int) ≤ (n : Int) := by omega
  have hs := slice_headE w.heap.size 0 n G 0 (Nat.zero_le _) (by omega)
  clear hrz hold hi hz0 hz1 hz2 hG hsz hG2
  go_enter Try.func68, Try.ntmps68
  go_wp2_with (at_builtin; refine Lib.wpList_append_run _ rfl _ _ _ _ rfl _ _ rfl rfl _ _ HRZ.out ?_)
  go_wp2
  go_ret
  exact ⟨_, rfl, HB.out, HO.out⟩
/-- Block G holds the headers of lists of entries. -/
def HdrE (w : World) (G : Nat) (ls : List (List En)) : Prop := G < w.heap.size ∧ ∀ i (h : i < ls.length), ∃ A c, w.cell? ⟨G, i, none⟩ = some (.slice A ls[i].length c) ∧ EnsIn w A ls[i]
theorem HdrE.next {w w' : World} {G : Nat} {ls : List (List En)} (h : HdrE w G ls) (hb : Below w.heap.size w w') : HdrE w' G ls := ⟨Nat.lt_of_lt_of_le h.1 hb.size, fun i hi => by
  obtain ⟨A, c, h1, h2⟩ := h.2 i hi
  exact ⟨A, c, (hb.cell (p := ⟨G, i, none⟩) h.1).trans h1, h2.below hb (Nat.le_refl _)⟩⟩
def flK (ls : List (List En)) (k : Nat) : List En := (ls.take k).flatten
theorem flK_succ {ls : List (List En)} {k : Nat} (h : k < ls.length) : flK ls (k + 1) = flK ls k ++ ls[k] := by
  unfold flK; rw [List.take_succ_eq_append_getElem h, List.flatten_append]; show _ ++ (ls[k] ++ []) = _; rw [List.append_nil]
theorem flK_all (ls : List (List En)) : flK ls ls.length = ls.flatten := by unfold flK; rw [List.take_length]
theorem flK_le (ls : List (List En)) : ∀ k, k ≤ ls.length → (flK ls k).length ≤ ls.flatten.length := fun k hk => by
  have e : ls.flatten = flK ls k ++ (ls.drop k).flatten := by unfold flK; rw [← List.flatten_append, List.take_append_drop]
  rw [e, List.length_append]; omega
set_option maxRecDepth 100000 in
set_option maxHeartbeats 2000000 in
theorem concatE_any (ls : List (List En)) (G d : Nat) (w : World) (hh : HdrE w G ls) (hl : ls.length ≤ 8) (hn : ls.flatten.length ≤ 1048577) :
    Calls Try.prog 51 #[.slice (some ⟨G, 0, none⟩) ls.length d] w fun e w' => RowE w w' e ls.flatten := by
  have HH := Lib.hid hh; clear hh
  obtain ⟨i0, hi, hz0, hz1, hz2⟩ := info_parts infoEn
  have HI0 := Lib.hid hi; have HZ0 := Lib.hid hz0; have HZ1 := Lib.hid hz1; have HZ2 := Lib.hid hz2
  clear hi hz0 hz1 hz2
  have hGl := HH.out.1
  go_enter Try.func51, Try.ntmps51
  go_wp2
  go_loop [3, 11] (fun s i => ∃ k : Nat, k ≤ ls.length ∧ i = .int .i64 (k : Int) ∧ s = .int .i64 ((flK ls k).length : Int)) (fun _ i => ls.length - (RowKit.intOf i).toNat)
  case atStart => exact ⟨0, Nat.zero_le _, rfl, rfl⟩
  case round =>
    obtain ⟨k, hk, rfl, rfl⟩ := hrel
    have hfk := flK_le ls k hk
    by_cases hlt : k < ls.length
    · obtain ⟨A, c, h1, h2⟩ := HH.out.2 k hlt
      have hf1 := flK_le ls (k + 1) (by omega)
      have HS : Hid ((flK ls (k + 1)).length = (flK ls k).length + ls[k].length) := Lib.hid (by rw [flK_succ hlt, List.length_append])
      rw [HS.out] at hf1
      clear h2
      generalize (flK ls k).length = q at *
      generalize ls[k].length = m at *
      go_wp2
      go_round
      case rel => exact ⟨k + 1, by omega, by go_num, by rw [HS.out]; simp⟩
      case measure => simp [RowKit.intOf]; omega
    · obtain rfl : k = ls.length := by omega
      have HFA := Lib.hid (flK_all ls)
      rw [HFA.out]
      obtain ⟨n, hnn⟩ : ∃ n, n = ls.flatten.length := ⟨_, rfl⟩
      rw [← hnn]
      have HNN := Lib.hid hnn
      have hn80 : n ≤ 1048577 := by omega
      have HGR : Hid (Calls Try.prog 68 #[.slice none 0 0, .int .i64 (n : Int)] w fun e w' => RowE w w' e []) := Lib.hid (by
        rcases Nat.eq_zero_or_pos n with h | h
        · subst h; exact growZE_any w
        · exact growE_any n w h hn80)
      clear hnn hfk
      go_wp2_with fail
      refine HGR.out.mono ?_
      rintro e w1 ⟨v, rfl, hb1, ho1⟩
      have HB1 := Lib.hid hb1; have HO1 := Lib.hid ho1
      clear hb1 ho1
      go_wp2
      go_loopw [6, 27] (fun v i wr => ∃ k : Nat, k ≤ ls.length ∧ i = .int .i64 (k : Int) ∧ wr.ownsRow w.heap.size 36 3 v (flK ls k).length (flatEn (flK ls k)) ∧ Below w.heap.size w wr) (fun _ i _ => ls.length - (RowKit.intOf i).toNat)
      case atStart => exact ⟨0, Nat.zero_le _, rfl, HO1.out, HB1.out⟩
      case round =>
        obtain ⟨k, hk, rfl, hv, hb⟩ := hrel
        by_cases hlt : k < ls.length
        · obtain ⟨A, c, h1, h2⟩ := (HH.out.next hb).2 k hlt
          have hf1 := flK_le ls (k + 1) (by omega)
          have HS : Hid (flK ls (k + 1) = flK ls k ++ ls[k]) := Lib.hid (flK_succ hlt)
          have HSL : Hid ((flK ls k).length + ls[k].length = (flK ls (k + 1)).length) := Lib.hid (by rw [HS.out, List.length_append])
          have hsl : (flK ls k).length + ls[k].length ≤ 1048577 := by rw [HSL.out]; have := HNN.out; omega
          have hmx : (flK ls k).length + ls[k].length ≤ maxLen := by unfold maxLen; omega
          have HV := Lib.hid hv; have HB := Lib.hid hb
          clear hv hb hf1
          generalize hQ : ls[k] = Q at *
          generalize hR : flK ls k = R at *
          clear hQ hR
          cases A with
          | some A =>
            have HNW := Lib.hid (newsEn h2)
            have HFL : Hid ((flatEn Q).length = Q.length * 3) := Lib.hid (by rw [flatEn_len]; omega)
            have HON := Lib.hid (flatEn_one Q)
            clear h2
            go_wp2_with (at_builtin; refine wpList_append_own _ rfl _ _ 24 rfl w.heap.size 36 i0 (.agg #[.int .i64 0, .int .i64 0, .int .i64 0]) 3 24 Try.underlying24 HI0.out HZ0.out HZ1.out HZ2.out rfl (by decide) _ _ _ rfl HV.out A Q.length c (flatEn Q) rfl HFL.out HNW.out HON.out hmx (by omega) HB.out.size ?_)
            intro v' w4 hown' hgrow _
            have HB4 := Lib.hid (HB.out.grown hgrow HB.out.size (own_lt HV.out))
            have HO4 : Hid (w4.ownsRow w.heap.size 36 3 v' (flK ls (k + 1)).length (flatEn (flK ls (k + 1)))) := Lib.hid (by rw [← HSL.out, HS.out, flatEn_app]; exact hown')
            clear hown' hgrow
            go_wp2
            go_roundw
            case rel => exact ⟨k + 1, by omega, by go_num, HO4.out, HB4.out⟩
            case measure => simp [RowKit.intOf]; omega
          | none =>
            have hq0 : Q = [] := by
              cases Q with
              | nil => rfl
              | cons x r => obtain ⟨b, off, h3, _⟩ := h2 (by simp); cases h3
            subst hq0
            obtain ⟨A5, c5, hve⟩ := own_form_en HV.out
            subst hve
            have hcc := own_capE HV.out
            have HAP := Lib.hid (append_nilE wr A5 R.length c5 c hcc)
            rw [List.append_nil] at HS
            have HO4 : Hid (wr.ownsRow w.heap.size 36 3 (.slice A5 R.length c5) (flK ls (k + 1)).length (flatEn (flK ls (k + 1)))) := Lib.hid (by rw [HS.out]; exact HV.out)
            clear h2
            go_wp2_with (at_builtin; refine wpList_append_is _ _ _ _ _ rfl _ _ 24 24 rfl rfl rfl rfl HAP.out ?_)
            go_wp2
            go_roundw
            case rel => exact ⟨k + 1, by omega, by go_num, HO4.out, HB.out⟩
            case measure => simp [RowKit.intOf]; omega
        · obtain rfl : k = ls.length := by omega
          have HV := Lib.hid hv; have HB := Lib.hid hb
          clear hv hb
          go_wp2
          go_ret
          exact ⟨_, rfl, HB.out, by have h := HV.out; rw [HFA.out] at h; exact h⟩
end Go.Proofs.Yteagclokobkigaa

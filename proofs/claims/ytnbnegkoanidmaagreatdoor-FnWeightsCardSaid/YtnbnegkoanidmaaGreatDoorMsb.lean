import Derived.Test.YtnbnegkoanidmaaGreatDoorMsa
import Derived.Laws.MakeOwn
import Derived.WalkKit
import Derived.Lib.Hide
import Derived.BigQuiet
/-
  The contract of laws.toSortS: it answers a new slice that holds the same sorts, and changes nothing that was there.
-/
namespace Go.Proofs.YtnbnegkoanidmaaGreatDoor.S1
open Go.RowKit
set_option linter.unusedVariables false

def flat (f : List (ByteArray × Int)) : List Value := f.flatMap fun x => [.string x.1, .int .i64 x.2]
theorem flat_len (f : List (ByteArray × Int)) : (flat f).length = 2 * f.length := by
  induction f with
  | nil => rfl
  | cons x r ih => simp [flat] at ih ⊢; omega
theorem flat_get : ∀ (f : List (ByteArray × Int)) (k : Nat) (h : k < f.length), (flat f)[k * 2]? = some (.string f[k].1) ∧ (flat f)[k * 2 + 1]? = some (.int .i64 f[k].2)
  | x :: r, 0, _ => ⟨rfl, rfl⟩
  | x :: r, k + 1, h => by
    have ih := flat_get r k (by simpa using h)
    have e : flat (x :: r) = .string x.1 :: .int .i64 x.2 :: flat r := rfl
    rw [e, show (k + 1) * 2 = k * 2 + 1 + 1 from by omega]
    simpa using ih
theorem flat_snoc (f : List (ByteArray × Int)) (x : ByteArray × Int) : flat (f ++ [x]) = flat f ++ [.string x.1, .int .i64 x.2] := by simp [flat]

/-- Block b is a row of sorts of the call's own. -/
def Fresh (w : World) (b : Nat) (f : List (ByteArray × Int)) : Prop := w.heap[b]? = some (.cells (flat f).toArray 75 (0, 0))
theorem lt_of_heap {w : World} {b : Nat} {o : Obj} (h : w.heap[b]? = some o) : b < w.heap.size := by
  rcases Nat.lt_or_ge b w.heap.size with h1 | h1
  · exact h1
  · rw [Array.getElem?_eq_none h1] at h; cases h
theorem cell_of_heap {w : World} {b : Nat} {cs : Array Value} {t : TypeId} {fr : Nat × Nat} (h : w.heap[b]? = some (.cells cs t fr)) (i : Nat) : w.cell? ⟨b, i, none⟩ = cs[i]? := by simp [World.cell?, h]
theorem free_of_heap {w : World} {b : Nat} {cs : Array Value} {t : TypeId} (h : w.heap[b]? = some (.cells cs t (0, 0))) (i : Nat) : w.frozen? ⟨b, i, none⟩ = false := by simp [World.frozen?, h]
theorem heap_set {w : World} {b i : Nat} {cs : Array Value} {t : TypeId} {fr : Nat × Nat} (h : w.heap[b]? = some (.cells cs t fr)) (v : Value) : (w.setCell ⟨b, i, none⟩ v).heap[b]? = some (.cells (cs.setIfInBounds i v) t fr) := by
  simp [World.setCell, Array.getElem?_modify, h]
theorem Fresh.sorts {w : World} {b lo : Nat} {f : List (ByteArray × Int)} (h : Fresh w b f) (hl : lo ≤ b) : SortsIn w lo (some ⟨b, 0, none⟩) f := fun _ =>
  ⟨b, 0, rfl, hl, lt_of_heap h, fun k hk => by
    have hg := flat_get f k hk
    rw [cell_of_heap h, cell_of_heap h]
    simpa using hg⟩
theorem Fresh.below {w w' : World} {b B : Nat} {f : List (ByteArray × Int)} (h : Fresh w b f) (hb : Below B w w') (hB : b < B) : Fresh w' b f := (hb.block b hB).trans h

/-- The first k sorts are laid, the rest of the row is as it was made. -/
def Part (w : World) (b : Nat) (f : List (ByteArray × Int)) (k : Nat) : Prop :=
  ∃ rest : List Value, rest.length = 2 * (f.length - k) ∧ w.heap[b]? = some (.cells (flat (f.take k) ++ rest).toArray 75 (0, 0))
theorem Part.below {w w' : World} {b B k : Nat} {f : List (ByteArray × Int)} (h : Part w b f k) (hb : Below B w w') (hB : b < B) : Part w' b f k := by
  obtain ⟨r, h1, h2⟩ := h
  exact ⟨r, h1, (hb.block b hB).trans h2⟩
theorem Part.lt {w : World} {b k : Nat} {f : List (ByteArray × Int)} (h : Part w b f k) : b < w.heap.size := by
  obtain ⟨r, h1, h2⟩ := h
  exact lt_of_heap h2
theorem Part.at_ {w : World} {b k : Nat} {f : List (ByteArray × Int)} (h : Part w b f k) (hk : k < f.length) :
    (∃ u, w.cell? ⟨b, k * 2, none⟩ = some u) ∧ (∃ u, w.cell? ⟨b, k * 2 + 1, none⟩ = some u) ∧ w.frozen? ⟨b, k * 2, none⟩ = false ∧ w.frozen? ⟨b, k * 2 + 1, none⟩ = false := by
  obtain ⟨r, h1, h2⟩ := h
  have hl : (flat (f.take k) ++ r).length = 2 * f.length := by
    rw [List.length_append, flat_len, List.length_take, h1]; omega
  refine ⟨?_, ?_, free_of_heap h2 _, free_of_heap h2 _⟩
  · rw [cell_of_heap h2]
    exact ⟨_, Array.getElem?_eq_getElem (by simp only [List.size_toArray]; omega)⟩
  · rw [cell_of_heap h2]
    exact ⟨_, Array.getElem?_eq_getElem (by simp only [List.size_toArray]; omega)⟩
theorem Part.step {w : World} {b k : Nat} {f : List (ByteArray × Int)} (h : Part w b f k) (hk : k < f.length) :
    Part ((w.setCell ⟨b, k * 2, none⟩ (.string f[k].1)).setCell ⟨b, k * 2 + 1, none⟩ (.int .i64 f[k].2)) b f (k + 1) := by
  obtain ⟨r, h1, h2⟩ := h
  match r, h1 with
  | a :: c :: r', h1 =>
    refine ⟨r', by simp at h1; omega, ?_⟩
    rw [heap_set (heap_set h2 _)]
    have hl : (flat (f.take k)).length = k * 2 := by rw [flat_len, List.length_take]; omega
    congr 2
    apply Array.ext'
    simp only [Array.toList_setIfInBounds]
    rw [List.set_append_right _ _ (by omega), hl]
    simp only [Nat.sub_self, List.set_cons_zero]
    rw [List.set_append_right _ _ (by omega), hl, show k * 2 + 1 - k * 2 = 1 from by omega]
    simp only [List.set_cons_succ, List.set_cons_zero]
    rw [List.take_succ_eq_append_getElem hk, flat_snoc]
    simp
  | [], h1 => simp at h1; omega
  | [_], h1 => simp at h1; omega
theorem Part.done {w : World} {b : Nat} {f : List (ByteArray × Int)} (h : Part w b f f.length) : Fresh w b f := by
  obtain ⟨r, h1, h2⟩ := h
  have : r = [] := List.eq_nil_of_length_eq_zero (by omega)
  subst this
  rw [List.take_length, List.append_nil] at h2
  exact h2

theorem heap_new (w : World) (o : Obj) : (w.alloc o).heap[w.heap.size]? = some o := by
  show (w.heap.push o)[w.heap.size]? = _
  simp
theorem Part.start (w : World) (f : List (ByteArray × Int)) (z : Array Value) : Part (w.alloc (.cells (madeCells z (f.length * 2)) 75)) w.heap.size f 0 := by
  refine ⟨(madeCells z (f.length * 2)).toList, by rw [Array.length_toList, size_madeCells]; omega, ?_⟩
  rw [show (w.alloc (.cells (madeCells z (f.length * 2)) 75)).heap[w.heap.size]? = some (.cells (madeCells z (f.length * 2)) 75) from heap_new _ _]
  simp [flat]
theorem info39 : (Tryz.prog.info? 75).map (fun i => (i.zero, i.size, i.bytes)) = some (some (.agg #[.string .empty, .int .i64 0]), 2, 24) := by kernel_rfl

theorem run_make39 (n : Nat) (hn : n ≤ 1048576) (w : World) :
    (Instr.makeSlice 30 (.int .i64 (n : Int)) (.int .i64 (n : Int))).run Tryz.prog w = .ok (.slice (some ⟨w.heap.size, 0, none⟩) n n) (w.alloc (.cells (madeCells #[.string .empty, .int .i64 0] (n * 2)) 75)) := by
  obtain ⟨i0, hi, hz0, hz1, hz2⟩ := info_parts info39
  have h := run_make (P := Tryz.prog) w 30 75 i0 _ Tryz.underlying30 hi hz0 .i64 .i64 (n : Int) (n : Int) (by omega) (Int.le_refl _) (by rw [hz2]; omega) (by omega)
  rw [hz1, Int.toNat_natCast] at h
  exact h

end Go.Proofs.YtnbnegkoanidmaaGreatDoor.S1

/-
  A region that draws its order, whose own operations only read and whose callees change nothing below a block number: one walk in the order of the text serves every order. (No program is named here.)
-/
namespace Go.Proofs.YtnbnegkoanidmaaGreatDoor.S1
open Go.RowKit
set_option linter.unusedVariables false

/-- A world that is as w was below block number B. -/
structure KeptW (B : Nat) (w : World) where
  at_ : World
  below : Below B w at_
instance {B : Nat} {w : World} : Nonempty (KeptW B w) := ⟨⟨w, Below.refl _ _⟩⟩

theorem KeptW.cell {B : Nat} {w : World} {a : Addr} {v : Value} (h : w.cell? a = some v) (hB : a.block < B) (x : KeptW B w) : x.at_.cell? a = some v := (x.below.cell hB).trans h

theorem region_kept (B : Nat) {P : Program} {id : Nat} {Q : Exit → Act → World → Prop} {a : Act} {w : World} {l : List Oper} (hm : P.follows .mixedOrders = true) (hL : Region.lexB .any l.toArray = true)
    (h : wpQuiet P l.toArray (fun w' => ∃ x : KeptW B w, w' = x.at_) (fun a' => ∀ w', Below B w w' → Q .normal a' w') l a) : (Code.region id l.toArray true).wp P Q a w := by
  refine wp_region_quiet (C := fun w' => ∃ x : KeptW B w, w' = x.at_) hm hL ⟨⟨w.drew, (Below.refl _ _).drew⟩, rfl⟩ ?_
  have e : (fun a' => ∀ w', (∃ x : KeptW B w, w' = x.at_) → Q .normal a' w') = fun a' => ∀ w', Below B w w' → Q .normal a' w' :=
    funext fun a' => propext ⟨fun h w' hb => h w' ⟨⟨w', hb⟩, rfl⟩, fun h w' ⟨x, hx⟩ => h w' (hx ▸ x.below)⟩
  rw [e]
  exact h

theorem kept_call {B : Nat} {w : World} {P : Program} {f : FuncId} {args : Array Value} {v : Value} (x : KeptW B w) (hB : B ≤ w.heap.size)
    (h : Calls P f args x.at_ fun e w' => e = .returned v ∧ Below x.at_.heap.size x.at_ w') : Calls P f args x.at_ fun e w'' => e = .returned v ∧ ∃ y : KeptW B w, w'' = y.at_ :=
  h.mono fun _ w'' ⟨he, hb⟩ => ⟨he, ⟨w'', x.below.trans (hb.mono (Nat.le_trans hB x.below.size))⟩, rfl⟩
theorem kept_same {B : Nat} {w : World} {P : Program} {f : FuncId} {args : Array Value} {v : Value} (x : KeptW B w)
    (h : Calls P f args x.at_ fun e w' => e = .returned v ∧ x.at_ = w') : Calls P f args x.at_ fun e w'' => e = .returned v ∧ ∃ y : KeptW B w, w'' = y.at_ :=
  h.mono fun _ _ ⟨he, hb⟩ => ⟨he, x, hb.symm⟩
end Go.Proofs.YtnbnegkoanidmaaGreatDoor.S1

/-
  The contracts of spec.tyFont, spec.IsFont and impl.IsFont: each answers whether the list is a font, and changes nothing that was there.
-/
namespace Go.Proofs.YtnbnegkoanidmaaGreatDoor.S1
open Go.RowKit
set_option linter.unusedVariables false

theorem tySort_is (c : ByteArray) (n : Int) (b : Bool) (w : World) (hs : c.size ≤ maxLen) (h : Hid (tySortF c n = b)) :
    Calls Tryz.prog 61 #[.agg #[.string c, .int .i64 n]] w fun e w' => e = .returned (.bool b) ∧ Below w.heap.size w w' := by
  rw [← h.out]; exact tySort_any c n w hs
theorem implIsSort_is (c : ByteArray) (n : Int) (b : Bool) (w : World) (hs : c.size ≤ maxLen) (h : Hid (tySortF c n = b)) :
    Calls Tryz.prog 60 #[.agg #[.string c, .int .i64 n]] w fun e w' => e = .returned (.bool b) ∧ Below w.heap.size w w' := by
  rw [← h.out]; exact implIsSort_any c n w hs

def okAt (f : List (ByteArray × Int)) (k : Nat) (h : k < f.length) : Bool := tySortF f[k].1 f[k].2 && (k == 0 || Op.bytesLess (f[k-1]'(by omega)).1.toList f[k].1.toList)
def okTo (f : List (ByteArray × Int)) (k : Nat) : Prop := ∀ j (h : j < f.length), j < k → okAt f j h = true
/-- A list of sorts is a font. -/
def Font (f : List (ByteArray × Int)) : Prop := (∀ j (h : j < f.length), okAt f j h = true) ∧ 1 ≤ f.length ∧ f.length ≤ 32
noncomputable def fontB (f : List (ByteArray × Int)) : Bool := @decide (Font f) (Classical.propDecidable _)
theorem fontB_iff {f : List (ByteArray × Int)} : fontB f = true ↔ Font f := by unfold fontB; simp
theorem fontB_no {f : List (ByteArray × Int)} {k : Nat} (h : k < f.length) (hk : okAt f k h = false) : fontB f = false := by
  rw [← Bool.not_eq_true, fontB_iff]
  intro hf
  rw [hf.1 k h] at hk; cases hk
theorem okTo_step {f : List (ByteArray × Int)} {k : Nat} (hs : okTo f k) (h : k < f.length) (hk : okAt f k h = true) : okTo f (k + 1) := by
  intro j hj hjk
  rcases Nat.lt_or_ge j k with h1 | h1
  · exact hs j hj h1
  · obtain rfl : j = k := by omega
    exact hk
theorem fontB_end {f : List (ByteArray × Int)} (hs : okTo f f.length) : fontB f = (decide ((1 : Int) ≤ f.length) && decide ((f.length : Int) ≤ 32)) := by
  rw [Bool.eq_iff_iff, fontB_iff]
  simp only [Bool.and_eq_true, decide_eq_true_eq]
  exact ⟨fun h => by have := h.2; omega, fun h => ⟨fun j hj => hs j hj hj, by omega, by omega⟩⟩
theorem fontB_len {f : List (ByteArray × Int)} (h : f.length < 1 ∨ 32 < f.length) : fontB f = false := by
  rw [← Bool.not_eq_true, fontB_iff]
  intro hf; have := hf.2; omega

set_option maxRecDepth 100000 in
theorem tyFont_any (f : List (ByteArray × Int)) (A : Option Addr) (c : Nat) (lo : Nat) (w : World) (hf : SortsIn w lo A f) (hn : f.length ≤ 1048576) (ho : CodesOk f) :
    Calls Tryz.prog 35 #[.slice A f.length c] w fun e w' => e = .returned (.bool (fontB f)) ∧ Below w.heap.size w w' := by
  have HF := Lib.hid hf; clear hf
  have HO := Lib.hid ho; clear ho
  go_enter Tryz.func35, Tryz.ntmps35
  go_wp2
  go_loopw [7] (fun i wr => ∃ (k : Nat), k ≤ f.length ∧ i = .int .i64 k ∧ okTo f k ∧ Below w.heap.size w wr) (fun i _ => f.length - (intOf i).toNat)
  case atStart => exact ⟨0, Nat.zero_le _, rfl, fun _ _ h => absurd h (by omega), Below.refl _ _⟩
  case round =>
    obtain ⟨k, hk, rfl, hs, hb⟩ := hrel
    have HS := Lib.hid hs; clear hs
    by_cases hlt : k < f.length
    · obtain ⟨b, off, rfl, _, hbl, hc⟩ := HF.out (by omega)
      obtain ⟨hc0, hc1⟩ := hc k hlt
      rw [← hb.cell (p := ⟨b, off + k * 2, none⟩) hbl] at hc0
      rw [← hb.cell (p := ⟨b, off + k * 2 + 1, none⟩) hbl] at hc1
      have hok := HO.out k hlt
      cases hv : tySortF f[k].1 f[k].2
      · have HV := Lib.hid hv; clear hv hc
        go_wp2_with fail
        obtain ⟨W0, hW0⟩ : ∃ W0 : World, W0 = wr.alloc (.cells #[.string f[k].1, .int .i64 f[k].2] 75) := ⟨_, rfl⟩
        rw [← hW0]
        have hs0 : W0.cell? ⟨wr.heap.size, 0, none⟩ = some (.string f[k].1) := by rw [hW0]; simp
        have hs1 : W0.cell? ⟨wr.heap.size, 1, none⟩ = some (.int .i64 f[k].2) := by rw [hW0]; simp
        have hb0 : Below w.heap.size w W0 := by rw [hW0]; exact hb.alloc hb.size _
        have hz0 : wr.heap.size < W0.heap.size := by rw [hW0]; simp
        clear hc0 hc1 hW0
        have hx0 := KeptW.cell hs0 hz0
        have hx1 := KeptW.cell hs1 hz0
        refine region_kept W0.heap.size (by kernel_rfl) (by kernel_rfl) ?_
        repeat (go_big_quiet_step ((go_at_call 61; exact kept_call _ (Nat.le_refl _) (tySort_is _ _ _ _ hok HV))))
        refine wpQuiet_nil ?_
        intro w1 hb1
        have hb' : Below w.heap.size w w1 := hb0.trans (hb1.mono hb0.size)
        clear hb hb0 hb1 hx0 hx1 hs0 hs1 hz0
        go_wp2
        go_ret
        exact ⟨ret_bool (fontB_no hlt (by unfold okAt; rw [HV.out]; rfl)).symm, hb'⟩
      · have HV := Lib.hid hv; clear hv
        rcases Nat.eq_zero_or_pos k with rfl | hpos
        · clear hc
          simp only [Nat.zero_mul, Nat.add_zero] at hc0 hc1
          go_wp2_with fail
          obtain ⟨W0, hW0⟩ : ∃ W0 : World, W0 = wr.alloc (.cells #[.string f[0].1, .int .i64 f[0].2] 75) := ⟨_, rfl⟩
          rw [← hW0]
          have hs0 : W0.cell? ⟨wr.heap.size, 0, none⟩ = some (.string f[0].1) := by rw [hW0]; simp
          have hs1 : W0.cell? ⟨wr.heap.size, 1, none⟩ = some (.int .i64 f[0].2) := by rw [hW0]; simp
          have hb0 : Below w.heap.size w W0 := by rw [hW0]; exact hb.alloc hb.size _
          have hz0 : wr.heap.size < W0.heap.size := by rw [hW0]; simp
          clear hc0 hc1 hW0
          have hx0 := KeptW.cell hs0 hz0
          have hx1 := KeptW.cell hs1 hz0
          refine region_kept W0.heap.size (by kernel_rfl) (by kernel_rfl) ?_
          repeat (go_big_quiet_step ((go_at_call 61; exact kept_call _ (Nat.le_refl _) (tySort_is _ _ _ _ hok HV))))
          refine wpQuiet_nil ?_
          intro w1 hb1
          have hb' : Below w.heap.size w w1 := hb0.trans (hb1.mono hb0.size)
          clear hb hb0 hb1 hx0 hx1 hs0 hs1 hz0
          go_wp2
          go_roundw
          case rel => exact ⟨0 + 1, by omega, by go_num, okTo_step HS.out hlt (by unfold okAt; rw [HV.out]; rfl), hb'⟩
          case measure => simp [intOf]; omega
        · obtain ⟨j, rfl⟩ : ∃ j, k = j + 1 := ⟨k - 1, by omega⟩
          obtain ⟨hp0, _⟩ := hc j (by omega)
          rw [← hb.cell (p := ⟨b, off + j * 2, none⟩) hbl] at hp0
          clear hc
          have hbw : b < wr.heap.size := Nat.lt_of_lt_of_le hbl hb.size
          cases hle : Op.bytesLess f[j].1.toList f[j + 1].1.toList
          · have hge : (!Op.bytesLess f[j].1.toList f[j + 1].1.toList) = true := by rw [hle]; rfl
            have HLE := Lib.hid hle; clear hle
            go_wp2_with fail
            obtain ⟨W0, hW0⟩ : ∃ W0 : World, W0 = wr.alloc (.cells #[.string f[j + 1].1, .int .i64 f[j + 1].2] 75) := ⟨_, rfl⟩
            rw [← hW0]
            have hs0 : W0.cell? ⟨wr.heap.size, 0, none⟩ = some (.string f[j + 1].1) := by rw [hW0]; simp
            have hs1 : W0.cell? ⟨wr.heap.size, 1, none⟩ = some (.int .i64 f[j + 1].2) := by rw [hW0]; simp
            have hb0 : Below w.heap.size w W0 := by rw [hW0]; exact hb.alloc hb.size _
            have hz0 : wr.heap.size < W0.heap.size := by rw [hW0]; simp
            have hq : W0.cell? ⟨b, off + j * 2, none⟩ = some (.string f[j].1) := by rw [hW0, World.cell?_alloc_lt _ _ _ hbw]; exact hp0
            have hbz : b < W0.heap.size := by rw [hW0]; simp; omega
            clear hc0 hc1 hW0
            have hx0 := KeptW.cell hs0 hz0
            have hx1 := KeptW.cell hs1 hz0
            have hq0 : W0.cell? ⟨b, off + j * 2, none⟩ = some (.string f[j].1) := hq
            have hxq := KeptW.cell hq0 hbz
            clear hp0
            refine region_kept W0.heap.size (by kernel_rfl) (by kernel_rfl) ?_
            repeat (go_big_quiet_step ((go_at_call 61; exact kept_call _ (Nat.le_refl _) (tySort_is _ _ _ _ hok HV))))
            refine wpQuiet_nil ?_
            intro w1 hb1
            have hb' : Below w.heap.size w w1 := hb0.trans (hb1.mono hb0.size)
            clear hb hb0 hb1 hx0 hx1 hs0 hs1 hz0
            clear hq hq0 hxq hbz
            go_wp2
            go_ret
            exact ⟨ret_bool (fontB_no hlt (by unfold okAt; rw [HV.out]; simp [HLE.out])).symm, hb'⟩
          · have hge : (!Op.bytesLess f[j].1.toList f[j + 1].1.toList) = false := by rw [hle]; rfl
            have HLE := Lib.hid hle; clear hle
            go_wp2_with fail
            obtain ⟨W0, hW0⟩ : ∃ W0 : World, W0 = wr.alloc (.cells #[.string f[j + 1].1, .int .i64 f[j + 1].2] 75) := ⟨_, rfl⟩
            rw [← hW0]
            have hs0 : W0.cell? ⟨wr.heap.size, 0, none⟩ = some (.string f[j + 1].1) := by rw [hW0]; simp
            have hs1 : W0.cell? ⟨wr.heap.size, 1, none⟩ = some (.int .i64 f[j + 1].2) := by rw [hW0]; simp
            have hb0 : Below w.heap.size w W0 := by rw [hW0]; exact hb.alloc hb.size _
            have hz0 : wr.heap.size < W0.heap.size := by rw [hW0]; simp
            have hq : W0.cell? ⟨b, off + j * 2, none⟩ = some (.string f[j].1) := by rw [hW0, World.cell?_alloc_lt _ _ _ hbw]; exact hp0
            have hbz : b < W0.heap.size := by rw [hW0]; simp; omega
            clear hc0 hc1 hW0
            have hx0 := KeptW.cell hs0 hz0
            have hx1 := KeptW.cell hs1 hz0
            have hq0 : W0.cell? ⟨b, off + j * 2, none⟩ = some (.string f[j].1) := hq
            have hxq := KeptW.cell hq0 hbz
            clear hp0
            refine region_kept W0.heap.size (by kernel_rfl) (by kernel_rfl) ?_
            repeat (go_big_quiet_step ((go_at_call 61; exact kept_call _ (Nat.le_refl _) (tySort_is _ _ _ _ hok HV))))
            refine wpQuiet_nil ?_
            intro w1 hb1
            have hb' : Below w.heap.size w w1 := hb0.trans (hb1.mono hb0.size)
            clear hb hb0 hb1 hx0 hx1 hs0 hs1 hz0
            clear hq hq0 hxq hbz
            go_wp2
            go_roundw
            case rel => exact ⟨j + 1 + 1, by omega, by go_num, okTo_step HS.out hlt (by unfold okAt; rw [HV.out]; simp [HLE.out]), hb'⟩
            case measure => simp [intOf]; omega
    · obtain rfl : k = f.length := by omega
      go_wp2_with (go_at_call 24; refine (in_any _ _ _ _).mono ?_; rintro e w' ⟨rfl, rfl⟩)
      go_ret
      exact ⟨ret_bool (fontB_end HS.out).symm, hb⟩

set_option maxRecDepth 100000 in
theorem implIsFont_pos (f : List (ByteArray × Int)) (A : Option Addr) (c : Nat) (lo : Nat) (w : World) (hf : SortsIn w lo A f) (hn : f.length ≤ 1048576) (ho : CodesOk f) (hl1 : 1 ≤ f.length) (hl2 : f.length ≤ 32) :
    Calls Tryz.prog 33 #[.slice A f.length c] w fun e w' => e = .returned (.bool (fontB f)) ∧ Below w.heap.size w w' := by
  have HF := Lib.hid hf; clear hf
  have HO := Lib.hid ho; clear ho
  go_enter Tryz.func33, Tryz.ntmps33
  go_wp2
  go_loopw [15] (fun i wr => ∃ (k : Nat), k ≤ f.length ∧ i = .int .i64 k ∧ okTo f k ∧ Below w.heap.size w wr) (fun i _ => f.length - (intOf i).toNat)
  case atStart => exact ⟨0, Nat.zero_le _, rfl, fun _ _ h => absurd h (by omega), Below.refl _ _⟩
  case round =>
    obtain ⟨k, hk, rfl, hs, hb⟩ := hrel
    have HS := Lib.hid hs; clear hs
    by_cases hlt : k < f.length
    · obtain ⟨b, off, rfl, _, hbl, hc⟩ := HF.out (by omega)
      obtain ⟨hc0, hc1⟩ := hc k hlt
      rw [← hb.cell (p := ⟨b, off + k * 2, none⟩) hbl] at hc0
      rw [← hb.cell (p := ⟨b, off + k * 2 + 1, none⟩) hbl] at hc1
      have hok := HO.out k hlt
      cases hv : tySortF f[k].1 f[k].2
      · have HV := Lib.hid hv; clear hv hc
        go_wp2_with fail
        obtain ⟨W0, hW0⟩ : ∃ W0 : World, W0 = wr.alloc (.cells #[.string f[k].1, .int .i64 f[k].2] 75) := ⟨_, rfl⟩
        rw [← hW0]
        have hs0 : W0.cell? ⟨wr.heap.size, 0, none⟩ = some (.string f[k].1) := by rw [hW0]; simp
        have hs1 : W0.cell? ⟨wr.heap.size, 1, none⟩ = some (.int .i64 f[k].2) := by rw [hW0]; simp
        have hb0 : Below w.heap.size w W0 := by rw [hW0]; exact hb.alloc hb.size _
        have hz0 : wr.heap.size < W0.heap.size := by rw [hW0]; simp
        clear hc0 hc1 hW0
        have hx0 := KeptW.cell hs0 hz0
        have hx1 := KeptW.cell hs1 hz0
        refine region_kept W0.heap.size (by kernel_rfl) (by kernel_rfl) ?_
        repeat (go_big_quiet_step ((go_at_call 60; exact kept_call _ (Nat.le_refl _) (implIsSort_is _ _ _ _ hok HV))))
        refine wpQuiet_nil ?_
        intro w1 hb1
        have hb' : Below w.heap.size w w1 := hb0.trans (hb1.mono hb0.size)
        clear hb hb0 hb1 hx0 hx1 hs0 hs1 hz0
        go_wp2
        go_ret
        exact ⟨ret_bool (fontB_no hlt (by unfold okAt; rw [HV.out]; rfl)).symm, hb'⟩
      · have HV := Lib.hid hv; clear hv
        rcases Nat.eq_zero_or_pos k with rfl | hpos
        · clear hc
          simp only [Nat.zero_mul, Nat.add_zero] at hc0 hc1
          go_wp2_with fail
          obtain ⟨W0, hW0⟩ : ∃ W0 : World, W0 = wr.alloc (.cells #[.string f[0].1, .int .i64 f[0].2] 75) := ⟨_, rfl⟩
          rw [← hW0]
          have hs0 : W0.cell? ⟨wr.heap.size, 0, none⟩ = some (.string f[0].1) := by rw [hW0]; simp
          have hs1 : W0.cell? ⟨wr.heap.size, 1, none⟩ = some (.int .i64 f[0].2) := by rw [hW0]; simp
          have hb0 : Below w.heap.size w W0 := by rw [hW0]; exact hb.alloc hb.size _
          have hz0 : wr.heap.size < W0.heap.size := by rw [hW0]; simp
          clear hc0 hc1 hW0
          have hx0 := KeptW.cell hs0 hz0
          have hx1 := KeptW.cell hs1 hz0
          refine region_kept W0.heap.size (by kernel_rfl) (by kernel_rfl) ?_
          repeat (go_big_quiet_step ((go_at_call 60; exact kept_call _ (Nat.le_refl _) (implIsSort_is _ _ _ _ hok HV))))
          refine wpQuiet_nil ?_
          intro w1 hb1
          have hb' : Below w.heap.size w w1 := hb0.trans (hb1.mono hb0.size)
          clear hb hb0 hb1 hx0 hx1 hs0 hs1 hz0
          go_wp2
          go_roundw
          case rel => exact ⟨0 + 1, by omega, by go_num, okTo_step HS.out hlt (by unfold okAt; rw [HV.out]; rfl), hb'⟩
          case measure => simp [intOf]; omega
        · obtain ⟨j, rfl⟩ : ∃ j, k = j + 1 := ⟨k - 1, by omega⟩
          obtain ⟨hp0, _⟩ := hc j (by omega)
          rw [← hb.cell (p := ⟨b, off + j * 2, none⟩) hbl] at hp0
          clear hc
          have hbw : b < wr.heap.size := Nat.lt_of_lt_of_le hbl hb.size
          cases hle : Op.bytesLess f[j].1.toList f[j + 1].1.toList
          · have hge : (!Op.bytesLess f[j].1.toList f[j + 1].1.toList) = true := by rw [hle]; rfl
            have HLE := Lib.hid hle; clear hle
            go_wp2_with fail
            obtain ⟨W0, hW0⟩ : ∃ W0 : World, W0 = wr.alloc (.cells #[.string f[j + 1].1, .int .i64 f[j + 1].2] 75) := ⟨_, rfl⟩
            rw [← hW0]
            have hs0 : W0.cell? ⟨wr.heap.size, 0, none⟩ = some (.string f[j + 1].1) := by rw [hW0]; simp
            have hs1 : W0.cell? ⟨wr.heap.size, 1, none⟩ = some (.int .i64 f[j + 1].2) := by rw [hW0]; simp
            have hb0 : Below w.heap.size w W0 := by rw [hW0]; exact hb.alloc hb.size _
            have hz0 : wr.heap.size < W0.heap.size := by rw [hW0]; simp
            have hq : W0.cell? ⟨b, off + j * 2, none⟩ = some (.string f[j].1) := by rw [hW0, World.cell?_alloc_lt _ _ _ hbw]; exact hp0
            have hbz : b < W0.heap.size := by rw [hW0]; simp; omega
            clear hc0 hc1 hW0
            have hx0 := KeptW.cell hs0 hz0
            have hx1 := KeptW.cell hs1 hz0
            have hq0 : W0.cell? ⟨b, off + j * 2, none⟩ = some (.string f[j].1) := hq
            have hxq := KeptW.cell hq0 hbz
            clear hp0
            refine region_kept W0.heap.size (by kernel_rfl) (by kernel_rfl) ?_
            repeat (go_big_quiet_step ((go_at_call 60; exact kept_call _ (Nat.le_refl _) (implIsSort_is _ _ _ _ hok HV))))
            refine wpQuiet_nil ?_
            intro w1 hb1
            have hb' : Below w.heap.size w w1 := hb0.trans (hb1.mono hb0.size)
            clear hb hb0 hb1 hx0 hx1 hs0 hs1 hz0
            clear hq hq0 hxq hbz
            go_wp2
            go_ret
            exact ⟨ret_bool (fontB_no hlt (by unfold okAt; rw [HV.out]; simp [HLE.out])).symm, hb'⟩
          · have hge : (!Op.bytesLess f[j].1.toList f[j + 1].1.toList) = false := by rw [hle]; rfl
            have HLE := Lib.hid hle; clear hle
            go_wp2_with fail
            obtain ⟨W0, hW0⟩ : ∃ W0 : World, W0 = wr.alloc (.cells #[.string f[j + 1].1, .int .i64 f[j + 1].2] 75) := ⟨_, rfl⟩
            rw [← hW0]
            have hs0 : W0.cell? ⟨wr.heap.size, 0, none⟩ = some (.string f[j + 1].1) := by rw [hW0]; simp
            have hs1 : W0.cell? ⟨wr.heap.size, 1, none⟩ = some (.int .i64 f[j + 1].2) := by rw [hW0]; simp
            have hb0 : Below w.heap.size w W0 := by rw [hW0]; exact hb.alloc hb.size _
            have hz0 : wr.heap.size < W0.heap.size := by rw [hW0]; simp
            have hq : W0.cell? ⟨b, off + j * 2, none⟩ = some (.string f[j].1) := by rw [hW0, World.cell?_alloc_lt _ _ _ hbw]; exact hp0
            have hbz : b < W0.heap.size := by rw [hW0]; simp; omega
            clear hc0 hc1 hW0
            have hx0 := KeptW.cell hs0 hz0
            have hx1 := KeptW.cell hs1 hz0
            have hq0 : W0.cell? ⟨b, off + j * 2, none⟩ = some (.string f[j].1) := hq
            have hxq := KeptW.cell hq0 hbz
            clear hp0
            refine region_kept W0.heap.size (by kernel_rfl) (by kernel_rfl) ?_
            repeat (go_big_quiet_step ((go_at_call 60; exact kept_call _ (Nat.le_refl _) (implIsSort_is _ _ _ _ hok HV))))
            refine wpQuiet_nil ?_
            intro w1 hb1
            have hb' : Below w.heap.size w w1 := hb0.trans (hb1.mono hb0.size)
            clear hb hb0 hb1 hx0 hx1 hs0 hs1 hz0
            clear hq hq0 hxq hbz
            go_wp2
            go_roundw
            case rel => exact ⟨j + 1 + 1, by omega, by go_num, okTo_step HS.out hlt (by unfold okAt; rw [HV.out]; simp [HLE.out]), hb'⟩
            case measure => simp [intOf]; omega
    · obtain rfl : k = f.length := by omega
      go_wp2
      go_ret
      have d1 : decide ((1 : Int) ≤ f.length) = true := decide_eq_true (by omega)
      have d2 : decide ((f.length : Int) ≤ 32) = true := decide_eq_true (by omega)
      exact ⟨ret_bool (by rw [fontB_end HS.out, d1, d2]; rfl), hb⟩

theorem implIsFont_any (f : List (ByteArray × Int)) (A : Option Addr) (c : Nat) (lo : Nat) (w : World) (hf : SortsIn w lo A f) (hn : f.length ≤ 1048576) (ho : CodesOk f) :
    Calls Tryz.prog 33 #[.slice A f.length c] w fun e w' => e = .returned (.bool (fontB f)) ∧ Below w.heap.size w w' := by
  rcases (by omega : f.length < 1 ∨ 32 < f.length ∨ (1 ≤ f.length ∧ f.length ≤ 32)) with h | h | ⟨h1, h2⟩
  · have HE := Lib.hid (fontB_len (f := f) (.inl h))
    go_enter Tryz.func33, Tryz.ntmps33
    go_wp2
    go_ret
    exact ⟨ret_bool HE.out.symm, Below.refl _ _⟩
  · have HE := Lib.hid (fontB_len (f := f) (.inr h))
    have h1 : ¬ (f.length : Int) < 1 := by omega
    have h2 : (32 : Int) < f.length := by omega
    go_enter Tryz.func33, Tryz.ntmps33
    go_wp2
    go_ret
    exact ⟨ret_bool HE.out.symm, Below.refl _ _⟩
  · exact implIsFont_pos f A c lo w hf hn ho h1 h2

end Go.Proofs.YtnbnegkoanidmaaGreatDoor.S1

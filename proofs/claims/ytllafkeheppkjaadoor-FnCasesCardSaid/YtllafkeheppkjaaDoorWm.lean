import Derived.Test.YtllafkeheppkjaaDoorWy
/-
  The contracts of impl.boxesOfCodes, impl.placeBoxes, impl.distance, impl.place's wayTo, impl.wayOver and impl.HandWay.
-/
namespace Go.Proofs.YtllafkeheppkjaaDoor
open Go.RowKit
set_option linter.unusedVariables false

def idxZ (is : List Nat) : List Int := is.map fun i : Nat => (i : Int)
theorem idxZ_len (is : List Nat) : (idxZ is).length = is.length := by simp [idxZ]
/-- The indices of all Codes of a case, or nothing. -/
noncomputable def ixR (l : List Bx) (cs : List ByteArray) : Option (List Nat) := if askB2 l cs = true then some (ixs l cs) else none
def IxTo (w w' : World) (e : Ending) (r : Option (List Nat)) : Prop :=
  ∃ v, e = .returned (.tuple #[v, .bool r.isSome]) ∧ Below w.heap.size w w' ∧ w'.ownsRow w.heap.size 3 1 v (r.getD []).length (intsZ (idxZ (r.getD [])))
theorem IxTo.no {w w' : World} {r : Option (List Nat)} (h : r = none) (hb : Below w.heap.size w w') : IxTo w w' (.returned (.tuple #[.slice none 0 0, .bool false])) r := by subst h; exact ⟨_, rfl, hb, own_nil _ _ _ _⟩
theorem run_makeInts (n : Nat) (hn : n ≤ 1048576) (w : World) :
    (Instr.makeSlice 86 (.int .i64 (n : Int)) (.int .i64 (n : Int))).run Tryd.prog w = .ok (.slice (some ⟨w.heap.size, 0, none⟩) n n) (w.alloc (.cells (madeCells #[.int .i64 0] (n * 1)) 3)) := by
  obtain ⟨i0, hi, hz0, hz1, hz2⟩ := info_parts info3
  have h := run_make (P := Tryd.prog) w 86 3 i0 _ Tryd.underlying86 hi hz0 .i64 .i64 (n : Int) (n : Int) (by omega) (Int.le_refl _) (by rw [hz2]; omega) (by omega)
  rw [hz1, Int.toNat_natCast] at h
  exact h
theorem Marked.own_ints1 {w : World} {b base : Nat} {e : TypeId} {l : List Int} (h : Marked w b e l.length (intsZ l)) (hb : base ≤ b) (hn : l.length ≤ maxLen) : w.ownsRow base e 1 (.slice (some ⟨b, 0, none⟩) l.length l.length) l.length (intsZ l) := by
  obtain ⟨cur, h1, h2, h3⟩ := h
  have hz : (intsZ l).length = l.length := by simp [intsZ]
  exact ⟨by rw [hz]; omega, .inr ⟨b, l.length, cur, rfl, hb, h1, Nat.le_refl _, hn, by rw [h2]; omega, by rw [Nat.mul_one, ← hz]; exact h3⟩⟩

set_option maxRecDepth 100000 in
set_option maxHeartbeats 1000000 in
theorem boxesOfCodes_any (l : List Bx) (A : Option Addr) (c : Nat) (cs : List ByteArray) (B : Option Addr) (d : Nat) (w : World) (hf : BxsIn w A l) (hn : l.length ≤ 1048576) (ho : BxsOk l) (hs : StrsIn w B cs) (hso : StrsOk cs) (hm : cs.length ≤ 1048576) :
    Calls Tryd.prog 65 #[.slice A l.length c, .slice B cs.length d] w fun e w' => IxTo w w' e (ixR l cs) := by
  have HF := Lib.hid hf; clear hf
  have HO := Lib.hid ho; clear ho
  have HS := Lib.hid hs; clear hs
  cases hv : caseB l
  · have HE : Hid (ixR l cs = none) := Lib.hid (by unfold ixR askB2; rw [hv]; simp)
    have HV := Lib.hid hv; clear hv
    go_enter Tryd.func65, Tryd.ntmps65
    go_wp2_with fail
    refine (implIsCase_is l _ A c _ HF.out hn HO.out HV).mono ?_
    rintro e w1 ⟨rfl, hb1⟩
    go_wp2
    go_ret2
    exact IxTo.no HE.out hb1
  · by_cases hlen : cs.length ≤ 60
    · have HIX : Hid (∀ b, (cs.all fun c => decide (0 ≤ caI l c)) = b → ixR l cs = if b = true then some (ixs l cs) else none) := Lib.hid (fun b h => by
        unfold ixR askB2; rw [h, hv, decide_eq_true hlen]; simp)
      have HC := Lib.hid (caseB_iff.1 hv)
      have HV := Lib.hid hv; clear hv
      have hl60 : ¬ (60 : Int) < cs.length := by omega
      have hmk := run_makeInts cs.length hm
      go_enter Tryd.func65, Tryd.ntmps65
      go_wp2_with fail
      refine (implIsCase_is l _ A c _ HF.out hn HO.out HV).mono ?_
      rintro e w1 ⟨rfl, hb1⟩
      have HB1 := Lib.hid hb1; clear hb1
      have hst : Marked (w1.alloc (.cells (madeCells #[.int .i64 0] (cs.length * 1)) 3)) w1.heap.size 3 cs.length (intsZ (idxZ ((ixs l cs).take 0))) := ⟨_, heap_new _ _, by rw [size_madeCells]; simp, by simp [intsZ, idxZ]⟩
      generalize hz : madeCells #[.int .i64 0] (cs.length * 1) = cs0 at *
      have HST := Lib.hid hst; clear hst hz
      go_wp2
      go_loopw [24] (fun i wr => ∃ (k : Nat), k ≤ cs.length ∧ i = .int .i64 k ∧ (∀ j (h : j < cs.length), j < k → 0 ≤ caI l cs[j]) ∧ Marked wr w1.heap.size 3 cs.length (intsZ (idxZ ((ixs l cs).take k))) ∧ Below w1.heap.size w1 wr) (fun i _ => cs.length - (intOf i).toNat)
      case atStart => exact ⟨0, Nat.zero_le _, rfl, fun _ _ h => absurd h (by omega), HST.out, (Below.refl _ _).alloc (Nat.le_refl _) _⟩
      case round =>
        obtain ⟨k, hk, rfl, hall, hmd, hb⟩ := hrel
        have HALL := Lib.hid hall; clear hall hmk
        have hbw := HB1.out.trans (hb.mono HB1.out.size)
        by_cases hlt : k < cs.length
        · obtain ⟨b, off, rfl, hbl, hc⟩ := HS.out (by omega)
          have hc0 := hc k hlt
          clear hc
          rw [← hbw.cell (p := ⟨b, off + k, none⟩) hbl] at hc0
          have HF1 := Lib.hid (HF.out.below hbw (Nat.le_refl _))
          clear hbw
          go_wp2_with fail
          refine (indexOfBox_any l A c cs[k] _ HF1.out HC.out).mono ?_
          rintro e w2 ⟨i, hi, hv, rfl, hb2⟩
          have hb' := hb.trans (hb2.mono hb.size)
          have hmd2 := hmd.below hb2
          clear hb hb2 hmd hc0
          by_cases h0 : 0 ≤ caI l cs[k]
          · rw [decide_eq_true h0]
            obtain ⟨⟨u, hu⟩, hz⟩ := hmd2.at_ (j := k) hlt
            have hik := hv h0
            have hlk : (ixs l cs).length = cs.length := by simp [ixs]
            have HMN : Hid (Marked (w2.setCell ⟨w1.heap.size, k, none⟩ (.int .i64 (i : Int))) w1.heap.size 3 cs.length (intsZ (idxZ ((ixs l cs).take (k + 1))))) := Lib.hid (by
              have h := hmd2.stepAt k (by simp [intsZ, idxZ]; omega) hlt (.int .i64 (i : Int))
              have e1 : (ixs l cs)[k]'(by omega) = i := by
                show (cs.map (kI l))[k]'(by simpa [ixs] using hlt) = i
                rw [List.getElem_map]
                unfold kI; omega
              rw [List.take_succ_eq_append_getElem (by omega), e1]
              simpa [intsZ, idxZ] using h)
            have HNX : Hid (∀ j (h : j < cs.length), j < k + 1 → 0 ≤ caI l cs[j]) := Lib.hid (fun j h hj => by
              rcases Nat.lt_or_ge j k with h1 | h1
              · exact HALL.out j h h1
              · obtain rfl : j = k := by omega
                exact h0)
            have HBN := Lib.hid (hb'.setCell (p := ⟨w1.heap.size, k, none⟩) (Nat.le_refl _) (.int .i64 (i : Int)))
            clear hmd2 hb' hv hik hlk
            go_wp2
            go_roundw
            case rel => exact ⟨k + 1, by omega, by go_num, HNX.out, HMN.out, HBN.out⟩
            case measure => simp [intOf]; omega
          · have HE := Lib.hid (HIX.out false (by rw [List.all_eq_false]; exact ⟨cs[k], List.getElem_mem hlt, by simpa using h0⟩))
            rw [decide_eq_false h0]
            have HBF := Lib.hid (HB1.out.trans (hb'.mono HB1.out.size))
            clear hmd2 hb' hv
            go_wp2
            go_ret2
            exact IxTo.no (by rw [HE.out]; rfl) HBF.out
        · obtain rfl : k = cs.length := by omega
          have HE := Lib.hid (HIX.out true (by
            rw [List.all_eq_true]
            intro x hx
            obtain ⟨j, hj, rfl⟩ := List.mem_iff_getElem.1 hx
            exact decide_eq_true (HALL.out j hj hj)))
          have hlk : (ixs l cs).length = cs.length := by simp [ixs]
          have HOW : Hid (wr.ownsRow w.heap.size 3 1 (.slice (some ⟨w1.heap.size, 0, none⟩) cs.length cs.length) (ixs l cs).length (intsZ (idxZ (ixs l cs)))) := Lib.hid (by
            rw [List.take_of_length_le (by omega)] at hmd
            have h := Marked.own_ints1 (base := w.heap.size) (l := idxZ (ixs l cs)) (by rw [idxZ_len, hlk]; exact hmd) HB1.out.size (by rw [idxZ_len, hlk]; unfold maxLen; omega)
            rw [idxZ_len, hlk] at h
            rw [hlk]; exact h)
          have HBF := Lib.hid hbw
          clear hmd hbw hb
          go_wp2
          go_ret2
          exact ⟨_, by rw [HE.out]; rfl, HBF.out, by rw [HE.out]; exact HOW.out⟩
    · have HE : Hid (ixR l cs = none) := Lib.hid (by unfold ixR askB2; rw [decide_eq_false hlen]; simp)
      have HV := Lib.hid hv; clear hv
      have hl60 : (60 : Int) < cs.length := by omega
      go_enter Tryd.func65, Tryd.ntmps65
      go_wp2_with fail
      refine (implIsCase_is l _ A c _ HF.out hn HO.out HV).mono ?_
      rintro e w1 ⟨rfl, hb1⟩
      go_wp2
      go_ret2
      exact IxTo.no HE.out hb1

/-- Boxes with their places: the cells of impl.placedBox. -/
def Bx.pvals (s : Bx) : List Value := [.int .i64 s.row, .int .i64 s.col, .string s.cod, .int .i64 s.cnt]
def flatPb (f : List Bx) : List Value := f.flatMap fun s => s.pvals
theorem flatPb_len (f : List Bx) : (flatPb f).length = 4 * f.length := by
  induction f with
  | nil => rfl
  | cons x r ih => simp [flatPb, Bx.pvals] at ih ⊢; omega
theorem flatPb_snoc (f : List Bx) (s : Bx) : flatPb (f ++ [s]) = flatPb f ++ [.int .i64 s.row, .int .i64 s.col, .string s.cod, .int .i64 s.cnt] := by simp [flatPb, Bx.pvals]
theorem flatPb_get : ∀ (f : List Bx) (k : Nat) (h : k < f.length), (flatPb f)[k * 4]? = some (.int .i64 f[k].row) ∧ (flatPb f)[k * 4 + 1]? = some (.int .i64 f[k].col) ∧ (flatPb f)[k * 4 + 2]? = some (.string f[k].cod) ∧ (flatPb f)[k * 4 + 3]? = some (.int .i64 f[k].cnt)
  | x :: r, 0, _ => ⟨rfl, rfl, rfl, rfl⟩
  | x :: r, k + 1, h => by
    have ih := flatPb_get r k (by simpa using h)
    have e : flatPb (x :: r) = .int .i64 x.row :: .int .i64 x.col :: .string x.cod :: .int .i64 x.cnt :: flatPb r := rfl
    rw [e, show (k + 1) * 4 = k * 4 + 1 + 1 + 1 + 1 from by omega]
    simpa using ih
def PbsIn (w : World) (A : Option Addr) (f : List Bx) : Prop :=
  0 < f.length → ∃ b off, A = some ⟨b, off, none⟩ ∧ b < w.heap.size ∧ ∀ k (h : k < f.length), w.cell? ⟨b, off + k * 4, none⟩ = some (.int .i64 f[k].row) ∧ w.cell? ⟨b, off + k * 4 + 1, none⟩ = some (.int .i64 f[k].col) ∧ w.cell? ⟨b, off + k * 4 + 2, none⟩ = some (.string f[k].cod) ∧ w.cell? ⟨b, off + k * 4 + 3, none⟩ = some (.int .i64 f[k].cnt)
theorem PbsIn.below {w w' : World} {B : Nat} {A : Option Addr} {f : List Bx} (h : PbsIn w A f) (hb : Below B w w') (hB : w.heap.size ≤ B) : PbsIn w' A f := by
  intro hn
  obtain ⟨b, off, rfl, h2, h3⟩ := h hn
  refine ⟨b, off, rfl, Nat.lt_of_lt_of_le h2 hb.size, fun k hk => ?_⟩
  rw [hb.cell (by show b < B; omega), hb.cell (by show b < B; omega), hb.cell (by show b < B; omega), hb.cell (by show b < B; omega)]
  exact h3 k hk
theorem PbsIn.next {w w' : World} {A : Option Addr} {f : List Bx} (h : PbsIn w A f) (hb : Below w.heap.size w w') : PbsIn w' A f := h.below hb (Nat.le_refl _)
theorem own_pbs {w : World} {base n : Nat} {e : TypeId} {v : Value} {l : List Bx} (h : w.ownsRow base e 4 v n (flatPb l)) : ∃ A c, v = .slice A l.length c ∧ n = l.length ∧ l.length ≤ c ∧ PbsIn w A l := by
  have hn : n = l.length := by have := h.1; rw [flatPb_len] at this; omega
  subst hn
  rcases h.2 with ⟨rfl, h0⟩ | ⟨g, cap, cur, rfl, hg, hh, h1, h2, h3, h4⟩
  · exact ⟨none, 0, by rw [h0], rfl, by omega, fun h => absurd h (by omega)⟩
  · refine ⟨_, _, rfl, rfl, h1, fun _ => ⟨g, 0, rfl, lt_of_heap hh, fun k hk => ?_⟩⟩
    have hgt := flatPb_get l k hk
    rw [Nat.zero_add, h.cellAt (k * 4) (by omega), h.cellAt (k * 4 + 1) (by omega), h.cellAt (k * 4 + 2) (by omega), h.cellAt (k * 4 + 3) (by omega)]
    exact hgt
theorem Marked.own_pb {w : World} {b m base : Nat} {e : TypeId} {l : List Bx} (h : Marked w b e m (flatPb l)) (hm : m = l.length * 4) (hb : base ≤ b) (hn : l.length ≤ maxLen) : w.ownsRow base e 4 (.slice (some ⟨b, 0, none⟩) l.length l.length) l.length (flatPb l) := by
  obtain ⟨cur, h1, h2, h3⟩ := h
  exact ⟨by rw [flatPb_len]; omega, .inr ⟨b, l.length, cur, rfl, hb, h1, Nat.le_refl _, hn, by rw [h2, hm], by rw [show l.length * 4 = (flatPb l).length from by rw [flatPb_len]; omega]; exact h3⟩⟩
theorem infoPb : (Tryd.prog.info? 75).map (fun i => (i.zero, i.size, i.bytes)) = some (some (.agg #[.int .i64 0, .int .i64 0, .string .empty, .int .i64 0]), 4, 40) := by kernel_rfl
theorem run_makePb (n : Nat) (hn : n ≤ 1048576) (w : World) :
    (Instr.makeSlice 89 (.int .i64 (n : Int)) (.int .i64 (n : Int))).run Tryd.prog w = .ok (.slice (some ⟨w.heap.size, 0, none⟩) n n) (w.alloc (.cells (madeCells #[.int .i64 0, .int .i64 0, .string .empty, .int .i64 0] (n * 4)) 75)) := by
  obtain ⟨i0, hi, hz0, hz1, hz2⟩ := info_parts infoPb
  have h := run_make (P := Tryd.prog) w 89 75 i0 _ Tryd.underlying89 hi hz0 .i64 .i64 (n : Int) (n : Int) (by omega) (Int.le_refl _) (by rw [hz2]; omega) (by omega)
  rw [hz1, Int.toNat_natCast] at h
  exact h
def PbTo (w w' : World) (e : Ending) (l : List Bx) : Prop := ∃ v, e = .returned v ∧ Below w.heap.size w w' ∧ w'.ownsRow w.heap.size 75 4 v l.length (flatPb l)

set_option maxRecDepth 100000 in
set_option maxHeartbeats 1000000 in
theorem placeBoxes_any (f : List Bx) (A : Option Addr) (c : Nat) (w : World) (hf : BxsIn w A f) (hn : f.length ≤ 1048576) :
    Calls Tryd.prog 54 #[.slice A f.length c] w fun e w' => PbTo w w' e f := by
  have HF := Lib.hid hf; clear hf
  have hmk := run_makePb f.length hn
  have hst : Marked (w.alloc (.cells (madeCells #[.int .i64 0, .int .i64 0, .string .empty, .int .i64 0] (f.length * 4)) 75)) w.heap.size 75 (f.length * 4) (flatPb (f.take 0)) := ⟨_, heap_new _ _, size_madeCells _ _, by simp [flatPb]⟩
  generalize hz : madeCells #[.int .i64 0, .int .i64 0, .string .empty, .int .i64 0] (f.length * 4) = cs0 at *
  go_enter Tryd.func54, Tryd.ntmps54
  have HST := Lib.hid hst; clear hst hz
  go_wp2
  go_loopw [11] (fun i wr => ∃ (k : Nat), k ≤ f.length ∧ i = .int .i64 k ∧ Marked wr w.heap.size 75 (f.length * 4) (flatPb (f.take k)) ∧ Below w.heap.size w wr) (fun i _ => f.length - (intOf i).toNat)
  case atStart => exact ⟨0, Nat.zero_le _, rfl, HST.out, (Below.refl _ _).alloc (Nat.le_refl _) _⟩
  case round =>
    obtain ⟨k, hk, rfl, hp, hb⟩ := hrel
    clear hmk
    by_cases hlt : k < f.length
    · obtain ⟨b, off, rfl, hbl, hc⟩ := HF.out (by omega)
      obtain ⟨hc0, hc1, hc2, hc3⟩ := hc k hlt
      clear hc
      rw [← hb.cell (p := ⟨b, off + k * 4, none⟩) hbl] at hc0
      rw [← hb.cell (p := ⟨b, off + k * 4 + 1, none⟩) hbl] at hc1
      rw [← hb.cell (p := ⟨b, off + k * 4 + 2, none⟩) hbl] at hc2
      rw [← hb.cell (p := ⟨b, off + k * 4 + 3, none⟩) hbl] at hc3
      have hp0 := hp.below ((Below.refl _ _).alloc (Nat.le_refl _) (.cells #[.string f[k].cod, .int .i64 f[k].row, .int .i64 f[k].col, .int .i64 f[k].cnt] 40))
      have hb0 := hb.alloc hb.size (.cells #[.string f[k].cod, .int .i64 f[k].row, .int .i64 f[k].col, .int .i64 f[k].cnt] 40)
      clear hp hb
      go_wp2_with fail
      refine (placeBox_any f[k] _).mono ?_
      rintro e w1 ⟨rfl, hb1⟩
      have hp1 := hp0.below (hb1.mono (Nat.le_refl _))
      have hb' : Below w.heap.size w w1 := hb0.trans (hb1.mono hb0.size)
      have hl : (flatPb (f.take k)).length = k * 4 := by rw [flatPb_len, List.length_take]; omega
      obtain ⟨⟨u0, hu0⟩, hz0⟩ := hp1.at_ (j := k * 4) (by omega)
      obtain ⟨⟨u1, hu1⟩, hz1⟩ := hp1.at_ (j := k * 4 + 1) (by omega)
      obtain ⟨⟨u2, hu2⟩, hz2⟩ := hp1.at_ (j := k * 4 + 2) (by omega)
      obtain ⟨⟨u3, hu3⟩, hz3⟩ := hp1.at_ (j := k * 4 + 3) (by omega)
      have m0 : Marked (w1.setCell ⟨w.heap.size, k * 4, none⟩ (.int .i64 f[k].row)) w.heap.size 75 (f.length * 4) (flatPb (f.take k) ++ [.int .i64 f[k].row]) := hp1.stepAt (k * 4) (by simp only [List.length_append, List.length_cons, List.length_nil, hl]) (by omega) _
      have m1 : Marked ((w1.setCell ⟨w.heap.size, k * 4, none⟩ (.int .i64 f[k].row)).setCell ⟨w.heap.size, k * 4 + 1, none⟩ (.int .i64 f[k].col)) w.heap.size 75 (f.length * 4) ((flatPb (f.take k) ++ [.int .i64 f[k].row]) ++ [.int .i64 f[k].col]) := m0.stepAt (k * 4 + 1) (by simp only [List.length_append, List.length_cons, List.length_nil, hl]) (by omega) _
      have m2 : Marked (((w1.setCell ⟨w.heap.size, k * 4, none⟩ (.int .i64 f[k].row)).setCell ⟨w.heap.size, k * 4 + 1, none⟩ (.int .i64 f[k].col)).setCell ⟨w.heap.size, k * 4 + 2, none⟩ (.string f[k].cod)) w.heap.size 75 (f.length * 4) (((flatPb (f.take k) ++ [.int .i64 f[k].row]) ++ [.int .i64 f[k].col]) ++ [.string f[k].cod]) := m1.stepAt (k * 4 + 2) (by simp only [List.length_append, List.length_cons, List.length_nil, hl]) (by omega) _
      have m3 : Marked ((((w1.setCell ⟨w.heap.size, k * 4, none⟩ (.int .i64 f[k].row)).setCell ⟨w.heap.size, k * 4 + 1, none⟩ (.int .i64 f[k].col)).setCell ⟨w.heap.size, k * 4 + 2, none⟩ (.string f[k].cod)).setCell ⟨w.heap.size, k * 4 + 3, none⟩ (.int .i64 f[k].cnt)) w.heap.size 75 (f.length * 4) ((((flatPb (f.take k) ++ [.int .i64 f[k].row]) ++ [.int .i64 f[k].col]) ++ [.string f[k].cod]) ++ [.int .i64 f[k].cnt]) := m2.stepAt (k * 4 + 3) (by simp only [List.length_append, List.length_cons, List.length_nil, hl]) (by omega) _
      have HP : Hid (Marked ((((w1.setCell ⟨w.heap.size, k * 4, none⟩ (.int .i64 f[k].row)).setCell ⟨w.heap.size, k * 4 + 1, none⟩ (.int .i64 f[k].col)).setCell ⟨w.heap.size, k * 4 + 2, none⟩ (.string f[k].cod)).setCell ⟨w.heap.size, k * 4 + 3, none⟩ (.int .i64 f[k].cnt)) w.heap.size 75 (f.length * 4) (flatPb (f.take (k + 1)))) := by
        show Marked _ _ _ _ _
        rw [List.take_succ_eq_append_getElem hlt, flatPb_snoc]
        simpa only [List.append_assoc, List.cons_append, List.nil_append] using m3
      have HB := Lib.hid ((((hb'.setCell (p := ⟨w.heap.size, k * 4, none⟩) (Nat.le_refl _) (.int .i64 f[k].row)).setCell (p := ⟨w.heap.size, k * 4 + 1, none⟩) (Nat.le_refl _) (.int .i64 f[k].col)).setCell (p := ⟨w.heap.size, k * 4 + 2, none⟩) (Nat.le_refl _) (.string f[k].cod)).setCell (p := ⟨w.heap.size, k * 4 + 3, none⟩) (Nat.le_refl _) (.int .i64 f[k].cnt))
      clear hp0 hb0 hb1 hc0 hc1 hc2 hc3 hp1 hb' hl m0 m1 m2 m3
      go_wp2
      go_roundw
      case rel => exact ⟨k + 1, by omega, by go_num, HP.out, HB.out⟩
      case measure => simp [intOf]; omega
    · obtain rfl : k = f.length := by omega
      rw [List.take_length] at hp
      have hd := Lib.hid (hp.own_pb (base := w.heap.size) rfl (Nat.le_refl _) (by unfold maxLen; omega))
      clear hp
      go_wp2
      go_ret
      exact ⟨_, rfl, hb, hd.out⟩

end Go.Proofs.YtllafkeheppkjaaDoor

/-
  The contracts of impl.distance, impl.place's wayTo, impl.wayOver and impl.HandWay.
-/
namespace Go.Proofs.YtllafkeheppkjaaDoor
open Go.RowKit
set_option linter.unusedVariables false

def DistIs (a b z : Int) : Prop := (0 ≤ a ∧ a ≤ 9) ∧ (0 ≤ b ∧ b ≤ 9) ∧ absI (a - b) = z
end Go.Proofs.YtllafkeheppkjaaDoor

/-
  The contracts of impl.distance, impl.place's wayTo, impl.wayOver and impl.HandWay.
-/
namespace Go.Proofs.YtllafkeheppkjaaDoor
open Go.RowKit
set_option linter.unusedVariables false

theorem ten_at {l : List Bx} {is : List Nat} (hp : Places l) (hi : ∀ k (h : k < is.length), is[k] < l.length) : ∀ q ∈ is.map (plG l), InTen q := by
  intro q hq
  rw [List.mem_map] at hq
  obtain ⟨i, hm, rfl⟩ := hq
  obtain ⟨k, hk, rfl⟩ := List.mem_iff_getElem.1 hm
  rw [plG_at (hi k hk)]
  exact hp _ (hi k hk)
theorem hwR_ix {l : List Bx} {cs : List ByteArray} : hwR l cs = (ixR l cs).map (wayI l) := by
  unfold hwR ixR
  split <;> rfl
theorem ixR_some {l : List Bx} {cs : List ByteArray} {is : List Nat} (h : ixR l cs = some is) : CaseOk l ∧ is = ixs l cs ∧ (∀ k (h : k < is.length), is[k] < l.length) ∧ is.length ≤ 60 ∧ AllIn l cs := by
  unfold ixR at h
  split at h
  · rename_i hv
    obtain ⟨h1, h2, h3⟩ := askB2_all hv
    obtain rfl := Option.some.inj h
    refine ⟨h1, rfl, fun k hk => ?_, by simpa [ixs] using h3, h2⟩
    simp only [ixs, List.length_map] at hk
    simp only [ixs, List.getElem_map]
    exact (kI_lt (h2 k hk)).1
  · cases h
end Go.Proofs.YtllafkeheppkjaaDoor

/-
  The contract of spec.NarrowestWay.
-/
import Derived.Test.YtacphcpjppkniaaNtab
import Derived.Deep.Upon
namespace Go.Proofs.Ytacphcpjppkniaa
open Go.RowKit
set_option linter.unusedVariables false

theorem infoS : (Try.prog.info? 26).map (fun i => (i.zero, i.size, i.bytes)) = some (some (.slice none 0 0), 1, 24) := by kernel_rfl
theorem infoB : (Try.prog.info? 4).map (fun i => (i.zero, i.size, i.bytes)) = some (some (.bool false), 1, 1) := by kernel_rfl
theorem run_makeS (n : Nat) (hn : n ≤ 16) (w : World) :
    (Instr.makeSlice 76 (.int .i64 ((n : Int) + 1)) (.int .i64 ((n : Int) + 1))).run Try.prog w = .ok (.slice (some ⟨w.heap.size, 0, none⟩) (n + 1) (n + 1)) (w.alloc (.cells (madeCells #[.slice none 0 0] (n + 1)) 26)) := by
  obtain ⟨i0, hi, hz0, hz1, hz2⟩ := info_parts infoS
  have h := run_make (P := Try.prog) w 76 26 i0 _ Try.underlying76 hi hz0 .i64 .i64 ((n : Int) + 1) ((n : Int) + 1) (by omega) (Int.le_refl _) (by rw [hz2]; omega) (by omega)
  rw [hz1, show ((n : Int) + 1).toNat = n + 1 from by omega, Nat.mul_one] at h
  exact h
theorem run_makeB (n : Nat) (hn : n ≤ 16) (w : World) :
    (Instr.makeSlice 77 (.int .i64 ((n : Int) + 1)) (.int .i64 ((n : Int) + 1))).run Try.prog w = .ok (.slice (some ⟨w.heap.size, 0, none⟩) (n + 1) (n + 1)) (w.alloc (.cells (madeCells #[.bool false] (n + 1)) 4)) := by
  obtain ⟨i0, hi, hz0, hz1, hz2⟩ := info_parts infoB
  have h := run_make (P := Try.prog) w 77 4 i0 _ Try.underlying77 hi hz0 .i64 .i64 ((n : Int) + 1) ((n : Int) + 1) (by omega) (Int.le_refl _) (by rw [hz2]; omega) (by omega)
  rw [hz1, show ((n : Int) + 1).toNat = n + 1 from by omega, Nat.mul_one] at h
  exact h
theorem tyAsked_is (f : List (ByteArray × Int)) (A : Option Addr) (cap : Nat) (s : ByteArray) (w : World) (b : Bool) (hf : SortsIn w 0 A f) (hn : f.length ≤ 1048576) (ho : CodesOk f) (hs : s.size ≤ maxLen) (h : Hid ((fontB f && isWordF s) = b)) :
    Calls Try.prog 56 #[.slice A f.length cap, .string s] w fun e w' => e = .returned (.bool b) ∧ Below w.heap.size w w' := by
  have := tyAsked_any f A cap s 0 w hf hn ho hs; rw [h.out] at this; exact this
theorem cut_at {s c : ByteArray} {p : Nat} (h : p + c.size ≤ s.size) : ((s.extract p (p + c.size)).toList == c.toList) = preB (s.extract p s.size) c := by
  rw [← preB_cut]
  congr 2
  apply ByteArray.ext
  apply Array.ext'
  simp [ByteArray.data_extract]
  omega
theorem add_flat' (b off k : Nat) : (⟨b, off, none⟩ : Addr).add k = ⟨b, off + k, none⟩ := by
  unfold Addr.add
  by_cases hk : k = 0 <;> simp [hk]
theorem own_one (w : World) (base : Nat) (j : Int) (hb : base ≤ w.heap.size) : (w.alloc (.cells #[.int .i64 j] 3)).ownsRow base 3 1 (.slice (some ⟨w.heap.size, 0, none⟩) 1 1) 1 [.int .i64 j] :=
  ⟨rfl, .inr ⟨w.heap.size, 1, _, rfl, hb, heap_new _ _, Nat.le_refl _, by unfold maxLen; omega, rfl, rfl⟩⟩

theorem wpList_append_is {P : Program} {ops : Array Oper} {rest : List Oper} {o : Oper} {a : Act} {Q : Exit → Act → World → Prop} (w w' : World) (v v0 v1 : Value) (hgd : o.guard = none) (s x : Operand) (t ty : TypeId)
    (ho : o.op = .call { callee := .builtin .append, args := #[s, x], argTypes := #[t, t] }) (hty : o.type = ty) (hs : a.eval s = v0) (hx : a.eval x = v1)
    (hrun : (Builtin.append_ #[t, t] ty #[v0, v1]).run P w = .ok v w') (h : wpList P ops Q rest (a.put o.dst v) w') : wpList P ops Q (o :: rest) a w := by
  subst hty; subst hs; subst hx
  refine wpList_plain hgd fun K hK' => ?_
  unfold Oper.wp
  simp [execOp, ho, resolve, invoke, builtin, hrun, Result.andThen]
  exact hK' _ _ h
theorem next_way (w1 : World) (lo j : Nat) (r : List Nat) (Ae : Option Addr) (ce : Nat) (hlo : lo ≤ w1.heap.size) (hi : IntsOver w1 lo Ae (intL r)) (hne : r = [] → Ae = none ∧ ce = 0) (hr : r.length ≤ 1000) :
    ∃ An cn w4, (Builtin.append_ #[26, 26] 26 #[.slice (some ⟨w1.heap.size, 0, none⟩) 1 1, .slice Ae r.length ce]).run Try.prog (w1.alloc (.cells #[.int .i64 (j : Int)] 3)) = .ok (.slice An (r.length + 1) cn) w4 ∧
      Below w1.heap.size w1 w4 ∧ IntsOver w4 lo An (intL (j :: r)) := by
  have hown := own_one w1 lo (j : Int) hlo
  have hba : Below w1.heap.size w1 (w1.alloc (.cells #[.int .i64 (j : Int)] 3)) := (Below.refl _ _).alloc (Nat.le_refl _) _
  obtain ⟨i0, hi0, hz0, hz1, hz2⟩ := info_parts infoI
  cases r with
  | nil =>
    obtain ⟨rfl, rfl⟩ := hne rfl
    refine ⟨some ⟨w1.heap.size, 0, none⟩, 1, _, ?_, hba, ?_⟩
    · exact run_append_nothing (P := Try.prog) _ 26 26 26 3 i0 Try.underlying26 hi0 _ 1 1 (Nat.le_refl _) _ (Src.ofNil (w := _) Try.underlying26 0)
    · exact own_over (l := intL [j]) hown
  | cons x q =>
    obtain ⟨b, off, rfl, hb1, hb2, hc⟩ := hi (by simp [intL])
    have hm : 1 + (x :: q).length ≤ maxLen := by unfold maxLen; omega
    obtain ⟨v', w4, hrun, ho, hg, _⟩ := run_append_own (P := Try.prog) _ lo 26 26 3 i0 _ 1 8 Try.underlying26 hi0 hz0 hz1 hz2 rfl (by omega) _ 1 _ hown ⟨b, off, none⟩ (x :: q).length ce (intsZ (intL (x :: q))) (by simp [intsZ, intL])
      (fun k u hu => by
        have hk : k < (x :: q).length := by
          have := (List.getElem?_eq_some_iff.1 hu).1
          simpa [intsZ, intL] using this
        rw [add_flat', World.cell?_alloc_lt _ _ _ (by show b < _; exact hb2)]
        rw [hc k (by rw [intL_len]; exact hk)]
        rw [← hu]
        simp only [intsZ, List.getElem?_map]
        rw [List.getElem?_eq_getElem (by rw [intL_len]; exact hk)]
        rfl)
      (fun u hu => by
        simp only [intsZ, List.mem_map] at hu
        obtain ⟨y, _, rfl⟩ := hu
        rfl) hm (by omega) (by simp; omega)
    have ho' : w4.ownsRow lo 3 1 v' (1 + (x :: q).length) (intsZ (intL (j :: x :: q))) := ho
    obtain ⟨An, cn, rfl⟩ := own_form ho'
    have e : (intL (j :: x :: q)).length = (x :: q).length + 1 := by simp [intL]
    refine ⟨An, cn, w4, ?_, below_append (Below.refl _ _) hg (Nat.le_refl _) (fun k hk => ?_), own_over ho'⟩
    · rw [hrun, e]
    · simp [Value.ownBlock] at hk; omega
theorem both_set {w5 : World} {g p n cn : Nat} {An : Option Addr} {l : List Nat} {T : Nat → Option (List Nat)} {o : Option (List Nat)} (hf : FoundTab w5 (g + 1) n (updW T p o)) (hw : WaysTab w5 g (g + 2) n (updW T p o)) (hi : IntsOver w5 (g + 2) An (intL l)) (hl : l ≠ []) :
    FoundTab ((w5.setCell ⟨g, p, none⟩ (.slice An l.length cn)).setCell ⟨g + 1, p, none⟩ (.bool true)) (g + 1) n (updW T p (some l)) ∧ WaysTab ((w5.setCell ⟨g, p, none⟩ (.slice An l.length cn)).setCell ⟨g + 1, p, none⟩ (.bool true)) g (g + 2) n (updW T p (some l)) := by
  constructor
  · have := (hf.other (g' := g) (q := p) (by omega) (.slice An l.length cn)).set (p := p) (l := l)
    rwa [updW_twice] at this
  · have := (hw.set (p := p) (c := cn) (by omega) hi hl).other (g' := g + 1) (q := p) (by omega) (by omega) (.bool true)
    rwa [updW_twice] at this

/-- A slice of ints at A reads as l, and lies in a block before hi. -/
def IntsUnder (w : World) (hi : Nat) (A : Option Addr) (l : List Int) : Prop :=
  0 < l.length → ∃ b off, A = some ⟨b, off, none⟩ ∧ b < hi ∧ b < w.heap.size ∧ ∀ k (h : k < l.length), w.cell? ⟨b, off + k, none⟩ = some (.int .i64 l[k])
theorem IntsUnder.ints {w : World} {hi : Nat} {A : Option Addr} {l : List Int} (h : IntsUnder w hi A l) : IntsIn w A l := fun hn => by
  obtain ⟨b, off, h1, _, h2⟩ := h hn
  exact ⟨b, off, h1, h2⟩
theorem IntsUnder.below {w w' : World} {hi : Nat} {A : Option Addr} {l : List Int} (h : IntsUnder w hi A l) (hb : Below w.heap.size w w') : IntsUnder w' hi A l := fun hn => by
  obtain ⟨b, off, h1, h2, h3, h4⟩ := h hn
  exact ⟨b, off, h1, h2, Nat.lt_of_lt_of_le h3 hb.size, fun k hk => (hb.cell (by show b < _; omega)).trans (h4 k hk)⟩
theorem IntsUnder.grown {w w' : World} {hi : Nat} {A : Option Addr} {l : List Int} {row : Option Nat} (h : IntsUnder w hi A l) (hg : w.grownBy w' row) (hr : ∀ k, row = some k → hi ≤ k) : IntsUnder w' hi A l := fun hn => by
  obtain ⟨b, off, h1, h2, h3, h4⟩ := h hn
  have hbk : w'.heap[b]? = w.heap[b]? := hg.block b h3 (fun e => by have := hr b e.symm; omega)
  have hlt : b < w'.heap.size := by
    have e : w.heap[b]? = some w.heap[b] := Array.getElem?_eq_getElem h3
    rw [e] at hbk
    exact lt_of_heap hbk
  refine ⟨b, off, h1, h2, hlt, fun k hk => ?_⟩
  rw [← h4 k hk]
  unfold World.cell?
  rw [hbk]
/-- A call's answer that is only read. -/
def NarRd (f : List (ByteArray × Int)) (w w' : World) (e : Ending) (r : Option (List Nat)) : Prop :=
  ∃ A c, e = .returned (.tuple #[.slice A (intL (r.getD [])).length c, .int .i64 (widthW f r), .bool r.isSome]) ∧ Below w.heap.size w w' ∧ IntsUnder w' w'.heap.size A (intL (r.getD []))
theorem NarRd.no {f : List (ByteArray × Int)} {w w' : World} {e : Ending} {r : Option (List Nat)} (h : r = none) (he : e = .returned (.tuple #[.slice none 0 0, .int .i64 0, .bool false])) (hb : Below w.heap.size w w') : NarRd f w w' e r := by
  subst h; exact ⟨_, _, he, hb, fun h => absurd h (by simp [intL])⟩
theorem NarRd.yes {f : List (ByteArray × Int)} {w w' : World} {e : Ending} {r : Option (List Nat)} {l : List Nat} {wl : Int} {A : Option Addr} {c : Nat} (hi : IntsIn w' A (intL l)) (h : r = some l) (hw : wideF f l = wl) (hb : Below w.heap.size w w')
    (he : e = .returned (.tuple #[.slice A l.length c, .int .i64 wl, .bool true])) : NarRd f w w' e r := by
  subst h; subst hw
  refine ⟨A, c, ?_, hb, fun hn => ?_⟩
  · rw [he]; show _ = Ending.returned (.tuple #[.slice A (intL l).length c, _, _]); rw [intL_len]; rfl
  · obtain ⟨b, off, h1, h2, h3⟩ := hi hn
    exact ⟨b, off, h1, h2, h2, h3⟩

set_option maxRecDepth 100000 in
set_option maxHeartbeats 3000000 in
theorem specNar_any (f : List (ByteArray × Int)) (A : Option Addr) (cap : Nat) (s : ByteArray) (w : World) (hf : SortsIn w 0 A f) (hn : f.length ≤ 1048576) (ho : CodesOk f) (hs : s.size ≤ maxLen) :
    Calls Try.prog 22 #[.slice A f.length cap, .string s] w fun e w' => NarRd f w w' e (narW f s) := by
  have HS := Lib.hid hf; clear hf
  have HO := Lib.hid ho; clear ho
  cases h1 : (fontB f && isWordF s)
  · have HV := Lib.hid h1
    have HN : Hid (narW f s = none) := by show _ = _; unfold narW; rw [h1]; rfl
    clear h1
    go_enter Try.func22, Try.ntmps22
    go_wp2_with fail
    refine (tyAsked_is f A cap s _ false HS.out hn HO.out hs HV).mono ?_
    rintro e w1 ⟨rfl, hb1⟩
    go_wp2
    go_ret3
    exact NarRd.no HN.out rfl hb1
  have HV := Lib.hid h1
  have HY : Hid (narW f s = tabW f s s.size 0) := by show _ = _; unfold narW; rw [h1]; rfl
  have HF := Lib.hid (fontB_iff.1 (by simp at h1; exact h1.1 : fontB f = true))
  obtain ⟨hs1, hs16⟩ := word_size (by simp at h1; exact h1.2 : isWordF s = true)
  clear h1
  have hl32 : f.length ≤ 32 := HF.out.2.2
  go_enter Try.func22, Try.ntmps22
  go_wp2_with fail
  refine (tyAsked_is f A cap s _ true HS.out hn HO.out hs HV).mono ?_
  rintro e w1 ⟨rfl, hb1⟩
  have hmk1 := run_makeS s.size hs16 w1
  have hwt := WaysTab.start w1 (w1.heap.size + 2) (s.size + 1)
  have hb2 := hb1.alloc hb1.size (.cells (madeCells #[.slice none 0 0] (s.size + 1)) 26)
  have hsz2 : (w1.alloc (.cells (madeCells #[.slice none 0 0] (s.size + 1)) 26)).heap.size = w1.heap.size + 1 := by simp
  have hgw : w.heap.size ≤ w1.heap.size := hb1.size
  generalize w1.alloc (.cells (madeCells #[.slice none 0 0] (s.size + 1)) 26) = W2 at *
  have hmk2 := run_makeB s.size hs16 W2
  have hft := FoundTab.start W2 (s.size + 1)
  have hb3 := hb2.alloc hb2.size (.cells (madeCells #[.bool false] (s.size + 1)) 4)
  have hwt2 := hwt.below ((Below.refl _ _).alloc (Nat.le_refl _) (.cells (madeCells #[.bool false] (s.size + 1)) 4))
  generalize W2.alloc (.cells (madeCells #[.bool false] (s.size + 1)) 4) = W3 at *
  clear hwt hb1 hb2
  rw [hsz2] at hmk2 hft
  generalize w1.heap.size = g at *
  have hc0 := hft.at_ (p := s.size) (by omega)
  have hfz := hft.free (i := s.size)
  have HFT := Lib.hid (hft.end_ (f := f) (s := s))
  have HWT := Lib.hid ((hwt2.end_ (f := f) (s := s)).other (g' := g + 1) (q := s.size) (by omega) (by omega) (.bool true))
  have HB := Lib.hid (hb3.setCell (p := ⟨g + 1, s.size, none⟩) (by show _ ≤ g + 1; omega) (.bool true))
  clear hft hwt2 hb3 hsz2
  go_wp2
  go_loopw [9] (fun a wr => ∃ (k : Nat), k ≤ s.size ∧ a = .int .i64 ((s.size : Int) - 1 - (k : Int)) ∧ FoundTab wr (g + 1) (s.size + 1) (tabW f s k) ∧ WaysTab wr g (g + 2) (s.size + 1) (tabW f s k) ∧ Below w.heap.size w wr) (fun a _ => (intOf a + 1).toNat)
  case atStart => exact ⟨0, Nat.zero_le _, by simp, HFT.out, HWT.out, HB.out⟩
  case round =>
    clear HFT HWT HB hc0 hfz hmk1 hmk2
    obtain ⟨k, hk, rfl, hft, hwt, hb⟩ := hrel
    by_cases hks : k < s.size
    · obtain ⟨p, hp⟩ : ∃ p, s.size = p + (k + 1) := ⟨s.size - (k + 1), by omega⟩
      have hpi : (s.size : Int) - 1 - (k : Int) = (p : Int) := by omega
      rw [hpi]
      have HN : Hid (tabW f s k p = none) := tabW_none (f := f) (s := s) (p := p) (by omega) (by omega)
      have HSU := Lib.hid (tabW_succ f s k p (by omega))
      have HT : Hid (FoundTab wr (g + 1) (s.size + 1) (updW (tabW f s k) p (stepW f s p (tabW f s k) 0)) ∧ WaysTab wr g (g + 2) (s.size + 1) (updW (tabW f s k) p (stepW f s p (tabW f s k) 0))) := by
        show _ ∧ _
        rw [show stepW f s p (tabW f s k) 0 = none from rfl, updW_none HN.out]; exact ⟨hft, hwt⟩
      clear hft hwt
      have HCH := Lib.hid (tabW_chain (s := s) HF.out k (by omega))
      generalize tabW f s k = T at *
      have hpl : p < s.size := by omega
      have HPS := Lib.hid hp
      clear hp hpi
      go_wp2
      go_loopw [39] (fun i wr => ∃ (j : Nat), j ≤ f.length ∧ i = .int .i64 j ∧ FoundTab wr (g + 1) (s.size + 1) (updW T p (stepW f s p T j)) ∧ WaysTab wr g (g + 2) (s.size + 1) (updW T p (stepW f s p T j)) ∧ Below w.heap.size w wr) (fun i _ => f.length - (intOf i).toNat)
      case atStart => exact ⟨0, Nat.zero_le _, rfl, HT.out.1, HT.out.2, hb⟩
      case round =>
        clear HT hb
        obtain ⟨j, hj, rfl, hft, hwt, hb⟩ := hrel
        by_cases hlt : j < f.length
        · obtain ⟨b, off, rfl, _, hbl, hc⟩ := HS.out (by omega)
          have HSB := Lib.hid (HS.out)
          obtain ⟨hc0, hc1⟩ := hc j hlt
          clear hc
          rw [← hb.cell (p := ⟨b, off + j * 2, none⟩) hbl] at hc0
          rw [← hb.cell (p := ⟨b, off + j * 2 + 1, none⟩) hbl] at hc1
          have hlc := lenC_pos HF.out hlt
          have HST : Hid (stepW f s p T (j + 1) = candW f s p j (T (p + lenC f j)) (stepW f s p T j)) := rfl
          have hcb : codeB0 f j = f[j].1 := codeB0_of hlt
          have hlen : lenC f j = f[j].1.size := by unfold lenC; rw [hcb]
          rw [hlen] at hlc HST
          have hbw : b < wr.heap.size := Nat.lt_of_lt_of_le hbl hb.size
          have hok : f[j].1.size ≤ 3 := hlc.2
          go_wp2_with fail
          obtain ⟨W0, hW0⟩ : ∃ W0 : World, W0 = wr.alloc (.cells #[.string f[j].1, .int .i64 f[j].2] 39) := ⟨_, rfl⟩
          rw [← hW0]
          have hs0 : W0.cell? ⟨wr.heap.size, 0, none⟩ = some (.string f[j].1) := by rw [hW0]; simp
          have hb0 : Below w.heap.size w W0 := by rw [hW0]; exact hb.alloc hb.size _
          have hft0 : FoundTab W0 (g + 1) (s.size + 1) (updW T p (stepW f s p T j)) := by rw [hW0]; exact hft.below ((Below.refl _ _).alloc (Nat.le_refl _) _)
          have hwt0 : WaysTab W0 g (g + 2) (s.size + 1) (updW T p (stepW f s p T j)) := by rw [hW0]; exact hwt.below ((Below.refl _ _).alloc (Nat.le_refl _) _)
          have hz0 : wr.heap.size < W0.heap.size := by rw [hW0]; simp
          clear hc0 hc1 hW0 hft hwt hb hbw
          have hx0 := KeptW.cell hs0 hz0
          have hgf : g + 1 < W0.heap.size := lt_of_heap hft0
          generalize wr.heap.size = X at *
          by_cases hlong : s.size < p + f[j].1.size
          · have hgt : (s.size : Int) < (p : Int) + (f[j].1.size : Int) := by omega
            have HC : Hid (stepW f s p T (j + 1) = stepW f s p T j) := by
              show _ = _
              have hv : stands f s p j = false := by
                cases hv : stands f s p j
                · rfl
                · have := stands_le (by omega) hv
                  rw [hlen] at this; omega
              rw [HST.out]; unfold candW; rw [hv]; rfl
            refine region_kept W0.heap.size (by kernel_rfl) (by kernel_rfl) ?_
            repeat (go_big_quiet_step (fail))
            refine wpQuiet_nil ?_
            intro w1 hb1
            have hb' : Below w.heap.size w w1 := hb0.trans (hb1.mono hb0.size)
            have HP : Hid (FoundTab w1 (g + 1) (s.size + 1) (updW T p (stepW f s p T (j + 1))) ∧ WaysTab w1 g (g + 2) (s.size + 1) (updW T p (stepW f s p T (j + 1)))) := by
              show _ ∧ _
              rw [HC.out]; exact ⟨hft0.below hb1, hwt0.below hb1⟩
            clear hb0 hb1 hx0 hs0 hz0 hft0 hwt0 hgf
            go_wp2
            go_roundw
            case rel => exact ⟨j + 1, by omega, by go_num, HP.out.1, HP.out.2, hb'⟩
            case measure => simp [intOf]; omega
          · have hle : p + f[j].1.size ≤ s.size := by omega
            have hgt : ¬ (s.size : Int) < (p : Int) + (f[j].1.size : Int) := by omega
            have hcut := cut_at hle
            have hse : stands f s p j = preB (s.extract p s.size) f[j].1 := by unfold stands restB; rw [hcb]
            rw [← hse] at hcut
            clear hse
            cases hv : stands f s p j
            · rw [hv] at hcut
              have ht : (!(s.extract p (p + f[j].1.size)).toList == f[j].1.toList) = true := by rw [hcut]; rfl
              have HC : Hid (stepW f s p T (j + 1) = stepW f s p T j) := by
                show _ = _
                rw [HST.out]; unfold candW; rw [hv]; rfl
              clear hv hcut
              refine region_kept W0.heap.size (by kernel_rfl) (by kernel_rfl) ?_
              repeat (go_big_quiet_step (fail))
              refine wpQuiet_nil ?_
              intro w1 hb1
              have hb' : Below w.heap.size w w1 := hb0.trans (hb1.mono hb0.size)
              have HP : Hid (FoundTab w1 (g + 1) (s.size + 1) (updW T p (stepW f s p T (j + 1))) ∧ WaysTab w1 g (g + 2) (s.size + 1) (updW T p (stepW f s p T (j + 1)))) := by
                show _ ∧ _
                rw [HC.out]; exact ⟨hft0.below hb1, hwt0.below hb1⟩
              clear hb0 hb1 hx0 hs0 hz0 hft0 hwt0 hgf
              go_wp2
              go_roundw
              case rel => exact ⟨j + 1, by omega, by go_num, HP.out.1, HP.out.2, hb'⟩
              case measure => simp [intOf]; omega
            · rw [hv] at hcut
              have ht : (!(s.extract p (p + f[j].1.size)).toList == f[j].1.toList) = false := by rw [hcut]; rfl
              have HSV := Lib.hid hv; clear hv hcut
              have hfe := hft0.at_ (p := p + f[j].1.size) (by omega)
              rw [updW_other _ (by omega)] at hfe
              have hxe := KeptW.cell hfe hgf
              cases hoo : T (p + f[j].1.size) with
              | none =>
                rw [hoo] at hfe hxe HST
                simp only [Option.isSome] at hfe hxe
                have HC : Hid (stepW f s p T (j + 1) = stepW f s p T j) := by
                  show _ = _
                  rw [HST.out]; unfold candW; rw [HSV.out]; rfl
                have HO2 := Lib.hid hoo; clear hoo
                refine region_kept W0.heap.size (by kernel_rfl) (by kernel_rfl) ?_
                repeat (go_big_quiet_step (fail))
                refine wpQuiet_nil ?_
                intro w1 hb1
                have hb' : Below w.heap.size w w1 := hb0.trans (hb1.mono hb0.size)
                have HP : Hid (FoundTab w1 (g + 1) (s.size + 1) (updW T p (stepW f s p T (j + 1))) ∧ WaysTab w1 g (g + 2) (s.size + 1) (updW T p (stepW f s p T (j + 1)))) := by
                  show _ ∧ _
                  rw [HC.out]; exact ⟨hft0.below hb1, hwt0.below hb1⟩
                clear hb0 hb1 hx0 hs0 hz0 hft0 hwt0 hgf hfe hxe
                go_wp2
                go_roundw
                case rel => exact ⟨j + 1, by omega, by go_num, HP.out.1, HP.out.2, hb'⟩
                case measure => simp [intOf]; omega
              | some r =>
                rw [hoo] at hfe hxe HST
                simp only [Option.isSome] at hfe hxe
                have HO2 := Lib.hid hoo; clear hoo
                refine region_kept W0.heap.size (by kernel_rfl) (by kernel_rfl) ?_
                repeat (go_big_quiet_step (fail))
                refine wpQuiet_nil ?_
                intro w1 hb1
                have hb' : Below w.heap.size w w1 := hb0.trans (hb1.mono hb0.size)
                have hft1 := hft0.below hb1
                have hwt1 := hwt0.below hb1
                clear hb0 hb1 hx0 hs0 hz0 hft0 hwt0 hgf hfe hxe
                -- the way with this sort first
                obtain ⟨Ae, ce, hce, hie, hne⟩ := hwt1.at_ (p := p + f[j].1.size) (by omega)
                rw [updW_other _ (by omega), HO2.out] at hce hie hne
                simp only [Option.getD] at hce hie hne
                have hgw1 : g < w1.heap.size := hwt1.lt
                have hgf1 : g + 1 < w1.heap.size := lt_of_heap hft1
                have hmem := HCH.out.mem HF.out r _ HO2.out
                obtain ⟨An, cn, w4, hap, hb4, hin⟩ := next_way w1 (g + 2) j r Ae ce (by omega) hie hne (by have := hmem.2; omega)
                have hft4 := hft1.below hb4
                have hwt4 := hwt1.below hb4
                have hb4' := hb'.trans (hb4.mono hb'.size)
                have HIN := Lib.hid hin
                clear hie hne hb' hb4 hft1 hwt1 hin
                have HAP := Lib.hid hap; clear hap
                go_wp2_with (at_builtin; refine wpList_append_is _ _ _ _ _ rfl _ _ 26 26 rfl rfl rfl rfl HAP.out ?_)
                clear hce
                have hgf4 : g + 1 < w4.heap.size := lt_of_heap hft4
                have hgw4 : g < w4.heap.size := hwt4.lt
                have hfp := hft4.at_ (p := p) (by omega)
                rw [updW_self] at hfp
                cases hcu : stepW f s p T j with
                | none =>
                  rw [hcu] at hfp HST
                  simp only [Option.isSome] at hfp
                  have hxp := KeptW.cell hfp hgf4
                  have HC : Hid (stepW f s p T (j + 1) = some (j :: r)) := by
                    show _ = _
                    rw [HST.out]; unfold candW; rw [HSV.out]; rfl
                  have HU := Lib.hid hcu
                  clear hcu
                  refine region_kept w4.heap.size (by kernel_rfl) (by kernel_rfl) ?_
                  repeat (go_big_quiet_step (fail))
                  refine wpQuiet_nil ?_
                  intro w5 hb5
                  have hft5 := hft4.below hb5
                  have hwt5 := hwt4.below hb5
                  have hc5 := hwt5.at_ (p := p) (by omega)
                  obtain ⟨A5, c5, hc5, _, _⟩ := hc5
                  have hf5 := hft5.at_ (p := p) (by omega)
                  have hz5 := hwt5.free (i := p)
                  have hz5' := hft5.free (i := p)
                  have hset := both_set (cn := cn) hft5 hwt5 (HIN.out.below hb5) (by simp)
                  have HP : Hid (FoundTab ((w5.setCell ⟨g, p, none⟩ (.slice An (r.length + 1) cn)).setCell ⟨g + 1, p, none⟩ (.bool true)) (g + 1) (s.size + 1) (updW T p (stepW f s p T (j + 1))) ∧ WaysTab ((w5.setCell ⟨g, p, none⟩ (.slice An (r.length + 1) cn)).setCell ⟨g + 1, p, none⟩ (.bool true)) g (g + 2) (s.size + 1) (updW T p (stepW f s p T (j + 1)))) := by
                    show _ ∧ _
                    rw [HC.out]; exact hset
                  have HB5 := Lib.hid (((hb4'.trans (hb5.mono hb4'.size)).setCell (p := ⟨g, p, none⟩) (by show _ ≤ g; omega) (.slice An (r.length + 1) cn)).setCell (p := ⟨g + 1, p, none⟩) (by show _ ≤ g + 1; omega) (.bool true))
                  clear hset hb5 hb4' hft5 hwt5 hft4 hwt4 hfp hxp
                  go_wp2
                  go_roundw
                  case rel => exact ⟨j + 1, by omega, by go_num, HP.out.1, HP.out.2, HB5.out⟩
                  case measure => simp [intOf]; omega
                | some c =>
                  rw [hcu] at hfp HST
                  simp only [Option.isSome] at hfp
                  have hxp := KeptW.cell hfp hgf4
                  obtain ⟨i', r', hce, hi', hst', hnx'⟩ := stepW_some hcu
                  have hm' := HCH.out.mem HF.out r' _ hnx'
                  have hlc' := lenC_pos HF.out (by omega : i' < f.length)
                  obtain ⟨Ac, cc, hwc, hic, _⟩ := hwt4.at_ (p := p) (by omega)
                  rw [updW_self, hcu] at hwc hic
                  simp only [Option.getD] at hwc hic
                  have hxw := KeptW.cell hwc hgw4
                  have HU := Lib.hid hcu
                  clear hcu
                  subst hce
                  obtain ⟨b1, o1, rfl, _, hb1z, hc1z⟩ := HIN.out (by simp [intL])
                  obtain ⟨b2, o2, rfl, _, hb2z, hc2z⟩ := hic (by simp [intL])
                  have h10 := hc1z 0 (by simp [intL])
                  have h20 := hc2z 0 (by simp [intL])
                  have HKN : Hid (∀ x : KeptW w4.heap.size w4, Calls Try.prog 60 #[.slice (some ⟨b, off, none⟩) f.length cap, .slice (some ⟨b1, o1, none⟩) (r.length + 1) cn] x.at_ fun e w' => e = .returned (.int .i64 (wideF f (j :: r))) ∧ x.at_ = w') := by
                    show ∀ _, _
                    intro x
                    exact tyWide_any f (j :: r) _ _ cap cn 0 x.at_ (HS.out.below (hb4'.trans (x.below.mono hb4'.size)) (Nat.le_refl _)) (HIN.out.ints.below x.below (Nat.le_refl _)) HF.out (fun y hy => by
                      rcases List.mem_cons.1 hy with rfl | hy
                      · exact hlt
                      · exact hmem.1 y hy) (by have := hmem.2; simp; omega)
                  have HKC : Hid (∀ x : KeptW w4.heap.size w4, Calls Try.prog 60 #[.slice (some ⟨b, off, none⟩) f.length cap, .slice (some ⟨b2, o2, none⟩) (r'.length + 1) cc] x.at_ fun e w' => e = .returned (.int .i64 (wideF f (i' :: r'))) ∧ x.at_ = w') := by
                    show ∀ _, _
                    intro x
                    exact tyWide_any f (i' :: r') _ _ cap cc 0 x.at_ (HS.out.below (hb4'.trans (x.below.mono hb4'.size)) (Nat.le_refl _)) (hic.ints.below x.below (Nat.le_refl _)) HF.out (fun y hy => by
                      rcases List.mem_cons.1 hy with rfl | hy
                      · omega
                      · exact hm'.1 y hy) (by have := hm'.2; simp; omega)
                  have HKL : Hid (∀ x : KeptW w4.heap.size w4, Calls Try.prog 61 #[.slice (some ⟨b1, o1, none⟩) (r.length + 1) cn, .slice (some ⟨b2, o2, none⟩) (r'.length + 1) cc] x.at_ fun e w' => e = .returned (.bool false) ∧ Below x.at_.heap.size x.at_ w') := by
                    show ∀ _, _
                    intro x
                    exact tyLess_head j i' b1 o1 b2 o2 _ _ cn cc x.at_ ((x.below.cell (by show b1 < _; exact hb1z)).trans h10) ((x.below.cell (by show b2 < _; exact hb2z)).trans h20) (Nat.lt_of_lt_of_le hb1z x.below.size) (Nat.lt_of_lt_of_le hb2z x.below.size) hi' (by omega) (by omega)
                  clear h10 h20 hc1z hc2z hic hmem hm' hlc' hst' hnx'
                  simp only [List.length_cons] at hwc hxw
                  have HCA : Hid (stepW f s p T (j + 1) = if wideF f (j :: r) < wideF f (i' :: r') then some (j :: r) else some (i' :: r')) := by
                    show _ = _
                    rw [HST.out]; unfold candW; rw [HSV.out]; rfl
                  generalize wideF f (j :: r) = wn at *
                  generalize wideF f (i' :: r') = wc at *
                  by_cases hless : wn < wc
                  · have HC : Hid (stepW f s p T (j + 1) = some (j :: r)) := by
                      show _ = _
                      rw [HCA.out, if_pos hless]
                    refine region_kept w4.heap.size (by kernel_rfl) (by kernel_rfl) ?_
                    repeat (go_big_quiet_step (fail))
                    go_big_quiet_step ((go_at_call 60; exact kept_same _ (HKN.out _)))
                    repeat (go_big_quiet_step (fail))
                    go_big_quiet_step ((go_at_call 60; exact kept_same _ (HKC.out _)))
                    repeat (go_big_quiet_step (fail))
                    refine wpQuiet_nil ?_
                    intro w5 hb5
                    have hft5 := hft4.below hb5
                    have hwt5 := hwt4.below hb5
                    have hc5 := hwt5.at_ (p := p) (by omega)
                    obtain ⟨A5, c5, hc5, _, _⟩ := hc5
                    have hf5 := hft5.at_ (p := p) (by omega)
                    have hz5 := hwt5.free (i := p)
                    have hz5' := hft5.free (i := p)
                    have hset := both_set (cn := cn) hft5 hwt5 (HIN.out.below hb5) (by simp)
                    have HP : Hid (FoundTab ((w5.setCell ⟨g, p, none⟩ (.slice (some ⟨b1, o1, none⟩) (r.length + 1) cn)).setCell ⟨g + 1, p, none⟩ (.bool true)) (g + 1) (s.size + 1) (updW T p (stepW f s p T (j + 1))) ∧ WaysTab ((w5.setCell ⟨g, p, none⟩ (.slice (some ⟨b1, o1, none⟩) (r.length + 1) cn)).setCell ⟨g + 1, p, none⟩ (.bool true)) g (g + 2) (s.size + 1) (updW T p (stepW f s p T (j + 1)))) := by
                      show _ ∧ _
                      rw [HC.out]; exact hset
                    have HB5 := Lib.hid (((hb4'.trans (hb5.mono hb4'.size)).setCell (p := ⟨g, p, none⟩) (by show _ ≤ g; omega) (.slice (some ⟨b1, o1, none⟩) (r.length + 1) cn)).setCell (p := ⟨g + 1, p, none⟩) (by show _ ≤ g + 1; omega) (.bool true))
                    clear hset hb5 hb4' hft5 hwt5 hft4 hwt4 hfp hxp hwc hxw
                    go_wp2
                    go_roundw
                    case rel => exact ⟨j + 1, by omega, by go_num, HP.out.1, HP.out.2, HB5.out⟩
                    case measure => simp [intOf]; omega
                  · have HC : Hid (stepW f s p T (j + 1) = stepW f s p T j) := by
                      show _ = _
                      rw [HCA.out, if_neg hless, HU.out]
                    have fin : Hid (∀ w5, Below w4.heap.size w4 w5 → FoundTab w5 (g + 1) (s.size + 1) (updW T p (stepW f s p T (j + 1))) ∧ WaysTab w5 g (g + 2) (s.size + 1) (updW T p (stepW f s p T (j + 1))) ∧ Below w.heap.size w w5) := by
                      show ∀ _, _
                      intro w5 hb5
                      rw [HC.out]
                      exact ⟨hft4.below hb5, hwt4.below hb5, hb4'.trans (hb5.mono hb4'.size)⟩
                    by_cases heq : wn = wc
                    · have hq : (wn == wc) = true := by rw [beq_iff_eq]; exact heq
                      have HQ := Lib.hid heq; clear heq
                      refine region_kept w4.heap.size (by kernel_rfl) (by kernel_rfl) ?_
                      repeat (go_big_quiet_step (fail))
                      go_big_quiet_step ((go_at_call 60; exact kept_same _ (HKN.out _)))
                      repeat (go_big_quiet_step (fail))
                      go_big_quiet_step ((go_at_call 60; exact kept_same _ (HKC.out _)))
                      repeat (go_big_quiet_step (fail))
                      go_big_quiet_step ((go_at_call 60; exact kept_same _ (HKN.out _)))
                      repeat (go_big_quiet_step (fail))
                      go_big_quiet_step ((go_at_call 60; exact kept_same _ (HKC.out _)))
                      repeat (go_big_quiet_step (fail))
                      go_big_quiet_step ((go_at_call 61; exact kept_call _ (Nat.le_refl _) (HKL.out _)))
                      repeat (go_big_quiet_step (fail))
                      refine wpQuiet_nil ?_
                      intro w5 hb5
                      have HFI := Lib.hid (fin.out w5 hb5)
                      clear hb5 hb4' hft4 hwt4 hfp hxp hwc hxw
                      go_wp2
                      go_roundw
                      case rel => exact ⟨j + 1, by omega, by go_num, HFI.out.1, HFI.out.2.1, HFI.out.2.2⟩
                      case measure => simp [intOf]; omega
                    · have hq : (wn == wc) = false := by rw [beq_eq_false_iff_ne]; exact heq
                      refine region_kept w4.heap.size (by kernel_rfl) (by kernel_rfl) ?_
                      repeat (go_big_quiet_step (fail))
                      go_big_quiet_step ((go_at_call 60; exact kept_same _ (HKN.out _)))
                      repeat (go_big_quiet_step (fail))
                      go_big_quiet_step ((go_at_call 60; exact kept_same _ (HKC.out _)))
                      repeat (go_big_quiet_step (fail))
                      go_big_quiet_step ((go_at_call 60; exact kept_same _ (HKN.out _)))
                      repeat (go_big_quiet_step (fail))
                      go_big_quiet_step ((go_at_call 60; exact kept_same _ (HKC.out _)))
                      repeat (go_big_quiet_step (fail))
                      refine wpQuiet_nil ?_
                      intro w5 hb5
                      have HFI := Lib.hid (fin.out w5 hb5)
                      clear hb5 hb4' hft4 hwt4 hfp hxp hwc hxw
                      go_wp2
                      go_roundw
                      case rel => exact ⟨j + 1, by omega, by go_num, HFI.out.1, HFI.out.2.1, HFI.out.2.2⟩
                      case measure => simp [intOf]; omega
        · obtain rfl : j = f.length := by omega
          have HR : Hid (FoundTab wr (g + 1) (s.size + 1) (tabW f s (k + 1)) ∧ WaysTab wr g (g + 2) (s.size + 1) (tabW f s (k + 1))) := by
            show _ ∧ _
            rw [HSU.out]; exact ⟨hft, hwt⟩
          clear hft hwt
          go_wp2
          go_roundw
          case rel => exact ⟨k + 1, by omega, congrArg (Value.int .i64) (by have := HPS.out; omega), HR.out.1, HR.out.2, hb⟩
          case measure => simp [intOf]
    · obtain rfl : k = s.size := by omega
      have hneg : ¬ (0 : Int) ≤ (s.size : Int) - 1 - (s.size : Int) := by omega
      have HCH := Lib.hid (tabW_chain (s := s) HF.out s.size (Nat.le_refl _))
      generalize tabW f s s.size = T at *
      have hgf : g + 1 < wr.heap.size := lt_of_heap hft
      have hgw0 : g < wr.heap.size := hwt.lt
      have hfp := hft.at_ (p := 0) (by omega)
      obtain ⟨A0, c0, hwc, hic, _⟩ := hwt.at_ (p := 0) (by omega)
      clear hft hwt
      cases h0 : T 0 with
      | none =>
        rw [h0] at hfp
        simp only [Option.isSome] at hfp
        have HN : Hid (narW f s = none) := by show _ = _; rw [HY.out]; exact h0
        clear h0 hwc hic
        go_wp2
        go_ret3
        exact NarRd.no HN.out rfl hb
      | some l0 =>
        rw [h0] at hfp hwc hic
        simp only [Option.isSome, Option.getD] at hfp hwc hic
        have HN : Hid (narW f s = some l0) := by show _ = _; rw [HY.out]; exact h0
        have hm0 := HCH.out.mem HF.out l0 _ h0
        clear h0
        have hxw := KeptW.cell hwc hgw0
        have HKW : Hid (∀ x : KeptW wr.heap.size wr, Calls Try.prog 60 #[.slice A f.length cap, .slice A0 l0.length c0] x.at_ fun e w' => e = .returned (.int .i64 (wideF f l0)) ∧ x.at_ = w') := by
          show ∀ _, _
          intro x
          exact tyWide_any f l0 _ _ cap c0 0 x.at_ (HS.out.below (hb.trans (x.below.mono hb.size)) (Nat.le_refl _)) (hic.ints.below x.below (Nat.le_refl _)) HF.out hm0.1 (by have := hm0.2; omega)
        have HIC := Lib.hid hic
        clear hic hm0
        generalize hwl : wideF f l0 = wl at *
        have HWL := Lib.hid hwl; clear hwl
        go_wp2_with fail
        refine region_kept wr.heap.size (by kernel_rfl) (by kernel_rfl) ?_
        repeat (go_big_quiet_step ((go_at_call 60; exact kept_same _ (HKW.out _))))
        refine wpQuiet_nil ?_
        intro w5 hb5
        have hb' := hb.trans (hb5.mono hb.size)
        have HI5 := Lib.hid (HIC.out.ints.below hb5 (Nat.le_refl _))
        clear hb5 hb hxw hwc hfp
        go_wp2
        go_ret3
        exact NarRd.yes HI5.out HN.out HWL.out hb' rfl
end Go.Proofs.Ytacphcpjppkniaa

/-
  The contract of impl.MissingLetters: it answers what missV says and changes nothing that was there.
-/
import Derived.Test.YtiihhilhiknckaaGreatDoorMis
import Derived.Test.YtiihhilhiknckaaGreatDoorLig
import Derived.Lib.OthersKept
import Derived.Laws.Rows
import Derived.Lib.BufferRead
namespace Go.Proofs.YtiihhilhiknckaaGreatDoor
open Go.RowKit
set_option linter.unusedVariables false

/-- The array of the 26 marks. -/
def row26 (m : Nat → Bool) : Array Value := ((List.range 26).map fun i => Value.bool (m i)).toArray
def Row26 (w : World) (g : Nat) (m : Nat → Bool) : Prop := w.heap[g]? = some (.cells (row26 m) 76 (0, 0))
theorem row26_size (m : Nat → Bool) : (row26 m).size = 26 := by simp [row26]
theorem row26_get {m : Nat → Bool} {i : Nat} (h : i < 26) : (row26 m)[i]? = some (.bool (m i)) := by simp [row26, h]
theorem Row26.congr {w : World} {g : Nat} {m m' : Nat → Bool} (h : Row26 w g m) (e : ∀ i, i < 26 → m i = m' i) : Row26 w g m' := by
  unfold Row26 at h ⊢
  rw [h, show row26 m = row26 m' from ?_]
  unfold row26
  congr 1
  apply List.map_congr_left
  intro i hi
  rw [e i (by simpa using hi)]
theorem Row26.lt {w : World} {g : Nat} {m : Nat → Bool} (h : Row26 w g m) : g < w.heap.size := lt_of_heap h
theorem Row26.at_ {w : World} {g i : Nat} {m : Nat → Bool} (h : Row26 w g m) (hi : i < 26) : (∃ u, w.cell? ⟨g, i, none⟩ = some u) ∧ w.frozen? ⟨g, i, none⟩ = false :=
  ⟨⟨_, (cell_of_heap h i).trans (row26_get hi)⟩, free_of_heap h i⟩
theorem Row26.set {w : World} {g q : Nat} {m : Nat → Bool} (h : Row26 w g m) (v : Bool) : Row26 (w.setCell ⟨g, q, none⟩ (.bool v)) g (fun i => if i = q then v else m i) := by
  unfold Row26
  rw [heap_set h]
  congr 2
  apply Array.ext
  · simp [row26]
  · intro i h1 h2
    rw [Array.getElem_setIfInBounds (by simpa using h1)]
    by_cases hi : q = i
    · subst hi; simp [row26]
    · have hi' : ¬ i = q := fun e => hi e.symm
      rw [if_neg hi]; simp [row26, hi']
theorem Row26.below {w w' : World} {g : Nat} {m : Nat → Bool} (h : Row26 w g m) (hb : Below w.heap.size w w') : Row26 w' g m := (hb.block g (lt_of_heap h)).trans h
theorem Row26.iter {w : World} {g k pos : Nat} {s : ByteArray} {m : Nat → Bool} (h : Row26 w g m) (hk : g < k) : Row26 (w.iterAt k s pos) g m := (Lib.iterAt_other w k g s pos (by omega)).trans h
theorem set_other {w : World} {g k q : Nat} (h : k ≠ g) (v : Value) : (w.setCell ⟨g, q, none⟩ v).heap[k]? = w.heap[k]? := Below.heap_setCell _ _ _ _ h
theorem run_part26 (m : Nat → Bool) (i : Nat) (h : i < 26) (w : World) : (part 4 (row26 m) i).run Tryz.prog w = .ok (.bool (m i)) w := by
  have hg := row26_get (m := m) h
  simp [part, Sem.run_bind, hg]
theorem run_index26 (m : Nat → Bool) (i : Nat) (h : i < 26) (w : World) : (Instr.index 76 (.agg (row26 m)) (.int .i64 (i : Int))).run Tryz.prog w = .ok (.bool (m i)) w := by
  simp [Instr.index, asIntOf, run_underlying (P := Tryz.prog) Tryz.underlying76, h, run_part26 m i h, Sem.run_bind]
theorem run_index_str (s : ByteArray) (n : Int) (h : 0 < s.size) (hn : ((s[0]).toNat : Int) = n) (w : World) : (Instr.index 9 (.string s) (.int .i64 0)).run Tryz.prog w = .ok (.int .u8 n) w := by
  rw [run_index_string w 9 s .i64 0 Tryz.underlying9, dif_pos ⟨by omega, by omega⟩, ← hn]
  rfl

theorem lets_at {s : ByteArray} {i : Nat} (hs : lets s.data.toList = true) (h : i < s.size) : ∃ q, q < 26 ∧ s[i] = letB q := by
  have hm : isLet s[i] = true := by
    unfold lets at hs
    rw [List.all_eq_true] at hs
    exact hs _ (List.getElem_mem (l := s.data.toList) (by simpa using h))
  rw [isLet_int] at hm
  simp at hm
  refine ⟨s[i].toNat - 97, by omega, ?_⟩
  apply UInt8.toNat_inj.1
  rw [letB_nat (by omega)]; omega
theorem lets_word {s : ByteArray} (h : isWordF s = true) : lets s.data.toList = true := by
  unfold isWordF tyLettersF at h; simp at h; exact h.1
theorem lets_code {f : List (ByteArray × Int)} {k : Nat} (hF : Font f) (h : k < f.length) : lets f[k].1.data.toList = true := by
  have := hF.1 k h
  unfold okAt tySortF tyLettersF at this; simp at this; exact this.1.1.1
theorem letB_inj {i q : Nat} (hi : i < 26) (hq : q < 26) : (letB q == letB i) = decide (i = q) := by
  by_cases h : i = q
  · subst h; simp
  · rw [decide_eq_false h, beq_eq_false_iff_ne]
    intro e
    have := congrArg UInt8.toNat e
    rw [letB_nat hi, letB_nat hq] at this; omega
theorem oneB_size (i : Nat) : (oneB i).size = 1 := rfl
theorem oneB_of {s : ByteArray} {q : Nat} (h : s.size = 1) (hq : s[0] = letB q) : s = oneB q := by
  apply ByteArray.ext
  apply Array.ext'
  have hl : s.data.toList.length = 1 := by simpa using h
  match hd : s.data.toList, hl with
  | [a], _ =>
    have : s[0] = a := by
      have e : s[0] = s.data.toList[0]'(by rw [hd]; simp) := rfl
      rw [e]; simp [hd]
    rw [this] at hq; rw [hq]; rfl
theorem oneB_inj {i q : Nat} (hi : i < 26) (hq : q < 26) : (oneB q = oneB i) ↔ i = q := by
  constructor
  · intro e
    have h1 : letB q = letB i := by
      have := congrArg ByteArray.data e
      simpa [oneB] using this
    have := letB_inj hi hq
    rw [h1] at this; simpa using this
  · rintro rfl; rfl
/-- There is a sort with this Code among the sorts. -/
def hasC (f : List (ByteArray × Int)) (c : ByteArray) : Bool := f.any fun x => decide (x.1 = c)
theorem hasC_snoc {f : List (ByteArray × Int)} {k : Nat} (h : k < f.length) (c : ByteArray) : hasC (f.take (k + 1)) c = (hasC (f.take k) c || decide (f[k].1 = c)) := by
  unfold hasC; rw [List.take_succ_eq_append_getElem h, List.any_append]; simp
theorem findI_has : ∀ (f : List (ByteArray × Int)) (c : ByteArray) (n : Nat), decide (findI f c n < 0) = !hasC f c
  | [], c, n => rfl
  | x :: r, c, n => by
    unfold findI
    by_cases h : x.1 = c
    · rw [if_pos h]; unfold hasC; simp [h]
    · rw [if_neg h, findI_has r c (n + 1)]; unfold hasC; simp [h]
theorem implIsFont_is (f : List (ByteArray × Int)) (A : Option Addr) (c : Nat) (lo : Nat) (w : World) (b : Bool) (hf : SortsIn w lo A f) (hn : f.length ≤ 1048576) (ho : CodesOk f) (h : Hid (fontB f = b)) :
    Calls Tryz.prog 10 #[.slice A f.length c] w fun e w' => e = .returned (.bool b) ∧ Below w.heap.size w w' := by
  have := implIsFont_any f A c lo w hf hn ho; rw [h.out] at this; exact this
theorem areWords_is (l : List ByteArray) (A : Option Addr) (c : Nat) (w : World) (b : Bool) (hf : StrsIn w A l) (ho : StrsOk l) (hn : l.length ≤ 1048576) (h : Hid (wordsB l = b)) :
    Calls Tryz.prog 42 #[.slice A l.length c] w fun e w' => e = .returned (.bool b) ∧ Below w.heap.size w w' := by
  have := areWords_any l A c w hf ho hn; rw [h.out] at this; exact this
theorem infoU8 : (Tryz.prog.info? 5).map (fun i => (i.zero, i.size, i.bytes)) = some (some (.int .u8 0), 1, 1) := by kernel_rfl
theorem words_at {ws : List ByteArray} {j : Nat} (h : wordsB ws = true) (hj : j < ws.length) : isWordF ws[j] = true := by
  unfold wordsB at h; simp at h; exact h.2 _ (List.getElem_mem hj)

set_option maxHeartbeats 1000000 in
set_option maxRecDepth 100000 in
theorem implMiss_any (f : List (ByteArray × Int)) (A : Option Addr) (cap : Nat) (ws : List ByteArray) (B : Option Addr) (cap' : Nat) (w : World) (hf : SortsIn w 0 A f) (hn : f.length ≤ 1048576) (ho : CodesOk f)
    (hg : StrsIn w B ws) (ho' : StrsOk ws) (hn' : ws.length ≤ 1048576) :
    Calls Tryz.prog 15 #[.slice A f.length cap, .slice B ws.length cap'] w fun e w' => MissTo e (missV f ws) ∧ Below w.heap.size w w' := by
  have HS := Lib.hid hf; clear hf
  have HG := Lib.hid hg; clear hg
  have HO := Lib.hid ho; clear ho
  have HO' := Lib.hid ho'; clear ho'
  cases h1 : fontB f
  · have HV := Lib.hid h1; clear h1
    go_enter Tryz.func15, Tryz.ntmps15
    go_wp2_with fail
    refine (implIsFont_is f A cap 0 _ false HS.out hn HO.out HV).mono ?_
    rintro e w1 ⟨rfl, hb1⟩
    go_wp2
    go_ret2
    exact ⟨MissTo.no (missV_no (.inl HV.out)) rfl, hb1⟩
  have HV := Lib.hid h1; clear h1
  cases h2 : wordsB ws
  · have HW := Lib.hid h2; clear h2
    go_enter Tryz.func15, Tryz.ntmps15
    go_wp2_with fail
    refine (implIsFont_is f A cap 0 _ true HS.out hn HO.out HV).mono ?_
    rintro e w1 ⟨rfl, hb1⟩
    have HG1 := Lib.hid (HG.out.below hb1 (Nat.le_refl _))
    go_wp2_with fail
    refine (areWords_is ws B cap' _ false HG1.out HO'.out hn' HW).mono ?_
    rintro e w2 ⟨rfl, hb2⟩
    have hb := hb1.trans (hb2.mono hb1.size)
    go_wp2
    go_ret2
    exact ⟨MissTo.no (missV_no (.inr HW.out)) rfl, hb⟩
  have HW := Lib.hid h2; clear h2
  have HY := Lib.hid (missV_yes HV.out HW.out)
  have HFF := Lib.hid (fontB_iff.1 HV.out)
  go_enter Tryz.func15, Tryz.ntmps15
  go_wp2_with fail
  refine (implIsFont_is f A cap 0 _ true HS.out hn HO.out HV).mono ?_
  rintro e w1 ⟨rfl, hb1⟩
  have HG1 := Lib.hid (HG.out.below hb1 (Nat.le_refl _))
  go_wp2_with fail
  refine (areWords_is ws B cap' _ true HG1.out HO'.out hn' HW).mono ?_
  rintro e w2 ⟨rfl, hb2⟩
  have hb := hb1.trans (hb2.mono hb1.size)
  have hg0 : w.heap.size ≤ w2.heap.size := hb.size
  have HB := Lib.hid (hb.alloc hb.size (.cells (row26 fun _ => false) 76))
  clear hb1 hb2 HG1 hb
  go_wp2
  generalize hg : w2.heap.size = g at *
  go_loopw [26] (fun i wr => ∃ (j : Nat), j ≤ ws.length ∧ i = .int .i64 j ∧ Row26 wr g (fun i => metIn (ws.take j) (letB i)) ∧ Below w.heap.size w wr) (fun i _ => ws.length - (intOf i).toNat)
  case atStart => exact ⟨0, Nat.zero_le _, rfl, by rw [← hg]; exact heap_new _ _, HB.out⟩
  case round =>
    clear HB
    obtain ⟨j, hj, rfl, hr, hb⟩ := hrel
    by_cases hlj : j < ws.length
    · obtain ⟨b, off, rfl, hbl, hc⟩ := HG.out (by omega)
      have hc0 := hc j hlj
      clear hc
      rw [← hb.cell (p := ⟨b, off + j, none⟩) hbl] at hc0
      have hok := HO'.out j hlj
      unfold maxLen at hok
      have HMS : Hid (∀ i, metIn (ws.take (j + 1)) (letB i) = ((fun i => metIn (ws.take j) (letB i)) i || metW ws[j] (letB i))) := by
        show ∀ _, _
        exact fun i => metIn_snoc hlj (letB i)
      have HLT := Lib.hid (lets_word (words_at HW.out hlj))
      generalize (fun i => metIn (ws.take j) (letB i)) = m0 at *
      generalize ws[j] = s at *
      have hgl := hr.lt
      have HI : Hid ((wr.iter s 0).heap[wr.heap.size]? = some (.stringIter s 0) ∧ Row26 (wr.iter s 0) g (fun i => m0 i || (s.data.toList.take 0).any (· == letB i)) ∧ Below w.heap.size w (wr.iter s 0)) := by
        show _ ∧ _
        refine ⟨World.iter_heap _ _ _, (hr.below ?_).congr (by simp), hb.alloc hb.size _⟩
        exact (Below.refl _ _).alloc (Nat.le_refl _) _
      clear hr hb
      go_wp2
      generalize hK : wr.heap.size = K at *
      go_loopw [10] (fun _ wi => ∃ pos, pos ≤ s.size ∧ wi.heap[K]? = some (.stringIter s pos) ∧ Row26 wi g (fun i => m0 i || (s.data.toList.take pos).any (· == letB i)) ∧ Below w.heap.size w wi) (fun _ wi => s.size - wi.iterPos K)
      case atStart => exact ⟨0, Nat.zero_le _, HI.out⟩
      case round =>
        obtain ⟨pos, hpos, hit, hr, hb⟩ := hrel
        by_cases hlp : pos < s.size
        · obtain ⟨q, hq, hsq⟩ := lets_at HLT.out hlp
          have hq1 : (q : Int) < 26 := by omega
          have hq0 : (0 : Int) ≤ (q : Int) := by omega
          have hnx : ∀ ty, (Instr.next (.pointer (some ⟨K, 0, none⟩)) true ty).run Tryz.prog wr = .ok (.tuple #[.bool true, .int .i64 pos, .int .i32 (97 + (q : Int))]) (wr.iterAt K s (pos + 1)) := fun ty => by
            rw [Lib.run_next_ascii_at wr K s pos ty hit hlp (by rw [hsq, letB_nat hq]; omega), hsq, letB_int hq]
          have hit1 := Lib.iterAt_heap wr K s pos (pos + 1) hit
          have hr1 := hr.iter (pos := pos + 1) (s := s) hgl
          have hb1 := Lib.below_iterAt hb (k := K) (by omega) s (pos + 1)
          have HPM : Hid (wr.iterPos K = pos) := iterPos_of hit
          generalize wr.iterAt K s (pos + 1) = W1 at *
          clear hit hr hb
          obtain ⟨⟨u0, hu0⟩, hf0⟩ := hr1.at_ hq
          have HW1 : Hid ((W1.setCell ⟨g, q, none⟩ (.bool true)).heap[K]? = some (.stringIter s (pos + 1)) ∧ Row26 (W1.setCell ⟨g, q, none⟩ (.bool true)) g (fun i => m0 i || (s.data.toList.take (pos + 1)).any (· == letB i)) ∧ Below w.heap.size w (W1.setCell ⟨g, q, none⟩ (.bool true))) := by
            show _ ∧ _
            refine ⟨(set_other (by omega) _).trans hit1, (hr1.set true).congr ?_, hb1.setCell (p := ⟨g, q, none⟩) (by show _ ≤ g; omega) _⟩
            intro i hi
            rw [any_snoc hlp, hsq, letB_inj hi hq]
            by_cases hiq : i = q <;> simp [hiq]
          clear hit1 hr1 hb1
          go_wp2
          go_roundw
          case rel => exact ⟨pos + 1, by omega, HW1.out⟩
          case measure => rw [iterPos_of HW1.out.1, HPM.out]; omega
        · have hnx : ∀ ty, (Instr.next (.pointer (some ⟨K, 0, none⟩)) true ty).run Tryz.prog wr = _ := fun ty => Lib.run_next_end_at wr K s pos ty hit hlp
          obtain rfl : pos = s.size := by omega
          have HF : Hid (Row26 wr g (fun i => metIn (ws.take (j + 1)) (letB i))) := hr.congr fun i _ => by rw [HMS.out i, List.take_of_length_le (by simp)]; rfl
          clear hr HMS
          go_wp2
          go_roundw
          case rel => exact ⟨j + 1, by omega, by go_num, HF.out, hb⟩
          case measure => simp [intOf]; omega
    · obtain rfl : j = ws.length := by omega
      rw [List.take_length] at hr
      have HR0 : Hid (Row26 wr g (fun i => metIn ws (letB i) && !hasC (f.take 0) (oneB i))) := hr.congr (by intro i _; simp [hasC])
      clear hr
      go_wp2
      go_loopw [41] (fun i wr => ∃ (k : Nat), k ≤ f.length ∧ i = .int .i64 k ∧ Row26 wr g (fun i => metIn ws (letB i) && !hasC (f.take k) (oneB i)) ∧ Below w.heap.size w wr) (fun i _ => f.length - (intOf i).toNat)
      case atStart => exact ⟨0, Nat.zero_le _, rfl, HR0.out, hb⟩
      case round =>
        clear HR0 hb
        obtain ⟨k, hk, rfl, hr, hb⟩ := hrel
        by_cases hlt : k < f.length
        · obtain ⟨b, off, rfl, _, hbl, hc⟩ := HS.out (by omega)
          obtain ⟨hc0, hc1⟩ := hc k hlt
          clear hc
          rw [← hb.cell (p := ⟨b, off + k * 2, none⟩) hbl] at hc0
          rw [← hb.cell (p := ⟨b, off + k * 2 + 1, none⟩) hbl] at hc1
          have hgl := hr.lt
          have hr1 : Row26 (wr.alloc (.cells #[.string f[k].1, .int .i64 f[k].2] 25)) g (fun i => metIn ws (letB i) && !hasC (f.take k) (oneB i)) := hr.below ((Below.refl _ _).alloc (Nat.le_refl _) _)
          have hb1 := hb.alloc hb.size (.cells #[.string f[k].1, .int .i64 f[k].2] 25)
          have HSN : Hid (∀ c, hasC (f.take (k + 1)) c = (hasC (f.take k) c || decide (f[k].1 = c))) := by
            show ∀ _, _
            exact fun c => hasC_snoc hlt c
          have hok := HO.out k hlt
          unfold maxLen at hok
          by_cases h1 : f[k].1.size = 1
          · obtain ⟨q, hq, hcq⟩ := lets_at (lets_code HFF.out hlt) (i := 0) (by omega)
            have hoq := oneB_of h1 hcq
            have hix : ∀ W, (Instr.index 9 (.string f[k].1) (.int .i64 0)).run Tryz.prog W = .ok (.int .u8 (97 + (q : Int))) W := fun W => run_index_str _ _ (by omega) (by rw [hcq, letB_int hq]) W
            have ht : ((f[k].1.size : Int) == 1) = true := by rw [h1]; rfl
            obtain ⟨⟨u0, hu0⟩, hf0⟩ := hr.at_ hq
            have hq1 : (q : Int) < 26 := by omega
            have hq0 : (0 : Int) ≤ (q : Int) := by omega
            have HP : Hid (Row26 ((wr.setCell ⟨g, q, none⟩ (.bool false)).alloc (.cells #[.string f[k].1, .int .i64 f[k].2] 25)) g (fun i => metIn ws (letB i) && !hasC (f.take (k + 1)) (oneB i))) := by
              show Row26 _ _ _
              refine ((hr.set false).below ((Below.refl _ _).alloc (Nat.le_refl _) _)).congr ?_
              intro i hi
              show (if i = q then false else _) = _
              rw [HSN.out, hoq]
              by_cases hiq : i = q
              · rw [if_pos hiq, decide_eq_true ((oneB_inj hi hq).2 hiq)]; simp
              · rw [if_neg hiq, decide_eq_false (fun e => hiq ((oneB_inj hi hq).1 e)), Bool.or_false]
            have hbs := hb.setCell (p := ⟨g, q, none⟩) (by show _ ≤ g; omega) (.bool false)
            have HB2 := Lib.hid (hbs.alloc hbs.size (.cells #[.string f[k].1, .int .i64 f[k].2] 25))
            have HOQ := Lib.hid hoq
            clear hr hr1 hb hb1 hbs hoq hcq h1
            go_wp2
            go_roundw
            case rel => exact ⟨k + 1, by omega, by go_num, HP.out, HB2.out⟩
            case measure => simp [intOf]; omega
          · have ht : ((f[k].1.size : Int) == 1) = false := by rw [beq_eq_false_iff_ne]; omega
            have HP : Hid (Row26 (wr.alloc (.cells #[.string f[k].1, .int .i64 f[k].2] 25)) g (fun i => metIn ws (letB i) && !hasC (f.take (k + 1)) (oneB i))) := by
              show Row26 _ _ _
              refine hr1.congr ?_
              intro i hi
              show (_ && !hasC _ _) = _
              rw [HSN.out, decide_eq_false (fun e => h1 (by rw [e]; rfl)), Bool.or_false]
            have HB2 := Lib.hid hb1
            clear hr hr1 hb hb1 h1
            go_wp2
            go_roundw
            case rel => exact ⟨k + 1, by omega, by go_num, HP.out, HB2.out⟩
            case measure => simp [intOf]; omega
        · obtain rfl : k = f.length := by omega
          rw [List.take_length] at hr
          have hm : Row26 wr g (isMiss f ws) := hr.congr fun i _ => by unfold isMiss; rw [findI_has]
          have HIX : Hid (∀ (k : Nat) (b : Bool), k < 26 → isMiss f ws k = b → ∀ W, (Instr.index 76 (.agg (row26 (isMiss f ws))) (.int .i64 (k : Int))).run Tryz.prog W = .ok (.bool b) W) := by
            show ∀ _, _
            intro k b hk hb W
            rw [← hb]; exact run_index26 _ k hk W
          have HSZ := Lib.hid (row26_size (isMiss f ws))
          unfold Row26 at hm
          clear hr
          obtain ⟨i0, hi0', hz0, hz1, hz2⟩ := info_parts infoU8
          have HI0 := Lib.hid hi0'; have HZ0 := Lib.hid hz0; have HZ1 := Lib.hid hz1; have HZ2 := Lib.hid hz2
          clear hi0' hz0 hz1 hz2
          generalize row26 (isMiss f ws) = R at *
          go_wp2_with (refine wpList_load_row rfl 76 _ rfl g rfl 76 R (0, 0) _ hm Tryz.underlying76 rfl (by rw [HSZ.out]; kernel_rfl) ?_)
          clear hm
          go_loopw [13, 56] (fun v i wr => ∃ (k : Nat) (acc : List UInt8), k ≤ 26 ∧ i = .int .i64 k ∧ acc = missL f ws k ∧ acc.length ≤ k ∧ wr.ownsRow w.heap.size 5 1 v acc.length (Lib.byteCells acc) ∧ Below w.heap.size w wr) (fun _ i _ => 26 - (intOf i).toNat)
          case atStart => exact ⟨0, [], Nat.zero_le _, rfl, rfl, Nat.le_refl _, own_nil _ _ _ _, hb⟩
          case round =>
            clear hb
            obtain ⟨k, acc, hk, rfl, hacc, hal, hown, hb⟩ := hrel
            have HA := Lib.hid hacc; clear hacc
            by_cases hlt : k < 26
            · have hk1 : (k : Int) < 26 := by omega
              have hk0 : (0 : Int) ≤ (k : Int) := by omega
              cases hmk : isMiss f ws k
              · have hix := HIX.out k false hlt hmk
                have HN := Lib.hid (missL_no hmk)
                clear hmk
                go_wp2
                go_roundw
                case rel => exact ⟨k + 1, acc, by omega, by go_num, by rw [HN.out, HA.out], by omega, hown, hb⟩
                case measure => simp [intOf]; omega
              · have hix := HIX.out k true hlt hmk
                have HN := Lib.hid (missL_yes hmk)
                clear hmk
                have hmx : acc.length + 1 ≤ maxLen := by unfold maxLen; omega
                have hsw : w.heap.size ≤ wr.heap.size := hb.size
                go_wp2_with (at_builtin; refine wpList_append_own _ rfl _ _ 22 rfl w.heap.size 5 i0 (.int .u8 0) 1 1 Tryz.underlying22 HI0.out HZ0.out HZ1.out HZ2.out rfl (by decide) _ _ _ rfl (hown.alloc _) ⟨wr.heap.size, 0, none⟩ 1 1 [.int .u8 (97 + (k : Int))] rfl rfl (cell_one_new _ _ _) (by simp [Value.oneCell']) hmx (by omega) (by simp; omega) ?_)
                intro v' w4 hown' hgrow _
                have hb4 : Below w.heap.size w w4 := below_append hb hgrow hb.size (own_lt hown)
                have HO1 : Hid (w4.ownsRow w.heap.size 5 1 v' (acc ++ [letB k]).length (Lib.byteCells (acc ++ [letB k]))) := by
                  rw [List.length_append, Lib.byteCells_append, show Lib.byteCells [letB k] = [.int .u8 (97 + (k : Int))] from by rw [← letB_int hlt]; rfl]; exact hown'
                clear hown' hgrow hown hb
                go_wp2
                go_roundw
                case rel => exact ⟨k + 1, acc ++ [letB k], by omega, by go_num, by rw [HN.out, HA.out], by simp; omega, HO1.out, hb4⟩
                case measure => simp [intOf]; omega
            · obtain rfl : k = 26 := by omega
              rcases hown.2 with ⟨rfl, h0⟩ | ⟨g', cap', cur, rfl, hg', hh, h1, h2, h3, h4⟩
              · obtain rfl : acc = [] := List.eq_nil_of_length_eq_zero h0
                have hcv : ∀ W, (convert 22 9 (.slice none 0 0)).run Tryz.prog W = .ok (.string ⟨#[]⟩) W := fun W => Lib.run_convert_nil_bytes W 22 9 5 0 Tryz.underlying22 Tryz.underlying5 Tryz.underlying9
                clear hown
                go_wp2
                go_ret2
                exact ⟨by rw [HY.out, ← HA.out]; rfl, hb⟩
              · have hcv : ∀ W, W = wr → (convert 22 9 (.slice (some ⟨g', 0, none⟩) acc.length cap')).run Tryz.prog W = .ok (.string ⟨acc.toArray⟩) W := fun W hW => by
                  subst hW
                  exact run_convert_bytes_back (P := Tryz.prog) W 22 9 5 ⟨g', 0, none⟩ cap' acc Tryz.underlying22 Tryz.underlying5 Tryz.underlying9 (Lib.bytes_of_row hh (by simpa using h4))
                have hcv := hcv wr rfl
                clear hown hh h1 h2 h3 h4
                go_wp2
                go_ret2
                exact ⟨by rw [HY.out, ← HA.out]; rfl, hb⟩
end Go.Proofs.YtiihhilhiknckaaGreatDoor

/-
  Rows of ints that begin anywhere in their block (what s[1:] answers): the words, and the law's own mark on them. Lengths up to a number: spec.LengthsUpTo.
-/
import Derived.Test.YtljakcfdjcjdbaaPs
import Derived.Test.YtljakcfdjcjdbaaIntsE
namespace Go.Proofs.Ytljakcfdjcjdbaa
open Go.RowKit
set_option linter.unusedVariables false

/-- v is a row of its own that reads as L; it begins anywhere in its block. -/
def AtRow (w : World) (base : Nat) (v : Value) (L : List Int) : Prop := ∃ (A : Option Addr) (c : Nat), v = .slice A L.length c ∧ (∀ a, A = some a → base ≤ a.block ∧ a.block < w.heap.size) ∧
  (0 < L.length → ∃ g off t cs, A = some ⟨g, off, none⟩ ∧ w.heap[g]? = some (.cells cs t (0, 0)) ∧ ∀ k (h : k < L.length), cs[off + k]? = some (.int .i64 L[k]))
theorem AtRow.of_own {w : World} {base : Nat} {t : TypeId} {v : Value} {L : List Int} (h : w.ownsRow base t 1 v L.length (intsZ L)) : AtRow w base v L := by
  rcases h.2 with ⟨rfl, h0⟩ | ⟨g, cap, cur, rfl, hg, hh, h1, h2, h3, h4⟩
  · exact ⟨none, 0, by rw [h0], fun a e => (by cases e), fun h => by omega⟩
  · refine ⟨_, cap, rfl, fun a e => ?_, fun h0 => ⟨g, 0, t, cur, rfl, hh, fun k hk => ?_⟩⟩
    · obtain rfl := Option.some.inj e
      exact ⟨hg, lt_of_heap hh⟩
    · rw [Nat.zero_add, ← Array.getElem?_toList]
      have e1 : (cur.toList.take (L.length * 1))[k]? = (intsZ L)[k]? := by rw [h4]
      rw [List.getElem?_take_of_lt (by omega)] at e1
      rw [e1]
      simp [intsZ, hk]
theorem AtRow.form {w : World} {base : Nat} {v : Value} {L : List Int} (h : AtRow w base v L) : ∃ A c, v = .slice A L.length c := by obtain ⟨A, c, h1, _⟩ := h; exact ⟨A, c, h1⟩
theorem AtRow.ints {w : World} {base m c : Nat} {A : Option Addr} {L : List Int} (h : AtRow w base (.slice A m c) L) : IntsIn w A L := fun h0 => by
  obtain ⟨A', c', h1, _, h3⟩ := h
  injection h1 with e1
  subst e1
  obtain ⟨g, off, t, cs, h4, h5, h6⟩ := h3 h0
  exact ⟨g, off, h4, lt_of_heap h5, fun k hk => by rw [cell_of_heap h5]; exact h6 k hk⟩
theorem AtRow.blk {w : World} {base : Nat} {v : Value} {L : List Int} (h : AtRow w base v L) : ∀ k, v.ownBlock = some k → base ≤ k ∧ k < w.heap.size := by
  obtain ⟨A, c, rfl, h2, _⟩ := h
  intro k hk
  cases A with
  | none => simp [Value.ownBlock] at hk
  | some a => obtain rfl : a.block = k := by simpa [Value.ownBlock] using hk
              exact h2 a rfl
theorem AtRow.lo {w : World} {base : Nat} {v : Value} {L : List Int} (h : AtRow w base v L) : ∀ k, v.ownBlock = some k → base ≤ k := fun k hk => (h.blk k hk).1
theorem AtRow.hi {w : World} {base : Nat} {v : Value} {L : List Int} (h : AtRow w base v L) : ∀ k, v.ownBlock = some k → k < w.heap.size := fun k hk => (h.blk k hk).2
theorem AtRow.grown {w w' : World} {base : Nat} {v : Value} {L : List Int} {row : Option Nat} (h : AtRow w base v L) (hg : w.grownBy w' row) (hne : ∀ k, v.ownBlock = some k → row ≠ some k) : AtRow w' base v L := by
  obtain ⟨A, c, rfl, h2, h3⟩ := h
  refine ⟨A, c, rfl, fun a e => ⟨(h2 a e).1, Nat.lt_of_lt_of_le (h2 a e).2 hg.size⟩, fun h0 => ?_⟩
  obtain ⟨g, off, t, cs, rfl, h5, h6⟩ := h3 h0
  exact ⟨g, off, t, cs, rfl, (hg.block g (lt_of_heap h5) (fun e => hne g (by simp [Value.ownBlock]) e.symm)).trans h5, h6⟩
theorem AtRow.below {w w' : World} {base : Nat} {v : Value} {L : List Int} (h : AtRow w base v L) (hb : Below w.heap.size w w') : AtRow w' base v L :=
  h.grown (row := none) ⟨hb.os, hb.tape, hb.output, hb.size, fun k hk _ => hb.block k hk⟩ (fun k _ e => by cases e)
theorem AtRow.up {w : World} {base : Nat} {v : Value} {L : List Int} (h : AtRow w base v L) : AtRow w 0 v L := by
  obtain ⟨A, c, h1, h2, h3⟩ := h
  exact ⟨A, c, h1, fun a e => ⟨Nat.zero_le _, (h2 a e).2⟩, h3⟩
theorem AtRow.low {w : World} {base b2 : Nat} {v : Value} {L : List Int} (h : AtRow w base v L) (hb : b2 ≤ base) : AtRow w b2 v L := by
  obtain ⟨A, c, h1, h2, h3⟩ := h
  exact ⟨A, c, h1, fun a e => ⟨Nat.le_trans hb (h2 a e).1, (h2 a e).2⟩, h3⟩
/-- Block g: n cells from off on are told. -/
def TcO (w : World) (g off : Nat) (t : TypeId) (n : Nat) (f : Nat → Int) : Prop := ∃ cs : Array Value, w.heap[g]? = some (.cells cs t (0, 0)) ∧ ∀ j, j < n → cs[off + j]? = some (.int .i64 (f j))
theorem TcO.set {w : World} {g off n : Nat} {t : TypeId} {f : Nat → Int} (h : TcO w g off t n f) (i : Nat) (x : Int) : TcO (w.setCell ⟨g, off + i, none⟩ (.int .i64 x)) g off t n (fun j => if j = i then x else f j) := by
  obtain ⟨cs, h1, h3⟩ := h
  refine ⟨_, heap_set h1 _, fun j hj => ?_⟩
  have h4 := h3 j hj
  by_cases e : j = i
  · subst e
    have : off + j < cs.size := (Array.getElem?_eq_some_iff.1 h4).1
    simp [this]
  · show _ = some (Value.int .i64 (if j = i then x else f j))
    rw [if_neg e, ← h4]; simp [Ne.symm e]
def mrkF (L : List Int) (k0 : Int) (m : Nat) : Nat → Int := fun j => if j < m then k0 + (j : Int) else L.getD j 0
theorem mrkF_succ (L : List Int) (k0 : Int) (m : Nat) : (fun j => if j = m then k0 + (m : Int) else mrkF L k0 m j) = mrkF L k0 (m + 1) := by
  funext j; unfold mrkF
  by_cases h : j = m
  · subst h; rw [if_pos rfl, if_pos (by omega)]
  · rw [if_neg h]
    by_cases h2 : j < m
    · rw [if_pos h2, if_pos (by omega)]
    · rw [if_neg h2, if_neg (by omega)]
set_option maxRecDepth 100000 in
theorem markAt_any (k0 : Int) (base : Nat) (v : Value) (L : List Int) (w : World) (h : AtRow w base v L) (h0 : 0 ≤ k0) (hn : k0 + (L.length : Int) ≤ 16777216) :
    Calls Try.prog 25 #[v, .int .i64 k0] w fun e w' => e = .returned (.int .i64 (k0 + (L.length : Int))) ∧ w.grownBy w' v.ownBlock ∧ AtRow w' base v (marks k0 L.length) := by
  obtain ⟨A, c, rfl, h2, h3⟩ := h
  rcases Nat.eq_zero_or_pos L.length with hz | hz
  · have HH : Hid (AtRow w base (.slice A L.length c) (marks k0 L.length)) := Lib.hid ⟨A, c, by rw [marks_len], h2, fun h => by rw [marks_len] at h; omega⟩
    have HZ := Lib.hid hz
    clear h3 h2
    rw [hz] at HH ⊢
    clear hz
    go_enter Try.func25, Try.ntmps25
    go_wp2
    go_loop [1, 5] (fun q i => i = .int .i64 0 ∧ q = .int .i64 k0) (fun _ i => 0)
    case atStart => exact ⟨rfl, rfl⟩
    case round =>
      obtain ⟨rfl, rfl⟩ := hrel
      go_wp2
      go_ret
      exact ⟨ret_int (by simp), World.grownBy.refl _ _, HH.out⟩
  · obtain ⟨g, off, t, cs, rfl, h5, h6⟩ := h3 hz
    have HT : Hid (TcO w g off t L.length (mrkF L k0 0)) := Lib.hid ⟨cs, h5, fun j hj => by unfold mrkF; rw [if_neg (by omega), getI hj]; exact h6 j hj⟩
    have HA := Lib.hid h2
    obtain ⟨n, hnn⟩ : ∃ n, n = L.length := ⟨_, rfl⟩
    rw [← hnn] at HT hz hn ⊢
    clear h3 h5 h6 h2 hnn
    go_enter Try.func25, Try.ntmps25
    go_wp2
    go_loopw [1, 5] (fun q i wr => ∃ (j : Nat), j ≤ n ∧ i = .int .i64 j ∧ q = .int .i64 (k0 + (j : Int)) ∧ TcO wr g off t n (mrkF L k0 j) ∧ w.grownBy wr (some g)) (fun _ i _ => n - (intOf i).toNat)
    case atStart => exact ⟨0, Nat.zero_le _, rfl, by simp, HT.out, World.grownBy.refl _ _⟩
    case round =>
      obtain ⟨j, hj, rfl, rfl, ht, hg⟩ := hrel
      by_cases hlt : j < n
      · have HS := Lib.hid (by have h := ht.set j (k0 + (j : Int)); rw [mrkF_succ] at h; exact h)
        have HG := Lib.hid (grown_set hg (off + j) (.int .i64 (k0 + (j : Int))))
        obtain ⟨cs', q1, q2⟩ := ht
        have hc := (cell_of_heap q1 (off + j)).trans (q2 j hlt)
        have hf := free_of_heap q1 (off + j)
        clear q1 q2 hg
        go_wp2
        go_roundw
        case rel => exact ⟨j + 1, by omega, by go_num, by rw [show k0 + ((j + 1 : Nat) : Int) = k0 + (j : Int) + 1 from by omega], HS.out, HG.out⟩
        case measure => simp [intOf]; omega
      · obtain rfl : j = n := by omega
        have HTT := Lib.hid ht; have HG := Lib.hid hg
        clear ht hg
        go_wp2
        go_ret
        refine ⟨rfl, HG.out, _, c, by rw [marks_len], fun a e => ⟨(HA.out a e).1, Nat.lt_of_lt_of_le (HA.out a e).2 HG.out.size⟩, fun _ => ?_⟩
        obtain ⟨cs', q1, q2⟩ := HTT.out
        refine ⟨g, off, t, cs', rfl, q1, fun k hk => ?_⟩
        rw [marks_len] at hk
        rw [q2 k hk]
        unfold mrkF
        rw [if_pos hk]
        simp [marks]

/-- The numbers from 1 on that are less than k and pass. -/
def upI (T : Nat → Bool) : Nat → List Int
  | 0 => []
  | k + 1 => if 0 < k ∧ T k = true then upI T k ++ [(k : Int)] else upI T k
theorem upI_yes {T : Nat → Bool} {k : Nat} (h : 0 < k) (h2 : T k = true) : upI T (k + 1) = upI T k ++ [(k : Int)] := if_pos ⟨h, h2⟩
theorem upI_no {T : Nat → Bool} {k : Nat} (h : ¬ (0 < k ∧ T k = true)) : upI T (k + 1) = upI T k := if_neg h
theorem upI_len (T : Nat → Bool) : ∀ k, (upI T k).length ≤ k
  | 0 => Nat.le_refl _
  | k + 1 => by
    have := upI_len T k
    unfold upI
    split
    · rw [List.length_append]; show _ + 1 ≤ _; omega
    · omega
def valL (l : List Sum4) : List Int := l.map fun x => (x.val : Int)
theorem valL_snoc (l : List Sum4) (x : Sum4) : valL (l ++ [x]) = valL l ++ [(x.val : Int)] := by simp [valL]
theorem val_up {T : Nat → Bool} (h0 : T 0 = true) : ∀ k : Nat, k ≤ 400 → valL (sumL T (k + 1)) = 0 :: upI T (k + 1)
  | 0, _ => by rw [sumL_yes h0 (by omega), valL_snoc, upI_no (by omega)]; rfl
  | k + 1, h => by
    have ih := val_up h0 k (by omega)
    cases hT : T (k + 1) with
    | true => rw [sumL_yes hT h, valL_snoc, ih, upI_yes (by omega) hT]; rfl
    | false => rw [sumL_no hT, ih, upI_no (k := k + 1) (fun h => by rw [hT] at h; cases h.2)]
noncomputable def askU (f : List Sl) (n : Int) : Bool := stkB f && inB 0 400 n
theorem askU_iff {f : List Sl} {n : Int} : askU f n = true ↔ GoodS f ∧ 0 ≤ n ∧ n ≤ 400 := by unfold askU; rw [Bool.and_eq_true, stkB_iff, inBs_iff]
noncomputable def upV (f : List Sl) (n : Int) : List Int := if askU f n then upI (mkB f) (n.toNat + 1) else []
theorem upV_no {f : List Sl} {n : Int} (h : askU f n = false) : upV f n = [] := by unfold upV; rw [h]; rfl
theorem upV_yes {f : List Sl} {n : Nat} (h : askU f (n : Int) = true) : upV f (n : Int) = upI (mkB f) (n + 1) := by unfold upV; rw [h]; rfl
theorem upV_short (f : List Sl) (n : Int) : (upV f n).length ≤ 1048576 := by
  cases h : askU f n
  · rw [upV_no h]; simp
  · have h1 := askU_iff.1 h
    unfold upV; rw [h]
    have := upI_len (mkB f) (n.toNat + 1)
    show (upI _ _).length ≤ _
    omega
set_option maxRecDepth 100000 in
set_option maxHeartbeats 2000000 in
theorem specLengthsUpTo_any (f : List Sl) (A : Option Addr) (c : Nat) (n : Int) (w : World) (hf : SlsIn w A f) (hn : f.length ≤ 1048576) :
    Calls Try.prog 35 #[.slice A f.length c, .int .i64 n] w fun e w' => ∃ v, e = .returned (.tuple #[v, .bool (askU f n)]) ∧ Below w.heap.size w w' ∧ AtRow w' w.heap.size v (upV f n) := by
  have HF := Lib.hid hf; clear hf
  obtain ⟨i0, hi, hz0, hz1, hz2⟩ := info_parts info_int
  have HI := Lib.hid hi; have HZ0 := Lib.hid hz0; have HZ1 := Lib.hid hz1; have HZ2 := Lib.hid hz2
  clear hi hz0 hz1 hz2
  have HAE : Hid (askU f n = (stkB f && inB 0 400 n)) := Lib.hid rfl
  go_enter Try.func35, Try.ntmps35
  go_wp2_with fail
  refine (ruGood_any f A c _ HF.out hn).mono ?_
  rintro e w1 ⟨rfl, hb1⟩
  have HB1 := Lib.hid hb1
  clear hb1
  cases hg : stkB f
  · have HA : Hid (askU f n = false) := Lib.hid (by rw [HAE.out, hg]; rfl)
    have HV := Lib.hid (upV_no HA.out)
    clear hg
    go_wp2
    go_ret2
    exact ⟨_, ret_vb HA.out.symm, HB1.out, by rw [HV.out]; exact AtRow.of_own (own_nil _ _ _ 3)⟩
  have HG := Lib.hid (stkB_iff.1 hg)
  go_wp2_with fail
  refine (l1In_any _ _ _ _).mono ?_
  rintro e w' ⟨rfl, rfl⟩
  cases hi : inB 0 400 n
  · have HA : Hid (askU f n = false) := Lib.hid (by rw [HAE.out, hi]; simp)
    have HV := Lib.hid (upV_no HA.out)
    clear hg hi
    go_wp2
    go_ret2
    exact ⟨_, ret_vb HA.out.symm, HB1.out, by rw [HV.out]; exact AtRow.of_own (own_nil _ _ _ 3)⟩
  have HA : Hid (askU f n = true) := Lib.hid (by rw [HAE.out, hg, hi]; rfl)
  have hin := inBs_iff.1 hi
  obtain ⟨N, rfl⟩ : ∃ N : Nat, n = (N : Int) := ⟨n.toNat, by omega⟩
  have HV := Lib.hid (upV_yes HA.out)
  clear hg hi
  have hn8 := HG.out.eight
  have hN4 : N ≤ 400 := by omega
  go_wp2_with fail
  refine (ruTables_any f A c N _ (HF.out.below HB1.out (Nat.le_refl _)) HG.out hN4).mono ?_
  rintro e w2 ⟨G, cap, rfl, hcap, hb2, hO⟩
  have HB2 := Lib.hid (HB1.out.trans (hb2.mono HB1.out.size))
  have HT := Lib.hid hO
  clear hb2 hO
  obtain ⟨g, cg, k1, k2, k3, k4⟩ := HT.out.2.2 f.length (by omega)
  have HK := Lib.hid k4
  have hGl := HT.out.2.1
  have hfl : (f.length : Int) < ((f.length + 1 : Nat) : Int) := by omega
  have hw2 := HB2.out.size
  clear k4
  go_wp2
  go_loopw [6, 25] (fun v i wr => ∃ m : Nat, m ≤ N + 1 ∧ i = .int .i64 (m : Int) ∧ wr.ownsRow w2.heap.size 3 1 v (upI (mkB f) m).length (intsZ (upI (mkB f) m)) ∧ Below w2.heap.size w2 wr) (fun _ i _ => 402 - (intOf i).toNat)
  case atStart => exact ⟨0, by omega, rfl, own_nil _ _ _ _, Below.refl _ _⟩
  case round =>
    obtain ⟨m, hm2, rfl, ho, hb⟩ := hrel
    have HOW := Lib.hid ho; have HB := Lib.hid hb
    have HBW := Lib.hid (HB2.out.trans (hb.mono HB2.out.size))
    clear ho hb k1
    by_cases hlt : m < N + 1
    · have ht := (HK.out.next HB.out).cell (j := m) hlt
      have hgl2 : g < wr.heap.size := (HK.out.next HB.out).lt
      have hmN : (m : Int) < ((N + 1 : Nat) : Int) := by omega
      have hfe : fwI 1048576 f f.length m = (FW 1048576 f m : Int) := by unfold fwI; rw [List.take_length]
      rw [hfe] at ht
      have hfl2 := FW_le 1048576 f m
      have HMK := Lib.hid (mkB_fw (f := f) HG.out (Z := 1048576) (n := m) (by omega))
      have hul := upI_len (mkB f) m
      have hmx : (upI (mkB f) m).length + 1 ≤ maxLen := by unfold maxLen; omega
      have HYES := Lib.hid (upI_yes (T := mkB f) (k := m))
      have HNO := Lib.hid (upI_no (T := mkB f) (k := m))
      have hws := HB.out.size
      clear hfe
      generalize FW 1048576 f m = fd at *
      obtain ⟨x, hx⟩ : ∃ x : Int, (fd : Int) = x := ⟨_, rfl⟩
      rw [hx] at ht
      have HMX : Hid (mkB f m = true ↔ x < 1048576) := Lib.hid (HMK.out.trans (by omega))
      have hx0 : 0 ≤ x := by omega
      have hx1 : x ≤ 1048576 := by omega
      clear hx hfl2 HMK
      rcases (by omega : ((m : Int) > 0 ∧ x < 1048576) ∨ ((m : Int) > 0 ∧ ¬ x < 1048576) ∨ ¬ (m : Int) > 0) with ⟨h1, h2⟩ | ⟨h1, h2⟩ | h1
      · have HU := Lib.hid (HYES.out (by omega) (HMX.out.2 h2))
        have hd1 : decide ((m : Int) > 0) = true := decide_eq_true h1
        have hd2 : decide (x < 1048576) = true := decide_eq_true h2
        generalize hQ : upI (mkB f) m = Q at *
        clear hQ
        go_wp2_with (at_builtin; refine wpList_append_own_at _ rfl _ _ 31 rfl w2.heap.size 3 i0 (.int .i64 0) 1 8 Try.underlying31 HI.out HZ0.out HZ1.out HZ2.out rfl (by decide) _ _ _ rfl (HOW.out.alloc _) ⟨wr.heap.size, 0, none⟩ 1 1 [.int .i64 (m : Int)] rfl rfl (cell_one_new _ _ _) (by simp [Value.oneCell']) hmx (by omega) (by first | (simp; done) | (simp; omega) | omega) ?_)
        intro v' w5 hown' hgrow _ hat
        have HB5 := Lib.hid ((HB.out.alloc HB.out.size (.cells #[.int .i64 (m : Int)] 3)).grown hgrow (by simp; omega) (own_lt HOW.out))
        have HO5 : Hid (w5.ownsRow w2.heap.size 3 1 v' (upI (mkB f) (m + 1)).length (intsZ (upI (mkB f) (m + 1)))) := Lib.hid (by
          rw [HU.out, intsZ_snoc, List.length_append]; exact hown')
        clear hown' hgrow hat
        go_wp2
        go_roundw
        case rel => exact ⟨m + 1, by omega, by go_num, HO5.out, HB5.out⟩
        case measure => simp [intOf]; omega
      · have HU := Lib.hid (HNO.out (fun h => by exact h2 (HMX.out.1 h.2)))
        have hd1 : decide ((m : Int) > 0) = true := decide_eq_true h1
        have hd2 : decide (x < 1048576) = false := decide_eq_false h2
        go_wp2
        go_roundw
        case rel => exact ⟨m + 1, by omega, by go_num, by rw [HU.out]; exact HOW.out, HB.out⟩
        case measure => simp [intOf]; omega
      · have HU := Lib.hid (HNO.out (fun h => by omega))
        go_wp2
        go_roundw
        case rel => exact ⟨m + 1, by omega, by go_num, by rw [HU.out]; exact HOW.out, HB.out⟩
        case measure => simp [intOf]; omega
    · obtain rfl : m = N + 1 := by omega
      go_wp2
      go_ret2
      exact ⟨_, ret_vb HA.out.symm, HBW.out, by rw [HV.out]; exact (AtRow.of_own HOW.out).low (by omega)⟩
end Go.Proofs.Ytljakcfdjcjdbaa

import Derived.Test.YtllafkeheppkjaaDoorBm
import Derived.Test.YtllafkeheppkjaaDoorEm
import Derived.Test.YtllafkeheppkjaaDoorCu
/-
  The contracts that FnCases leans on, restated with their values by name; what the law asks of each box.
-/
namespace Go.Proofs.YtllafkeheppkjaaDoor
open Go.RowKit
set_option linter.unusedVariables false

def OpIs (r : Option (List Bx)) (t : List Bx) (ok : Bool) : Prop := r.getD [] = t ∧ r.isSome = ok
def BxsBack (w w' : World) (e : Ending) (t : List Bx) (ok : Bool) : Prop := ∃ A c, e = .returned (.tuple #[.slice A t.length c, .bool ok]) ∧ Below w.heap.size w w' ∧ BxsIn w' A t ∧ t.length ≤ c
theorem BxsTo.back {w w' : World} {e : Ending} {r : Option (List Bx)} {t : List Bx} {ok : Bool} (h : BxsTo w w' e r) (hr : Hid (OpIs r t ok)) : BxsBack w w' e t ok := by
  obtain ⟨rfl, rfl⟩ := hr.out
  obtain ⟨v, rfl, hb, hown⟩ := h
  obtain ⟨A, c, rfl⟩ := own_form_bx hown
  exact ⟨A, c, rfl, hb, own_in_bx hown, own_cap hown⟩
theorem OpIs.some {r : Option (List Bx)} {t : List Bx} (h : OpIs r t true) : r = some t := by
  obtain ⟨h1, h2⟩ := h
  cases r with
  | none => cases h2
  | some x => rw [← h1]; rfl
theorem take_ok {l t : List Bx} {cs : List ByteArray} {ok : Bool} (h : OpIs (mvR l cs (-1)) t ok) (ho : BxsOk l) : BxsOk t ∧ t.length ≤ l.length := by
  obtain ⟨rfl, _⟩ := h
  unfold mvR
  split
  · exact ⟨moveL_ok _ _ ho, by simp [moveL_len]⟩
  · exact ⟨fun k hk => absurd hk (by simp), by simp⟩
theorem swap_ok {l t : List Bx} {a b : Int} {ok : Bool} (h : OpIs (swR l a b) t ok) (ho : BxsOk l) : BxsOk t ∧ t.length ≤ l.length := by
  obtain ⟨rfl, _⟩ := h
  unfold swR
  split
  · rename_i hc
    exact ⟨by
      intro k hk
      have ha : a.toNat < l.length := by omega
      have hb : b.toNat < l.length := by omega
      have hk' : k < l.length := by simpa [swapL_len] using hk
      show (swapL l a.toNat b.toNat)[k].cod.size ≤ maxLen
      rw [(swapL_tau ha hb hk' (by rw [swapL_len]; exact hk')).1]
      exact ho k hk', by simp [swapL_len]⟩
  · exact ⟨fun k hk => absurd hk (by simp), by simp⟩
def TiIs (l : List Bx) (n : Int) (g : Bool) : Prop := (tiR l).getD 0 = n ∧ (tiR l).isSome = g
theorem tiIs_case {l : List Bx} {n : Int} {g : Bool} (h : TiIs l n g) : caseB l = g := by
  rw [← h.2]
  unfold tiR
  split
  · rename_i hc; rw [hc]; rfl
  · rename_i hc; simpa using hc
/-- What the law asks of each box of a case. -/
theorem caI_own {l : List Bx} (h : CaseOk l) {i : Nat} (hi : i < l.length) : caI l l[i].cod = (i : Int) := by
  rcases caI_cases l l[i].cod with ⟨_, hn⟩ | ⟨k, hk, he, e⟩
  · exact absurd rfl (hn i hi)
  · rw [e]
    have hk' : k < (sf l).length := by rw [sf_len]; exact hk
    have hi' : i < (sf l).length := by rw [sf_len]; exact hi
    have := h.font.inj hk' hi' (by rw [codeAt_of hk', codeAt_of hi', sf_get, sf_get]; simp only [he])
    omega
def BoIs (l : List Bx) (c : ByteArray) (x : Int) (g : Bool) : Prop := (boR l c).getD 0 = x ∧ (boR l c).isSome = g
theorem bo_own {l : List Bx} {g : Bool} (h : caseB l = g) {i : Nat} (hi : i < l.length) : ∃ x, BoIs l l[i].cod x g ∧ (g = true → x = (i : Int) ∧ boxB l[i] = true) := by
  subst h
  cases hc : caseB l
  · refine ⟨0, ⟨?_, ?_⟩, fun h => by cases h⟩ <;> simp [boR, hc]
  · have hC := caseB_iff.1 hc
    have e := caI_own hC hi
    refine ⟨(i : Int), ⟨?_, ?_⟩, fun _ => ⟨rfl, hC.box hi⟩⟩ <;> simp [boR, hc, e]
theorem ti_range {l : List Bx} {n : Int} {g : Bool} (h : TiIs l n g) : 0 ≤ n ∧ n ≤ 1000000 := by
  obtain ⟨rfl, _⟩ := h
  unfold tiR
  split
  · rename_i hc
    have hC := caseB_iff.1 hc
    have := cntSum_range hC l.length (Nat.le_refl _)
    rw [List.take_length] at this
    have := hC.2.2
    show 0 ≤ cntSum l ∧ cntSum l ≤ 1000000
    omega
  · exact ⟨Int.le_refl _, by decide⟩
theorem take_ti {l t : List Bx} {cs : List ByteArray} {n : Int} {g : Bool} (h : OpIs (mvR l cs (-1)) t true) (hn : TiIs l n g) : g = true ∧ OpIs (mvR t cs 1) l true ∧ TiIs t (n - cs.length) true := by
  have h := h.some
  have h1 := put_take h
  have h2 := take_sum h
  obtain ⟨rfl, rfl⟩ := hn
  rw [h2.2]
  exact ⟨rfl, ⟨by rw [h1.1]; rfl, by rw [h1.1]; rfl⟩, by rw [h2.1]; rfl, by rw [h2.1]; rfl⟩
theorem swap_back {l t : List Bx} {a b : Int} (h : OpIs (swR l a b) t true) : OpIs (swR t a b) l true := by
  have := swap_twice h.some
  exact ⟨by rw [this]; rfl, by rw [this]; rfl⟩
end Go.Proofs.YtllafkeheppkjaaDoor

/-
  The contracts that FnCases leans on, restated with their values by name.
-/
namespace Go.Proofs.YtllafkeheppkjaaDoor
open Go.RowKit
open Go.Proofs.YtllafkeheppkjaaDoor.P
set_option linter.unusedVariables false

theorem BytesIn.under {w w' : World} {B : Nat} {A : Option Addr} {l : List UInt8} (h : BytesIn w A l) (hb : Below B w w') (hB : w.heap.size ≤ B) : BytesIn w' A l := by
  intro hn
  obtain ⟨b, off, rfl, h2, h3⟩ := h hn
  refine ⟨b, off, rfl, Nat.lt_of_lt_of_le h2 hb.size, fun k hk => ?_⟩
  rw [hb.cell (by show b < B; omega)]
  exact h3 k hk
def CtIs (l : List Bx) (s : ByteArray) (g : Bool) : Prop := ctextB l = s ∧ caseB l = g
def IbIs (b : Bx) (v : Bool) : Prop := boxB b = v
theorem implTi_is (l : List Bx) (A : Option Addr) (c : Nat) (w : World) (hf : BxsIn w A l) (hn : l.length ≤ 1048576) (ho : BxsOk l) (hcap : l.length ≤ c) (n : Int) (g : Bool) (h : Hid (TiIs l n g)) :
    Calls Tryd.prog 13 #[.slice A l.length c] w fun e w' => e = .returned (.tuple #[.int .i64 n, .bool g]) ∧ Below w.heap.size w w' := by
  obtain ⟨rfl, rfl⟩ := h.out
  exact implTypesIn_any l A c w hf hn ho hcap
theorem implCt_is (l : List Bx) (A : Option Addr) (c : Nat) (w : World) (hf : BxsIn w A l) (hn : l.length ≤ 1048576) (ho : BxsOk l) (hcap : l.length ≤ c) (ht : Tab w) (s : ByteArray) (g : Bool) (h : Hid (CtIs l s g)) :
    Calls Tryd.prog 8 #[.slice A l.length c] w fun e w' => e = .returned (.tuple #[.string s, .bool g]) ∧ Below w.heap.size w w' := by
  obtain ⟨rfl, rfl⟩ := h.out
  exact implCaseText_any l A c w hf hn ho hcap ht
theorem implBo_is (l : List Bx) (A : Option Addr) (c : Nat) (w : World) (hf : BxsIn w A l) (hn : l.length ≤ 1048576) (ho : BxsOk l) (hcap : l.length ≤ c) (s : ByteArray) (x : Int) (g : Bool) (h : Hid (BoIs l s x g)) :
    Calls Tryd.prog 18 #[.slice A l.length c, .string s] w fun e w' => e = .returned (.tuple #[.int .i64 x, .bool g]) ∧ Below w.heap.size w w' := by
  obtain ⟨rfl, rfl⟩ := h.out
  exact implBoxOf_any l A c s w hf hn ho
theorem implIb_is (b : Bx) (w : World) (hs : b.cod.size ≤ maxLen) (v : Bool) (h : Hid (IbIs b v)) :
    Calls Tryd.prog 19 #[.agg #[.string b.cod, .int .i64 b.row, .int .i64 b.col, .int .i64 b.cnt]] w fun e w' => e = .returned (.bool v) ∧ Below w.heap.size w w' := by
  obtain rfl := h.out
  exact implIsBox_any b w hs
theorem specTi_is (l : List Bx) (A : Option Addr) (c : Nat) (w : World) (hf : BxsIn w A l) (hn : l.length ≤ 1048576) (ho : BxsOk l) (hcap : l.length ≤ c) (n : Int) (g : Bool) (h : Hid (TiIs l n g)) :
    Calls Tryd.prog 14 #[.slice A l.length c] w fun e w' => e = .returned (.tuple #[.int .i64 n, .bool g]) ∧ Below w.heap.size w w' := by
  obtain ⟨rfl, rfl⟩ := h.out
  exact specTypesIn_any l A c w hf hn ho hcap
theorem specCt_is (l : List Bx) (A : Option Addr) (c : Nat) (w : World) (hf : BxsIn w A l) (hn : l.length ≤ 1048576) (ho : BxsOk l) (hcap : l.length ≤ c) (s : ByteArray) (g : Bool) (h : Hid (CtIs l s g)) :
    Calls Tryd.prog 6 #[.slice A l.length c] w fun e w' => e = .returned (.tuple #[.string s, .bool g]) ∧ Below w.heap.size w w' := by
  obtain ⟨rfl, rfl⟩ := h.out
  exact specCaseText_any l A c w hf hn ho hcap
theorem specBo_is (l : List Bx) (A : Option Addr) (c : Nat) (w : World) (hf : BxsIn w A l) (hn : l.length ≤ 1048576) (ho : BxsOk l) (hcap : l.length ≤ c) (s : ByteArray) (x : Int) (g : Bool) (h : Hid (BoIs l s x g)) :
    Calls Tryd.prog 27 #[.slice A l.length c, .string s] w fun e w' => e = .returned (.tuple #[.int .i64 x, .bool g]) ∧ Below w.heap.size w w' := by
  obtain ⟨rfl, rfl⟩ := h.out
  exact specBoxOf_any l A c s w hf hn ho hcap
theorem specIb_is (b : Bx) (w : World) (hs : b.cod.size ≤ maxLen) (v : Bool) (h : Hid (IbIs b v)) :
    Calls Tryd.prog 28 #[.agg #[.string b.cod, .int .i64 b.row, .int .i64 b.col, .int .i64 b.cnt]] w fun e w' => e = .returned (.bool v) ∧ Below w.heap.size w w' := by
  obtain rfl := h.out
  exact specIsBox_any b w hs
theorem implIc_is (l : List Bx) (A : Option Addr) (c : Nat) (w : World) (hf : BxsIn w A l) (hn : l.length ≤ 1048576) (ho : BxsOk l) (hcap : l.length ≤ c) (g : Bool) (h : Hid (caseB l = g)) :
    Calls Tryd.prog 16 #[.slice A l.length c] w fun e w' => e = .returned (.bool g) ∧ Below w.heap.size w w' := by
  obtain rfl := h.out
  exact implIsCase_any l A c w hf hn ho
end Go.Proofs.YtllafkeheppkjaaDoor

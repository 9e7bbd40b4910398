/-
  The contracts of spec.tySet, spec.SortsOfWord and impl.SortsOfWord over a font: the list of sorts with which a word is set, in memory of the call's own.
-/
import Derived.Test.YtcbhhbcfnaekpaaDoorBest
namespace Go.Proofs.YtcbhhbcfnaekpaaDoor
open Go.RowKit
set_option linter.unusedVariables false

def ints (l : List Nat) : List Value := l.map fun i : Nat => .int .i64 (i : Int)
theorem ints_len (l : List Nat) : (ints l).length = l.length := by simp [ints]
theorem ints_snoc (l : List Nat) (i : Nat) : ints (l ++ [i]) = ints l ++ [.int .i64 (i : Int)] := by simp [ints]
theorem own_below {w w' : World} {base size n : Nat} {e : TypeId} {v : Value} {xs : List Value} (h : w.ownsRow base e size v n xs) (hb : Below w.heap.size w w') : w'.ownsRow base e size v n xs :=
  h.kept (row := none) ⟨hb.os, hb.tape, hb.output, hb.size, fun k hk _ => hb.block k hk⟩ (by cases v.ownBlock <;> simp)
theorem own_lt {w : World} {base size n : Nat} {e : TypeId} {v : Value} {xs : List Value} (h : w.ownsRow base e size v n xs) : ∀ k, v.ownBlock = some k → base ≤ k := fun k hk => (h.lt k hk).1
theorem own_nil (w : World) (base size : Nat) (e : TypeId) : w.ownsRow base e size (.slice none 0 0) 0 [] := ⟨by simp, .inl ⟨rfl, rfl⟩⟩

/-- The sorts with which the rest of a word from p on is set. -/
def setF (f : List (ByteArray × Int)) (s : ByteArray) : Nat → Nat → Option (List Nat)
  | 0, p => if s.size ≤ p then some [] else none
  | n + 1, p => if s.size ≤ p then some [] else
    match lastPre f (s.extract p s.size) f.length with
    | none => none
    | some i => (setF f s n (p + (codeAt f i).length)).map (i :: ·)
def setW (f : List (ByteArray × Int)) (s : ByteArray) : Option (List Nat) := setF f s s.size 0
theorem setF_end {f : List (ByteArray × Int)} {s : ByteArray} {n p : Nat} (h : s.size ≤ p) : setF f s n p = some [] := by
  cases n <;> simp [setF, h]
theorem setF_no {f : List (ByteArray × Int)} {s : ByteArray} {n p : Nat} (h : p < s.size) (hl : lastPre f (s.extract p s.size) f.length = none) : setF f s n p = none := by
  cases n <;> simp [setF, Nat.not_le.2 h, hl]
/-- So far acc, from p on with n left to go. -/
def SetSo (f : List (ByteArray × Int)) (s : ByteArray) (acc : List Nat) (p : Nat) : Prop := p ≤ s.size ∧ acc.length ≤ p ∧ ∃ n, s.size - p ≤ n ∧ setW f s = (setF f s n p).map (acc ++ ·)
theorem SetSo.start (f : List (ByteArray × Int)) (s : ByteArray) : SetSo f s [] 0 := ⟨Nat.zero_le _, Nat.le_refl _, s.size, by omega, by simp [setW]⟩
theorem SetSo.step {f : List (ByteArray × Int)} {s : ByteArray} {acc : List Nat} {p i : Nat} (hf : Font f) (h : SetSo f s acc p) (hp : p < s.size) (hl : lastPre f (s.extract p s.size) f.length = some i) : SetSo f s (acc ++ [i]) (p + (codeAt f i).length) := by
  obtain ⟨h1, h2, n, hn, h3⟩ := h
  obtain ⟨g1, g2, _⟩ := lastPre_some hl
  have hsz := hf.size g1
  have hle := g2.length_le
  rw [rest_list, List.length_drop, len_list] at hle
  cases n with
  | zero => omega
  | succ n =>
    refine ⟨by omega, by simp; omega, n, by omega, ?_⟩
    rw [h3]
    simp only [setF]
    rw [if_neg (by omega), hl]
    simp only [Option.map_map]
    congr 1
    funext x
    simp
theorem SetSo.no {f : List (ByteArray × Int)} {s : ByteArray} {acc : List Nat} {p : Nat} (h : SetSo f s acc p) (hp : p < s.size) (hl : lastPre f (s.extract p s.size) f.length = none) : setW f s = none := by
  obtain ⟨_, _, n, _, h3⟩ := h
  rw [h3, setF_no hp hl]; rfl
theorem SetSo.done {f : List (ByteArray × Int)} {s : ByteArray} {acc : List Nat} (h : SetSo f s acc s.size) : setW f s = some acc := by
  obtain ⟨_, _, n, _, h3⟩ := h
  rw [h3, setF_end (Nat.le_refl _)]; simp

def SetsTo (w w' : World) (e : Ending) (r : Option (List Nat)) : Prop := Below w.heap.size w w' ∧
  match r with
  | none => e = .returned (.tuple #[.slice none 0 0, .bool false])
  | some l => ∃ v, e = .returned (.tuple #[v, .bool true]) ∧ w'.ownsRow w.heap.size 3 1 v l.length (ints l)

theorem SetsTo.no {w w' : World} {r : Option (List Nat)} (h : r = none) (hb : Below w.heap.size w w') : SetsTo w w' (.returned (.tuple #[.slice none 0 0, .bool false])) r := by subst h; exact ⟨hb, rfl⟩
theorem SetsTo.yes {w w' : World} {r : Option (List Nat)} {l : List Nat} {v : Value} (h : r = some l) (hb : Below w.heap.size w w') (ho : w'.ownsRow w.heap.size 3 1 v l.length (ints l)) : SetsTo w w' (.returned (.tuple #[v, .bool true])) r := by subst h; exact ⟨hb, v, rfl, ho⟩
theorem info3 : (Tryd.prog.info? 3).map (fun i => (i.zero, i.size, i.bytes)) = some (some (.int .i64 0), 1, 8) := by kernel_rfl

theorem least_nat (a : Int) (h0 : 0 ≤ a) : ∃ M : Nat, (if (3 : Int) < a then (3 : Int) else a) = (M : Int) ∧ M ≤ 3 ∧ (M : Int) ≤ a ∧ (M = 3 ∨ (M : Int) = a) := by
  by_cases h : (3 : Int) < a
  · exact ⟨3, by rw [if_pos h]; rfl, by omega, by omega, .inl rfl⟩
  · exact ⟨a.toNat, by rw [if_neg h]; omega, by omega, by omega, .inr (by omega)⟩
theorem asInt_some {o : Option Nat} {k : Nat} (h : o = some k) : asInt o = (k : Int) := by rw [h]; rfl

end Go.Proofs.YtcbhhbcfnaekpaaDoor

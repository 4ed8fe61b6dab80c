/-
  Plain facts on the document's own reading: the int of digits, the bytes between quotes. No program is named here.
-/
import Derived.Test.YtnbaemfkpfmheaaGreatDoorPure
namespace Go.Proofs.YtnbaemfkpfmheaaGreatDoor
open Go

/-- The number that digits spell, behind what has come. -/
def dgl : List UInt8 → Nat → Option Nat
  | [], a => some a
  | c :: r, a => if 48 ≤ c.toNat ∧ c.toNat ≤ 57 then dgl r (a * 10 + (c.toNat - 48)) else none
/-- A numeral's sign. -/
def sgnB (l : List UInt8) : Bool := l.head? == some 45
/-- A numeral's digits. -/
def digsOf (l : List UInt8) : List UInt8 := if sgnB l then l.tail else l
/-- The int within its bounds. -/
def boundI (m : Bool) (u : Nat) : Option Int :=
  if m then (if 9223372036854775808 < u then none else some (-(u : Int))) else if 9223372036854775807 < u then none else some (u : Int)
/-- The int that a text spells, digits and a sign alone. -/
def wholeL (l : List UInt8) : Option Int :=
  if digsOf l = [] ∨ 19 < (digsOf l).length then none else (dgl (digsOf l) 0).bind (boundI (sgnB l))

theorem dgl_append : ∀ (a b : List UInt8) (x y : Nat), dgl a x = some y → dgl (a ++ b) x = dgl b y
  | [], b, x, y, h => by simp [dgl] at h; rw [h]; rfl
  | c :: r, b, x, y, h => by
    unfold dgl at h
    rw [List.cons_append]
    conv => lhs; unfold dgl
    by_cases g : 48 ≤ c.toNat ∧ c.toNat ≤ 57
    · rw [if_pos g] at h ⊢
      exact dgl_append r b _ _ h
    · rw [if_neg g] at h
      cases h
theorem dgl_one {c : UInt8} {x : Nat} (h : 48 ≤ c.toNat ∧ c.toNat ≤ 57) : dgl [c] x = some (x * 10 + (c.toNat - 48)) := by
  simp [dgl, h]
theorem dgl_dd (u : Nat) : dgl (Lib.decDigits u) 0 = some u := by
  induction u using Nat.strongRecOn with
  | _ u ih =>
  by_cases h : u < 10
  · rw [dd_small h, dgl_one (by rw [dgt_toNat h]; omega), dgt_toNat h]
    simp
  · have hd : u % 10 < 10 := by omega
    rw [dd_big h, dgl_append _ _ _ _ (ih (u / 10) (by omega)), dgl_one (by rw [dgt_toNat hd]; omega), dgt_toNat hd]
    congr 1
    omega
theorem dd_len : ∀ (k n : Nat), n < 10 ^ (k + 1) → (Lib.decDigits n).length ≤ k + 1
  | 0, n, h => by rw [dd_small (by simpa using h)]; simp
  | k + 1, n, h => by
    rw [Nat.pow_succ] at h
    by_cases g : n < 10
    · rw [dd_small g]; simp
    · rw [dd_big g, List.length_append]
      have := dd_len k (n / 10) (by omega)
      simp
      omega
/-- A numeral of an int64 spells it. -/
theorem whole_itoa (n : Int) (h1 : -9223372036854775808 ≤ n) (h2 : n ≤ 9223372036854775807) : wholeL (Lib.itoa n) = some n := by
  by_cases hn : n < 0
  · have e : Lib.itoa n = 45 :: Lib.decDigits n.natAbs := by unfold Lib.itoa; rw [if_pos hn]
    have hs : sgnB (Lib.itoa n) = true := by rw [e]; rfl
    have hd : digsOf (Lib.itoa n) = Lib.decDigits n.natAbs := by unfold digsOf; rw [hs, e]; first | done | rfl
    obtain ⟨c, r, e1, -, -⟩ := dd_head n.natAbs
    have hl := dd_len 18 n.natAbs (by omega)
    unfold wholeL
    rw [hs, hd, if_neg (by rintro (h | h); · rw [e1] at h; cases h
                           · omega), dgl_dd]
    simp only [Option.bind_some, boundI, if_true]
    rw [if_neg (by omega)]
    congr 1; omega
  · have e : Lib.itoa n = Lib.decDigits n.toNat := by unfold Lib.itoa; rw [if_neg hn]
    obtain ⟨c, r, e1, g1, g2⟩ := dd_head n.toNat
    have hs : sgnB (Lib.itoa n) = false := by
      rw [e, e1]
      unfold sgnB
      rw [beq_eq_false_iff_ne]
      intro h
      have : c = 45 := by simpa using h
      rw [this] at g1
      simp at g1
    have hd : digsOf (Lib.itoa n) = Lib.decDigits n.toNat := by unfold digsOf; rw [hs, e]; first | done | rfl
    have hl := dd_len 18 n.toNat (by omega)
    unfold wholeL
    rw [hs, hd, if_neg (by rintro (h | h); · rw [e1] at h; cases h
                           · omega), dgl_dd]
    simp only [Option.bind_some, boundI, Bool.false_eq_true, if_false]
    rw [if_neg (by omega)]
    congr 1; omega
theorem whole_quote (r : List UInt8) : wholeL (34 :: r) = none := by
  have hs : sgnB (34 :: r) = false := rfl
  have hd : digsOf (34 :: r) = 34 :: r := rfl
  unfold wholeL
  rw [hd]
  split
  · rfl
  · simp [dgl]
theorem whole_range {l : List UInt8} {n : Int} (h : wholeL l = some n) : -9223372036854775808 ≤ n ∧ n ≤ 9223372036854775807 := by
  unfold wholeL at h
  split at h
  · cases h
  · cases hd : dgl (digsOf l) 0 with
    | none => rw [hd] at h; cases h
    | some u =>
      rw [hd] at h
      simp only [Option.bind_some, boundI] at h
      split at h
      · split at h
        · cases h
        · injection h with h; omega
      · split at h
        · cases h
        · injection h with h; omega
/-- Digits that have come so far, and what is left: a bound on the number. -/
theorem dgl_bound : ∀ (l : List UInt8) (a u : Nat) (k : Nat), a < 10 ^ k → dgl l a = some u → u < 10 ^ (k + l.length)
  | [], a, u, k, ha, h => by simp [dgl] at h; subst h; simpa using ha
  | c :: r, a, u, k, ha, h => by
    unfold dgl at h
    split at h
    · rename_i g
      have := dgl_bound r _ u (k + 1) (by rw [Nat.pow_succ]; omega) h
      rw [List.length_cons, show k + (r.length + 1) = k + 1 + r.length by omega]
      exact this
    · cases h

/-- The value of a hexadecimal digit as it is written: small letters alone. -/
def hexR (c : UInt8) : Int := if 48 ≤ c.toNat ∧ c.toNat ≤ 57 then (c.toNat : Int) - 48 else if 97 ≤ c.toNat ∧ c.toNat ≤ 102 then (c.toNat : Int) - 97 + 10 else -1
theorem hexR_hexD : ∀ n : Fin 16, hexR (hexD n.val) = (n.val : Int) := by decide
theorem hexR_lt (c : UInt8) : hexR c ≤ 15 ∧ -1 ≤ hexR c := by unfold hexR; (repeat' split) <;> omega
/-- One step of the document's reading of a symbol: what a byte row begins with, behind no quote. -/
def symOne : List UInt8 → Option (UInt8 × Nat)
  | [] => none
  | c :: r => if c ≠ 92 then some (c, 1) else match r with
    | [] => none
    | d :: q => if d = 110 then some (10, 2) else if d = 116 then some (9, 2) else if d = 120 then
        (match q with
        | x :: y :: _ => if 0 ≤ hexR x ∧ 0 ≤ hexR y then some (UInt8.ofNat (hexR x * 16 + hexR y).toNat, 4) else some (d, 2)
        | _ => some (d, 2))
      else some (d, 2)
/-- The whole reading from a place on: the bytes, and whether it ends at the last byte's quote. -/
def symGo : Nat → List UInt8 → List UInt8 → List UInt8 × Bool
  | _, acc, [] => (acc, false)
  | 0, acc, _ :: _ => (acc, false)
  | f + 1, acc, c :: r => if c = 34 then (acc, r.isEmpty) else match symOne (c :: r) with
    | none => ([], false)
    | some (x, n) => symGo f (acc ++ [x]) ((c :: r).drop n)
/-- The document's reading of a symbol. -/
def symL (l : List UInt8) : List UInt8 × Bool := if l.length < 2 ∨ l.head? ≠ some 34 then ([], false) else symGo l.length [] l.tail
theorem symOne_one (c : UInt8) (r : List UInt8) : symOne (oneB c ++ r) = some (c, (oneB c).length) := by
  unfold oneB
  split
  · rename_i h
    rcases h with rfl | rfl <;> rfl
  · rename_i h34
    split
    · rename_i h; subst h; rfl
    · split
      · rename_i h; subst h; rfl
      · split
        · have : c ≠ 92 := fun h => h34 (.inr h)
          simp [symOne, this]
        · have hb := byte_lt c
          have e1 := hexR_hexD ⟨c.toNat / 16, by omega⟩
          have e2 := hexR_hexD ⟨c.toNat % 16, by omega⟩
          simp only at e1 e2
          have e3 : UInt8.ofNat (hexR (hexD (c.toNat / 16)) * 16 + hexR (hexD (c.toNat % 16))).toNat = c := by
            rw [e1, e2, show (((c.toNat / 16 : Nat) : Int) * 16 + ((c.toNat % 16 : Nat) : Int)).toNat = c.toNat by omega]
            exact UInt8.ofNat_toNat
          have e4 : 0 ≤ hexR (hexD (c.toNat / 16)) ∧ 0 ≤ hexR (hexD (c.toNat % 16)) := by rw [e1, e2]; omega
          simp [symOne, e3, e4]
theorem oneB_head (c : UInt8) : ∃ x y, oneB c = x :: y ∧ x ≠ 34 := by
  unfold oneB
  split
  · exact ⟨92, _, rfl, by decide⟩
  · rename_i h
    split
    · exact ⟨92, _, rfl, by decide⟩
    · split
      · exact ⟨92, _, rfl, by decide⟩
      · split
        · exact ⟨c, _, rfl, fun e => h (.inl e)⟩
        · exact ⟨92, _, rfl, by decide⟩
theorem symGo_body : ∀ (l : List UInt8) (f : Nat) (acc : List UInt8), l.length < f → symGo f acc (l.flatMap oneB ++ [34]) = (acc ++ l, true)
  | [], f + 1, acc, _ => by simp [symGo]
  | c :: r, f + 1, acc, h => by
    obtain ⟨x, y, e, hx⟩ := oneB_head c
    have h1 := symOne_one c (r.flatMap oneB ++ [34])
    have e2 : (c :: r).flatMap oneB ++ [34] = x :: (y ++ (r.flatMap oneB ++ [34])) := by rw [List.flatMap_cons, e]; simp
    have e3 : oneB c ++ (r.flatMap oneB ++ [34]) = x :: (y ++ (r.flatMap oneB ++ [34])) := by rw [e]; simp
    rw [e2]
    unfold symGo
    rw [if_neg hx, ← e3, h1]
    simp only [List.drop_left]
    rw [symGo_body r f _ (by simp at h; omega)]
    simp
theorem sym_quote (l : List UInt8) : symL (quoteL l) = (l, true) := by
  have hl : quoteL l = 34 :: (l.flatMap oneB ++ [34]) := by simp [quoteL, quoteTo]
  have hlen : l.length ≤ (l.flatMap oneB).length := by
    clear hl
    induction l with
    | nil => simp
    | cons c r ih =>
      have := oneB_len c
      rw [List.flatMap_cons, List.length_append, List.length_cons]
      omega
  unfold symL
  rw [hl, if_neg (by simp)]
  rw [List.tail_cons, symGo_body _ _ _ (by rw [List.length_cons, List.length_append]; omega)]
  simp
end Go.Proofs.YtnbaemfkpfmheaaGreatDoor

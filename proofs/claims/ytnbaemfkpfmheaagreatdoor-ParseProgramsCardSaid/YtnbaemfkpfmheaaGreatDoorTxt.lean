/-
  Plain facts on the texts of values: bytes as they are written, decimal numerals. No program is named here.
-/
import Derived.Lib.Strings
import Derived.Lib.UnsafeStr
import Derived.Lib.ItoaNum
namespace Go.Proofs.YtnbaemfkpfmheaaGreatDoor
open Go

/-- A half byte as a digit. -/
def hexD (n : Nat) : UInt8 := if n < 10 then UInt8.ofNat (48 + n) else UInt8.ofNat (87 + n)
/-- A byte as it stands in a symbol's text. -/
def oneB (c : UInt8) : List UInt8 :=
  if c = 34 ∨ c = 92 then [92, c] else if c = 10 then [92, 110] else if c = 9 then [92, 116] else if 32 ≤ c ∧ c ≤ 126 then [c] else [92, 120, hexD (c.toNat / 16), hexD (c.toNat % 16)]
/-- A symbol's bytes as they stand in its text, without the last quote. -/
def quoteTo (l : List UInt8) : List UInt8 := 34 :: l.flatMap oneB
/-- A symbol's text. -/
def quoteL (l : List UInt8) : List UInt8 := quoteTo l ++ [34]
theorem oneB_len (c : UInt8) : (oneB c).length ≤ 4 ∧ 1 ≤ (oneB c).length := by unfold oneB; (repeat' split) <;> simp
theorem quoteTo_snoc (l : List UInt8) (c : UInt8) : quoteTo (l ++ [c]) = quoteTo l ++ oneB c := by simp [quoteTo]
theorem quoteTo_len (l : List UInt8) : (quoteTo l).length ≤ 1 + 4 * l.length := by
  induction l with
  | nil => simp [quoteTo]
  | cons c l ih => simp [quoteTo] at ih ⊢; have := oneB_len c; omega
theorem take_snoc (s : ByteArray) (k : Nat) (h : k < s.size) : s.data.toList.take (k + 1) = s.data.toList.take k ++ [s[k]] := by
  rw [List.take_succ_eq_append_getElem (by simpa using h)]; rfl
theorem dig_at : ∀ n : Fin 16, (⟨#[48, 49, 50, 51, 52, 53, 54, 55, 56, 57, 97, 98, 99, 100, 101, 102]⟩ : ByteArray)[n.val]'n.isLt = hexD n.val := by decide
theorem byte_lt (c : UInt8) : c.toNat < 256 := c.toNat_lt
theorem oneB_34 {c : UInt8} (h : (c.toNat : Int) = 34) : oneB c = [92, 34] := by
  have : c = 34 := UInt8.toNat_inj.1 (by simpa using Int.ofNat.inj h)
  subst this; rfl
theorem oneB_92 {c : UInt8} (h : ¬(c.toNat : Int) = 34) (g : ((c.toNat : Int) == 34) = true ∨ ((c.toNat : Int) == 92) = true) : oneB c = [92, c] := by
  have g' : (c.toNat : Int) = 92 := by
    rcases g with g | g
    · exact absurd (by simpa using g) h
    · simpa using g
  have : c = 92 := UInt8.toNat_inj.1 (by simpa using Int.ofNat.inj g')
  subst this; rfl
theorem oneB_10 {c : UInt8} (g : ((c.toNat : Int) == 10) = true) : oneB c = [92, 110] := by
  have g' : (c.toNat : Int) = 10 := by simpa using g
  have : c = 10 := UInt8.toNat_inj.1 (by simpa using Int.ofNat.inj g')
  subst this; rfl
theorem oneB_9 {c : UInt8} (g : ((c.toNat : Int) == 9) = true) : oneB c = [92, 116] := by
  have g' : (c.toNat : Int) = 9 := by simpa using g
  have : c = 9 := UInt8.toNat_inj.1 (by simpa using Int.ofNat.inj g')
  subst this; rfl
theorem ne_of_beq {c d : UInt8} (n : Int) (hn : (d.toNat : Int) = n) (g : ((c.toNat : Int) == n) = false) : c ≠ d := by
  rintro rfl
  rw [hn] at g
  simp at g
theorem oneB_plain {c : UInt8} (g : ((c.toNat : Int) == 34) = false ∧ ((c.toNat : Int) == 92) = false) (g10 : ((c.toNat : Int) == 10) = false) (g9 : ((c.toNat : Int) == 9) = false) (l : (32 : Int) ≤ c.toNat) (u : (c.toNat : Int) ≤ 126) : oneB c = [c] := by
  unfold oneB
  rw [if_neg (fun h => h.elim (ne_of_beq 34 rfl g.1) (ne_of_beq 92 rfl g.2)), if_neg (ne_of_beq 10 rfl g10), if_neg (ne_of_beq 9 rfl g9), if_pos]
  rw [UInt8.le_iff_toNat_le, UInt8.le_iff_toNat_le]
  exact ⟨by show 32 ≤ c.toNat; omega, by show c.toNat ≤ 126; omega⟩
theorem oneB_hex {c : UInt8} (g : ((c.toNat : Int) == 34) = false ∧ ((c.toNat : Int) == 92) = false) (g10 : ((c.toNat : Int) == 10) = false) (g9 : ((c.toNat : Int) == 9) = false) (o : (c.toNat : Int) < 32 ∨ (126 : Int) < c.toNat) : oneB c = [92, 120, hexD (c.toNat / 16), hexD (c.toNat % 16)] := by
  unfold oneB
  rw [if_neg (fun h => h.elim (ne_of_beq 34 rfl g.1) (ne_of_beq 92 rfl g.2)), if_neg (ne_of_beq 10 rfl g10), if_neg (ne_of_beq 9 rfl g9), if_neg]
  rw [UInt8.le_iff_toNat_le, UInt8.le_iff_toNat_le]
  intro h
  have h1 : 32 ≤ c.toNat := h.1
  have h2 : c.toNat ≤ 126 := h.2
  omega


end Go.Proofs.YtnbaemfkpfmheaaGreatDoor

/-
  Contracts of the document's mark, value and word.
-/
import Derived.Test.YtfjpiofinffpfaaDoorLxR
import Derived.BigQuiet
import Derived.Deep.RegionHeld3
namespace Go.Proofs.YtfjpiofinffpfaaDoor
open Go Go.RowKit

/-- How many bytes a mark has, or 0. -/
def markN (c : UInt8) (r : List UInt8) : Nat :=
  if (c = 58 ∧ r.head? = some 45) ∨ ((c = 60 ∨ c = 62 ∨ c = 33) ∧ r.head? = some 61) then 2
  else if c = 40 ∨ c = 41 ∨ c = 44 ∨ c = 46 ∨ c = 43 ∨ c = 45 ∨ c = 61 ∨ c = 58 ∨ c = 60 ∨ c = 62 then 1 else 0
/-- The shape of what is no name, no int and no symbol. -/
theorem shape_markR {c : UInt8} {r : List UInt8} (h0 : cls c = 0) (h1 : c ≠ 34) (h2 : c = 45 → (r.takeWhile isDig).length = 0) : shapeL c r = ((if markN c r = 0 then 0 else 6), markN c r) := by
  rw [shapeL_other (by omega) (by omega) (by omega) (by omega)]
  unfold shapeO markN
  rw [if_neg h1]
  by_cases a1 : c = 33
  · subst a1
    by_cases b : r.head? = some 61 <;> simp [b]
  · by_cases a2 : c = 45
    · subst a2
      simp [h2 rfl]
    · by_cases a3 : c = 58
      · subst a3
        by_cases b : r.head? = some 45 <;> simp [b]
      · by_cases a4 : c = 60
        · subst a4
          by_cases b : r.head? = some 61 <;> simp [b]
        · by_cases a5 : c = 62
          · subst a5
            by_cases b : r.head? = some 61 <;> simp [b]
          · by_cases a6 : c = 40 ∨ c = 41 ∨ c = 44 ∨ c = 46 ∨ c = 43 ∨ c = 61
            · rcases a6 with h | h | h | h | h | h <;> subst h <;> simp
            · have : ¬ (c = 40 ∨ c = 41 ∨ c = 44 ∨ c = 46 ∨ c = 43 ∨ c = 45 ∨ c = 61 ∨ c = 58 ∨ c = 60 ∨ c = 62) := by
                rintro (h | h | h | h | h | h | h | h | h | h)
                · exact a6 (.inl h)
                · exact a6 (.inr (.inl h))
                · exact a6 (.inr (.inr (.inl h)))
                · exact a6 (.inr (.inr (.inr (.inl h))))
                · exact a6 (.inr (.inr (.inr (.inr (.inl h)))))
                · exact a2 h
                · exact a6 (.inr (.inr (.inr (.inr (.inr h)))))
                · exact a3 h
                · exact a4 h
                · exact a5 h
              simp [a1, a2, a3, a4, a5, a6]
theorem markN_58y (r : List UInt8) (h : r.head? = some 45) : markN 58 r = 2 := by
  unfold markN
  simp [h]
theorem markN_58n (r : List UInt8) (h : ¬ r.head? = some 45) : markN 58 r = 1 := by
  unfold markN
  simp [h]
theorem markN_60y (r : List UInt8) (h : r.head? = some 61) : markN 60 r = 2 := by
  unfold markN
  simp [h]
theorem markN_60n (r : List UInt8) (h : ¬ r.head? = some 61) : markN 60 r = 1 := by
  unfold markN
  simp [h]
theorem markN_62y (r : List UInt8) (h : r.head? = some 61) : markN 62 r = 2 := by
  unfold markN
  simp [h]
theorem markN_62n (r : List UInt8) (h : ¬ r.head? = some 61) : markN 62 r = 1 := by
  unfold markN
  simp [h]
theorem markN_33y (r : List UInt8) (h : r.head? = some 61) : markN 33 r = 2 := by
  unfold markN
  simp [h]
theorem markN_33n (r : List UInt8) (h : ¬ r.head? = some 61) : markN 33 r = 0 := by
  unfold markN
  simp [h]
/-- Two bytes of a text, or none. -/
theorem mtwo_is (s : ByteArray) (p : Nat) (hp : p < s.size) (T : ByteArray) (hT : T = if s.size - p < 2 then ⟨#[]⟩ else s.extract p (p + 2)) (a b : UInt8) :
    (T.toList == [a, b]) = (decide (s[p] = a) && decide ((s.data.toList.drop (p + 1)).head? = some b)) := by
  subst hT
  by_cases h : s.size - p < 2
  · rw [if_pos h, lx_end s (p + 1) (by omega), emp_toList]
    simp
  · rw [if_neg h]
    have e : (s.extract p (p + 2)).toList = (s.data.toList.drop p).take 2 := by
      rw [Lib.toList_data, cut_list]
    have hd := lx_at s (p + 1) (by omega)
    rw [e, lx_at s p hp, hd]
    simp only [List.take_succ_cons, List.take_zero, List.head?_cons, Option.some.injEq]
    by_cases ha : s[p] = a <;> by_cases hb : s[p + 1] = b <;> simp [ha, hb]

end Go.Proofs.YtfjpiofinffpfaaDoor

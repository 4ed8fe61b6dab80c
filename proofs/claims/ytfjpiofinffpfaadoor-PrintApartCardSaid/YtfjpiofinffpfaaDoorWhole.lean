/-
  Contracts of the document's own digit and whole.
-/
import Derived.Test.YtfjpiofinffpfaaDoorPureR
import Derived.Test.YtfjpiofinffpfaaDoorVal
import Derived.Deep.DeepCutAuto
import Derived.Outline
import Derived.IntWalk
namespace Go.Proofs.YtfjpiofinffpfaaDoor
open Go Go.RowKit

/-- A text behind its sign. -/
def digsS (s : ByteArray) : ByteArray := if sgnB s.data.toList then s.extract 1 s.size else s
theorem digsS_list (s : ByteArray) : (digsS s).data.toList = digsOf s.data.toList := by
  unfold digsS digsOf
  split
  · rw [Lib.extract_data, Lib.size_eq, List.drop_one]
    exact List.take_of_length_le (by simp)
  · rfl
theorem toList_nil {s : ByteArray} (h : s.size = 0) : s.toList = [] := by
  rw [Lib.toList_data]
  exact List.eq_nil_of_length_eq_zero (by rw [← Lib.size_eq]; exact h)
theorem toList_ne {s : ByteArray} (h : 0 < s.size) : s.toList ≠ [] := by
  rw [Lib.toList_data]
  intro e
  have h0 : s.size = 0 := by rw [Lib.size_eq, e]; rfl
  omega
theorem head_at {s : ByteArray} (h : 0 < s.size) : s.data.toList.head? = some (s[0]'h) := by
  have hl : 0 < s.data.toList.length := by rw [← Lib.size_eq]; exact h
  rw [List.head?_eq_getElem?, List.getElem?_eq_getElem hl]
  rfl
theorem u8_eq_of {c d : UInt8} {n : Int} (hd : (d.toNat : Int) = n) (g : ((c.toNat : Int) == n) = true) : c = d := by
  have g' : (c.toNat : Int) = n := by simpa using g
  apply UInt8.toNat_inj.1
  omega
theorem sgn_pos {s : ByteArray} (h : 0 < s.size) (g : (((s[0]'h).toNat : Int) == 45) = true) : sgnB s.data.toList = true := by
  unfold sgnB
  rw [head_at h, u8_eq_of (d := 45) rfl g]
  rfl
theorem sgn_neg {s : ByteArray} (h : 0 < s.size) (g : (((s[0]'h).toNat : Int) == 45) = false) : sgnB s.data.toList = false := by
  unfold sgnB
  rw [head_at h, beq_eq_false_iff_ne]
  intro e
  have e' : s[0]'h = 45 := by simpa using e
  rw [e'] at g
  simp at g
theorem sgn_nil {s : ByteArray} (h : s.size = 0) : sgnB s.data.toList = false := by
  have := toList_nil h
  rw [Lib.toList_data] at this
  unfold sgnB
  rw [this]
  rfl

/-- What the document's whole answers. -/
def WholeEnd (l : List UInt8) (w : World) (e : Ending) (w' : World) : Prop := e = .returned (.tuple #[.int .i64 ((wholeL l).getD 0), .bool (wholeL l).isSome]) ∧ w = w'
theorem WholeEnd.no {l : List UInt8} {w : World} (h : wholeL l = none) : WholeEnd l w (.returned (.tuple #[.int .i64 0, .bool false])) w := by
  unfold WholeEnd
  rw [h]
  exact ⟨rfl, rfl⟩
theorem WholeEnd.yes {l : List UInt8} {w : World} {n x : Int} (h : wholeL l = some n) (hx : x = n) : WholeEnd l w (.returned (.tuple #[.int .i64 x, .bool true])) w := by
  unfold WholeEnd
  rw [h, hx]
  exact ⟨rfl, rfl⟩
/-- The number that the first k bytes spell. -/
def DglTo (D : ByteArray) (k : Nat) (U : Int) : Prop := ∃ u : Nat, U = u ∧ dgl (D.data.toList.take k) 0 = some u
theorem DglTo.zero (D : ByteArray) : DglTo D 0 0 := ⟨0, rfl, rfl⟩
theorem DglTo.bound {D : ByteArray} {k : Nat} {U : Int} (h : DglTo D k U) (hk : k ≤ 18) : 0 ≤ U ∧ U < 1000000000000000000 := by
  obtain ⟨u, rfl, h⟩ := h
  have hb := dgl_bound _ 0 u 0 (by decide) h
  have hl := List.length_take_le k D.data.toList
  have : (10 : Nat) ^ (0 + (D.data.toList.take k).length) ≤ 10 ^ 18 := Nat.pow_le_pow_right (by decide) (by omega)
  have e : (10 : Nat) ^ 18 = 1000000000000000000 := by decide
  omega
theorem DglTo.step {D : ByteArray} {k : Nat} {U : Int} (h : DglTo D k U) (hk : k < D.size) (g : (48 : Int) ≤ (D[k].toNat : Int)) (g' : (D[k].toNat : Int) ≤ 57) : DglTo D (k + 1) (U * 10 + ((D[k].toNat : Int) - 48)) := by
  obtain ⟨u, rfl, h⟩ := h
  refine ⟨u * 10 + (D[k].toNat - 48), by omega, ?_⟩
  rw [take_snoc D k hk, dgl_append _ _ _ _ h, dgl_one (by omega)]
theorem dgl_bad : ∀ (l : List UInt8) (a : Nat) (c : UInt8), c ∈ l → ¬ (48 ≤ c.toNat ∧ c.toNat ≤ 57) → dgl l a = none
  | d :: r, a, c, h, g => by
    unfold dgl
    split
    · rename_i hd
      rcases List.mem_cons.1 h with rfl | h'
      · exact absurd hd g
      · exact dgl_bad r _ c h' g
    · rfl
theorem whole_bad {s D : ByteArray} (hD : D = digsS s) {k : Nat} (hk : k < D.size) (g : (D[k].toNat : Int) < 48 ∨ (57 : Int) < D[k].toNat) : wholeL s.data.toList = none := by
  subst hD
  unfold wholeL
  rw [← digsS_list]
  split
  · rfl
  · rw [dgl_bad _ 0 ((digsS s)[k]'hk) ?_ (by omega)]
    · rfl
    · have hl : k < (digsS s).data.toList.length := by rw [← Lib.size_eq]; exact hk
      have : (digsS s)[k]'hk = (digsS s).data.toList[k]'hl := rfl
      rw [this]
      exact List.getElem_mem hl
theorem whole_short {s D : ByteArray} (hD : D = digsS s) (h : D.size = 0 ∨ 19 < D.size) : wholeL s.data.toList = none := by
  subst hD
  unfold wholeL
  rw [← digsS_list, ← Lib.size_eq, if_pos]
  rcases h with h | h
  · left
    exact List.eq_nil_of_length_eq_zero (by rw [← Lib.size_eq]; exact h)
  · exact .inr h
theorem whole_is {s D : ByteArray} (hD : D = digsS s) (h0 : 0 < D.size) (h1 : D.size ≤ 19) {U : Int} (h : DglTo D D.size U) : wholeL s.data.toList = boundI (sgnB s.data.toList) U.toNat := by
  subst hD
  obtain ⟨u, rfl, h⟩ := h
  rw [List.take_of_length_le (by rw [← Lib.size_eq]; exact Nat.le_refl _)] at h
  unfold wholeL
  rw [← digsS_list, ← Lib.size_eq, if_neg]
  · rw [h]; rfl
  · rintro (e | e)
    · have : (digsS s).size = 0 := by rw [Lib.size_eq, e]; rfl
      omega
    · omega

theorem bound_no_t {U : Int} (h : 9223372036854775808 < U) : boundI true U.toNat = none := by
  unfold boundI
  rw [if_pos rfl, if_pos (by omega)]
theorem bound_no_f {U : Int} (h : 9223372036854775807 < U) : boundI false U.toNat = none := by
  unfold boundI
  rw [if_neg (by decide), if_pos (by omega)]
theorem bound_yes_t {U : Int} (h0 : 0 ≤ U) (h : U ≤ 9223372036854775808) : boundI true U.toNat = some (-U) := by
  unfold boundI
  rw [if_pos rfl, if_neg (by omega)]
  congr 1
  omega
theorem bound_yes_f {U : Int} (h0 : 0 ≤ U) (h : U ≤ 9223372036854775807) : boundI false U.toNat = some U := by
  unfold boundI
  rw [if_neg (by decide), if_neg (by omega)]
  congr 1
  omega
theorem DglTo.nonneg {D : ByteArray} {k : Nat} {U : Int} (h : DglTo D k U) : 0 ≤ U := by
  obtain ⟨u, rfl, -⟩ := h
  omega

end Go.Proofs.YtfjpiofinffpfaaDoor

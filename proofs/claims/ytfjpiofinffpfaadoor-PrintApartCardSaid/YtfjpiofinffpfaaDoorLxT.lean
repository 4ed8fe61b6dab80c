/-
  Contract of the document's word: names, variables, `_`.
-/
import Derived.Test.YtfjpiofinffpfaaDoorLxS
namespace Go.Proofs.YtfjpiofinffpfaaDoor
open Go Go.RowKit

/-- What the document's word answers at a place. -/
def RkAns (l : List UInt8) (p : Nat) (x : Wd) (b : Bool) : Prop :=
  (∃ k n v, tokL valL l = some (k, n, v) ∧ x = ⟨k, l.take n, v, p⟩ ∧ b = true) ∨ (tokL valL l = none ∧ b = false)
def RkEnd (s : ByteArray) (p : Nat) (w : World) (e : Ending) (w' : World) : Prop := (∃ x b, RkAns (s.data.toList.drop p) p x b ∧ e = .returned (.tuple #[wordV x, .bool b])) ∧ Below w.heap.size w w'
def noWd : Wd := ⟨0, [], zeroL, 0⟩
theorem rk_yes {s : ByteArray} {p : Nat} (hp : p < s.size) {k : Int} {n : Nat} {v : VL} (hs : shapeL s[p] (s.data.toList.drop (p + 1)) = (k, n)) (hv : meanL valL k ((s.data.toList.drop p).take n) = some v) : RkAns (s.data.toList.drop p) p ⟨k, (s.data.toList.drop p).take n, v, p⟩ true := by
  left
  rw [lx_at s p hp] at hv ⊢
  refine ⟨k, n, v, ?_, rfl, rfl⟩
  show (meanL valL (shapeL _ _).1 _).map _ = _
  rw [hs, hv]
  rfl
theorem rk_no {s : ByteArray} {p : Nat} (hp : p < s.size) {k : Int} {n : Nat} (hs : shapeL s[p] (s.data.toList.drop (p + 1)) = (k, n)) (hv : meanL valL k ((s.data.toList.drop p).take n) = none) : RkAns (s.data.toList.drop p) p noWd false := by
  right
  rw [lx_at s p hp] at hv ⊢
  refine ⟨?_, rfl⟩
  show (meanL valL (shapeL _ _).1 _).map _ = _
  rw [hs, hv]
  rfl
theorem take_len {s : ByteArray} {p n : Nat} (h : p + n ≤ s.size) : ((s.data.toList.drop p).take n).length = n := by
  rw [List.length_take, List.length_drop, ← Lib.size_eq]
  omega
theorem tw_at {s : ByteArray} {p : Nat} (hp : p < s.size) (f : UInt8 → Bool) (h : f s[p] = true) : ((s.data.toList.drop p).takeWhile f).length = ((s.data.toList.drop (p + 1)).takeWhile f).length + 1 := by
  have := tw_step (p := f) hp
  rw [if_pos h] at this
  exact this
theorem cls_95 (c : UInt8) : ((c.toNat : Int) == 95) = (cls c == 8) := by
  unfold cls
  by_cases h : c.toNat = 95
  · have h' : (c.toNat : Int) = 95 := by omega
    rw [if_neg (by omega), if_neg (by omega), if_pos h, h']
    rfl
  · have h' : ¬ (c.toNat : Int) = 95 := by omega
    rw [beq_eq_false_iff_ne.2 h']
    (repeat' split) <;> first | rfl | (exfalso; omega)
theorem noWd_v : wordV noWd = .agg #[.int .i64 0, .string ⟨#[]⟩, .int .i64 0, .int .i64 0, .string ⟨#[]⟩, .int .i64 0] := rfl
end Go.Proofs.YtfjpiofinffpfaaDoor

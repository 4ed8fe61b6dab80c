/-
  Contract of the document's own Text: the same text.
-/
import Derived.Test.YtfjpiofinffpfaaDoorRef
import Derived.Test.YtfjpiofinffpfaaDoorDec
import Derived.IntWalk
namespace Go.Proofs.YtfjpiofinffpfaaDoor
open Go Go.RowKit

theorem bytes_one (l : List UInt8) : ∀ u ∈ Lib.byteCells l, u.oneCell' = true := by
  intro u hu
  simp [Lib.byteCells] at hu
  obtain ⟨c, _, rfl⟩ := hu
  rfl
theorem ownsRow_below {w w' : World} {base : Nat} {e : TypeId} {size : Nat} {v : Value} {n : Nat} {xs : List Value} (h : w.ownsRow base e size v n xs) (hb : Below w.heap.size w w') : w'.ownsRow base e size v n xs := by
  obtain ⟨hl, h0 | ⟨g, cap, cur, hv, hbb, hh, r⟩⟩ := h
  · exact ⟨hl, .inl h0⟩
  · have hg : g < w.heap.size := by
      rcases Nat.lt_or_ge g w.heap.size with h1 | h1
      · exact h1
      · rw [Array.getElem?_eq_none h1] at hh
        cases hh
    exact ⟨hl, .inr ⟨g, cap, cur, hv, hbb, by rw [hb.block g hg]; exact hh, r⟩⟩
theorem neg_wrap {n : Int} (hI : I64 n) (hn : n < 0) : IntKind.u64.wrap (IntKind.u64.wrap (wrap64 (-wrap64 (n + 1))) + 1) = -n := by
  have h1 : -9223372036854775808 ≤ n := hI.1
  have e1 : wrap64 (n + 1) = n + 1 := IntWalk.wrap64_in _ (by omega)
  have e2 : wrap64 (-(n + 1)) = -(n + 1) := IntWalk.wrap64_in _ (by omega)
  have e3 : IntKind.u64.wrap (-(n + 1)) = -(n + 1) := IntWalk.u64_in _ (by omega)
  have e4 : IntKind.u64.wrap (-(n + 1) + 1) = -(n + 1) + 1 := IntWalk.u64_in _ (by omega)
  rw [e1, e2, e3, e4]
  omega
theorem pos_wrap {n : Int} (hI : I64 n) (hn : 0 ≤ n) : IntKind.u64.wrap n = n := IntWalk.u64_in _ (by have : n ≤ 9223372036854775807 := hI.2; omega)
theorem neg_U64 {n : Int} (hI : I64 n) (hn : n < 0) : U64 (-n).toNat := by
  have h1 : -9223372036854775808 ≤ n := hI.1
  unfold U64
  omega
theorem pos_U64 {n : Int} (hI : I64 n) (hn : 0 ≤ n) : U64 n.toNat := by
  have h1 : n ≤ 9223372036854775807 := hI.2
  unfold U64
  omega
theorem textS_neg {n : Int} (s : ByteArray) (hn : n < 0) : textS 1 n s = (⟨#[45]⟩ : ByteArray) ++ ⟨(Lib.decDigits (-n).toNat).toArray⟩ := by
  have e : (-n).toNat = n.natAbs := by omega
  rw [show (⟨#[45]⟩ : ByteArray) = ⟨[45].toArray⟩ from rfl, str_append, e]
  unfold textS textL Lib.itoa
  rw [if_pos rfl, if_pos hn]
  rfl
theorem textS_pos {n : Int} (s : ByteArray) (hn : 0 ≤ n) : textS 1 n s = ⟨(Lib.decDigits n.toNat).toArray⟩ := by
  unfold textS textL Lib.itoa
  rw [if_pos rfl, if_neg (by omega)]

end Go.Proofs.YtfjpiofinffpfaaDoor

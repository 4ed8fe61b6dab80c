/-
  Contracts of the document's lexer: small, great, digit, inner, blank, gap, name, digits, quoted.
-/
import Derived.Test.YtfjpiofinffpfaaDoorLxC
namespace Go.Proofs.YtfjpiofinffpfaaDoor
open Go Go.RowKit

theorem ret_bool {a b : Bool} (h : a = b) : Ending.returned (.bool a) = .returned (.bool b) := by rw [h]
/-- The place behind a symbol's text, or -1. -/
def quoI (l : List UInt8) (k : Nat) : Int := match quoEnd l with | some n => ((k + n : Nat) : Int) | none => -1
theorem quoI_nil (k : Nat) : quoI [] k = -1 := by unfold quoI quoEnd; rfl
theorem quoI_34 (r : List UInt8) (k : Nat) : quoI (34 :: r) k = ((k + 1 : Nat) : Int) := by unfold quoI quoEnd; rw [if_pos rfl]
theorem quoI_92 (k : Nat) : quoI [92] k = -1 := by unfold quoI quoEnd; rw [if_neg (by decide), if_pos rfl]
theorem quoI_esc (d : UInt8) (r : List UInt8) (k : Nat) : quoI (92 :: d :: r) k = quoI r (k + 2) := by
  unfold quoI
  rw [quo_esc]
  cases h : quoEnd r with
  | none => rfl
  | some n => show ((k + (n + 2) : Nat) : Int) = ((k + 2 + n : Nat) : Int); omega
theorem quoI_one {c : UInt8} (r : List UInt8) (k : Nat) (h1 : c ≠ 34) (h2 : c ≠ 92) : quoI (c :: r) k = quoI r (k + 1) := by
  unfold quoI
  rw [quo_one h1 h2]
  cases h : quoEnd r with
  | none => rfl
  | some n => show ((k + (n + 1) : Nat) : Int) = ((k + 1 + n : Nat) : Int); omega
end Go.Proofs.YtfjpiofinffpfaaDoor

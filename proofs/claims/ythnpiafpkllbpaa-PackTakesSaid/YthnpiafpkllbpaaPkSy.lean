/-
  Contract of the document's symbol.
-/
import Derived.Test.YthnpiafpkllbpaaPkFk
namespace Go.Proofs.Ythnpiafpkllbpaa
open Go Go.RowKit

/-- What symbol answers. -/
def SymEnd (l : List UInt8) (w : World) (e : Ending) (w' : World) : Prop :=
  Below w.heap.size w w' ∧ ((∃ r s r', l = 2 :: r ∧ symR r [] = some (s, r') ∧ e = .returned (.tuple #[.string ⟨s.toArray⟩, .int .i64 ((l.length : Int) - (r'.length : Int)), .bool true])) ∨
    ((∀ r, l = 2 :: r → symR r [] = none) ∧ e = .returned (.tuple #[.string ⟨#[]⟩, .int .i64 0, .bool false])))
theorem symR_short {l : List UInt8} (acc : List UInt8) (h : l.length ≤ 1) : symR l acc = none := by
  match l, h with
  | [], _ => rfl
  | [_], _ => rfl
theorem drop_two {l : List UInt8} {k : Nat} (h : k + 1 < l.length) : l.drop k = l[k] :: l[k + 1] :: l.drop (k + 2) := by
  rw [List.drop_eq_getElem_cons (by omega), List.drop_eq_getElem_cons h]
theorem add_succ (a : Addr) (k : Nat) : a.add (k + 1) = { block := a.block, off := a.off + (k + 1) } := by unfold Addr.add; simp
theorem byte_is {c d : UInt8} {n : Int} (h : ((c.toNat : Int) == n) = true) (hd : (d.toNat : Int) = n) : c = d := by
  have h' : (c.toNat : Int) = n := by simpa using h
  exact UInt8.toNat_inj.1 (by omega)
theorem front_of {l r : List UInt8} {c : UInt8} (h : l = c :: r) (h0 : 0 < l.length) : l[0] = c := by subst h; rfl
theorem symR_two {l acc : List UInt8} {k : Nat} (h : k + 1 < l.length) : symR (l.drop k) acc = if l[k] = 0 then (if l[k + 1] = 1 then some (acc, l.drop (k + 2)) else if l[k + 1] = 255 then symR (l.drop (k + 2)) (acc ++ [0]) else none) else symR (l.drop (k + 1)) (acc ++ [l[k]]) := by
  rw [drop_two h, symR, ← List.drop_eq_getElem_cons h]
theorem symR_end {l acc : List UInt8} {k : Nat} (h : ¬ k + 1 < l.length) : symR (l.drop k) acc = none := symR_short acc (by rw [List.length_drop]; omega)
end Go.Proofs.Ythnpiafpkllbpaa

/-
  Contracts of the document's Words, Gaps, Same and SameAll.
-/
import Derived.Test.YtfjpiofinffpfaaDoorLxU
import Derived.Test.YtfjpiofinffpfaaDoorLxH
namespace Go.Proofs.YtfjpiofinffpfaaDoor
open Go Go.RowKit

theorem rk_step {s : ByteArray} {p : Nat} (hp : p < s.size) {x : Wd} {b : Bool} (h : RkAns (s.data.toList.drop p) p x b) :
    (b = true ∧ x.pos = p ∧ 1 ≤ x.text.length ∧ p + x.text.length ≤ s.size ∧ lexG valL (s.data.toList.drop p) p = (x :: (lexG valL (s.data.toList.drop (gapTo s (p + x.text.length))) (gapTo s (p + x.text.length))).1, (lexG valL (s.data.toList.drop (gapTo s (p + x.text.length))) (gapTo s (p + x.text.length))).2)) ∨
      (b = false ∧ lexG valL (s.data.toList.drop p) p = ([], some p)) := by
  rcases h with ⟨k, n, v, ht, rfl, rfl⟩ | ⟨ht, rfl⟩
  · left
    obtain ⟨h1, h | h⟩ := lex_step hp (x := ⟨k, (s.data.toList.drop p).take n, v, p⟩) (b := true) ⟨rfl, .inl ⟨k, n, v, ht, rfl, rfl⟩⟩
    · exact ⟨rfl, rfl, h.2.1, h.2.2.1, h.2.2.2⟩
    · cases h.1
  · right
    rw [lx_at s p hp] at ht ⊢
    exact ⟨rfl, lexG_bad ht p⟩
end Go.Proofs.YtfjpiofinffpfaaDoor

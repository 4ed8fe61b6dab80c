/-
  A row of things that is not empty.
-/
import Derived.Test.YtcfnpbmkcdmafaaMgA
namespace Go.Proofs.Ytcfnpbmkcdmafaa
open Go Go.RowKit

theorem ThIn.row {S : Nat → Prop} {w : World} {p : Option Addr} {n c : Nat} {L : List Th} (h : ThIn S w (.slice p n c) L) (hL : L ≠ []) : ∃ b off, p = some ⟨b, off, none⟩ ∧ b < w.heap.size ∧ ∀ j (h : j < L.length), w.cell? ⟨b, off + j * 2, none⟩ = some (.int .i8 L[j].1) ∧ w.cell? ⟨b, off + j * 2 + 1, none⟩ = some (.int .i64 L[j].2) := by
  obtain ⟨p', c', e, -, -, h⟩ := h
  injection e with e1 e2 e3
  subst e1
  rcases h with h | ⟨b, off, h1, -, h2, h3⟩
  · exact absurd h hL
  · exact ⟨b, off, h1, h2, h3⟩
end Go.Proofs.Ytcfnpbmkcdmafaa

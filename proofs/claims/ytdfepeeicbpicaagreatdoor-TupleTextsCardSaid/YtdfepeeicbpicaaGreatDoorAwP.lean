/-
  Plain facts on three tuples of which two are alike. No program is named here.
-/
import Derived.Test.YtdfepeeicbpicaaGreatDoorTupQ
namespace Go.Proofs.YtdfepeeicbpicaaGreatDoor
open Go

/-- Of a, b, a, b ahead of a: in order, each once: b, a. -/
theorem three_sorted {α : Type} (g : α → List V3) (a b : List V3) (hab : cmpT a b = 1) (L : List α) (hp : (L.map g).Perm [a, b, a]) (hs : L.Pairwise fun x y => cmpT (g x) (g y) ≤ 0) :
    ∃ p q r, L = [p, q, r] ∧ g p = b ∧ g q = a ∧ g r = a := by
  have hl : L.length = 3 := by simpa using hp.length_eq
  match L, hl with
  | [p, q, r], _ =>
    have hmem : ∀ x ∈ [p, q, r], g x = a ∨ g x = b := by
      intro x hx
      have := hp.mem_iff.1 (List.mem_map_of_mem hx)
      simp only [List.mem_cons, List.not_mem_nil, or_false] at this
      rcases this with h | h | h
      · exact .inl h
      · exact .inr h
      · exact .inl h
    have hsum := (hp.map fun T => cmpT T b).count_eq (0 : Int)
    have hbb : cmpT b b = 0 := cmpT_self b
    simp only [List.map_cons, List.map_nil, hab, hbb] at hsum
    simp only [List.pairwise_cons, List.mem_cons, List.not_mem_nil, or_false, forall_eq_or_imp, forall_eq, false_imp_iff, implies_true, List.Pairwise.nil, and_true] at hs
    obtain ⟨⟨h1, h2⟩, h3⟩ := hs
    have c : ∀ x, (g x = a ∨ g x = b) → (cmpT (g x) b = 1 ∧ g x = a) ∨ (cmpT (g x) b = 0 ∧ g x = b) := by
      rintro x (h | h)
      · exact .inl ⟨by rw [h, hab], h⟩
      · exact .inr ⟨by rw [h, hbb], h⟩
    rcases c p (hmem p (by simp)) with ⟨fp, ep⟩ | ⟨fp, ep⟩ <;> rcases c q (hmem q (by simp)) with ⟨fq, eq⟩ | ⟨fq, eq⟩ <;> rcases c r (hmem r (by simp)) with ⟨fr, er⟩ | ⟨fr, er⟩
    · rw [fp, fq, fr] at hsum; exact absurd hsum (by decide)
    · rw [ep, er, hab] at h2; omega
    · rw [ep, eq, hab] at h1; omega
    · rw [fp, fq, fr] at hsum; exact absurd hsum (by decide)
    · exact ⟨p, q, r, rfl, ep, eq, er⟩
    · rw [fp, fq, fr] at hsum; exact absurd hsum (by decide)
    · rw [fp, fq, fr] at hsum; exact absurd hsum (by decide)
    · rw [fp, fq, fr] at hsum; exact absurd hsum (by decide)
end Go.Proofs.YtdfepeeicbpicaaGreatDoor

/-
  Plain facts: those of a rising row that lie within two tuples are neighbours.
-/
import Derived.Test.YthnpiafpkllbpaaDoorTrP
namespace Go.Proofs.YthnpiafpkllbpaaDoor

theorem take_mono : ∀ (k : Nat) (a b : List V3), cmpT a b ≤ 0 → cmpT (a.take k) (b.take k) ≤ 0
  | 0, a, b, _ => by simp [cmpT]
  | _ + 1, [], [], _ => by simp [cmpT]
  | _ + 1, [], _ :: _, _ => by simp [cmpT]
  | _ + 1, _ :: _, [], h => by simp [cmpT] at h
  | k + 1, a :: x, b :: y, h => by
    rw [List.take_succ_cons, List.take_succ_cons]
    rw [cmpT_cons] at h ⊢
    split
    · rename_i e
      rw [if_pos e] at h
      exact take_mono k x y h
    · rename_i e
      rw [if_neg e] at h
      exact h
/-- A tuple between two that lie within the bounds lies within them. -/
theorem between (L H a b c : List V3) (hab : cmpT a b ≤ 0) (hbc : cmpT b c ≤ 0) (ha : 0 ≤ cmpT (a.take L.length) L) (hc : cmpT (c.take H.length) H ≤ 0) : 0 ≤ cmpT (b.take L.length) L ∧ cmpT (b.take H.length) H ≤ 0 := by
  constructor
  · have h1 := take_mono L.length a b hab
    have h2 := cmpT_neg (a.take L.length) L
    have h3 := cmpT_trans L _ _ (by omega) h1
    have h4 := cmpT_neg (b.take L.length) L
    omega
  · exact cmpT_trans _ _ _ (take_mono H.length b c hbc) hc
end Go.Proofs.YthnpiafpkllbpaaDoor

/-
  Plain facts: how many are on which side; what came and what went makes the new of the old.
-/
import Derived.Test.YtaogfgohchpnoaaDoorTsP
namespace Go.Proofs.YtaogfgohchpnoaaDoor

theorem pick_step {S : List Int} {A B A' B' : List (List V3)} {z : List V3} {s : Int} (h : mrg A B = (z, s) :: mrg A' B') : (pickL S A B).length = (if S.contains s = true then 1 else 0) + (pickL S A' B').length := by
  unfold pickL
  rw [h, List.filter_cons]
  split <;> simp
  omega
theorem pick_zero (S : List Int) : (pickL S [] []).length = 0 := by simp [pickL, mrg_nil]
/-- What each row is parted into. -/
theorem pick_parts : ∀ A B : List (List V3), (pickL [-1] A B).length + (pickL [0] A B).length = A.length ∧ (pickL [1] A B).length + (pickL [0] A B).length = B.length ∧ (pickL [-1, 0, 1] A B).length = A.length + (pickL [1] A B).length
  | [], [] => by simp [pick_zero]
  | x :: X, [] => by
    obtain ⟨h1, h2, h3⟩ := pick_parts X []
    have e := mrg_left x X
    rw [pick_step e, pick_step e, pick_step e, pick_step e]
    generalize (pickL [-1] X []).length = n0 at h1 h2 h3 ⊢
    generalize (pickL [0] X []).length = n1 at h1 h2 h3 ⊢
    generalize (pickL [1] X []).length = n2 at h1 h2 h3 ⊢
    generalize (pickL [-1, 0, 1] X []).length = n3 at h1 h2 h3 ⊢
    simp only [List.length_cons, List.length_nil] at h1 h2 h3 ⊢
    simp
    omega
  | [], y :: Y => by
    obtain ⟨h1, h2, h3⟩ := pick_parts [] Y
    have e := mrg_right y Y
    rw [pick_step e, pick_step e, pick_step e, pick_step e]
    generalize (pickL [-1] [] Y).length = n0 at h1 h2 h3 ⊢
    generalize (pickL [0] [] Y).length = n1 at h1 h2 h3 ⊢
    generalize (pickL [1] [] Y).length = n2 at h1 h2 h3 ⊢
    generalize (pickL [-1, 0, 1] [] Y).length = n3 at h1 h2 h3 ⊢
    simp only [List.length_cons, List.length_nil] at h1 h2 h3 ⊢
    simp
    omega
  | x :: X, y :: Y => by
    rcases cmpT_cases x y with h | h | h
    · obtain ⟨h1, h2, h3⟩ := pick_parts X (y :: Y)
      have e := mrg_lt X Y h
      rw [pick_step e, pick_step e, pick_step e, pick_step e]
      generalize (pickL [-1] [] Y).length = n0 at h1 h2 h3 ⊢
      generalize (pickL [0] [] Y).length = n1 at h1 h2 h3 ⊢
      generalize (pickL [1] [] Y).length = n2 at h1 h2 h3 ⊢
      generalize (pickL [-1, 0, 1] [] Y).length = n3 at h1 h2 h3 ⊢
      simp only [List.length_cons] at h1 h2 h3 ⊢
      simp
      omega
    · obtain ⟨h1, h2, h3⟩ := pick_parts X Y
      have e := mrg_eq X Y h
      rw [pick_step e, pick_step e, pick_step e, pick_step e]
      generalize (pickL [-1] [] Y).length = n0 at h1 h2 h3 ⊢
      generalize (pickL [0] [] Y).length = n1 at h1 h2 h3 ⊢
      generalize (pickL [1] [] Y).length = n2 at h1 h2 h3 ⊢
      generalize (pickL [-1, 0, 1] [] Y).length = n3 at h1 h2 h3 ⊢
      simp only [List.length_cons] at h1 h2 h3 ⊢
      simp
      omega
    · obtain ⟨h1, h2, h3⟩ := pick_parts (x :: X) Y
      have e := mrg_gt X Y h
      rw [pick_step e, pick_step e, pick_step e, pick_step e]
      generalize (pickL [-1] [] Y).length = n0 at h1 h2 h3 ⊢
      generalize (pickL [0] [] Y).length = n1 at h1 h2 h3 ⊢
      generalize (pickL [1] [] Y).length = n2 at h1 h2 h3 ⊢
      generalize (pickL [-1, 0, 1] [] Y).length = n3 at h1 h2 h3 ⊢
      simp only [List.length_cons] at h1 h2 h3 ⊢
      simp
      omega
termination_by A B => A.length + B.length
theorem pick_turn {A B : List (List V3)} (hA : Ris A) (hB : Ris B) : pickL [1] A B = pickL [-1] B A :=
  ris_eq (pick_ris _ hA hB) (pick_ris _ hB hA) fun x => by
    rw [pick_mem _ hA hB, pick_mem _ hB hA]
    simp
    exact And.comm
/-- What came, put to what did not go, is the new. -/
theorem change_eq {x y : List (List V3)} (hx : Ris x) (hy : Ris y) : pickL [-1, 0, 1] (pickL [-1] y x) (pickL [-1] x (pickL [1] y x)) = y := by
  have h1 := pick_ris [-1] hy hx
  have h2 := pick_ris [1] hy hx
  have h3 := pick_ris [-1] hx h2
  refine ris_eq (pick_ris _ h1 h3) hy fun z => ?_
  rw [pick_mem _ h1 h3, pick_mem _ hx h2, pick_mem _ hy hx, pick_mem _ hy hx]
  simp
  by_cases a : z ∈ x <;> by_cases b : z ∈ y <;> simp [a, b]
theorem change_union {x y : List (List V3)} (hx : Ris x) (hy : Ris y) : (pickL [-1, 0, 1] x y).length = x.length + (pickL [-1] y x).length := by
  rw [(pick_parts x y).2.2, pick_turn hx hy]
theorem change_both {x y : List (List V3)} (hx : Ris x) (hy : Ris y) : (pickL [0] x y).length + (pickL [1] y x).length = x.length := by
  have := (pick_parts x y).1
  rw [pick_turn hy hx]
  omega
theorem pick_sub (S : List Int) {A B : List (List V3)} (hA : Ris A) (hB : Ris B) {z : List V3} (h : z ∈ pickL S A B) : z ∈ A ∨ z ∈ B := by
  rcases (pick_mem S hA hB z).1 h with h | h | h
  · exact .inl h.2.1
  · exact .inl h.2.1
  · exact .inr h.2.2
end Go.Proofs.YtaogfgohchpnoaaDoor

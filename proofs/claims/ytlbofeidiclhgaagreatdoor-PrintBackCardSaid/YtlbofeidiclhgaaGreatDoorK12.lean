/-
  Print: what its texts are, line by line; two terms compared.
-/
import Derived.Test.YtlbofeidiclhgaaGreatDoorK11
namespace Go.Proofs.YtlbofeidiclhgaaGreatDoor
open Go Go.RowKit Go.Shelf

theorem barr_eq {a b : ByteArray} : a = b ↔ a.toList = b.toList := by
  constructor
  · intro h; rw [h]
  · intro h
    rw [Lib.toList_data, Lib.toList_data] at h
    obtain ⟨x⟩ := a
    obtain ⟨y⟩ := b
    have : x = y := Array.toList_inj.1 h
    rw [this]
/-- Two terms compared. -/
theorem neqTT_run (x y : TmL) : ∃ b : Bool, (b = true ↔ x = y) ∧ (∀ W : World, (binOp .neq 71 (valT x) (valT y)).run Tryz.prog W = .ok (.bool (!b)) W) ∧ ∀ W : World, (binOp .eql 71 (valT x) (valT y)).run Tryz.prog W = .ok (.bool b) W := by
  obtain ⟨k, n, a, b, c⟩ := x
  obtain ⟨k', n', a', b', c'⟩ := y
  refine ⟨k == k' && (n == n' && (a == a' && (b == b' && c.toList == c'.toList))), ?_, fun W => ?_, fun W => ?_⟩
  · simp [barr_eq]
  · rw [run_neq_struct]
    simp [go_sem]
    by_cases h0 : k = k'
    · by_cases h1 : n = n'
      · by_cases h2 : a = a'
        · by_cases h3 : b = b'
          · by_cases h4 : c.toList = c'.toList
            · simp [h0, h1, h2, h3, h4]
            · simp [h0, h1, h2, h3, h4]
          · simp [h0, h1, h2, h3]
        · simp [h0, h1, h2]
      · simp [h0, h1]
    · simp [h0]
  · rw [run_eql_struct]
    simp [go_sem]
    by_cases h0 : k = k'
    · by_cases h1 : n = n'
      · by_cases h2 : a = a'
        · by_cases h3 : b = b'
          · by_cases h4 : c.toList = c'.toList
            · simp [h0, h1, h2, h3, h4]
            · simp [h0, h1, h2, h3, h4]
          · simp [h0, h1, h2, h3]
        · simp [h0, h1, h2]
      · simp [h0, h1]
    · simp [h0]
noncomputable def clP : DeL ⊕ (OnL ⊕ RuL) → Option (List UInt8)
  | .inl d => declP d
  | .inr (.inl o) => onP o
  | .inr (.inr r) => ruleP r
def allC (p : PrL) : List (DeL ⊕ (OnL ⊕ RuL)) := p.decls.map .inl ++ (p.ons.map (fun o => .inr (.inl o)) ++ p.rules.map (fun r => .inr (.inr r)))
theorem joinS_flat : ∀ ts : List (List UInt8), joinS [] ts = ts.flatten
  | [] => rfl
  | t :: ts => by
    rw [joinS, List.flatten_cons]
    by_cases h : ts = []
    · rw [if_pos h, h]; rfl
    · rw [if_neg h, joinS_flat ts]; rfl
theorem allO_append : ∀ a b : List (Option (List UInt8)), allO (a ++ b) = match allO a, allO b with | some x, some y => some (x ++ y) | _, _ => none
  | [], b => by cases h : allO b <;> simp [allO, h]
  | none :: a, b => by simp [allO]
  | some x :: a, b => by
    rw [List.cons_append]
    simp only [allO, allO_append a b]
    cases allO a <;> cases allO b <;> rfl
theorem allO_lines {α : Type} (P : α → Option (List UInt8)) : ∀ L : List α, allO (L.map (lineP P)) = (allO (L.map P)).map (List.map (· ++ [10]))
  | [] => rfl
  | x :: L => by
    simp only [List.map_cons]
    have h : lineP P x = (P x).map (· ++ [10]) := rfl
    rw [h]
    cases P x with
    | none => rfl
    | some t =>
      simp only [Option.map_some, allO, allO_lines P L]
      cases allO (L.map P) <;> rfl
/-- Texts, a line each. -/
def flatL (ts : List (List UInt8)) : List UInt8 := (ts.map (· ++ [10])).flatten
theorem linesP_flat {α : Type} (P : α → Option (List UInt8)) (L : List α) : linesP P L = (allO (L.map P)).map flatL := by
  unfold linesP rowP
  rw [allO_lines]
  cases allO (L.map P) with
  | none => rfl
  | some ts => simp [joinS_flat, flatL]
theorem progP_all (p : PrL) : progP p = (allO ((allC p).map clP)).map flatL := by
  unfold progP allC
  rw [linesP_flat, linesP_flat, linesP_flat, List.map_append, List.map_append, allO_append, allO_append, List.map_map, List.map_map, List.map_map]
  rw [show (clP ∘ Sum.inl) = declP from rfl, show (clP ∘ fun o => Sum.inr (Sum.inl o)) = onP from rfl, show (clP ∘ fun r => Sum.inr (Sum.inr r)) = ruleP from rfl]
  cases allO (p.decls.map declP) <;> cases allO (p.ons.map onP) <;> cases allO (p.rules.map ruleP) <;> simp [two, flatL]
end Go.Proofs.YtlbofeidiclhgaaGreatDoor

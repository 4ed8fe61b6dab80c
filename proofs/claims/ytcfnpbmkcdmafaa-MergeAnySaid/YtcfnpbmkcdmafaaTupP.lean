/-
  Plain facts on tuples: the order of two rows of values. No program is named here.
-/
import Derived.Test.YtcfnpbmkcdmafaaOrd
import Derived.Sort.Statements
import Derived.Shelf.SlSortCmp.Insertion
namespace Go.Proofs.Ytcfnpbmkcdmafaa
open Go

/-- A value: its kind, its number, its bytes. -/
structure V3 where
  k : Int
  n : Int
  s : ByteArray
/-- Two values against each other. -/
def cmp3 (a b : V3) : Int := cmpV a.k a.n a.s b.k b.n b.s
/-- Two rows of values against each other: the first place at which they part; a beginning stands ahead. -/
def cmpT : List V3 → List V3 → Int
  | [], [] => 0
  | [], _ :: _ => -1
  | _ :: _, [] => 1
  | a :: x, b :: y => if cmp3 a b = 0 then cmpT x y else cmp3 a b

theorem cmp3_zero {a b : V3} : cmp3 a b = 0 ↔ a = b := by
  unfold cmp3
  rw [cmpV_zero]
  constructor
  · rintro ⟨h1, h2, h3⟩
    cases a; cases b
    simp at h1 h2 h3
    rw [h1, h2, h3]
  · rintro rfl
    exact ⟨rfl, rfl, rfl⟩
theorem cmp3_neg (a b : V3) : cmp3 a b = -cmp3 b a := cmpV_neg _ _ _ _ _ _
theorem cmp3_cases (a b : V3) : cmp3 a b = -1 ∨ cmp3 a b = 0 ∨ cmp3 a b = 1 := cmpV_cases _ _ _ _ _ _
theorem cmp3_trans_lt {a b c : V3} (h : cmp3 a b < 0) (h' : cmp3 b c ≤ 0) : cmp3 a c < 0 := cmpV_trans_lt h h'
theorem cmp3_trans {a b c : V3} (h : cmp3 a b ≤ 0) (h' : cmp3 b c ≤ 0) : cmp3 a c ≤ 0 := cmpV_trans h h'
theorem cmpT_cons (a b : V3) (x y : List V3) : cmpT (a :: x) (b :: y) = if cmp3 a b = 0 then cmpT x y else cmp3 a b := rfl
theorem cmpT_neg : ∀ a b : List V3, cmpT a b = -cmpT b a
  | [], [] => rfl
  | [], _ :: _ => rfl
  | _ :: _, [] => rfl
  | a :: x, b :: y => by
    rw [cmpT_cons, cmpT_cons, cmp3_neg b a, cmpT_neg x y]
    (repeat' split) <;> omega
theorem cmpT_cases : ∀ a b : List V3, cmpT a b = -1 ∨ cmpT a b = 0 ∨ cmpT a b = 1
  | [], [] => .inr (.inl rfl)
  | [], _ :: _ => .inl rfl
  | _ :: _, [] => .inr (.inr rfl)
  | a :: x, b :: y => by
    rw [cmpT_cons]
    split
    · exact cmpT_cases x y
    · exact cmp3_cases a b
theorem cmpT_zero : ∀ a b : List V3, cmpT a b = 0 ↔ a = b
  | [], [] => by simp [cmpT]
  | [], _ :: _ => by simp [cmpT]
  | _ :: _, [] => by simp [cmpT]
  | a :: x, b :: y => by
    rw [cmpT_cons]
    split
    · rename_i h
      rw [cmpT_zero x y, cmp3_zero.1 h]
      simp
    · rename_i h
      constructor
      · intro e; exact absurd e h
      · intro e
        exact absurd (cmp3_zero.2 (List.cons.inj e).1) h
theorem cmpT_self (a : List V3) : cmpT a a = 0 := (cmpT_zero a a).2 rfl
theorem cmpT_trans : ∀ a b c : List V3, cmpT a b ≤ 0 → cmpT b c ≤ 0 → cmpT a c ≤ 0
  | [], _, [] => fun _ _ => by simp [cmpT]
  | [], _, _ :: _ => fun _ _ => by simp [cmpT]
  | _ :: _, [], _ => fun h _ => by simp [cmpT] at h
  | _ :: _, _ :: _, [] => fun _ h => by simp [cmpT] at h
  | a :: x, b :: y, c :: z => fun h h' => by
    rw [cmpT_cons] at h h' ⊢
    by_cases h1 : cmp3 a b = 0
    · obtain rfl := cmp3_zero.1 h1
      rw [if_pos h1] at h
      by_cases h2 : cmp3 a c = 0
      · rw [if_pos h2] at h' ⊢
        exact cmpT_trans x y z h h'
      · rw [if_neg h2] at h' ⊢
        exact h'
    · rw [if_neg h1] at h
      have hlt : cmp3 a b < 0 := by omega
      have hbc : cmp3 b c ≤ 0 := by
        by_cases h2 : cmp3 b c = 0
        · omega
        · rw [if_neg h2] at h'; exact h'
      have := cmp3_trans_lt hlt hbc
      rw [if_neg (by omega)]
      omega
theorem cmpT_trans_lt (a b c : List V3) (h : cmpT a b < 0) (h' : cmpT b c ≤ 0) : cmpT a c < 0 := by
  have h1 := cmpT_trans a b c (by omega) h'
  rcases cmpT_cases a c with e | e | e
  · omega
  · obtain rfl := (cmpT_zero a c).1 e
    have := cmpT_neg a b
    omega
  · omega
theorem cmpT_lt_trans (a b c : List V3) (h : cmpT a b ≤ 0) (h' : cmpT b c < 0) : cmpT a c < 0 := by
  have h1 := cmpT_trans a b c h (by omega)
  rcases cmpT_cases a c with e | e | e
  · omega
  · obtain rfl := (cmpT_zero a c).1 e
    have := cmpT_neg a b
    omega
  · omega
/-- A row of values against another behind the first i places, where they agree so far. -/
theorem cmpT_drop_lt {a b : List V3} {i : Nat} (hi : i < a.length) (hj : i < b.length) : cmpT (a.drop i) (b.drop i) = if cmp3 a[i] b[i] = 0 then cmpT (a.drop (i + 1)) (b.drop (i + 1)) else cmp3 a[i] b[i] := by
  rw [List.drop_eq_getElem_cons hi, List.drop_eq_getElem_cons hj, cmpT_cons]
theorem cmpT_drop_over {a b : List V3} {i : Nat} (hi : i < a.length) (hj : b.length ≤ i) : cmpT (a.drop i) (b.drop i) = 1 := by
  rw [List.drop_eq_getElem_cons hi, List.drop_of_length_le hj]
  rfl
theorem cmpT_drop_end {a b : List V3} {i : Nat} (hi : i = a.length) : cmpT (a.drop i) (b.drop i) = if a.length < b.length then -1 else 0 := by
  subst hi
  rw [List.drop_length]
  split
  · rename_i h
    rw [List.drop_eq_getElem_cons h]
    rfl
  · rw [List.drop_of_length_le (by omega)]
    rfl
/-- Sorting by this order: a strict weak order, whatever the rows are told by. -/
theorem swoT {α : Type} (f : α → List V3) : Sort.SWO (ltOf fun x y : α => cmpT (f x) (f y)) where
  irrefl x := by simp [ltOf, cmpT_self]
  trans x y z h h' := by
    simp only [ltOf, decide_eq_true_eq] at *
    exact cmpT_trans_lt _ _ _ h (by omega)
  ntrans x y z h h' := by
    simp only [ltOf, decide_eq_false_iff_not] at *
    have e1 := cmpT_neg (f x) (f y)
    have e2 := cmpT_neg (f y) (f z)
    have e3 := cmpT_neg (f x) (f z)
    have := cmpT_trans (f z) (f y) (f x) (by omega) (by omega)
    omega
end Go.Proofs.Ytcfnpbmkcdmafaa

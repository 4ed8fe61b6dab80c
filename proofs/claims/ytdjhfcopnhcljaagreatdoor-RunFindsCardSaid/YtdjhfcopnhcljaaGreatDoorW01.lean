/-
  Plain facts on the order of two values: kind, then number, then bytes. No program is named here.
  Plain facts on tuples: the order of two rows of values. No program is named here.
  Plain facts on bytes: numbers by seven bits, keys of values; keys stand in the order of their tuples. No program is named here.
-/
import GoSem.Op.String
import Derived.Lib.Strings
import Derived.Sort.Statements
import Derived.Shelf.SlSortCmp.Insertion
namespace Go.Proofs.YtdjhfcopnhcljaaGreatDoor
section
open Go

/-- Two numbers against each other. -/
def cmpI (a b : Int) : Int := if a < b then -1 else if b < a then 1 else 0
/-- Two byte rows against each other. -/
def cmpS (a b : ByteArray) : Int := if Op.bytesLess a.toList b.toList then -1 else if Op.bytesLess b.toList a.toList then 1 else 0
/-- Two values against each other: kind, number, bytes. -/
def cmpV (k n : Int) (s : ByteArray) (k' n' : Int) (s' : ByteArray) : Int :=
  if cmpI k k' = 0 then (if cmpI n n' = 0 then cmpS s s' else cmpI n n') else cmpI k k'

theorem bl_nil_right (l : List UInt8) : Op.bytesLess l [] = false := by cases l <;> simp [Op.bytesLess]
theorem bl_cons (a b : UInt8) (x y : List UInt8) : Op.bytesLess (a :: x) (b :: y) = (decide (a < b) || (a == b && Op.bytesLess x y)) := by simp [Op.bytesLess]
theorem bl_irrefl : ∀ l : List UInt8, Op.bytesLess l l = false
  | [] => rfl
  | a :: x => by rw [bl_cons, bl_irrefl x]; simp
theorem u8_tri (a b : UInt8) : a < b ∨ a = b ∨ b < a := by
  rcases Nat.lt_trichotomy a.toNat b.toNat with h | h | h
  · exact .inl h
  · exact .inr (.inl (UInt8.toNat_inj.1 h))
  · exact .inr (.inr h)
theorem u8_asymm {a b : UInt8} (h : a < b) : ¬ b < a := by
  have h1 : a.toNat < b.toNat := h
  intro h2
  have h3 : b.toNat < a.toNat := h2
  omega
theorem u8_ne {a b : UInt8} (h : a < b) : a ≠ b := by
  rintro rfl
  exact u8_asymm h h
theorem bl_tri : ∀ a b : List UInt8, Op.bytesLess a b = false → Op.bytesLess b a = false → a = b
  | [], [] => fun _ _ => rfl
  | [], _ :: _ => fun h _ => by simp [Op.bytesLess] at h
  | _ :: _, [] => fun _ h => by simp [Op.bytesLess] at h
  | a :: x, b :: y => fun h h' => by
    rw [bl_cons] at h h'
    rcases u8_tri a b with g | rfl | g
    · simp [g] at h
    · simp at h h'
      rw [bl_tri x y h h']
    · simp [g] at h'
theorem bl_asymm : ∀ a b : List UInt8, Op.bytesLess a b = true → Op.bytesLess b a = false
  | _, [] => fun h => by rw [bl_nil_right] at h; cases h
  | [], _ :: _ => fun _ => bl_nil_right _
  | a :: x, b :: y => fun h => by
    rw [bl_cons] at h ⊢
    rcases u8_tri a b with g | rfl | g
    · simp [u8_asymm g, (u8_ne g).symm]
    · simp at h ⊢
      exact bl_asymm x y h
    · simp [u8_asymm g, (u8_ne g).symm] at h
theorem u8_trans {a b c : UInt8} (h : a < b) (h' : b < c) : a < c := by
  have h1 : a.toNat < b.toNat := h
  have h2 : b.toNat < c.toNat := h'
  exact (by omega : a.toNat < c.toNat)
theorem bl_trans : ∀ a b c : List UInt8, Op.bytesLess a b = true → Op.bytesLess b c = true → Op.bytesLess a c = true
  | _, [], _ => fun h _ => by rw [bl_nil_right] at h; cases h
  | _, _ :: _, [] => fun _ h => by rw [bl_nil_right] at h; cases h
  | [], _ :: _, _ :: _ => fun _ _ => rfl
  | a :: x, b :: y, c :: z => fun h h' => by
    rw [bl_cons] at h h' ⊢
    simp only [Bool.or_eq_true, decide_eq_true_eq, Bool.and_eq_true, beq_iff_eq] at h h' ⊢
    rcases h with h | ⟨rfl, h⟩
    · rcases h' with h' | ⟨rfl, h'⟩
      · exact .inl (u8_trans h h')
      · exact .inl h
    · rcases h' with h' | ⟨rfl, h'⟩
      · exact .inl h'
      · exact .inr ⟨rfl, bl_trans x y z h h'⟩

theorem str_ext {a b : ByteArray} (h : a.toList = b.toList) : a = b := by
  rw [Lib.toList_data, Lib.toList_data] at h
  cases a; cases b
  simpa using h
theorem str_beq (a b : ByteArray) : (a.toList == b.toList) = decide (a = b) := by
  rw [Bool.eq_iff_iff]
  simp only [beq_iff_eq, decide_eq_true_eq]
  exact ⟨str_ext, fun h => by rw [h]⟩

theorem cmpI_lt {a b : Int} (h : a < b) : cmpI a b = -1 := by unfold cmpI; rw [if_pos h]
theorem cmpI_gt {a b : Int} (h : b < a) : cmpI a b = 1 := by unfold cmpI; rw [if_neg (by omega), if_pos h]
theorem cmpI_self (a : Int) : cmpI a a = 0 := by unfold cmpI; rw [if_neg (by omega), if_neg (by omega)]
theorem cmpI_zero {a b : Int} : cmpI a b = 0 ↔ a = b := by unfold cmpI; (repeat' split) <;> omega
theorem cmpI_neg (a b : Int) : cmpI a b = -cmpI b a := by unfold cmpI; (repeat' split) <;> omega
theorem cmpI_cases (a b : Int) : cmpI a b = -1 ∧ a < b ∨ cmpI a b = 0 ∧ a = b ∨ cmpI a b = 1 ∧ b < a := by unfold cmpI; (repeat' split) <;> omega

theorem cmpS_lt {a b : ByteArray} (h : Op.bytesLess a.toList b.toList = true) : cmpS a b = -1 := by unfold cmpS; rw [if_pos h]
theorem cmpS_self (a : ByteArray) : cmpS a a = 0 := by unfold cmpS; simp [bl_irrefl]
theorem cmpS_gt {a b : ByteArray} (h : Op.bytesLess a.toList b.toList = false) (h' : (!a.toList == b.toList) = true) : cmpS a b = 1 := by
  unfold cmpS
  rw [h, if_neg (by simp)]
  cases g : Op.bytesLess b.toList a.toList
  · have := bl_tri _ _ h g
    rw [this] at h'
    simp at h'
  · rfl
theorem cmpS_eq {a b : ByteArray} (h : (!a.toList == b.toList) = false) : cmpS a b = 0 := by
  have : a.toList = b.toList := by simpa using h
  rw [str_ext this]
  exact cmpS_self b
theorem cmpS_cases (a b : ByteArray) : cmpS a b = -1 ∧ Op.bytesLess a.toList b.toList = true ∨ cmpS a b = 0 ∧ a = b ∨ cmpS a b = 1 ∧ Op.bytesLess b.toList a.toList = true := by
  cases h : Op.bytesLess a.toList b.toList
  · cases g : Op.bytesLess b.toList a.toList
    · have := str_ext (bl_tri _ _ h g)
      subst this
      exact .inr (.inl ⟨cmpS_self _, rfl⟩)
    · exact .inr (.inr ⟨by unfold cmpS; simp [h, g], rfl⟩)
  · exact .inl ⟨cmpS_lt h, rfl⟩
theorem cmpS_neg (a b : ByteArray) : cmpS a b = -cmpS b a := by
  rcases cmpS_cases a b with ⟨h, g⟩ | ⟨h, rfl⟩ | ⟨h, g⟩
  · have := bl_asymm _ _ g
    unfold cmpS; simp [g, this]
  · rw [h]; rfl
  · have := bl_asymm _ _ g
    unfold cmpS; simp [g, this]
theorem cmpS_zero {a b : ByteArray} : cmpS a b = 0 ↔ a = b := by
  constructor
  · intro h
    rcases cmpS_cases a b with ⟨g, _⟩ | ⟨_, e⟩ | ⟨g, _⟩
    · omega
    · exact e
    · omega
  · rintro rfl
    exact cmpS_self _

theorem cmpV_neg (k n : Int) (s : ByteArray) (k' n' : Int) (s' : ByteArray) : cmpV k n s k' n' s' = -cmpV k' n' s' k n s := by
  unfold cmpV
  have h1 := cmpI_neg k k'
  have h2 := cmpI_neg n n'
  have h3 := cmpS_neg s s'
  (repeat' split) <;> omega
theorem cmpV_zero (k n : Int) (s : ByteArray) (k' n' : Int) (s' : ByteArray) : cmpV k n s k' n' s' = 0 ↔ k = k' ∧ n = n' ∧ s = s' := by
  unfold cmpV
  rw [show (k = k' ∧ n = n' ∧ s = s') ↔ (cmpI k k' = 0 ∧ cmpI n n' = 0 ∧ cmpS s s' = 0) from by rw [cmpI_zero, cmpI_zero, cmpS_zero]]
  (repeat' split) <;> omega
theorem cmpV_cases (k n : Int) (s : ByteArray) (k' n' : Int) (s' : ByteArray) : cmpV k n s k' n' s' = -1 ∨ cmpV k n s k' n' s' = 0 ∨ cmpV k n s k' n' s' = 1 := by
  unfold cmpV
  rcases cmpI_cases k k' with ⟨h1, _⟩ | ⟨h1, _⟩ | ⟨h1, _⟩
  · rw [h1]; simp
  · rw [h1, if_pos rfl]
    rcases cmpI_cases n n' with ⟨h2, _⟩ | ⟨h2, _⟩ | ⟨h2, _⟩
    · rw [h2]; simp
    · rw [h2, if_pos rfl]
      rcases cmpS_cases s s' with ⟨h3, _⟩ | ⟨h3, _⟩ | ⟨h3, _⟩ <;> simp [h3]
    · rw [h2]; simp
  · rw [h1]; simp

/-- Less than, as a proposition. -/
def LtV (k n : Int) (s : ByteArray) (k' n' : Int) (s' : ByteArray) : Prop := k < k' ∨ k = k' ∧ (n < n' ∨ n = n' ∧ Op.bytesLess s.toList s'.toList = true)
theorem cmpV_lt (k n : Int) (s : ByteArray) (k' n' : Int) (s' : ByteArray) : cmpV k n s k' n' s' = -1 ↔ LtV k n s k' n' s' := by
  unfold cmpV LtV
  rcases cmpI_cases k k' with ⟨h1, g1⟩ | ⟨h1, g1⟩ | ⟨h1, g1⟩
  · rw [h1]; simp; exact .inl g1
  · rw [h1, if_pos rfl]
    rcases cmpI_cases n n' with ⟨h2, g2⟩ | ⟨h2, g2⟩ | ⟨h2, g2⟩
    · rw [h2]; simp; exact .inr ⟨g1, .inl g2⟩
    · rw [h2, if_pos rfl]
      rcases cmpS_cases s s' with ⟨h3, g3⟩ | ⟨h3, g3⟩ | ⟨h3, g3⟩
      · rw [h3]; simp; exact .inr ⟨g1, .inr ⟨g2, g3⟩⟩
      · rw [h3]; subst g1 g2 g3; simp [bl_irrefl]
      · rw [h3]; subst g1 g2; simp [bl_asymm _ _ g3]
    · rw [h2]; simp; exact ⟨by omega, fun _ => ⟨by omega, fun e => by omega⟩⟩
  · rw [h1]; simp; exact ⟨by omega, fun e => by omega⟩
theorem LtV.trans {k n : Int} {s : ByteArray} {k' n' : Int} {s' : ByteArray} {l m : Int} {t : ByteArray} (h : LtV k n s k' n' s') (h' : LtV k' n' s' l m t) : LtV k n s l m t := by
  unfold LtV at *
  rcases h with h | ⟨rfl, h | ⟨rfl, h⟩⟩ <;> rcases h' with h' | ⟨rfl, h' | ⟨rfl, h'⟩⟩
  · exact .inl (by omega)
  · exact .inl (by omega)
  · exact .inl (by omega)
  · exact .inl (by omega)
  · exact .inr ⟨rfl, .inl (by omega)⟩
  · exact .inr ⟨rfl, .inl (by omega)⟩
  · exact .inl (by omega)
  · exact .inr ⟨rfl, .inl (by omega)⟩
  · exact .inr ⟨rfl, .inr ⟨rfl, bl_trans _ _ _ h h'⟩⟩
/-- Neither behind: the first is not behind the third. -/
theorem cmpV_trans {k n : Int} {s : ByteArray} {k' n' : Int} {s' : ByteArray} {l m : Int} {t : ByteArray} (h : cmpV k n s k' n' s' ≤ 0) (h' : cmpV k' n' s' l m t ≤ 0) : cmpV k n s l m t ≤ 0 := by
  rcases cmpV_cases k n s k' n' s' with e | e | e
  · rcases cmpV_cases k' n' s' l m t with e' | e' | e'
    · have := (cmpV_lt _ _ _ _ _ _).2 (((cmpV_lt _ _ _ _ _ _).1 e).trans ((cmpV_lt _ _ _ _ _ _).1 e'))
      omega
    · obtain ⟨rfl, rfl, rfl⟩ := (cmpV_zero _ _ _ _ _ _).1 e'
      exact h
    · omega
  · obtain ⟨rfl, rfl, rfl⟩ := (cmpV_zero _ _ _ _ _ _).1 e
    exact h'
  · omega
/-- The first ahead of the second, the second not behind the third: the first is ahead of the third. -/
theorem cmpV_trans_lt {k n : Int} {s : ByteArray} {k' n' : Int} {s' : ByteArray} {l m : Int} {t : ByteArray} (h : cmpV k n s k' n' s' < 0) (h' : cmpV k' n' s' l m t ≤ 0) : cmpV k n s l m t < 0 := by
  rcases cmpV_cases k' n' s' l m t with e' | e' | e'
  · have e : cmpV k n s k' n' s' = -1 := by rcases cmpV_cases k n s k' n' s' with e | e | e <;> omega
    have := (cmpV_lt _ _ _ _ _ _).2 (((cmpV_lt _ _ _ _ _ _).1 e).trans ((cmpV_lt _ _ _ _ _ _).1 e'))
    omega
  · obtain ⟨rfl, rfl, rfl⟩ := (cmpV_zero _ _ _ _ _ _).1 e'
    exact h
  · omega

end
section
open Go

/-- A value: its kind, its number, its bytes. -/
structure V3 where
  k : Int
  n : Int
  s : ByteArray
/-- Two values against each other. -/
def cmp3 (a b : V3) : Int := cmpV a.k a.n a.s b.k b.n b.s
/-- Two rows of values against each other: the first place at which they part; a beginning stands ahead. -/
def cmpT : List V3 → List V3 → Int
  | [], [] => 0
  | [], _ :: _ => -1
  | _ :: _, [] => 1
  | a :: x, b :: y => if cmp3 a b = 0 then cmpT x y else cmp3 a b

theorem cmp3_zero {a b : V3} : cmp3 a b = 0 ↔ a = b := by
  unfold cmp3
  rw [cmpV_zero]
  constructor
  · rintro ⟨h1, h2, h3⟩
    cases a; cases b
    simp at h1 h2 h3
    rw [h1, h2, h3]
  · rintro rfl
    exact ⟨rfl, rfl, rfl⟩
theorem cmp3_neg (a b : V3) : cmp3 a b = -cmp3 b a := cmpV_neg _ _ _ _ _ _
theorem cmp3_cases (a b : V3) : cmp3 a b = -1 ∨ cmp3 a b = 0 ∨ cmp3 a b = 1 := cmpV_cases _ _ _ _ _ _
theorem cmp3_trans_lt {a b c : V3} (h : cmp3 a b < 0) (h' : cmp3 b c ≤ 0) : cmp3 a c < 0 := cmpV_trans_lt h h'
theorem cmp3_trans {a b c : V3} (h : cmp3 a b ≤ 0) (h' : cmp3 b c ≤ 0) : cmp3 a c ≤ 0 := cmpV_trans h h'
theorem cmpT_cons (a b : V3) (x y : List V3) : cmpT (a :: x) (b :: y) = if cmp3 a b = 0 then cmpT x y else cmp3 a b := rfl
theorem cmpT_neg : ∀ a b : List V3, cmpT a b = -cmpT b a
  | [], [] => rfl
  | [], _ :: _ => rfl
  | _ :: _, [] => rfl
  | a :: x, b :: y => by
    rw [cmpT_cons, cmpT_cons, cmp3_neg b a, cmpT_neg x y]
    (repeat' split) <;> omega
theorem cmpT_cases : ∀ a b : List V3, cmpT a b = -1 ∨ cmpT a b = 0 ∨ cmpT a b = 1
  | [], [] => .inr (.inl rfl)
  | [], _ :: _ => .inl rfl
  | _ :: _, [] => .inr (.inr rfl)
  | a :: x, b :: y => by
    rw [cmpT_cons]
    split
    · exact cmpT_cases x y
    · exact cmp3_cases a b
theorem cmpT_zero : ∀ a b : List V3, cmpT a b = 0 ↔ a = b
  | [], [] => by simp [cmpT]
  | [], _ :: _ => by simp [cmpT]
  | _ :: _, [] => by simp [cmpT]
  | a :: x, b :: y => by
    rw [cmpT_cons]
    split
    · rename_i h
      rw [cmpT_zero x y, cmp3_zero.1 h]
      simp
    · rename_i h
      constructor
      · intro e; exact absurd e h
      · intro e
        exact absurd (cmp3_zero.2 (List.cons.inj e).1) h
theorem cmpT_self (a : List V3) : cmpT a a = 0 := (cmpT_zero a a).2 rfl
theorem cmpT_trans : ∀ a b c : List V3, cmpT a b ≤ 0 → cmpT b c ≤ 0 → cmpT a c ≤ 0
  | [], _, [] => fun _ _ => by simp [cmpT]
  | [], _, _ :: _ => fun _ _ => by simp [cmpT]
  | _ :: _, [], _ => fun h _ => by simp [cmpT] at h
  | _ :: _, _ :: _, [] => fun _ h => by simp [cmpT] at h
  | a :: x, b :: y, c :: z => fun h h' => by
    rw [cmpT_cons] at h h' ⊢
    by_cases h1 : cmp3 a b = 0
    · obtain rfl := cmp3_zero.1 h1
      rw [if_pos h1] at h
      by_cases h2 : cmp3 a c = 0
      · rw [if_pos h2] at h' ⊢
        exact cmpT_trans x y z h h'
      · rw [if_neg h2] at h' ⊢
        exact h'
    · rw [if_neg h1] at h
      have hlt : cmp3 a b < 0 := by omega
      have hbc : cmp3 b c ≤ 0 := by
        by_cases h2 : cmp3 b c = 0
        · omega
        · rw [if_neg h2] at h'; exact h'
      have := cmp3_trans_lt hlt hbc
      rw [if_neg (by omega)]
      omega
theorem cmpT_trans_lt (a b c : List V3) (h : cmpT a b < 0) (h' : cmpT b c ≤ 0) : cmpT a c < 0 := by
  have h1 := cmpT_trans a b c (by omega) h'
  rcases cmpT_cases a c with e | e | e
  · omega
  · obtain rfl := (cmpT_zero a c).1 e
    have := cmpT_neg a b
    omega
  · omega
theorem cmpT_lt_trans (a b c : List V3) (h : cmpT a b ≤ 0) (h' : cmpT b c < 0) : cmpT a c < 0 := by
  have h1 := cmpT_trans a b c h (by omega)
  rcases cmpT_cases a c with e | e | e
  · omega
  · obtain rfl := (cmpT_zero a c).1 e
    have := cmpT_neg a b
    omega
  · omega
/-- A row of values against another behind the first i places, where they agree so far. -/
theorem cmpT_drop_lt {a b : List V3} {i : Nat} (hi : i < a.length) (hj : i < b.length) : cmpT (a.drop i) (b.drop i) = if cmp3 a[i] b[i] = 0 then cmpT (a.drop (i + 1)) (b.drop (i + 1)) else cmp3 a[i] b[i] := by
  rw [List.drop_eq_getElem_cons hi, List.drop_eq_getElem_cons hj, cmpT_cons]
theorem cmpT_drop_over {a b : List V3} {i : Nat} (hi : i < a.length) (hj : b.length ≤ i) : cmpT (a.drop i) (b.drop i) = 1 := by
  rw [List.drop_eq_getElem_cons hi, List.drop_of_length_le hj]
  rfl
theorem cmpT_drop_end {a b : List V3} {i : Nat} (hi : i = a.length) : cmpT (a.drop i) (b.drop i) = if a.length < b.length then -1 else 0 := by
  subst hi
  rw [List.drop_length]
  split
  · rename_i h
    rw [List.drop_eq_getElem_cons h]
    rfl
  · rw [List.drop_of_length_le (by omega)]
    rfl
/-- Sorting by this order: a strict weak order, whatever the rows are told by. -/
theorem swoT {α : Type} (f : α → List V3) : Sort.SWO (ltOf fun x y : α => cmpT (f x) (f y)) where
  irrefl x := by simp [ltOf, cmpT_self]
  trans x y z h h' := by
    simp only [ltOf, decide_eq_true_eq] at *
    exact cmpT_trans_lt _ _ _ h (by omega)
  ntrans x y z h h' := by
    simp only [ltOf, decide_eq_false_iff_not] at *
    have e1 := cmpT_neg (f x) (f y)
    have e2 := cmpT_neg (f y) (f z)
    have e3 := cmpT_neg (f x) (f z)
    have := cmpT_trans (f z) (f y) (f x) (by omega) (by omega)
    omega
end
section
open Go

/-- The bytes of a number: seven bits each, the lowest first. -/
def numL (x : Nat) : List UInt8 := if x < 128 then [UInt8.ofNat x] else UInt8.ofNat (x % 128 + 128) :: numL (x / 128)
termination_by x
decreasing_by omega
theorem numL_lt {x : Nat} (h : x < 128) : numL x = [UInt8.ofNat x] := by rw [numL, if_pos h]
theorem numL_ge {x : Nat} (h : 128 ≤ x) : numL x = UInt8.ofNat (x % 128 + 128) :: numL (x / 128) := by rw [numL, if_neg (by omega)]
theorem numL_len (k : Nat) : ∀ x, x < 128 ^ (k + 1) → (numL x).length ≤ k + 1 := by
  induction k with
  | zero => intro x h; rw [numL_lt (by simpa using h)]; simp
  | succ k ih =>
    intro x h
    rcases Nat.lt_or_ge x 128 with h1 | h1
    · rw [numL_lt h1]; simp
    · rw [numL_ge h1]
      have := ih (x / 128) (by rw [Nat.div_lt_iff_lt_mul (by decide)]; simpa [Nat.pow_succ] using h)
      simp only [List.length_cons]; omega
theorem numL_len10 {x : Nat} (h : x < 18446744073709551616) : (numL x).length ≤ 10 := numL_len 9 x (by omega)
/-- The number under which an int is kept. -/
def zigN (x : Int) : Nat := if x < 0 then (-2 * x - 1).toNat else (2 * x).toNat
def intL (x : Int) : List UInt8 := numL (zigN x)
def textL (l : List UInt8) : List UInt8 := numL l.length ++ l
def oneL (v : V3) : List UInt8 := if v.k = 1 then 1 :: intL v.n else 2 :: textL v.s.data.toList
def tupL (T : List V3) : List UInt8 := UInt8.ofNat T.length :: T.flatMap oneL

/-- The lowest k bytes of a number, the highest first. -/
def beL : Nat → Nat → List UInt8
  | 0, _ => []
  | k + 1, x => UInt8.ofNat (x / 256 ^ k % 256) :: beL k x
def keyI (n : Int) : List UInt8 := 1 :: beL 8 (n + 9223372036854775808).toNat
/-- A symbol's bytes in a key. -/
def escB (c : UInt8) : List UInt8 := if c = 0 then [0, 255] else [c]
def keyS (l : List UInt8) : List UInt8 := 2 :: (l.flatMap escB ++ [0, 1])
def keyV (v : V3) : List UInt8 := if v.k = 1 then keyI v.n else keyS v.s.data.toList
def keyT (T : List V3) : List UInt8 := T.flatMap keyV
theorem keyT_cons (a : V3) (x : List V3) : keyT (a :: x) = keyV a ++ keyT x := rfl
theorem beL_len (k x : Nat) : (beL k x).length = k := by induction k with | zero => rfl | succ k ih => simp [beL, ih]

theorem bl_append (c x y : List UInt8) : Op.bytesLess (c ++ x) (c ++ y) = Op.bytesLess x y := by
  induction c with
  | nil => rfl
  | cons a c ih => rw [List.cons_append, List.cons_append, bl_cons, ih]; simp [u8_irr a]
where u8_irr (a : UInt8) : ¬ a < a := fun h => u8_asymm h h
theorem beL_mod (k x : Nat) : beL k x = beL k (x % 256 ^ k) := by
  suffices h : ∀ m, k ≤ m → beL k x = beL k (x % 256 ^ m) from h k (Nat.le_refl _)
  induction k with
  | zero => intro m _; rfl
  | succ k ih =>
    intro m hm
    rw [beL, beL, ih m (by omega)]
    congr 2
    have e : 256 ^ m = 256 ^ k * (256 * 256 ^ (m - k - 1)) := by rw [← Nat.pow_succ', ← Nat.pow_add]; congr 1; omega
    rw [e, Nat.mod_mul_right_div_self, Nat.mod_mul_right_mod]
/-- Two numbers of k bytes stand as their bytes stand, whatever follows. -/
theorem be_less (k : Nat) : ∀ (x y : Nat) (p q : List UInt8), x < 256 ^ k → y < 256 ^ k → x < y → Op.bytesLess (beL k x ++ p) (beL k y ++ q) = true := by
  induction k with
  | zero => intro x y p q hx hy h; simp at hx hy; omega
  | succ k ih =>
    intro x y p q hx hy h
    have hp : 0 < 256 ^ k := Nat.pow_pos (by decide)
    have hx' : x / 256 ^ k < 256 := by rw [Nat.div_lt_iff_lt_mul hp, ← Nat.pow_succ']; exact hx
    have hy' : y / 256 ^ k < 256 := by rw [Nat.div_lt_iff_lt_mul hp, ← Nat.pow_succ']; exact hy
    rw [beL, beL, List.cons_append, List.cons_append, bl_cons, Nat.mod_eq_of_lt hx', Nat.mod_eq_of_lt hy']
    have hle : x / 256 ^ k ≤ y / 256 ^ k := Nat.div_le_div_right (Nat.le_of_lt h)
    have hlt : ∀ a b : Nat, a < 256 → b < 256 → a < b → UInt8.ofNat a < UInt8.ofNat b := fun a b ha hb hab => by
      rw [UInt8.lt_iff_toNat_lt, UInt8.toNat_ofNat', UInt8.toNat_ofNat', Nat.mod_eq_of_lt (by simpa using ha), Nat.mod_eq_of_lt (by simpa using hb)]
      exact hab
    rcases Nat.lt_or_eq_of_le hle with hl | he
    · simp [hlt _ _ hx' hy' hl]
    · rw [he, beL_mod k x, beL_mod k y]
      have hmx := Nat.mod_lt x hp
      have hmy := Nat.mod_lt y hp
      have hm : x % 256 ^ k < y % 256 ^ k := by
        have e1 := Nat.div_add_mod x (256 ^ k)
        have e2 := Nat.div_add_mod y (256 ^ k)
        rw [he] at e1
        omega
      simp [ih _ _ p q hmx hmy hm]
theorem keyI_less {n m : Int} (hn : -9223372036854775808 ≤ n ∧ n ≤ 9223372036854775807) (hm : -9223372036854775808 ≤ m ∧ m ≤ 9223372036854775807) (p q : List UInt8) (h : n < m) : Op.bytesLess (keyI n ++ p) (keyI m ++ q) = true := by
  unfold keyI
  rw [List.cons_append, List.cons_append, bl_cons, be_less 8 _ _ p q (by omega) (by omega) (by omega)]
  simp
/-- A symbol's bytes, ended: ahead of another's, whatever follows. -/
theorem esc_less : ∀ (l m p q : List UInt8), Op.bytesLess l m = true → Op.bytesLess (l.flatMap escB ++ [0, 1] ++ p) (m.flatMap escB ++ [0, 1] ++ q) = true
  | _, [], _, _ => fun h => by rw [bl_nil_right] at h; cases h
  | [], b :: m, p, q => fun _ => by
    by_cases hb : b = 0
    · subst hb; simp [escB, bl_cons]
    · have : (0 : UInt8) < b := by
        rw [UInt8.lt_iff_toNat_lt]
        have : b.toNat ≠ 0 := fun e => hb (UInt8.toNat_inj.1 e)
        show 0 < b.toNat
        omega
      simp [escB, hb, bl_cons, this]
  | a :: l, b :: m, p, q => fun h => by
    rw [bl_cons] at h
    simp only [Bool.or_eq_true, decide_eq_true_eq, Bool.and_eq_true, beq_iff_eq] at h
    rcases h with h | ⟨rfl, h⟩
    · have hb : b ≠ 0 := by
        rintro rfl
        rw [UInt8.lt_iff_toNat_lt] at h
        have : (0 : UInt8).toNat = 0 := rfl
        omega
      by_cases ha : a = 0
      · subst ha; simp [escB, hb, bl_cons, h]
      · simp [escB, ha, hb, bl_cons, h]
    · have := esc_less l m p q h
      simp only [List.flatMap_cons, List.append_assoc] at this ⊢
      rw [bl_append]
      exact this
theorem keyS_less (l m p q : List UInt8) (h : Op.bytesLess l m = true) : Op.bytesLess (keyS l ++ p) (keyS m ++ q) = true := by
  unfold keyS
  rw [List.cons_append, List.cons_append, bl_cons, esc_less l m p q h]
  simp
/-- A value that may be. -/
def OkV (v : V3) : Prop := v.k = 1 ∧ v.s.toList = [] ∧ (-9223372036854775808 ≤ v.n ∧ v.n ≤ 9223372036854775807) ∨ v.k = 2 ∧ v.n = 0
theorem keyV_less {a b : V3} (ha : OkV a) (hb : OkV b) (p q : List UInt8) (h : cmp3 a b = -1) : Op.bytesLess (keyV a ++ p) (keyV b ++ q) = true := by
  have h' := (cmpV_lt _ _ _ _ _ _).1 h
  unfold LtV at h'
  unfold keyV
  rcases ha with ⟨ka, sa, na⟩ | ⟨ka, na⟩ <;> rcases hb with ⟨kb, sb, nb⟩ | ⟨kb, nb⟩
  · rw [if_pos ka, if_pos kb]
    rcases h' with h' | ⟨_, h' | ⟨_, h'⟩⟩
    · omega
    · exact keyI_less na nb p q h'
    · rw [sa, sb] at h'; simp [Op.bytesLess] at h'
  · rw [if_pos ka, if_neg (by omega)]
    unfold keyI keyS
    rw [List.cons_append, List.cons_append, bl_cons]
    simp
  · omega
  · rw [if_neg (by omega), if_neg (by omega)]
    rcases h' with h' | ⟨_, h' | ⟨_, h'⟩⟩
    · omega
    · omega
    · rw [Lib.toList_data, Lib.toList_data] at h'
      exact keyS_less _ _ p q h'
theorem keyV_ne (v : V3) : keyV v ≠ [] := by unfold keyV keyI keyS; split <;> simp
/-- The keys of two tuples stand as the tuples stand. -/
theorem keyT_less : ∀ (A B : List V3), (∀ x ∈ A, OkV x) → (∀ x ∈ B, OkV x) → cmpT A B = -1 → Op.bytesLess (keyT A) (keyT B) = true
  | [], [] => fun _ _ h => by simp [cmpT] at h
  | _ :: _, [] => fun _ _ h => by simp [cmpT] at h
  | [], b :: y => fun _ _ _ => by
    rw [keyT_cons]
    have := keyV_ne b
    cases hk : keyV b with
    | nil => exact absurd hk this
    | cons c r => rfl
  | a :: x, b :: y => fun ha hb h => by
    rw [cmpT_cons] at h
    rw [keyT_cons, keyT_cons]
    split at h
    · rename_i h0
      obtain rfl := cmp3_zero.1 h0
      rw [bl_append]
      exact keyT_less x y (fun v hv => ha v (List.mem_cons_of_mem _ hv)) (fun v hv => hb v (List.mem_cons_of_mem _ hv)) h
    · exact keyV_less (ha a List.mem_cons_self) (hb b List.mem_cons_self) _ _ h
theorem keyT_order (A B : List V3) (ha : ∀ x ∈ A, OkV x) (hb : ∀ x ∈ B, OkV x) :
    Op.bytesLess (keyT A) (keyT B) = decide (cmpT A B < 0) ∧ (decide (keyT A = keyT B)) = decide (cmpT A B = 0) := by
  rcases cmpT_cases A B with h | h | h
  · have := keyT_less A B ha hb h
    refine ⟨by rw [this, decide_eq_true (by omega)], ?_⟩
    rw [decide_eq_false (fun e => by rw [e, bl_irrefl] at this; cases this), decide_eq_false (by omega)]
  · obtain rfl := (cmpT_zero A B).1 h
    exact ⟨by rw [bl_irrefl, decide_eq_false (by omega)], by simp [h]⟩
  · have := keyT_less B A hb ha (by rw [cmpT_neg]; omega)
    refine ⟨by rw [bl_asymm _ _ this, decide_eq_false (by omega)], ?_⟩
    rw [decide_eq_false (fun e => by rw [e, bl_irrefl] at this; cases this), decide_eq_false (by omega)]
end
end Go.Proofs.YtdjhfcopnhcljaaGreatDoor

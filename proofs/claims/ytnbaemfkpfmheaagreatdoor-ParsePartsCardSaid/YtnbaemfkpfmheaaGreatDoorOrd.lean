/-
  Plain facts on the order of two values: kind, then number, then bytes. No program is named here.
-/
import GoSem.Op.String
import Derived.Lib.Strings
namespace Go.Proofs.YtnbaemfkpfmheaaGreatDoor
open Go

/-- Two numbers against each other. -/
def cmpI (a b : Int) : Int := if a < b then -1 else if b < a then 1 else 0
/-- Two byte rows against each other. -/
def cmpS (a b : ByteArray) : Int := if Op.bytesLess a.toList b.toList then -1 else if Op.bytesLess b.toList a.toList then 1 else 0
/-- Two values against each other: kind, number, bytes. -/
def cmpV (k n : Int) (s : ByteArray) (k' n' : Int) (s' : ByteArray) : Int :=
  if cmpI k k' = 0 then (if cmpI n n' = 0 then cmpS s s' else cmpI n n') else cmpI k k'

theorem bl_nil_right (l : List UInt8) : Op.bytesLess l [] = false := by cases l <;> simp [Op.bytesLess]
theorem bl_cons (a b : UInt8) (x y : List UInt8) : Op.bytesLess (a :: x) (b :: y) = (decide (a < b) || (a == b && Op.bytesLess x y)) := by simp [Op.bytesLess]
theorem bl_irrefl : ∀ l : List UInt8, Op.bytesLess l l = false
  | [] => rfl
  | a :: x => by rw [bl_cons, bl_irrefl x]; simp
theorem u8_tri (a b : UInt8) : a < b ∨ a = b ∨ b < a := by
  rcases Nat.lt_trichotomy a.toNat b.toNat with h | h | h
  · exact .inl h
  · exact .inr (.inl (UInt8.toNat_inj.1 h))
  · exact .inr (.inr h)
theorem u8_asymm {a b : UInt8} (h : a < b) : ¬ b < a := by
  have h1 : a.toNat < b.toNat := h
  intro h2
  have h3 : b.toNat < a.toNat := h2
  omega
theorem u8_ne {a b : UInt8} (h : a < b) : a ≠ b := by
  rintro rfl
  exact u8_asymm h h
theorem bl_tri : ∀ a b : List UInt8, Op.bytesLess a b = false → Op.bytesLess b a = false → a = b
  | [], [] => fun _ _ => rfl
  | [], _ :: _ => fun h _ => by simp [Op.bytesLess] at h
  | _ :: _, [] => fun _ h => by simp [Op.bytesLess] at h
  | a :: x, b :: y => fun h h' => by
    rw [bl_cons] at h h'
    rcases u8_tri a b with g | rfl | g
    · simp [g] at h
    · simp at h h'
      rw [bl_tri x y h h']
    · simp [g] at h'
theorem bl_asymm : ∀ a b : List UInt8, Op.bytesLess a b = true → Op.bytesLess b a = false
  | _, [] => fun h => by rw [bl_nil_right] at h; cases h
  | [], _ :: _ => fun _ => bl_nil_right _
  | a :: x, b :: y => fun h => by
    rw [bl_cons] at h ⊢
    rcases u8_tri a b with g | rfl | g
    · simp [u8_asymm g, (u8_ne g).symm]
    · simp at h ⊢
      exact bl_asymm x y h
    · simp [u8_asymm g, (u8_ne g).symm] at h
theorem u8_trans {a b c : UInt8} (h : a < b) (h' : b < c) : a < c := by
  have h1 : a.toNat < b.toNat := h
  have h2 : b.toNat < c.toNat := h'
  exact (by omega : a.toNat < c.toNat)
theorem bl_trans : ∀ a b c : List UInt8, Op.bytesLess a b = true → Op.bytesLess b c = true → Op.bytesLess a c = true
  | _, [], _ => fun h _ => by rw [bl_nil_right] at h; cases h
  | _, _ :: _, [] => fun _ h => by rw [bl_nil_right] at h; cases h
  | [], _ :: _, _ :: _ => fun _ _ => rfl
  | a :: x, b :: y, c :: z => fun h h' => by
    rw [bl_cons] at h h' ⊢
    simp only [Bool.or_eq_true, decide_eq_true_eq, Bool.and_eq_true, beq_iff_eq] at h h' ⊢
    rcases h with h | ⟨rfl, h⟩
    · rcases h' with h' | ⟨rfl, h'⟩
      · exact .inl (u8_trans h h')
      · exact .inl h
    · rcases h' with h' | ⟨rfl, h'⟩
      · exact .inl h'
      · exact .inr ⟨rfl, bl_trans x y z h h'⟩

theorem str_ext {a b : ByteArray} (h : a.toList = b.toList) : a = b := by
  rw [Lib.toList_data, Lib.toList_data] at h
  cases a; cases b
  simpa using h
theorem str_beq (a b : ByteArray) : (a.toList == b.toList) = decide (a = b) := by
  rw [Bool.eq_iff_iff]
  simp only [beq_iff_eq, decide_eq_true_eq]
  exact ⟨str_ext, fun h => by rw [h]⟩

theorem cmpI_lt {a b : Int} (h : a < b) : cmpI a b = -1 := by unfold cmpI; rw [if_pos h]
theorem cmpI_gt {a b : Int} (h : b < a) : cmpI a b = 1 := by unfold cmpI; rw [if_neg (by omega), if_pos h]
theorem cmpI_self (a : Int) : cmpI a a = 0 := by unfold cmpI; rw [if_neg (by omega), if_neg (by omega)]
theorem cmpI_zero {a b : Int} : cmpI a b = 0 ↔ a = b := by unfold cmpI; (repeat' split) <;> omega
theorem cmpI_neg (a b : Int) : cmpI a b = -cmpI b a := by unfold cmpI; (repeat' split) <;> omega
theorem cmpI_cases (a b : Int) : cmpI a b = -1 ∧ a < b ∨ cmpI a b = 0 ∧ a = b ∨ cmpI a b = 1 ∧ b < a := by unfold cmpI; (repeat' split) <;> omega

theorem cmpS_lt {a b : ByteArray} (h : Op.bytesLess a.toList b.toList = true) : cmpS a b = -1 := by unfold cmpS; rw [if_pos h]
theorem cmpS_self (a : ByteArray) : cmpS a a = 0 := by unfold cmpS; simp [bl_irrefl]
theorem cmpS_gt {a b : ByteArray} (h : Op.bytesLess a.toList b.toList = false) (h' : (!a.toList == b.toList) = true) : cmpS a b = 1 := by
  unfold cmpS
  rw [h, if_neg (by simp)]
  cases g : Op.bytesLess b.toList a.toList
  · have := bl_tri _ _ h g
    rw [this] at h'
    simp at h'
  · rfl
theorem cmpS_eq {a b : ByteArray} (h : (!a.toList == b.toList) = false) : cmpS a b = 0 := by
  have : a.toList = b.toList := by simpa using h
  rw [str_ext this]
  exact cmpS_self b
theorem cmpS_cases (a b : ByteArray) : cmpS a b = -1 ∧ Op.bytesLess a.toList b.toList = true ∨ cmpS a b = 0 ∧ a = b ∨ cmpS a b = 1 ∧ Op.bytesLess b.toList a.toList = true := by
  cases h : Op.bytesLess a.toList b.toList
  · cases g : Op.bytesLess b.toList a.toList
    · have := str_ext (bl_tri _ _ h g)
      subst this
      exact .inr (.inl ⟨cmpS_self _, rfl⟩)
    · exact .inr (.inr ⟨by unfold cmpS; simp [h, g], rfl⟩)
  · exact .inl ⟨cmpS_lt h, rfl⟩
theorem cmpS_neg (a b : ByteArray) : cmpS a b = -cmpS b a := by
  rcases cmpS_cases a b with ⟨h, g⟩ | ⟨h, rfl⟩ | ⟨h, g⟩
  · have := bl_asymm _ _ g
    unfold cmpS; simp [g, this]
  · rw [h]; rfl
  · have := bl_asymm _ _ g
    unfold cmpS; simp [g, this]
theorem cmpS_zero {a b : ByteArray} : cmpS a b = 0 ↔ a = b := by
  constructor
  · intro h
    rcases cmpS_cases a b with ⟨g, _⟩ | ⟨_, e⟩ | ⟨g, _⟩
    · omega
    · exact e
    · omega
  · rintro rfl
    exact cmpS_self _

theorem cmpV_neg (k n : Int) (s : ByteArray) (k' n' : Int) (s' : ByteArray) : cmpV k n s k' n' s' = -cmpV k' n' s' k n s := by
  unfold cmpV
  have h1 := cmpI_neg k k'
  have h2 := cmpI_neg n n'
  have h3 := cmpS_neg s s'
  (repeat' split) <;> omega
theorem cmpV_zero (k n : Int) (s : ByteArray) (k' n' : Int) (s' : ByteArray) : cmpV k n s k' n' s' = 0 ↔ k = k' ∧ n = n' ∧ s = s' := by
  unfold cmpV
  rw [show (k = k' ∧ n = n' ∧ s = s') ↔ (cmpI k k' = 0 ∧ cmpI n n' = 0 ∧ cmpS s s' = 0) from by rw [cmpI_zero, cmpI_zero, cmpS_zero]]
  (repeat' split) <;> omega
theorem cmpV_cases (k n : Int) (s : ByteArray) (k' n' : Int) (s' : ByteArray) : cmpV k n s k' n' s' = -1 ∨ cmpV k n s k' n' s' = 0 ∨ cmpV k n s k' n' s' = 1 := by
  unfold cmpV
  rcases cmpI_cases k k' with ⟨h1, _⟩ | ⟨h1, _⟩ | ⟨h1, _⟩
  · rw [h1]; simp
  · rw [h1, if_pos rfl]
    rcases cmpI_cases n n' with ⟨h2, _⟩ | ⟨h2, _⟩ | ⟨h2, _⟩
    · rw [h2]; simp
    · rw [h2, if_pos rfl]
      rcases cmpS_cases s s' with ⟨h3, _⟩ | ⟨h3, _⟩ | ⟨h3, _⟩ <;> simp [h3]
    · rw [h2]; simp
  · rw [h1]; simp

/-- Less than, as a proposition. -/
def LtV (k n : Int) (s : ByteArray) (k' n' : Int) (s' : ByteArray) : Prop := k < k' ∨ k = k' ∧ (n < n' ∨ n = n' ∧ Op.bytesLess s.toList s'.toList = true)
theorem cmpV_lt (k n : Int) (s : ByteArray) (k' n' : Int) (s' : ByteArray) : cmpV k n s k' n' s' = -1 ↔ LtV k n s k' n' s' := by
  unfold cmpV LtV
  rcases cmpI_cases k k' with ⟨h1, g1⟩ | ⟨h1, g1⟩ | ⟨h1, g1⟩
  · rw [h1]; simp; exact .inl g1
  · rw [h1, if_pos rfl]
    rcases cmpI_cases n n' with ⟨h2, g2⟩ | ⟨h2, g2⟩ | ⟨h2, g2⟩
    · rw [h2]; simp; exact .inr ⟨g1, .inl g2⟩
    · rw [h2, if_pos rfl]
      rcases cmpS_cases s s' with ⟨h3, g3⟩ | ⟨h3, g3⟩ | ⟨h3, g3⟩
      · rw [h3]; simp; exact .inr ⟨g1, .inr ⟨g2, g3⟩⟩
      · rw [h3]; subst g1 g2 g3; simp [bl_irrefl]
      · rw [h3]; subst g1 g2; simp [bl_asymm _ _ g3]
    · rw [h2]; simp; exact ⟨by omega, fun _ => ⟨by omega, fun e => by omega⟩⟩
  · rw [h1]; simp; exact ⟨by omega, fun e => by omega⟩
theorem LtV.trans {k n : Int} {s : ByteArray} {k' n' : Int} {s' : ByteArray} {l m : Int} {t : ByteArray} (h : LtV k n s k' n' s') (h' : LtV k' n' s' l m t) : LtV k n s l m t := by
  unfold LtV at *
  rcases h with h | ⟨rfl, h | ⟨rfl, h⟩⟩ <;> rcases h' with h' | ⟨rfl, h' | ⟨rfl, h'⟩⟩
  · exact .inl (by omega)
  · exact .inl (by omega)
  · exact .inl (by omega)
  · exact .inl (by omega)
  · exact .inr ⟨rfl, .inl (by omega)⟩
  · exact .inr ⟨rfl, .inl (by omega)⟩
  · exact .inl (by omega)
  · exact .inr ⟨rfl, .inl (by omega)⟩
  · exact .inr ⟨rfl, .inr ⟨rfl, bl_trans _ _ _ h h'⟩⟩
/-- Neither behind: the first is not behind the third. -/
theorem cmpV_trans {k n : Int} {s : ByteArray} {k' n' : Int} {s' : ByteArray} {l m : Int} {t : ByteArray} (h : cmpV k n s k' n' s' ≤ 0) (h' : cmpV k' n' s' l m t ≤ 0) : cmpV k n s l m t ≤ 0 := by
  rcases cmpV_cases k n s k' n' s' with e | e | e
  · rcases cmpV_cases k' n' s' l m t with e' | e' | e'
    · have := (cmpV_lt _ _ _ _ _ _).2 (((cmpV_lt _ _ _ _ _ _).1 e).trans ((cmpV_lt _ _ _ _ _ _).1 e'))
      omega
    · obtain ⟨rfl, rfl, rfl⟩ := (cmpV_zero _ _ _ _ _ _).1 e'
      exact h
    · omega
  · obtain ⟨rfl, rfl, rfl⟩ := (cmpV_zero _ _ _ _ _ _).1 e
    exact h'
  · omega
/-- The first ahead of the second, the second not behind the third: the first is ahead of the third. -/
theorem cmpV_trans_lt {k n : Int} {s : ByteArray} {k' n' : Int} {s' : ByteArray} {l m : Int} {t : ByteArray} (h : cmpV k n s k' n' s' < 0) (h' : cmpV k' n' s' l m t ≤ 0) : cmpV k n s l m t < 0 := by
  rcases cmpV_cases k' n' s' l m t with e' | e' | e'
  · have e : cmpV k n s k' n' s' = -1 := by rcases cmpV_cases k n s k' n' s' with e | e | e <;> omega
    have := (cmpV_lt _ _ _ _ _ _).2 (((cmpV_lt _ _ _ _ _ _).1 e).trans ((cmpV_lt _ _ _ _ _ _).1 e'))
    omega
  · obtain ⟨rfl, rfl, rfl⟩ := (cmpV_zero _ _ _ _ _ _).1 e'
    exact h
  · omega

end Go.Proofs.YtnbaemfkpfmheaaGreatDoor

/-
  Plain facts on bytes: what is packed is no beginning of another. No program is named here.
-/
import Derived.Test.YtlebhceejidjiaaPkP
namespace Go.Proofs.Ytlebhceejidjiaa
open Go

theorem u8_of_inj {a b : Nat} (ha : a < 256) (hb : b < 256) (h : UInt8.ofNat a = UInt8.ofNat b) : a = b := by
  have h' := congrArg UInt8.toNat h
  rwa [UInt8.toNat_ofNat', UInt8.toNat_ofNat', Nat.mod_eq_of_lt (by simpa using ha), Nat.mod_eq_of_lt (by simpa using hb)] at h'
theorem numL_inj : ∀ (x y : Nat) (p q : List UInt8), numL x ++ p = numL y ++ q → x = y ∧ p = q := by
  intro x
  induction x using Nat.strongRecOn with
  | _ x ih =>
    intro y p q h
    rcases Nat.lt_or_ge x 128 with hx | hx <;> rcases Nat.lt_or_ge y 128 with hy | hy
    · rw [numL_lt hx, numL_lt hy] at h
      simp only [List.cons_append, List.nil_append, List.cons.injEq] at h
      exact ⟨u8_of_inj (by omega) (by omega) h.1, h.2⟩
    · rw [numL_lt hx, numL_ge hy] at h
      simp only [List.cons_append, List.nil_append, List.cons.injEq] at h
      have := u8_of_inj (by omega) (by omega) h.1
      omega
    · rw [numL_ge hx, numL_lt hy] at h
      simp only [List.cons_append, List.nil_append, List.cons.injEq] at h
      have := u8_of_inj (by omega) (by omega) h.1
      omega
    · rw [numL_ge hx, numL_ge hy] at h
      simp only [List.cons_append, List.cons.injEq] at h
      have h1 := u8_of_inj (by omega) (by omega) h.1
      obtain ⟨h2, h3⟩ := ih (x / 128) (by omega) (y / 128) p q h.2
      exact ⟨by omega, h3⟩
theorem numL_pos (x : Nat) : 0 < (numL x).length := by
  rw [numL]
  split <;> simp
theorem textL_inj {l m p q : List UInt8} (h : textL l ++ p = textL m ++ q) : l = m ∧ p = q := by
  unfold textL at h
  rw [List.append_assoc, List.append_assoc] at h
  obtain ⟨h1, h2⟩ := numL_inj _ _ _ _ h
  exact List.append_inj h2 h1
theorem zigN_inj {x y : Int} (h : zigN x = zigN y) : x = y := by
  unfold zigN at h
  split at h <;> split at h <;> omega
/-- A value that may be: an int has no bytes, a symbol no number. -/
def OneV (v : V3) : Prop := v.k = 1 ∧ v.s.toList = [] ∨ v.k = 2 ∧ v.n = 0
theorem oneL_inj {a b : V3} (ha : OneV a) (hb : OneV b) {p q : List UInt8} (h : oneL a ++ p = oneL b ++ q) : a = b ∧ p = q := by
  unfold oneL at h
  obtain ⟨ka, na, sa⟩ := a
  obtain ⟨kb, nb, sb⟩ := b
  rcases ha with ⟨h1, h2⟩ | ⟨h1, h2⟩ <;> rcases hb with ⟨h3, h4⟩ | ⟨h3, h4⟩ <;> simp only at h1 h2 h3 h4 <;> subst h1 h3
  · rw [if_pos rfl, if_pos rfl, List.cons_append, List.cons_append, List.cons.injEq] at h
    obtain ⟨h5, h6⟩ := numL_inj _ _ _ _ h.2
    obtain rfl := zigN_inj h5
    have : sa = sb := str_ext (h2.trans h4.symm)
    subst this
    exact ⟨rfl, h6⟩
  · rw [if_pos rfl, if_neg (show ¬ (2 : Int) = 1 by decide), List.cons_append, List.cons_append, List.cons.injEq] at h
    exact absurd h.1 (by decide)
  · rw [if_neg (show ¬ (2 : Int) = 1 by decide), if_pos rfl, List.cons_append, List.cons_append, List.cons.injEq] at h
    exact absurd h.1 (by decide)
  · rw [if_neg (show ¬ (2 : Int) = 1 by decide), if_neg (show ¬ (2 : Int) = 1 by decide), List.cons_append, List.cons_append, List.cons.injEq] at h
    obtain ⟨h5, h6⟩ := textL_inj h.2
    have : sa = sb := str_ext (by rw [Lib.toList_data, Lib.toList_data, h5])
    subst this h2 h4
    exact ⟨rfl, h6⟩
theorem rows_inj : ∀ (A B : List V3), (∀ x ∈ A, OneV x) → (∀ x ∈ B, OneV x) → A.length = B.length → ∀ p q : List UInt8, A.flatMap oneL ++ p = B.flatMap oneL ++ q → A = B ∧ p = q
  | [], [] => fun _ _ _ p q h => ⟨rfl, by simpa using h⟩
  | [], _ :: _ => fun _ _ h => by simp at h
  | _ :: _, [] => fun _ _ h => by simp at h
  | a :: A, b :: B => fun ha hb hl p q h => by
    simp only [List.flatMap_cons, List.append_assoc] at h
    obtain ⟨rfl, h2⟩ := oneL_inj (ha a List.mem_cons_self) (hb b List.mem_cons_self) h
    obtain ⟨rfl, h4⟩ := rows_inj A B (fun x hx => ha x (List.mem_cons_of_mem _ hx)) (fun x hx => hb x (List.mem_cons_of_mem _ hx)) (by simpa using hl) p q h2
    exact ⟨rfl, h4⟩
theorem tupL_inj {A B : List V3} (ha : ∀ x ∈ A, OneV x) (hb : ∀ x ∈ B, OneV x) (la : A.length ≤ 8) (lb : B.length ≤ 8) {p q : List UInt8} (h : tupL A ++ p = tupL B ++ q) : A = B ∧ p = q := by
  unfold tupL at h
  rw [List.cons_append, List.cons_append, List.cons.injEq] at h
  exact rows_inj A B ha hb (u8_of_inj (by omega) (by omega) h.1) p q h.2

/-- Is one row a beginning of another? -/
def begB (l m : List UInt8) : Bool := decide (l.length ≤ m.length) && (m.take l.length == l)
theorem begB_iff {l m : List UInt8} : begB l m = true ↔ ∃ t, l ++ t = m := by
  unfold begB
  rw [Bool.and_eq_true, decide_eq_true_eq, beq_iff_eq]
  constructor
  · rintro ⟨-, h⟩
    have h2 := List.take_append_drop l.length m
    rw [h] at h2
    exact ⟨_, h2⟩
  · rintro ⟨t, rfl⟩
    exact ⟨by simp, by simp⟩
theorem begB_eq {l m : List UInt8} {P : Prop} [Decidable P] (h : (∃ t, l ++ t = m) ↔ P) : begB l m = decide P := by
  rw [Bool.eq_iff_iff, begB_iff, decide_eq_true_eq]
  exact h
theorem num_beg (x y : Nat) : begB (numL x) (numL y) = decide (x = y) := begB_eq ⟨fun ⟨t, h⟩ => (numL_inj x y t [] (by rw [h, List.append_nil])).1, fun h => ⟨[], by rw [h, List.append_nil]⟩⟩
theorem text_beg (l m : List UInt8) : begB (textL l) (textL m) = decide (l = m) := begB_eq ⟨fun ⟨t, h⟩ => (textL_inj (p := t) (q := []) (by rw [h, List.append_nil])).1, fun h => ⟨[], by rw [h, List.append_nil]⟩⟩
theorem tup_beg {A B : List V3} (ha : ∀ x ∈ A, OneV x) (hb : ∀ x ∈ B, OneV x) (la : A.length ≤ 8) (lb : B.length ≤ 8) : begB (tupL A) (tupL B) = decide (cmpT A B = 0) :=
  begB_eq ⟨fun ⟨t, h⟩ => (cmpT_zero A B).2 (tupL_inj (p := t) (q := []) ha hb la lb (by rw [h, List.append_nil])).1, fun h => ⟨[], by rw [(cmpT_zero A B).1 h, List.append_nil]⟩⟩
end Go.Proofs.Ytlebhceejidjiaa

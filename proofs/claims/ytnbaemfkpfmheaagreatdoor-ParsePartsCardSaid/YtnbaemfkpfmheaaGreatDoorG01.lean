/-
  The meaning of a row of tokens as a program, a rule, an atom: plain functions, and what they tell of a row with more behind it. No program is named here.
  The grammar's parts as readers, and what follows: one row of tokens behind the other, a rule as a program. No program is named here.
  The words of one text behind another with a gap between, each word alone, words with other gaps between them; and the meaning of a text as a program, with the place where it ends. No program is named here.
  What texts say as programs: one behind the other, and with other gaps. No program is named here.
  What a token's text tells of its kind; readers at rows of tokens. No program is named here.
-/
import Derived.Test.YtnbaemfkpfmheaaGreatDoorLxQ
namespace Go.Proofs.YtnbaemfkpfmheaaGreatDoor
section
open Go

/-- A token without its place. -/
abbrev Kt := Int × List UInt8 × VL
/-- What a reader answers: what it read and what is left, or what was left where it did not fit. -/
inductive Rs (α : Type) where
  | ok (a : α) (r : List Kt)
  | bad (r : List Kt)
/-- A reader. -/
abbrev Rd (α : Type) := List Kt → Rs α
def Rs.bind {α β : Type} (x : Rs α) (f : α → List Kt → Rs β) : Rs β :=
  match x with
  | .ok a r => f a r
  | .bad r => .bad r
def bindR {α β : Type} (p : Rd α) (f : α → Rd β) : Rd β := fun l => (p l).bind fun a r => f a r
def pureR {α : Type} (a : α) : Rd α := fun l => .ok a l
/-- Is the next one so? -/
def nxt (q : Kt → Bool) : List Kt → Bool
  | [] => false
  | t :: _ => q t
/-- The next one, which must be so. -/
def tok1 (q : Kt → Bool) : Rd Kt
  | [] => .bad []
  | t :: r => if q t = true then .ok t r else .bad (t :: r)
theorem tok1_cons (q : Kt → Bool) (t : Kt) (r : List Kt) : tok1 q (t :: r) = if q t = true then .ok t r else .bad (t :: r) := rfl
/-- The one where the next token is so, the other where it is not. -/
def altR {α : Type} (q : Kt → Bool) (p p' : Rd α) : Rd α := fun l => if nxt q l = true then p l else p' l
/-- One or more, with a mark between them. -/
def sepL {α : Type} (q : Kt → Bool) (p : Rd α) (l : List Kt) : Rs (List α) :=
  match p l with
  | .bad r => .bad r
  | .ok a [] => .ok [a] []
  | .ok a (t :: r) => if q t = true then (if r.length < l.length then (sepL q p r).bind (fun as x => .ok (a :: as) x) else .bad r) else .ok [a] (t :: r)
termination_by l.length

/-! What readers may have -/
section
variable {α β : Type}
/-- What is left is an end of what there was. -/
def Suf (p : Rd α) : Prop := (∀ l a r, p l = .ok a r → r <:+ l) ∧ ∀ l r, p l = .bad r → r <:+ l
/-- It takes one at least. -/
def Eats (p : Rd α) : Prop := ∀ l a r, p l = .ok a r → r.length < l.length
/-- It wants one at least. -/
def Needs (p : Rd α) : Prop := p [] = .bad []
/-- What it answers does not hang on what stands behind the first token that is left. -/
def Ext (p : Rd α) : Prop := (∀ l a t r b, p l = .ok a (t :: r) → p (l ++ b) = .ok a (t :: r ++ b)) ∧ ∀ l t r b, p l = .bad (t :: r) → p (l ++ b) = .bad (t :: r ++ b)
/-- Nor on the first token that is left, where it read all. -/
def Shut (p : Rd α) : Prop := (∀ l a r b, p l = .ok a r → p (l ++ b) = .ok a (r ++ b)) ∧ ∀ l t r b, p l = .bad (t :: r) → p (l ++ b) = .bad (t :: r ++ b)
theorem Shut.ext {p : Rd α} (h : Shut p) : Ext p := ⟨fun l a t r b e => h.1 l a (t :: r) b e, h.2⟩

theorem Suf.bind {p : Rd α} {f : α → Rd β} (hp : Suf p) (hf : ∀ a, Suf (f a)) : Suf (bindR p f) := by
  refine ⟨fun l b r e => ?_, fun l r e => ?_⟩
  · unfold bindR at e
    cases hl : p l with
    | ok a x => rw [hl] at e; exact ((hf a).1 x b r e).trans (hp.1 l a x hl)
    | bad x => rw [hl] at e; cases e
  · unfold bindR at e
    cases hl : p l with
    | ok a x => rw [hl] at e; exact ((hf a).2 x r e).trans (hp.1 l a x hl)
    | bad x => rw [hl] at e; cases e; exact hp.2 l _ hl
theorem Suf.pure (a : α) : Suf (pureR a) := ⟨fun l b r e => by (cases e; exact List.suffix_refl _), fun l r e => by cases e⟩
theorem Suf.one (q : Kt → Bool) : Suf (tok1 q) := by
  refine ⟨fun l a r e => ?_, fun l r e => ?_⟩
  · cases l with
    | nil => cases e
    | cons t x =>
      rw [tok1_cons] at e
      split at e
      · cases e; exact List.suffix_cons _ _
      · cases e
  · cases l with
    | nil => cases e; exact List.suffix_refl _
    | cons t x =>
      rw [tok1_cons] at e
      split at e
      · cases e
      · cases e; exact List.suffix_refl _
theorem Suf.alt {q : Kt → Bool} {p p' : Rd α} (h : Suf p) (h' : Suf p') : Suf (altR q p p') := by
  refine ⟨fun l a r e => ?_, fun l r e => ?_⟩
  · unfold altR at e
    split at e
    · exact h.1 l a r e
    · exact h'.1 l a r e
  · unfold altR at e
    split at e
    · exact h.2 l r e
    · exact h'.2 l r e
theorem Suf.nil {p : Rd α} (h : Suf p) : (∃ a, p [] = .ok a []) ∨ p [] = .bad [] := by
  cases e : p [] with
  | ok a r => exact .inl ⟨a, by rw [List.suffix_nil.1 (h.1 _ _ _ e)]⟩
  | bad r => exact .inr (by rw [List.suffix_nil.1 (h.2 _ _ e)])

theorem Eats.one (q : Kt → Bool) : Eats (tok1 q) := fun l a r e => by
  cases l with
  | nil => cases e
  | cons t x =>
    rw [tok1_cons] at e
    by_cases h : q t = true
    · rw [if_pos h] at e; cases e; simp
    · rw [if_neg h] at e; cases e
theorem Eats.bind {p : Rd α} {f : α → Rd β} (hp : Eats p) (hf : ∀ a, Suf (f a)) : Eats (bindR p f) := fun l b r e => by
  unfold bindR at e
  cases hl : p l with
  | ok a x =>
    rw [hl] at e
    have h1 := hp l a x hl
    have h2 := ((hf a).1 x b r e).length_le
    omega
  | bad x => rw [hl] at e; cases e
theorem Eats.bind' {p : Rd α} {f : α → Rd β} (hp : Suf p) (hf : ∀ a, Eats (f a)) : Eats (bindR p f) := fun l b r e => by
  unfold bindR at e
  cases hl : p l with
  | ok a x =>
    rw [hl] at e
    have h1 := (hp.1 l a x hl).length_le
    have h2 := hf a x b r e
    omega
  | bad x => rw [hl] at e; cases e
theorem Eats.alt {q : Kt → Bool} {p p' : Rd α} (h : Eats p) (h' : Eats p') : Eats (altR q p p') := fun l a r e => by
  unfold altR at e
  split at e
  · exact h l a r e
  · exact h' l a r e

theorem Needs.one (q : Kt → Bool) : Needs (tok1 q) := rfl
theorem Needs.bind {p : Rd α} (f : α → Rd β) (hp : Needs p) : Needs (bindR p f) := by
  unfold Needs bindR
  rw [show p [] = .bad [] from hp]
  rfl
theorem Needs.alt (q : Kt → Bool) (p : Rd α) {p' : Rd α} (h : Needs p') : Needs (altR q p p') := h

theorem Shut.one (q : Kt → Bool) : Shut (tok1 q) := by
  refine ⟨fun l a r b e => ?_, fun l t r b e => ?_⟩
  · cases l with
    | nil => cases e
    | cons t x =>
      rw [tok1_cons] at e
      by_cases h : q t = true
      · rw [if_pos h] at e
        cases e
        show (if q a = true then _ else _) = _
        rw [if_pos h]
        rfl
      · rw [if_neg h] at e
        cases e
  · cases l with
    | nil => cases e
    | cons t' x =>
      rw [tok1_cons] at e
      by_cases h : q t' = true
      · rw [if_pos h] at e
        cases e
      · rw [if_neg h] at e
        cases e
        show (if q t = true then _ else _) = _
        rw [if_neg h]
        rfl
theorem Shut.pure (a : α) : Shut (pureR a) := ⟨fun l b r x e => by (cases e; rfl), fun l t r b e => by cases e⟩
theorem Shut.bind {p : Rd α} {f : α → Rd β} (hp : Shut p) (hf : ∀ a, Shut (f a)) : Shut (bindR p f) := by
  refine ⟨fun l c r b e => ?_, fun l t r b e => ?_⟩
  · unfold bindR at e ⊢
    cases hl : p l with
    | ok a x => rw [hl] at e; rw [hp.1 l a x b hl]; exact (hf a).1 x c r b e
    | bad x => rw [hl] at e; cases e
  · unfold bindR at e ⊢
    cases hl : p l with
    | ok a x => rw [hl] at e; rw [hp.1 l a x b hl]; exact (hf a).2 x t r b e
    | bad x => rw [hl] at e; cases e; rw [hp.2 l t r b hl]; rfl
theorem Ext.shut {p : Rd α} {f : α → Rd β} (hp : Ext p) (hf : ∀ a, Shut (f a)) (hn : ∀ a, Needs (f a)) : Shut (bindR p f) := by
  refine ⟨fun l c r b e => ?_, fun l t r b e => ?_⟩
  · unfold bindR at e ⊢
    cases hl : p l with
    | ok a x =>
      rw [hl] at e
      cases x with
      | nil => exact absurd ((hn a).symm.trans e) (by simp)
      | cons t x => rw [hp.1 l a t x b hl]; exact (hf a).1 (t :: x) c r b e
    | bad x => rw [hl] at e; cases e
  · unfold bindR at e ⊢
    cases hl : p l with
    | ok a x =>
      rw [hl] at e
      cases x with
      | nil => exact absurd ((hn a).symm.trans e) (by simp)
      | cons t' x => rw [hp.1 l a t' x b hl]; exact (hf a).2 (t' :: x) t r b e
    | bad x => rw [hl] at e; cases e; rw [hp.2 l t r b hl]; rfl
theorem Shut.ext_bind {p : Rd α} {f : α → Rd β} (hp : Shut p) (hf : ∀ a, Ext (f a)) : Ext (bindR p f) := by
  refine ⟨fun l c t r b e => ?_, fun l t r b e => ?_⟩
  · unfold bindR at e ⊢
    cases hl : p l with
    | ok a x => rw [hl] at e; rw [hp.1 l a x b hl]; exact (hf a).1 x c t r b e
    | bad x => rw [hl] at e; cases e
  · unfold bindR at e ⊢
    cases hl : p l with
    | ok a x => rw [hl] at e; rw [hp.1 l a x b hl]; exact (hf a).2 x t r b e
    | bad x => rw [hl] at e; cases e; rw [hp.2 l t r b hl]; rfl
theorem Ext.alt {q : Kt → Bool} {p p' : Rd α} (h : Ext p) (h' : Ext p') (hs : Suf p') : Ext (altR q p p') := by
  have key : ∀ l b, l ≠ [] → nxt q (l ++ b) = nxt q l := fun l b hl => by
    cases l with
    | nil => exact absurd rfl hl
    | cons t x => rfl
  refine ⟨fun l a t r b e => ?_, fun l t r b e => ?_⟩
  · by_cases hl : l = []
    · subst hl
      exact absurd (hs.1 [] a _ e) (by simp)
    · unfold altR at e ⊢
      rw [key l b hl]
      split at e
      · rename_i hq; rw [if_pos hq]; exact h.1 l a t r b e
      · rename_i hq; rw [if_neg hq]; exact h'.1 l a t r b e
  · by_cases hl : l = []
    · subst hl
      exact absurd (hs.2 [] _ e) (by simp)
    · unfold altR at e ⊢
      rw [key l b hl]
      split at e
      · rename_i hq; rw [if_pos hq]; exact h.2 l t r b e
      · rename_i hq; rw [if_neg hq]; exact h'.2 l t r b e
theorem Shut.alt {q : Kt → Bool} {p p' : Rd α} (h : Shut p) (h' : Shut p') (hn : Needs p') : Shut (altR q p p') := by
  have key : ∀ l b, l ≠ [] → nxt q (l ++ b) = nxt q l := fun l b hl => by
    cases l with
    | nil => exact absurd rfl hl
    | cons t x => rfl
  refine ⟨fun l a r b e => ?_, fun l t r b e => ?_⟩
  · by_cases hl : l = []
    · subst hl
      exact absurd (hn.symm.trans e) (by simp)
    · unfold altR at e ⊢
      rw [key l b hl]
      split at e
      · rename_i hq; rw [if_pos hq]; exact h.1 l a r b e
      · rename_i hq; rw [if_neg hq]; exact h'.1 l a r b e
  · by_cases hl : l = []
    · subst hl
      exact absurd (hn.symm.trans e) (by simp)
    · unfold altR at e ⊢
      rw [key l b hl]
      split at e
      · rename_i hq; rw [if_pos hq]; exact h.2 l t r b e
      · rename_i hq; rw [if_neg hq]; exact h'.2 l t r b e

/-! Rows of parts -/
theorem sepL_eq {p : Rd α} (q : Kt → Bool) (hp : Eats p) (l : List Kt) :
    sepL q p l = (p l).bind fun a r => if nxt q r = true then (sepL q p r.tail).bind (fun as x => .ok (a :: as) x) else .ok [a] r := by
  rw [sepL]
  cases e : p l with
  | bad r => rfl
  | ok a r =>
    cases r with
    | nil => rfl
    | cons t r =>
      have := hp _ _ _ e
      simp only [List.length_cons] at this
      show (if q t = true then (if r.length < l.length then _ else _) else _) = if q t = true then _ else _
      rw [if_pos (show r.length < l.length by omega)]
      rfl
theorem Suf.sep {q : Kt → Bool} {p : Rd α} (hp : Suf p) (he : Eats p) : Suf (sepL q p) := by
  have key : ∀ N l, l.length ≤ N → (∀ a r, sepL q p l = .ok a r → r <:+ l) ∧ ∀ r, sepL q p l = .bad r → r <:+ l := by
    intro N
    induction N with
    | zero =>
      intro l hl
      obtain rfl : l = [] := List.eq_nil_of_length_eq_zero (by omega)
      rw [sepL_eq q he]
      rcases hp.nil with ⟨a, e⟩ | e <;> rw [e]
      · exact ⟨fun b r h => by (cases h; exact List.suffix_refl _), fun r h => by cases h⟩
      · exact ⟨fun b r h => by (cases h), fun r h => by cases h; exact List.suffix_refl _⟩
    | succ N ih =>
      intro l hl
      rw [sepL_eq q he]
      cases e : p l with
      | bad x => exact ⟨fun b r h => by (cases h), fun r h => by cases h; exact hp.2 _ _ e⟩
      | ok a x =>
        have h1 := he _ _ _ e
        have h2 := hp.1 _ _ _ e
        have i := ih x.tail (by rw [List.length_tail]; omega)
        have ht : x.tail <:+ l := (List.tail_suffix x).trans h2
        simp only [Rs.bind]
        split
        · cases e2 : sepL q p x.tail with
          | ok as y => exact ⟨fun b r h => by (cases h; exact (i.1 _ _ e2).trans ht), fun r h => by cases h⟩
          | bad y => exact ⟨fun b r h => by (cases h), fun r h => by cases h; exact (i.2 _ e2).trans ht⟩
        · exact ⟨fun b r h => by (cases h; exact h2), fun r h => by cases h⟩
  exact ⟨fun l a r => (key l.length l (Nat.le_refl _)).1 a r, fun l r => (key l.length l (Nat.le_refl _)).2 r⟩
theorem Eats.sep {q : Kt → Bool} {p : Rd α} (hs : Suf p) (hp : Eats p) : Eats (sepL q p) := fun l as r e => by
  rw [sepL_eq q hp] at e
  cases hl : p l with
  | bad x => rw [hl] at e; cases e
  | ok a x =>
    rw [hl] at e
    have h1 := hp _ _ _ hl
    simp only [Rs.bind] at e
    split at e
    · cases e2 : sepL q p x.tail with
      | ok bs y =>
        rw [e2] at e
        cases e
        have h2 := ((Suf.sep (q := q) hs hp).1 _ _ _ e2).length_le
        rw [List.length_tail] at h2
        omega
      | bad y => rw [e2] at e; cases e
    · cases e
      exact h1
theorem Needs.sep (q : Kt → Bool) {p : Rd α} (hp : Needs p) : Needs (sepL q p) := by
  unfold Needs
  rw [sepL, show p [] = .bad [] from hp]
theorem Ext.sep {q : Kt → Bool} {p : Rd α} (hp : Shut p) (he : Eats p) : Ext (sepL q p) := by
  have key : ∀ N l, l.length ≤ N → (∀ a t r b, sepL q p l = .ok a (t :: r) → sepL q p (l ++ b) = .ok a (t :: r ++ b)) ∧ ∀ t r b, sepL q p l = .bad (t :: r) → sepL q p (l ++ b) = .bad (t :: r ++ b) := by
    intro N
    induction N with
    | zero =>
      intro l hl
      obtain rfl : l = [] := List.eq_nil_of_length_eq_zero (by omega)
      constructor
      · intro as t r b e
        rw [sepL_eq q he] at e
        cases e1 : p [] with
        | ok a x => exact absurd (he _ _ _ e1) (by simp)
        | bad x => rw [e1] at e; cases e
      · intro t r b e
        rw [sepL_eq q he] at e ⊢
        cases e1 : p [] with
        | ok a x => exact absurd (he _ _ _ e1) (by simp)
        | bad x => rw [e1] at e; cases e; rw [hp.2 _ _ _ b e1]; rfl
    | succ N ih =>
      intro l hl
      constructor
      · intro as t r b e
        rw [sepL_eq q he] at e ⊢
        cases e1 : p l with
        | bad x => rw [e1] at e; cases e
        | ok a x =>
          have h1 := he _ _ _ e1
          have i := ih x.tail (by rw [List.length_tail]; omega)
          rw [e1] at e
          rw [hp.1 _ _ _ b e1]
          cases x with
          | nil => cases e
          | cons u y =>
            have ht : (u :: y ++ b).tail = (u :: y).tail ++ b := rfl
            simp only [Rs.bind, ht] at e ⊢
            by_cases hq : nxt q (u :: y) = true
            · rw [if_pos hq] at e
              rw [if_pos (show nxt q (u :: y ++ b) = true from hq)]
              cases e2 : sepL q p (u :: y).tail with
              | ok bs z =>
                rw [e2] at e
                cases e
                rw [i.1 _ _ _ b e2]
              | bad z => rw [e2] at e; cases e
            · rw [if_neg hq] at e
              rw [if_neg (show ¬ nxt q (u :: y ++ b) = true from hq)]
              cases e
              rfl
      · intro t r b e
        rw [sepL_eq q he] at e ⊢
        cases e1 : p l with
        | bad x => rw [e1] at e; cases e; rw [hp.2 _ _ _ b e1]; rfl
        | ok a x =>
          have h1 := he _ _ _ e1
          have i := ih x.tail (by rw [List.length_tail]; omega)
          rw [e1] at e
          rw [hp.1 _ _ _ b e1]
          cases x with
          | nil => cases e
          | cons u y =>
            have ht : (u :: y ++ b).tail = (u :: y).tail ++ b := rfl
            simp only [Rs.bind, ht] at e ⊢
            by_cases hq : nxt q (u :: y) = true
            · rw [if_pos hq] at e
              rw [if_pos (show nxt q (u :: y ++ b) = true from hq)]
              cases e2 : sepL q p (u :: y).tail with
              | ok bs z => rw [e2] at e; cases e
              | bad z =>
                rw [e2] at e
                cases e
                rw [i.2 _ _ b e2]
            · rw [if_neg hq] at e
              cases e
  exact ⟨fun l a t r b => (key l.length l (Nat.le_refl _)).1 a t r b, fun l t r b => (key l.length l (Nat.le_refl _)).2 t r b⟩
end
end
section
open Go

structure TmL where
  kind : Int
  name : List UInt8
  val : VL
structure AtL where
  pred : List UInt8
  args : List TmL
structure LiL where
  kind : Int
  atom : AtL
  op : Int
  a : TmL
  b : TmL
structure RuL where
  head : AtL
  body : List LiL
structure DeL where
  base : Bool
  name : List UInt8
  types : List Int
structure ActL where
  plus : Bool
  atom : AtL
structure OnL where
  event : List UInt8
  params : List (List UInt8 × Int)
  acts : List ActL
def zeroT : TmL := ⟨0, [], zeroL⟩
def zeroA : AtL := ⟨[], []⟩
/-- A clause. -/
inductive ClL where
  | decl (d : DeL)
  | on (o : OnL)
  | rule (r : RuL)

/-- A mark, a word, a kind of token. -/
def isM (m : List UInt8) (t : Kt) : Bool := t.1 == 6 && t.2.1 == m
def isW (m : List UInt8) (t : Kt) : Bool := t.1 == 1 && t.2.1 == m
def isK (k : Int) (t : Kt) : Bool := t.1 == k
def wBase : List UInt8 := [98, 97, 115, 101]
def wView : List UInt8 := [118, 105, 101, 119]
def wOn : List UInt8 := [111, 110]
def wNot : List UInt8 := [110, 111, 116]
def wInt : List UInt8 := [105, 110, 116]
def wSym : List UInt8 := [115, 121, 109]
def reservedL (m : List UInt8) : Bool := m == wBase || m == wView || m == wOn || m == wNot
def isName (t : Kt) : Bool := t.1 == 1 && !reservedL t.2.1
def isTerm (t : Kt) : Bool := t.1 == 2 || t.1 == 4 || t.1 == 5 || t.1 == 3
def isType (t : Kt) : Bool := isW wInt t || isW wSym t
def opNo (t : Kt) : Int := if isM [61] t = true then 1 else if isM [33, 61] t = true then 2 else if isM [60] t = true then 3 else if isM [60, 61] t = true then 4 else if isM [62] t = true then 5 else if isM [62, 61] t = true then 6 else 0
def isOp (t : Kt) : Bool := opNo t != 0
def termOf (t : Kt) : TmL := if t.1 = 2 then ⟨1, t.2.1, zeroL⟩ else if t.1 = 3 then ⟨3, [], zeroL⟩ else ⟨2, [], t.2.2⟩

def nameR : Rd (List UInt8) := bindR (tok1 isName) fun t => pureR t.2.1
def termR : Rd TmL := bindR (tok1 isTerm) fun t => pureR (termOf t)
def kindR : Rd Int := bindR (tok1 isType) fun t => pureR (if isW wInt t = true then 1 else 2)
def opR : Rd Int := bindR (tok1 isOp) fun t => pureR (opNo t)
def markR (m : List UInt8) : Rd Unit := bindR (tok1 (isM m)) fun _ => pureR ()
/-- A row in brackets that may be empty: what stands behind the opening one. -/
def rowR {α : Type} (p : Rd α) : Rd (List α) := bindR (altR (isM [41]) (pureR []) (sepL (isM [44]) p)) fun as => bindR (markR [41]) fun _ => pureR as
def atomR : Rd AtL := bindR nameR fun n => bindR (markR [40]) fun _ => bindR (rowR termR) fun as => pureR ⟨n, as⟩
def literalR : Rd LiL :=
  altR (isW wNot) (bindR (tok1 (isW wNot)) fun _ => bindR atomR fun a => pureR ⟨2, a, 0, zeroT, zeroT⟩)
    (altR isName (bindR atomR fun a => pureR ⟨1, a, 0, zeroT, zeroT⟩)
      (bindR termR fun a => bindR opR fun o => bindR termR fun b => pureR ⟨3, zeroA, o, a, b⟩))
/-- What may stand behind a mark, or nothing. -/
def moreR {α : Type} (m : List UInt8) (p : Rd α) : Rd (List α) := altR (isM m) (bindR (tok1 (isM m)) fun _ => sepL (isM [44]) p) (pureR [])
def ruleR : Rd RuL := bindR atomR fun h => bindR (bindR (moreR [58, 45] literalR) fun b => bindR (markR [46]) fun _ => pureR b) fun b => pureR ⟨h, b⟩
def declR (base : Bool) : Rd DeL := bindR (tok1 fun _ => true) fun _ => bindR nameR fun n => bindR (markR [40]) fun _ => bindR (rowR kindR) fun ts => bindR (markR [46]) fun _ => pureR ⟨base, n, ts⟩
def actR : Rd ActL := altR (isM [43]) (bindR (tok1 (isM [43])) fun _ => bindR atomR fun a => pureR ⟨true, a⟩) (bindR (markR [45]) fun _ => bindR atomR fun a => pureR ⟨false, a⟩)
def paramR : Rd (List UInt8 × Int) := bindR (tok1 (isK 2)) fun v => bindR kindR fun k => pureR (v.2.1, k)
def onR : Rd OnL := bindR (tok1 fun _ => true) fun _ => bindR nameR fun n => bindR (markR [40]) fun _ => bindR (rowR paramR) fun ps => bindR (bindR (moreR [58] actR) fun as => bindR (markR [46]) fun _ => pureR as) fun as => pureR ⟨n, ps, as⟩
def clauseR : Rd ClL :=
  altR (isW wBase) (bindR (declR true) fun d => pureR (.decl d)) (altR (isW wView) (bindR (declR false) fun d => pureR (.decl d)) (altR (isW wOn) (bindR onR fun o => pureR (.on o)) (bindR ruleR fun r => pureR (.rule r))))
/-- A row of clauses, up to the end. -/
def progR (l : List Kt) : Rs (List ClL) :=
  match l with
  | [] => .ok [] []
  | t :: r =>
    match clauseR (t :: r) with
    | .bad x => .bad x
    | .ok c x => if x.length < (t :: r).length then (progR x).bind (fun cs y => .ok (c :: cs) y) else .bad x
termination_by l.length

/-! What each has -/
/-- All that a part that ends by itself has. -/
structure Fit {α : Type} (p : Rd α) : Prop where
  suf : Suf p
  shut : Shut p
  eats : Eats p
  needs : Needs p
theorem Fit.tok (q : Kt → Bool) : Fit (tok1 q) := ⟨.one q, .one q, .one q, .one q⟩
theorem Fit.bind {α β : Type} {p : Rd α} {f : α → Rd β} (hp : Fit p) (hs : ∀ a, Suf (f a)) (hf : ∀ a, Shut (f a)) : Fit (bindR p f) :=
  ⟨.bind hp.suf hs, .bind hp.shut hf, .bind hp.eats hs, .bind f hp.needs⟩
theorem Fit.map {α β : Type} {p : Rd α} (hp : Fit p) (f : α → β) : Fit (bindR p fun a => pureR (f a)) := hp.bind (fun _ => .pure _) fun _ => .pure _
theorem Fit.then {α β : Type} {p : Rd α} {f : α → Rd β} (hp : Fit p) (hf : ∀ a, Fit (f a)) : Fit (bindR p f) := hp.bind (fun a => (hf a).suf) fun a => (hf a).shut
theorem Fit.alt {α : Type} {q : Kt → Bool} {p p' : Rd α} (h : Fit p) (h' : Fit p') : Fit (altR q p p') := ⟨.alt h.suf h'.suf, .alt h.shut h'.shut h'.needs, .alt h.eats h'.eats, h'.needs⟩
theorem fit_name : Fit nameR := (Fit.tok _).map _
theorem fit_term : Fit termR := (Fit.tok _).map _
theorem fit_kind : Fit kindR := (Fit.tok _).map _
theorem fit_op : Fit opR := (Fit.tok _).map _
theorem fit_mark (m : List UInt8) : Fit (markR m) := (Fit.tok _).map _
theorem fit_closed {α : Type} {p : Rd α} (m : List UInt8) (hs : Suf p) (he : Ext p) (hn : Needs p ∨ ∃ a, p [] = .ok a []) : Suf (bindR p fun a => bindR (markR m) fun _ => pureR a) ∧ Shut (bindR p fun a => bindR (markR m) fun _ => pureR a) ∧ Eats (bindR p fun a => bindR (markR m) fun _ => pureR a) ∧ Needs (bindR p fun a => bindR (markR m) fun _ => pureR a) := by
  have hm : ∀ a : α, Fit (bindR (markR m) fun _ => pureR a) := fun a => (fit_mark m).map _
  refine ⟨.bind hs fun a => (hm a).suf, Ext.shut he (fun a => (hm a).shut) fun a => (hm a).needs, .bind' hs fun a => (hm a).eats, ?_⟩
  rcases hn with h | ⟨a, h⟩
  · exact .bind _ h
  · unfold Needs bindR
    rw [h]
    exact (hm a).needs
theorem fit_row {α : Type} {p : Rd α} (hp : Fit p) : Fit (rowR p) := by
  have hs := Suf.sep (q := isM [44]) hp.suf hp.eats
  obtain ⟨a, b, c, d⟩ := fit_closed [41] (.alt (q := isM [41]) (.pure []) hs) (.alt (Shut.pure []).ext (.sep hp.shut hp.eats) hs) (.inl (.alt _ _ (.sep _ hp.needs)))
  exact ⟨a, b, c, d⟩
theorem fit_atom : Fit atomR := fit_name.then fun _ => (fit_mark _).then fun _ => (fit_row fit_term).map _
theorem fit_literal : Fit literalR := .alt ((Fit.tok _).then fun _ => fit_atom.map _) (.alt (fit_atom.map _) (fit_term.then fun _ => fit_op.then fun _ => fit_term.map _))
theorem fit_more {α : Type} {p : Rd α} (m : List UInt8) (hp : Fit p) : Fit (bindR (moreR m p) fun b => bindR (markR [46]) fun _ => pureR b) := by
  have hs := Suf.sep (q := isM [44]) hp.suf hp.eats
  have hb : Suf (bindR (tok1 (isM m)) fun _ => sepL (isM [44]) p) := .bind (.one _) fun _ => hs
  obtain ⟨a, b, c, d⟩ := fit_closed (p := moreR m p) [46] (.alt hb (.pure [])) (.alt (Shut.ext_bind (Shut.one _) fun _ => .sep hp.shut hp.eats) (Shut.pure []).ext (.pure [])) (.inr ⟨[], rfl⟩)
  exact ⟨a, b, c, d⟩
theorem fit_rule : Fit ruleR := fit_atom.then fun _ => (fit_more _ fit_literal).map _
theorem fit_decl (b : Bool) : Fit (declR b) := (Fit.tok _).then fun _ => fit_name.then fun _ => (fit_mark _).then fun _ => (fit_row fit_kind).then fun _ => (fit_mark _).map _
theorem fit_act : Fit actR := .alt ((Fit.tok _).then fun _ => fit_atom.map _) ((fit_mark _).then fun _ => fit_atom.map _)
theorem fit_param : Fit paramR := (Fit.tok _).then fun _ => fit_kind.map _
theorem fit_on : Fit onR := (Fit.tok _).then fun _ => fit_name.then fun _ => (fit_mark _).then fun _ => (fit_row fit_param).then fun _ => (fit_more _ fit_act).map _
theorem fit_clause : Fit clauseR := .alt ((fit_decl _).map _) (.alt ((fit_decl _).map _) (.alt (fit_on.map _) (fit_rule.map _)))

/-! Programs -/
theorem progR_nil : progR [] = .ok [] [] := by rw [progR]
theorem progR_eq {l : List Kt} (h : l ≠ []) : progR l = (clauseR l).bind fun c x => (progR x).bind fun cs y => .ok (c :: cs) y := by
  cases l with
  | nil => exact absurd rfl h
  | cons t r =>
    rw [progR]
    cases e : clauseR (t :: r) with
    | bad x => rfl
    | ok c x =>
      show (if x.length < (t :: r).length then _ else _) = _
      rw [if_pos (fit_clause.eats _ _ _ e)]
      rfl
theorem progR_all : ∀ (N : Nat) (l : List Kt) (cs : List ClL) (x : List Kt), l.length ≤ N → progR l = .ok cs x → x = [] := by
  intro N
  induction N with
  | zero =>
    intro l cs x hl e
    obtain rfl : l = [] := List.eq_nil_of_length_eq_zero (by omega)
    rw [progR_nil] at e
    cases e
    rfl
  | succ N ih =>
    intro l cs x hl e
    by_cases h : l = []
    · subst h
      rw [progR_nil] at e
      cases e
      rfl
    · rw [progR_eq h] at e
      cases e1 : clauseR l with
      | bad y => rw [e1] at e; cases e
      | ok c y =>
        rw [e1] at e
        have h1 := fit_clause.eats _ _ _ e1
        simp only [Rs.bind] at e
        cases e2 : progR y with
        | bad z => rw [e2] at e; cases e
        | ok ds z =>
          rw [e2] at e
          cases e
          exact ih y ds _ (by omega) e2
/-- The clauses of both. -/
theorem progR_append : ∀ (N : Nat) (l b : List Kt) (cs : List ClL), l.length ≤ N → progR l = .ok cs [] → progR (l ++ b) = (progR b).bind fun ds y => .ok (cs ++ ds) y := by
  intro N
  have done : ∀ b, progR ([] ++ b) = (progR b).bind fun ds y => .ok ([] ++ ds) y := fun b => by
    simp only [List.nil_append]
    cases progR b <;> rfl
  induction N with
  | zero =>
    intro l b cs hl e
    obtain rfl : l = [] := List.eq_nil_of_length_eq_zero (by omega)
    rw [progR_nil] at e
    cases e
    exact done b
  | succ N ih =>
    intro l b cs hl e
    by_cases h : l = []
    · subst h
      rw [progR_nil] at e
      cases e
      exact done b
    · have hb : l ++ b ≠ [] := by simp [h]
      rw [progR_eq h] at e
      rw [progR_eq hb]
      cases e1 : clauseR l with
      | bad y => rw [e1] at e; cases e
      | ok c y =>
        rw [e1] at e
        rw [fit_clause.shut.1 _ _ _ b e1]
        have h1 := fit_clause.eats _ _ _ e1
        simp only [Rs.bind] at e ⊢
        cases e2 : progR y with
        | bad z => rw [e2] at e; cases e
        | ok ds z =>
          rw [e2] at e
          cases e
          have i := ih y b ds (by omega) e2
          rw [i]
          cases progR b <;> rfl
/-- What does not fit does not fit with anything behind it, unless the tokens end too early. -/
theorem progR_bad : ∀ (N : Nat) (l b : List Kt) (t : Kt) (r : List Kt), l.length ≤ N → progR l = .bad (t :: r) → progR (l ++ b) = .bad (t :: r ++ b) := by
  intro N
  induction N with
  | zero =>
    intro l b t r hl e
    obtain rfl : l = [] := List.eq_nil_of_length_eq_zero (by omega)
    rw [progR_nil] at e
    cases e
  | succ N ih =>
    intro l b t r hl e
    by_cases h : l = []
    · subst h
      rw [progR_nil] at e
      cases e
    · have hb : l ++ b ≠ [] := by simp [h]
      rw [progR_eq h] at e
      rw [progR_eq hb]
      cases e1 : clauseR l with
      | bad y =>
        rw [e1] at e
        cases e
        rw [fit_clause.shut.2 _ _ _ b e1]
        rfl
      | ok c y =>
        rw [e1] at e
        rw [fit_clause.shut.1 _ _ _ b e1]
        have h1 := fit_clause.eats _ _ _ e1
        simp only [Rs.bind] at e ⊢
        cases e2 : progR y with
        | ok ds z => rw [e2] at e; cases e
        | bad z =>
          rw [e2] at e
          cases e
          rw [ih y b t r (by omega) e2]
/-- A rule begins with a name. -/
theorem ruleR_head {l : List Kt} {x : RuL} {r : List Kt} (h : ruleR l = .ok x r) : ∃ t y, l = t :: y ∧ isName t = true := by
  cases l with
  | nil => rw [show ruleR [] = .bad [] from fit_rule.needs] at h; cases h
  | cons t y =>
    refine ⟨t, y, rfl, ?_⟩
    cases e : isName t with
    | true => rfl
    | false =>
      have : ruleR (t :: y) = .bad (t :: y) := by
        unfold ruleR atomR nameR bindR
        rw [tok1_cons, if_neg (by rw [e]; simp)]
        rfl
      rw [this] at h
      cases h
/-- A text that is a rule is a program of that rule alone. -/
theorem rule_prog {l : List Kt} {x : RuL} (h : ruleR l = .ok x []) : progR l = .ok [.rule x] [] := by
  obtain ⟨t, y, rfl, hn⟩ := ruleR_head h
  have h1 : t.1 = 1 ∧ reservedL t.2.1 = false := by simpa [isName] using hn
  have hr := h1.2
  unfold reservedL at hr
  simp only [Bool.or_eq_false_iff] at hr
  have c : clauseR (t :: y) = .ok (.rule x) [] := by
    unfold clauseR altR
    simp only [nxt, isW, hr.1.1.1, hr.1.1.2, hr.1.2, Bool.and_false]
    unfold bindR
    simp only [Bool.false_eq_true, if_false]
    rw [h]
    rfl
  rw [progR_eq (by simp), c]
  simp only [Rs.bind, progR_nil]
end
section
open Go

theorem stC_cons (b : Bool) (x : UInt8) (a : List UInt8) : stC b (x :: a) = if x = 37 then stC true a else if x = 10 then stC false a else stC b a := by rw [stC]
theorem skC_cons (b : Bool) (x : UInt8) (a : List UInt8) : skC b (x :: a) = if x = 37 then skC true a + 1 else if x = 10 then skC false a + 1 else if (b || isBlank x) = true then skC b a + 1 else 0 := by rw [skC]
theorem stC_append : ∀ (b : Bool) (a c : List UInt8), stC b (a ++ c) = stC (stC b a) c
  | b, [], c => by simp [stC]
  | b, x :: a, c => by
    rw [List.cons_append]
    rw [stC_cons, stC_cons, stC_append true, stC_append false, stC_append b]
    by_cases h1 : x = 37
    · rw [if_pos h1, if_pos h1]
    · rw [if_neg h1, if_neg h1]
      by_cases h2 : x = 10
      · rw [if_pos h2, if_pos h2]
      · rw [if_neg h2, if_neg h2]
section
variable {V : List UInt8 → Option VL}
/-- A gap between two texts: it begins as one, ends no matter where it stands, and leaves no comment open. -/
structure Gap (y : List UInt8) : Prop where
  sep : sepO y.head?
  full : ∀ b, skC b y = y.length
  out : ∀ b, stC b y = false
theorem Gap.line : Gap [10] := ⟨.inr (.inr (.inr (.inl rfl))), fun b => by cases b <;> rfl, fun b => by cases b <;> rfl⟩
theorem lexS_gaps {g : List UInt8} (h1 : skC false g = g.length) (h2 : stC false g = false) (t : List UInt8) (p : Nat) : lexS V (g ++ t) p = lexS V t (p + g.length) := by
  unfold lexS
  rw [skC_full_append _ _ _ h1, h2, List.drop_append, List.drop_eq_nil_of_le (by omega), Nat.add_sub_cancel_left]
  simp [Nat.add_assoc]
variable (hV : ∀ r, quoEnd r = none → V (34 :: r) = none)
include hV
/-- One text behind the other. -/
theorem lexS_cat {y : List UInt8} (hy : Gap y) (t : List UInt8) : ∀ (N : Nat) (l : List UInt8) (p : Nat), l.length ≤ N → (lexS V l p).2 = none →
    lexS V (l ++ (y ++ t)) p = ((lexS V l p).1 ++ (lexS V t (p + l.length + y.length)).1, (lexS V t (p + l.length + y.length)).2) := by
  intro N
  have done : ∀ (l : List UInt8) (p : Nat), l.drop (skC false l) = [] → lexS V (l ++ (y ++ t)) p = ((lexS V l p).1 ++ (lexS V t (p + l.length + y.length)).1, (lexS V t (p + l.length + y.length)).2) := by
    intro l p e
    have e0 := skC_drop_ge e
    rw [lexS_end e p]
    have hg1 : skC false (l ++ y) = (l ++ y).length := by rw [skC_full_append _ _ _ e0, hy.full, List.length_append]
    rw [← List.append_assoc, lexS_gaps hg1 (by rw [stC_append, hy.out]), List.length_append, ← Nat.add_assoc]
    rfl
  induction N with
  | zero =>
    intro l p hl _
    obtain rfl : l = [] := List.eq_nil_of_length_eq_zero (by omega)
    exact done [] p (by simp [skC])
  | succ N ih =>
    intro l p hl h
    rcases lexS_cases h with ⟨e, -⟩ | ⟨c, r, k, n, v, e, -, ht, h1, h2, h3, e1, h4⟩
    · exact done l p e
    · have i := ih ((c :: r).drop n) (p + skC false l + n) (by rw [List.length_drop, List.length_cons]; omega) h4
      have el : l ++ (y ++ t) = l.take (skC false l) ++ c :: (r ++ (y ++ t)) := by
        generalize y ++ t = Z
        rw [← List.cons_append, ← e, ← List.append_assoc, List.take_append_drop]
      have hsk : skC false (l ++ (y ++ t)) = skC false l := by rw [el]; exact skC_ahead e
      have hlen : (l.take (skC false l)).length = skC false l := by rw [List.length_take]; omega
      have hd : (l ++ (y ++ t)).drop (skC false (l ++ (y ++ t))) = c :: (r ++ (y ++ t)) := by rw [hsk, el, List.drop_left' hlen]
      have htl : ((c :: r).take n).length = n := by rw [List.length_take, List.length_cons]; omega
      have ec : c :: (r ++ (y ++ t)) = (c :: r).take n ++ ((c :: r).drop n ++ (y ++ t)) := by generalize y ++ t = Z; rw [← List.append_assoc, List.take_append_drop]; rfl
      have hloc : Loc ((c :: r).drop n) ((c :: r).drop n ++ (y ++ t)) := by
        cases (c :: r).drop n with
        | nil =>
          right
          have hs := hy.sep
          have hf := hy.out true
          cases y with
          | nil => simp [stC] at hf
          | cons a b => exact hs
        | cons a b => exact .inl rfl
      have ht' := tok_local hV ht hloc
      rw [← ec] at ht'
      rw [lexS_at hd, hsk, lexG_tok ht', e1]
      have et : (c :: (r ++ (y ++ t))).take n = (c :: r).take n := by rw [ec, List.take_left' htl]
      have ed : (c :: (r ++ (y ++ t))).drop n = (c :: r).drop n ++ (y ++ t) := by rw [ec, List.drop_left' htl]
      rw [et, ed, i, show p + skC false l + n + ((c :: r).drop n).length + y.length = p + l.length + y.length by rw [List.length_drop, List.length_cons]; omega]
      rfl
/-- Each word alone. -/
theorem lexS_each : ∀ (N : Nat) (l : List UInt8) (p : Nat), l.length ≤ N → (lexS V l p).2 = none → ∀ w ∈ (lexS V l p).1, ∀ q, lexS V w.text q = ([⟨w.kind, w.text, w.val, q⟩], none) := by
  intro N
  induction N with
  | zero =>
    intro l p hl _ w hw
    obtain rfl : l = [] := List.eq_nil_of_length_eq_zero (by omega)
    rw [lexS_end (l := []) (by simp [skC]) p] at hw
    cases hw
  | succ N ih =>
    intro l p hl h w hw q
    rcases lexS_cases h with ⟨-, e1⟩ | ⟨c, r, k, n, v, e, hs, ht, h1, h2, h3, e1, h4⟩
    · rw [e1] at hw
      cases hw
    · rw [e1] at hw
      rcases List.mem_cons.1 hw with rfl | hw
      · show lexS V ((c :: r).take n) q = ([⟨k, (c :: r).take n, v, q⟩], none)
        have ht' := tok_local hV ht (y := []) (.inr (.inl rfl))
        rw [List.append_nil] at ht'
        obtain ⟨m, rfl⟩ : ∃ m, n = m + 1 := ⟨n - 1, by omega⟩
        have htl : ((c :: r).take (m + 1)).length = m + 1 := by rw [List.length_take, List.length_cons]; omega
        have ec : (c :: r).take (m + 1) = c :: r.take m := rfl
        have hdr : ((c :: r).take (m + 1)).drop (m + 1) = [] := List.drop_eq_nil_of_le (by omega)
        have htk : ((c :: r).take (m + 1)).take (m + 1) = (c :: r).take (m + 1) := List.take_of_length_le (by omega)
        rw [ec] at ht' hdr htk ⊢
        rw [lexS_solid hs, lexG_tok ht', hdr, htk, lexS_end (l := []) (by simp [skC])]
      · exact ih _ _ (by rw [List.length_drop, List.length_cons]; omega) h4 w hw q
/-- Words with a gap behind each. -/
def gapB (y : List UInt8) : List (List UInt8) → List UInt8
  | [] => []
  | t :: ts => t ++ (y ++ gapB y ts)
theorem lexS_gapB {y : List UInt8} (hy : Gap y) : ∀ (ws : List Wd), (∀ w ∈ ws, ∀ q, lexS V w.text q = ([⟨w.kind, w.text, w.val, q⟩], none)) → ∀ q, (lexS V (gapB y (ws.map Wd.text)) q).2 = none ∧ (lexS V (gapB y (ws.map Wd.text)) q).1.map Wd.key = ws.map Wd.key
  | [], _, q => by
    have e0 := lexS_end (V := V) (l := []) (by simp [skC]) q
    exact ⟨by show (lexS V [] q).2 = none; rw [e0], by show (lexS V [] q).1.map Wd.key = []; rw [e0]; rfl⟩
  | w :: ws, h, q => by
    have hw := h w List.mem_cons_self
    have i := lexS_gapB hy ws (fun x hx => h x (List.mem_cons_of_mem _ hx)) (q + w.text.length + y.length)
    have := lexS_cat hV hy (gapB y (ws.map Wd.text)) _ w.text q (Nat.le_refl _) (by rw [hw q])
    show (lexS V (w.text ++ (y ++ gapB y (ws.map Wd.text))) q).2 = none ∧ (lexS V (w.text ++ (y ++ gapB y (ws.map Wd.text))) q).1.map Wd.key = _
    rw [this, hw q]
    exact ⟨i.1, by simp only [List.singleton_append, List.map_cons, i.2]; rfl⟩
end

/-! Comments -/
theorem skC_comment : ∀ (b : Bool) (c r : List UInt8), (∀ x ∈ c, x ≠ 10) → skC true (c ++ 10 :: r) = c.length + 1 + skC false r ∧ stC b (37 :: (c ++ 10 :: r)) = stC false r := by
  intro b c r h
  have h2 : stC true (c ++ 10 :: r) = stC false r ∧ skC true (c ++ 10 :: r) = c.length + 1 + skC false r := by
    induction c with
    | nil =>
      rw [List.nil_append, stC_cons, skC_cons, if_neg (by decide), if_pos rfl, if_neg (by decide), if_pos rfl]
      exact ⟨rfl, by rw [List.length_nil]; omega⟩
    | cons x c ih =>
      have i := ih fun z hz => h z (List.mem_cons_of_mem _ hz)
      have hx := h x List.mem_cons_self
      rw [List.cons_append]
      rw [stC_cons, skC_cons]
      by_cases h37 : x = 37
      · rw [if_pos h37, if_pos h37, i.1, i.2, List.length_cons]
        exact ⟨rfl, by omega⟩
      · rw [if_neg h37, if_neg h37, if_neg hx, if_neg hx, i.1, if_pos (by simp), i.2, List.length_cons]
        exact ⟨rfl, by omega⟩
  refine ⟨h2.2, ?_⟩
  rw [stC_cons, if_pos rfl, h2.1]
/-- The gap with a comment that the law puts behind each word, and the one ahead of all. -/
def gapOf (c : List UInt8) : List UInt8 := 9 :: 32 :: 37 :: (c ++ [10, 13])
def headOf (c : List UInt8) : List UInt8 := 37 :: (c ++ [10])
theorem gapOf_gap {c : List UInt8} (h : ∀ x ∈ c, x ≠ 10) : Gap (gapOf c) := by
  have e := skC_comment true c [13] h
  refine ⟨.inr (.inr (.inl rfl)), fun b => ?_, fun b => ?_⟩
  · unfold gapOf
    have h3 : skC b (37 :: (c ++ [10, 13])) = c.length + 3 := by
      rw [skC_cons, if_pos rfl, e.1]
      have : skC false [13] = 1 := rfl
      omega
    have h2 : skC b (32 :: 37 :: (c ++ [10, 13])) = c.length + 4 := by
      rw [skC_cons, if_neg (by decide), if_neg (by decide), if_pos (by cases b <;> rfl), h3]
    have h1 : skC b (9 :: 32 :: 37 :: (c ++ [10, 13])) = c.length + 5 := by
      rw [skC_cons, if_neg (by decide), if_neg (by decide), if_pos (by cases b <;> rfl), h2]
    rw [h1]
    simp
  · unfold gapOf
    have h3 := (skC_comment b c [13] h).2
    have h2 : stC b (32 :: 37 :: (c ++ [10, 13])) = stC false [13] := by
      rw [stC_cons, if_neg (by decide), if_neg (by decide), h3]
    rw [stC_cons, if_neg (by decide), if_neg (by decide), h2]
    rfl
theorem headOf_gaps {c : List UInt8} (h : ∀ x ∈ c, x ≠ 10) : skC false (headOf c) = (headOf c).length ∧ stC false (headOf c) = false := by
  have e := skC_comment false c [] h
  unfold headOf
  refine ⟨?_, e.2⟩
  rw [skC_cons, if_pos rfl, e.1]
  simp [skC]

/-! The meaning of a text -/
/-- Where a token stands that is the first of those left. -/
def placeOf (L : List Wd) (e : Nat) (r : List Kt) : Nat := match L[L.length - r.length]? with | some w => w.pos | none => e
theorem placeOf_nil (L : List Wd) (e : Nat) : placeOf L e [] = e := by
  unfold placeOf
  rw [List.getElem?_eq_none (by simp)]
theorem placeOf_append (L L' : List Wd) (e e' : Nat) (t : Kt) (r : List Kt) (h : (t :: r).length ≤ L.length) : placeOf (L ++ L') e' (t :: r ++ L'.map Wd.key) = placeOf L e (t :: r) := by
  unfold placeOf
  have : (L ++ L').length - (t :: r ++ L'.map Wd.key).length = L.length - (t :: r).length := by
    simp only [List.length_append, List.length_map]
    omega
  simp only [List.length_cons] at h
  rw [this, List.getElem?_append_left (by simp only [List.length_cons]; omega)]
  cases hx : L[L.length - (t :: r).length]? with
  | some w => rfl
  | none =>
    rw [List.getElem?_eq_none_iff] at hx
    simp only [List.length_cons] at hx
    omega
/-- What a text says: a program, a place where it does not fit, a place where no word is. -/
inductive Say (α : Type) where
  | ok (a : α)
  | bad (at_ : Nat)
  | lex (at_ : Nat)
def sayOf {α : Type} (V : List UInt8 → Option VL) (p : Rd α) (s : List UInt8) : Say α :=
  match (lexS V s 0).2 with
  | some x => .lex x
  | none =>
    match p ((lexS V s 0).1.map Wd.key) with
    | .ok a [] => .ok a
    | .ok _ (t :: r) => .bad (placeOf (lexS V s 0).1 s.length (t :: r))
    | .bad r => .bad (placeOf (lexS V s 0).1 s.length r)
/-- A text that is a rule is a program of that rule alone. -/
theorem say_rule {V : List UInt8 → Option VL} {s : List UInt8} {x : RuL} (h : sayOf V ruleR s = .ok x) : sayOf V progR s = .ok [.rule x] := by
  unfold sayOf at h ⊢
  cases e : (lexS V s 0).2 with
  | some y => rw [e] at h; cases h
  | none =>
    rw [e] at h
    simp only at h ⊢
    cases e1 : ruleR ((lexS V s 0).1.map Wd.key) with
    | bad r => rw [e1] at h; cases h
    | ok a r =>
      rw [e1] at h
      cases r with
      | cons t r => cases h
      | nil =>
        cases h
        rw [rule_prog e1]
end
section
open Go

theorem progR_suf : ∀ (N : Nat) (l r : List Kt), l.length ≤ N → progR l = .bad r → r <:+ l := by
  intro N
  induction N with
  | zero =>
    intro l r hl e
    obtain rfl : l = [] := List.eq_nil_of_length_eq_zero (by omega)
    rw [progR_nil] at e
    cases e
  | succ N ih =>
    intro l r hl e
    by_cases h : l = []
    · subst h
      rw [progR_nil] at e
      cases e
    · rw [progR_eq h] at e
      cases e1 : clauseR l with
      | bad y =>
        rw [e1] at e
        cases e
        exact fit_clause.suf.2 _ _ e1
      | ok c y =>
        rw [e1] at e
        have h1 := fit_clause.eats _ _ _ e1
        simp only [Rs.bind] at e
        cases e2 : progR y with
        | ok ds z => rw [e2] at e; cases e
        | bad z =>
          rw [e2] at e
          cases e
          exact (ih y _ (by omega) e2).trans (fit_clause.suf.1 _ _ _ e1)
section
variable {V : List UInt8 → Option VL}
theorem sayOf_lex {α : Type} {p : Rd α} {s : List UInt8} {x : Nat} (h : (lexS V s 0).2 = some x) : sayOf V p s = .lex x := by
  unfold sayOf
  rw [h]
theorem sayOf_bad {α : Type} {p : Rd α} {s : List UInt8} {r : List Kt} (h : (lexS V s 0).2 = none) (h2 : p ((lexS V s 0).1.map Wd.key) = .bad r) : sayOf V p s = .bad (placeOf (lexS V s 0).1 s.length r) := by
  unfold sayOf
  rw [h, h2]
theorem sayOf_ok {α : Type} {p : Rd α} {s : List UInt8} {a : α} (h : (lexS V s 0).2 = none) (h2 : p ((lexS V s 0).1.map Wd.key) = .ok a []) : sayOf V p s = .ok a := by
  unfold sayOf
  rw [h, h2]
theorem sayOf_more {α : Type} {p : Rd α} {s : List UInt8} {a : α} {t : Kt} {r : List Kt} (h : (lexS V s 0).2 = none) (h2 : p ((lexS V s 0).1.map Wd.key) = .ok a (t :: r)) : sayOf V p s = .bad (placeOf (lexS V s 0).1 s.length (t :: r)) := by
  unfold sayOf
  rw [h, h2]
/-- The ways of a program's text. -/
theorem sayProg (s : List UInt8) : (∃ x, (lexS V s 0).2 = some x ∧ sayOf V progR s = .lex x) ∨
    (∃ cs, (lexS V s 0).2 = none ∧ progR ((lexS V s 0).1.map Wd.key) = .ok cs [] ∧ sayOf V progR s = .ok cs) ∨
    ∃ r, (lexS V s 0).2 = none ∧ progR ((lexS V s 0).1.map Wd.key) = .bad r ∧ r <:+ (lexS V s 0).1.map Wd.key ∧ sayOf V progR s = .bad (placeOf (lexS V s 0).1 s.length r) := by
  cases e : (lexS V s 0).2 with
  | some x => exact .inl ⟨x, rfl, sayOf_lex e⟩
  | none =>
    right
    cases e1 : progR ((lexS V s 0).1.map Wd.key) with
    | ok cs r =>
      obtain rfl := progR_all _ _ _ _ (Nat.le_refl _) e1
      exact .inl ⟨cs, rfl, rfl, sayOf_ok e e1⟩
    | bad r => exact .inr ⟨r, rfl, rfl, progR_suf _ _ _ (Nat.le_refl _) e1, sayOf_bad e e1⟩
variable (hV : ∀ r, quoEnd r = none → V (34 :: r) = none)
include hV
/-- The clauses of both. -/
theorem say_both {s t : List UInt8} {cs ds : List ClL} (hs : sayOf V progR s = .ok cs) (ht : sayOf V progR t = .ok ds) : sayOf V progR (s ++ 10 :: t) = .ok (cs ++ ds) := by
  rcases sayProg (V := V) s with ⟨x, -, e⟩ | ⟨cs', a1, a2, e⟩ | ⟨r, -, -, -, e⟩ <;> rw [e] at hs <;> cases hs
  rcases sayProg (V := V) t with ⟨x, -, e'⟩ | ⟨ds', b1, b2, e'⟩ | ⟨r, -, -, -, e'⟩ <;> rw [e'] at ht <;> cases ht
  have h := lexS_cat hV Gap.line t _ s 0 (Nat.le_refl _) a1
  have hsh := lexS_shift (V := V) _ t 0 (0 + s.length + [(10 : UInt8)].length) (Nat.le_refl _) b1
  have h2 := progR_append _ _ ((lexS V t (0 + s.length + [(10 : UInt8)].length)).1.map Wd.key) _ (Nat.le_refl _) a2
  rw [hsh.2, b2] at h2
  refine sayOf_ok (s := s ++ 10 :: t) ?_ ?_
  · show (lexS V (s ++ ([10] ++ t)) 0).2 = none
    rw [h]
    exact hsh.1
  · show progR ((lexS V (s ++ ([10] ++ t)) 0).1.map Wd.key) = _
    rw [h]
    simp only [List.map_append]
    rw [hsh.2, h2]
    rfl
/-- What is none is none with anything behind it, at the same place, unless it ends too early. -/
theorem say_none {s t : List UInt8} {p : Nat} (hs : sayOf V progR s = .bad p) (hp : p < s.length) (hl : (lexS V (s ++ 10 :: t) 0).2 = none) : sayOf V progR (s ++ 10 :: t) = .bad p := by
  rcases sayProg (V := V) s with ⟨x, -, e⟩ | ⟨cs', -, -, e⟩ | ⟨r, a1, a2, a3, e⟩ <;> rw [e] at hs <;> cases hs
  cases r with
  | nil => rw [placeOf_nil] at hp; omega
  | cons k r =>
    have h := lexS_cat hV Gap.line t _ s 0 (Nat.le_refl _) a1
    have h2 := progR_bad _ _ ((lexS V t (0 + s.length + [(10 : UInt8)].length)).1.map Wd.key) _ _ (Nat.le_refl _) a2
    have hle : (k :: r).length ≤ (lexS V s 0).1.length := by
      have := a3.length_le
      rw [List.length_map] at this
      exact this
    have h3 : progR ((lexS V (s ++ 10 :: t) 0).1.map Wd.key) = .bad (k :: r ++ (lexS V t (0 + s.length + [(10 : UInt8)].length)).1.map Wd.key) := by
      show progR ((lexS V (s ++ ([10] ++ t)) 0).1.map Wd.key) = _
      rw [h]
      simp only [List.map_append]
      exact h2
    rw [sayOf_bad hl h3]
    congr 1
    have h4 : (lexS V (s ++ 10 :: t) 0).1 = (lexS V s 0).1 ++ (lexS V t (0 + s.length + [(10 : UInt8)].length)).1 := by
      show (lexS V (s ++ ([10] ++ t)) 0).1 = _
      rw [h]
    rw [h4]
    exact placeOf_append _ _ s.length _ k r hle
/-- Other gaps between the same words. -/
theorem say_gaps {s c : List UInt8} (hl : (lexS V s 0).2 = none) (hc : ∀ x ∈ c, x ≠ 10) :
    (lexS V (headOf c ++ gapB (gapOf c) ((lexS V s 0).1.map Wd.text)) 0).2 = none ∧
    ((∃ cs, sayOf V progR s = .ok cs ∧ sayOf V progR (headOf c ++ gapB (gapOf c) ((lexS V s 0).1.map Wd.text)) = .ok cs) ∨
      ∃ a b, sayOf V progR s = .bad a ∧ sayOf V progR (headOf c ++ gapB (gapOf c) ((lexS V s 0).1.map Wd.text)) = .bad b) := by
  obtain ⟨g1, g2⟩ := headOf_gaps hc
  have h0 := lexS_gapB hV (gapOf_gap hc) (lexS V s 0).1 (lexS_each hV _ s 0 (Nat.le_refl _) hl) (0 + (headOf c).length)
  rw [← lexS_gaps (V := V) g1 g2] at h0
  refine ⟨h0.1, ?_⟩
  rcases sayProg (V := V) s with ⟨x, e0, -⟩ | ⟨cs, -, a2, e⟩ | ⟨r, -, a2, -, e⟩
  · rw [hl] at e0; cases e0
  · exact .inl ⟨cs, e, sayOf_ok h0.1 (by rw [h0.2]; exact a2)⟩
  · exact .inr ⟨_, _, e, sayOf_bad h0.1 (by rw [h0.2]; exact a2)⟩
end
end
section
open Go

/-- The bytes that marks begin with. -/
def markB (c : UInt8) : Bool := c == 40 || c == 41 || c == 44 || c == 46 || c == 43 || c == 61 || c == 33 || c == 45 || c == 58 || c == 60 || c == 62
/-- What a token's text tells of its kind. -/
structure TidyW (w : Wd) : Prop where
  some_ : w.text ≠ []
  kinds : w.kind = 1 ∨ w.kind = 2 ∨ w.kind = 3 ∨ w.kind = 4 ∨ w.kind = 5 ∨ w.kind = 6
  name : ∀ x t, w.text = x :: t → cls x = 1 → w.kind = 1
  mark : ∀ x t, w.text = x :: t → markB x = true → w.kind = 6 ∨ (x = 45 ∧ t ≠ [])
theorem shape_name {c : UInt8} {r : List UInt8} (h : cls c = 1) : (shapeL c r).1 = 1 := by unfold shapeL; rw [if_pos h]
theorem mark_cls {c : UInt8} (h : markB c = true) : cls c = 0 ∧ c ≠ 34 := by
  unfold markB at h
  simp only [Bool.or_eq_true, beq_iff_eq] at h
  rcases h with (((((((((rfl | rfl) | rfl) | rfl) | rfl) | rfl) | rfl) | rfl) | rfl) | rfl) | rfl <;> decide
theorem shape_mark {c : UInt8} {r : List UInt8} (h : markB c = true) : (shapeL c r).1 = 6 ∨ (shapeL c r).1 = 0 ∨ (c = 45 ∧ 2 ≤ (shapeL c r).2) := by
  obtain ⟨h0, h34⟩ := mark_cls h
  unfold shapeL
  rw [if_neg (by omega), if_neg (by omega), if_neg (by omega), if_neg (by omega), if_neg h34]
  by_cases h33 : c = 33
  · rw [if_pos h33]
    split
    · exact .inl rfl
    · exact .inr (.inl rfl)
  rw [if_neg h33]
  by_cases h45 : c = 45
  · rw [if_pos h45]
    split
    · exact .inl rfl
    · exact .inr (.inr ⟨h45, by simp only; omega⟩)
  rw [if_neg h45]
  by_cases h58 : c = 58
  · rw [if_pos h58]
    split <;> exact .inl rfl
  rw [if_neg h58]
  split
  · split <;> exact .inl rfl
  · split
    · exact .inl rfl
    · exact .inr (.inl rfl)
theorem shape_range (c : UInt8) (r : List UInt8) : (shapeL c r).1 = 0 ∨ (shapeL c r).1 = 1 ∨ (shapeL c r).1 = 2 ∨ (shapeL c r).1 = 3 ∨ (shapeL c r).1 = 4 ∨ (shapeL c r).1 = 5 ∨ (shapeL c r).1 = 6 := by
  unfold shapeL
  repeat' split
  all_goals simp
theorem tok_tidy {V : List UInt8 → Option VL} {c : UInt8} {r : List UInt8} {k : Int} {n p : Nat} {v : VL} (h : tokL V (c :: r) = some (k, n, v)) : TidyW ⟨k, (c :: r).take n, v, p⟩ := by
  obtain ⟨h1, h2, hk, hn, hm⟩ := tok_len h
  obtain ⟨m, rfl⟩ : ∃ m, n = m + 1 := ⟨n - 1, by omega⟩
  have hk0 : k ≠ 0 := by
    rintro rfl
    simp [meanL] at hm
  refine ⟨by simp, (shape_range c r).elim (fun h => absurd (hk.trans h) hk0) (fun h => by simp only; rw [hk]; exact h), ?_, ?_⟩
  · intro x t e hx
    simp only [List.take_succ_cons, List.cons.injEq] at e
    obtain ⟨rfl, -⟩ := e
    show k = 1
    rw [hk, shape_name hx]
  · intro x t e hx
    simp only [List.take_succ_cons, List.cons.injEq] at e
    obtain ⟨rfl, rfl⟩ := e
    rcases shape_mark (r := r) hx with h6 | h0 | ⟨h45, h22⟩
    · exact .inl (hk.trans h6)
    · exact absurd (hk.trans h0) hk0
    · refine .inr ⟨h45, fun e => ?_⟩
      have : min m r.length = 0 := by rw [← List.length_take, e]; rfl
      omega
/-- The tokens of a text are such. -/
theorem lexS_tidy {V : List UInt8 → Option VL} : ∀ (N : Nat) (l : List UInt8) (p : Nat), l.length ≤ N → (lexS V l p).2 = none → ∀ w ∈ (lexS V l p).1, TidyW w := by
  intro N
  induction N with
  | zero =>
    intro l p hl _ w hw
    obtain rfl : l = [] := List.eq_nil_of_length_eq_zero (by omega)
    rw [lexS_end (l := []) (by simp [skC]) p] at hw
    cases hw
  | succ N ih =>
    intro l p hl h w hw
    rcases lexS_cases h with ⟨-, e1⟩ | ⟨c, r, k, n, v, e, hs, ht, h1, h2, h3, e1, h4⟩
    · rw [e1] at hw
      cases hw
    · rw [e1] at hw
      rcases List.mem_cons.1 hw with rfl | hw
      · exact tok_tidy ht
      · exact ih _ _ (by rw [List.length_drop, List.length_cons]; omega) h4 w hw
/-- A mark's text; a name's. -/
def okM : List UInt8 → Bool
  | [] => false
  | x :: t => markB x && (x != 45 || t.isEmpty)
def okW : List UInt8 → Bool
  | [] => false
  | x :: _ => cls x == 1
theorem tidy_mark {w : Wd} {m : List UInt8} (h : TidyW w) (hm : okM m = true) : isM m w.key = (w.text == m) := by
  unfold isM Wd.key
  simp only
  by_cases e : w.text = m
  · subst e
    cases ht : w.text with
    | nil => exact absurd ht h.some_
    | cons x t =>
      rw [ht] at hm
      simp only [okM, Bool.and_eq_true, Bool.or_eq_true, bne_iff_ne, List.isEmpty_iff] at hm
      rcases h.mark x t ht hm.1 with h6 | ⟨h45, hne⟩
      · simp [h6]
      · rcases hm.2 with h | h
        · exact absurd h45 h
        · exact absurd h hne
  · have : (w.text == m) = false := by simpa using e
    rw [this, Bool.and_false]
theorem tidy_word {w : Wd} {m : List UInt8} (h : TidyW w) (hm : okW m = true) : isW m w.key = (w.text == m) := by
  unfold isW Wd.key
  simp only
  by_cases e : w.text = m
  · subst e
    cases ht : w.text with
    | nil => exact absurd ht h.some_
    | cons x t =>
      rw [ht] at hm
      simp only [okW, beq_iff_eq] at hm
      simp [h.name x t ht hm]
  · have : (w.text == m) = false := by simpa using e
    rw [this, Bool.and_false]

/-! Readers at rows of tokens -/
abbrev keys (L : List Wd) : List Kt := L.map Wd.key
theorem bind_ok {α β : Type} {p : Rd α} {f : α → Rd β} {l r : List Kt} {a : α} (h : p l = .ok a r) : bindR p f l = f a r := by unfold bindR; rw [h]; rfl
theorem bind_bad {α β : Type} {p : Rd α} {f : α → Rd β} {l r : List Kt} (h : p l = .bad r) : bindR p f l = .bad r := by unfold bindR; rw [h]; rfl
/-- The text of the next token; none at the end. -/
def txt : List Wd → List UInt8
  | [] => []
  | w :: _ => w.text
/-- Its kind. -/
def knd : List Wd → Int
  | [] => 0
  | w :: _ => w.kind
/-- Where it stands; the end where there is none. -/
def hereW (e : Nat) : List Wd → Nat
  | [] => e
  | w :: _ => w.pos
theorem nxt_mark {L : List Wd} {m : List UInt8} (h : ∀ w ∈ L, TidyW w) (hm : okM m = true) : nxt (isM m) (keys L) = (txt L == m) := by
  cases L with
  | nil => cases m with
    | nil => cases hm
    | cons x t => rfl
  | cons w L => exact tidy_mark (h w List.mem_cons_self) hm
theorem nxt_word {L : List Wd} {m : List UInt8} (h : ∀ w ∈ L, TidyW w) (hm : okW m = true) : nxt (isW m) (keys L) = (txt L == m) := by
  cases L with
  | nil => cases m with
    | nil => cases hm
    | cons x t => rfl
  | cons w L => exact tidy_word (h w List.mem_cons_self) hm
theorem tok1_yes {q : Kt → Bool} {w : Wd} {L : List Wd} (h : q w.key = true) : tok1 q (keys (w :: L)) = .ok w.key (keys L) := by
  show tok1 q (w.key :: keys L) = _
  rw [tok1_cons, if_pos h]
theorem tok1_no {q : Kt → Bool} {L : List Wd} (h : nxt q (keys L) = false) : tok1 q (keys L) = .bad (keys L) := by
  cases L with
  | nil => rfl
  | cons w L =>
    show tok1 q (w.key :: keys L) = _
    rw [tok1_cons, if_neg (by show ¬ q w.key = true; rw [show q w.key = false from h]; simp)]
    rfl
theorem placeOf_suf {L L' : List Wd} (e : Nat) (h : L' <:+ L) : placeOf L e (keys L') = hereW e L' := by
  obtain ⟨X, rfl⟩ := h
  unfold placeOf
  rw [List.length_map, List.length_append, Nat.add_sub_cancel, List.getElem?_append_right (Nat.le_refl _), Nat.sub_self]
  cases L' <;> rfl
end
end Go.Proofs.YtnbaemfkpfmheaaGreatDoor

/-
  Plain facts on the reading of keys: the program's reading, with its limits as it goes, and the document's, with its limits at the end. No program is named here.
-/
import Derived.Test.YthnpiafpkllbpaaPkP
namespace Go.Proofs.Ythnpiafpkllbpaa
open Go

/-- The number that bytes spell, the highest first. -/
def beN (l : List UInt8) : Nat := l.foldl (fun x c => x * 256 + c.toNat) 0
theorem beN_snoc (l : List UInt8) (c : UInt8) : beN (l ++ [c]) = beN l * 256 + c.toNat := by simp [beN]
theorem beN_lt (l : List UInt8) : beN l < 256 ^ l.length := by
  suffices h : ∀ r : List UInt8, beN r.reverse < 256 ^ r.length by simpa using h l.reverse
  intro r
  induction r with
  | nil => simp [beN]
  | cons c r ih =>
    rw [List.reverse_cons, beN_snoc, List.length_cons, Nat.pow_succ]
    have := c.toNat_lt
    omega
def intV (l : List UInt8) : V3 := ⟨1, (beN (l.take 8) : Int) - 9223372036854775808, ⟨#[]⟩⟩
def symV (s : List UInt8) : V3 := ⟨2, 0, ⟨s.toArray⟩⟩
/-- A symbol's bytes, and what stands behind their end: with at most 256 of them. -/
def symP : List UInt8 → List UInt8 → Option (List UInt8 × List UInt8)
  | [], _ => none
  | [_], _ => none
  | c :: d :: r, acc =>
    if c = 0 then (if d = 1 then some (acc, r) else if d = 255 then (if acc.length = 256 then none else symP r (acc ++ [0])) else none)
    else if acc.length = 256 then none else symP (d :: r) (acc ++ [c])
/-- The same without a limit. -/
def symR : List UInt8 → List UInt8 → Option (List UInt8 × List UInt8)
  | [], _ => none
  | [_], _ => none
  | c :: d :: r, acc =>
    if c = 0 then (if d = 1 then some (acc, r) else if d = 255 then symR r (acc ++ [0]) else none) else symR (d :: r) (acc ++ [c])
theorem symR_len : ∀ (l acc s r : List UInt8), symR l acc = some (s, r) → r.length ≤ l.length ∧ acc.length ≤ s.length
  | [], _, _, _ => fun h => by simp [symR] at h
  | [_], _, _, _ => fun h => by simp [symR] at h
  | c :: d :: l, acc, s, r => fun h => by
    rw [symR] at h
    split at h
    · split at h
      · simp at h; obtain ⟨rfl, rfl⟩ := h; exact ⟨by simp; omega, Nat.le_refl _⟩
      · split at h
        · have := symR_len l _ s r h
          simp at this ⊢; omega
        · cases h
    · have := symR_len (d :: l) _ s r h
      simp at this ⊢; omega
theorem symP_eq : ∀ (l acc : List UInt8), acc.length ≤ 256 → symP l acc = match symR l acc with | some (s, r) => if s.length ≤ 256 then some (s, r) else none | none => none
  | [], _ => fun _ => rfl
  | [_], _ => fun _ => rfl
  | c :: d :: l, acc => fun h => by
    rw [symP, symR]
    by_cases hc : c = 0
    · rw [if_pos hc, if_pos hc]
      by_cases hd : d = 1
      · rw [if_pos hd, if_pos hd]; simp [h]
      · rw [if_neg hd, if_neg hd]
        by_cases he : d = 255
        · rw [if_pos he, if_pos he]
          by_cases ha : acc.length = 256
          · rw [if_pos ha]
            cases e : symR l (acc ++ [0]) with
            | none => rfl
            | some x =>
              have := (symR_len l _ x.1 x.2 e).2
              simp at this
              simp only
              rw [if_neg (by omega)]
          · rw [if_neg ha]
            exact symP_eq l (acc ++ [0]) (by simp; omega)
        · rw [if_neg he, if_neg he]
    · rw [if_neg hc, if_neg hc]
      by_cases ha : acc.length = 256
      · rw [if_pos ha]
        cases e : symR (d :: l) (acc ++ [c]) with
        | none => rfl
        | some x =>
          have := (symR_len (d :: l) _ x.1 x.2 e).2
          simp at this
          simp only
          rw [if_neg (by omega)]
      · rw [if_neg ha]
        exact symP_eq (d :: l) (acc ++ [c]) (by simp; omega)
/-- One key. -/
def keyP : List UInt8 → Option (V3 × List UInt8)
  | [] => none
  | c :: r => if c = 1 then (if 8 ≤ r.length then some (intV r, r.drop 8) else none) else if c = 2 then (match symP r [] with | some (s, r') => some (symV s, r') | none => none) else none
/-- All keys, to the last byte. -/
def keysP : Nat → List UInt8 → List V3 → Option (List V3)
  | _, [], acc => some acc
  | 0, _ :: _, _ => none
  | f + 1, c :: r, acc => if acc.length = 8 then none else match keyP (c :: r) with | some (v, r') => keysP f r' (acc ++ [v]) | none => none
/-- The document's: no limit as it goes. -/
def rkeyP : List UInt8 → Option (V3 × List UInt8)
  | [] => none
  | c :: r => if c = 1 ∧ 8 ≤ r.length then some (intV r, r.drop 8) else if c = 2 then (match symR r [] with | some (s, r') => some (symV s, r') | none => none) else none
def rkeysP : Nat → List UInt8 → List V3 → Option (List V3)
  | _, [], acc => some acc
  | 0, _ :: _, _ => none
  | f + 1, c :: r, acc => match rkeyP (c :: r) with | some (v, r') => rkeysP f r' (acc ++ [v]) | none => none
theorem rkeyP_len {l : List UInt8} {v : V3} {r : List UInt8} (h : rkeyP l = some (v, r)) : r.length < l.length := by
  cases l with
  | nil => simp [rkeyP] at h
  | cons c l =>
    rw [rkeyP] at h
    split at h
    · simp at h; obtain ⟨-, rfl⟩ := h; simp; omega
    · split at h
      · cases e : symR l [] with
        | none => rw [e] at h; simp at h
        | some x =>
          rw [e] at h
          simp at h
          have := (symR_len l [] x.1 x.2 e).1
          obtain ⟨-, rfl⟩ := h
          simp; omega
      · cases h
theorem rkeysP_front : ∀ (f : Nat) (l : List UInt8) (acc T : List V3), rkeysP f l acc = some T → ∃ U, T = acc ++ U ∧ (l ≠ [] → U ≠ [])
  | _, [], acc, T => fun h => by simp [rkeysP] at h; exact ⟨[], by simp [h], fun h => absurd rfl h⟩
  | 0, _ :: _, _, _ => fun h => by simp [rkeysP] at h
  | f + 1, c :: l, acc, T => fun h => by
    rw [rkeysP] at h
    cases e : rkeyP (c :: l) with
    | none => rw [e] at h; cases h
    | some x =>
      rw [e] at h
      obtain ⟨U, hU, -⟩ := rkeysP_front f x.2 (acc ++ [x.1]) T h
      exact ⟨x.1 :: U, by rw [hU]; simp, fun _ => by simp⟩
/-- A value that may be. -/
def MayV (x : V3) : Prop := x.k = 1 ∧ x.s.toList = [] ∨ x.k = 2 ∧ x.n = 0 ∧ x.s.size ≤ 256
/-- A tuple that may be. -/
def MayT (T : List V3) : Prop := T.length ≤ 8 ∧ ∀ x ∈ T, MayV x
open Classical in
/-- What is read, where it may be. -/
noncomputable def okO (o : Option (List V3)) : Option (List V3) := match o with | some T => if MayT T then some T else none | none => none
theorem intV_may (l : List UInt8) : MayV (intV l) := .inl ⟨rfl, by unfold intV; rw [Lib.toList_data]⟩
theorem symV_may {s : List UInt8} (h : s.length ≤ 256) : MayV (symV s) := .inr ⟨rfl, rfl, by unfold symV; rw [Lib.size_eq]; exact h⟩
theorem symV_not {s : List UInt8} (h : ¬ s.length ≤ 256) : ¬ MayV (symV s) := by
  rintro (⟨h1, -⟩ | ⟨-, -, h1⟩)
  · exact absurd h1 (show ¬ (2 : Int) = 1 by decide)
  · unfold symV at h1; rw [Lib.size_eq] at h1; exact h h1
theorem okO_bad {f : Nat} {l : List UInt8} {acc : List V3} (h : ∀ U, (l ≠ [] → U ≠ []) → ¬ MayT (acc ++ U)) : okO (rkeysP f l acc) = none := by
  unfold okO
  cases e : rkeysP f l acc with
  | none => rfl
  | some T =>
    obtain ⟨U, rfl, hU⟩ := rkeysP_front f l acc T e
    simp only
    rw [if_neg (h U hU)]
theorem keys_eq : ∀ (f : Nat) (l : List UInt8) (acc : List V3), l.length ≤ f → (∀ x ∈ acc, MayV x) → acc.length ≤ 8 → keysP f l acc = okO (rkeysP f l acc)
  | f, [], acc => fun _ ha h8 => by
    have h1 : keysP f [] acc = some acc := by cases f <;> rfl
    have h2 : rkeysP f [] acc = some acc := by cases f <;> rfl
    rw [h1, h2]
    unfold okO
    simp only
    rw [if_pos ⟨h8, ha⟩]
  | 0, _ :: _, _ => fun h => by simp at h
  | f + 1, c :: l, acc => fun hf ha h8 => by
    rw [keysP]
    by_cases h : acc.length = 8
    · rw [if_pos h]
      refine (okO_bad fun U hU hm => ?_).symm
      have h1 := hm.1
      have h2 := List.length_pos_iff.2 (hU (by simp))
      rw [List.length_append] at h1
      omega
    · rw [if_neg h, rkeysP]
      have step : ∀ v r, r.length ≤ f → MayV v → keysP f r (acc ++ [v]) = okO (rkeysP f r (acc ++ [v])) := fun v r hr hv => keys_eq f r (acc ++ [v]) hr (fun x hx => by
        rcases List.mem_append.1 hx with hx | hx
        · exact ha x hx
        · obtain rfl := List.mem_singleton.1 hx; exact hv) (by simp; omega)
      have hl : l.length ≤ f := by simp at hf; omega
      rw [keyP, rkeyP]
      by_cases h1 : c = 1
      · rw [if_pos h1]
        by_cases hr : 8 ≤ l.length
        · rw [if_pos hr, if_pos ⟨h1, hr⟩]
          exact step _ _ (by simp; omega) (intV_may l)
        · rw [if_neg hr, if_neg (fun h => hr h.2), if_neg (by rw [h1]; decide)]
          rfl
      · rw [if_neg h1, if_neg (show ¬ (c = 1 ∧ 8 ≤ l.length) from fun h => h1 h.1)]
        by_cases h2 : c = 2
        · rw [if_pos h2, if_pos h2, symP_eq l [] (by simp)]
          cases e : symR l [] with
          | none => rfl
          | some x =>
            obtain ⟨s, r⟩ := x
            have hlen := (symR_len l [] s r e).1
            by_cases hs : s.length ≤ 256
            · simp only [if_pos hs]
              exact step _ _ (by omega) (symV_may hs)
            · simp only [if_neg hs]
              refine (okO_bad fun U _ hm => ?_).symm
              exact symV_not hs (hm.2 _ (by simp))
        · rw [if_neg h2, if_neg h2]
          rfl
end Go.Proofs.Ythnpiafpkllbpaa

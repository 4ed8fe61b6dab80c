/-
  Plain facts on the reading of ints, byte strings and values. No program is named here.
-/
import Derived.Test.YthnpiafpkllbpaaPkNP
import Derived.Test.YthnpiafpkllbpaaPkKP
namespace Go.Proofs.Ythnpiafpkllbpaa
open Go

/-- The int that a number stands for. -/
def unzig (y : Nat) : Int := if y % 2 = 1 then -1 - ((y / 2 : Nat) : Int) else ((y / 2 : Nat) : Int)
theorem unzig_fits {y : Nat} (h : y < 18446744073709551616) : -9223372036854775808 ≤ unzig y ∧ unzig y ≤ 9223372036854775807 := by unfold unzig; split <;> omega
theorem zigN_unzig {y : Nat} : zigN (unzig y) = y := by
  unfold unzig zigN
  split
  · rw [if_pos (by omega)]; omega
  · rw [if_neg (by omega)]; omega
theorem unzig_zigN (x : Int) : unzig (zigN x) = x := by
  unfold unzig zigN
  split
  · rw [if_pos (by omega)]; omega
  · rw [if_neg (by omega)]; omega
def intQ (l : List UInt8) : Option (Int × List UInt8) := (numP l 0 0).map fun p => (unzig p.1, p.2)
theorem intQ_is {l r : List UInt8} {x : Int} (h : intQ l = some (x, r)) : l = intL x ++ r ∧ -9223372036854775808 ≤ x ∧ x ≤ 9223372036854775807 := by
  unfold intQ at h
  cases e : numP l 0 0 with
  | none => rw [e] at h; cases h
  | some p =>
    obtain ⟨y, r'⟩ := p
    rw [e] at h
    injection h with h
    injection h with h1 h2
    obtain ⟨h3, h4⟩ := numP_all e
    subst h1 h2
    refine ⟨?_, unzig_fits h4⟩
    unfold intL
    rw [zigN_unzig]
    exact h3
/-- A byte string of at most so many bytes. -/
def textQ (l : List UInt8) (m : Nat) : Option (List UInt8 × List UInt8) :=
  match numP l 0 0 with
  | some (n, r) => if n ≤ m ∧ n ≤ r.length then some (r.take n, r.drop n) else none
  | none => none
theorem textQ_is {l s r : List UInt8} {m : Nat} (h : textQ l m = some (s, r)) : l = textL s ++ r ∧ s.length ≤ m := by
  unfold textQ at h
  cases e : numP l 0 0 with
  | none => rw [e] at h; cases h
  | some p =>
    obtain ⟨n, r'⟩ := p
    rw [e] at h
    obtain ⟨h3, h4⟩ := numP_all e
    simp only at h
    by_cases hn : n ≤ m ∧ n ≤ r'.length
    · rw [if_pos hn] at h
      injection h with h
      injection h with h1 h2
      have hl : s.length = n := by rw [← h1, List.length_take]; omega
      refine ⟨?_, by omega⟩
      unfold textL
      rw [hl, ← h1, ← h2, List.append_assoc, List.take_append_drop]
      exact h3
    · rw [if_neg hn] at h; cases h
def valQ : List UInt8 → Option (V3 × List UInt8)
  | [] => none
  | c :: r => if c = 1 then (intQ r).map (fun p => (⟨1, p.1, ⟨#[]⟩⟩, p.2)) else if c = 2 then (textQ r 256).map (fun p => (symV p.1, p.2)) else none
theorem valQ_int (r : List UInt8) : valQ (1 :: r) = (intQ r).map (fun p => (⟨1, p.1, ⟨#[]⟩⟩, p.2)) := by rw [valQ, if_pos rfl]
theorem valQ_sym (r : List UInt8) : valQ (2 :: r) = (textQ r 256).map (fun p => (symV p.1, p.2)) := by rw [valQ, if_neg (by decide), if_pos rfl]
theorem valQ_none {c : UInt8} (r : List UInt8) (h1 : c ≠ 1) (h2 : c ≠ 2) : valQ (c :: r) = none := by rw [valQ, if_neg h1, if_neg h2]
theorem valQ_is {l r : List UInt8} {x : V3} (h : valQ l = some (x, r)) : l = oneL x ++ r ∧ MayV x ∧ -9223372036854775808 ≤ x.n ∧ x.n ≤ 9223372036854775807 := by
  cases l with
  | nil => cases h
  | cons c l =>
    by_cases h1 : c = 1
    · subst h1
      rw [valQ_int] at h
      cases e : intQ l with
      | none => rw [e] at h; cases h
      | some p =>
        obtain ⟨y, r'⟩ := p
        rw [e] at h
        injection h with h
        injection h with ha hb
        obtain ⟨h3, h4⟩ := intQ_is e
        subst ha hb
        refine ⟨?_, .inl ⟨rfl, Lib.toList_data _⟩, h4⟩
        unfold oneL
        rw [if_pos rfl, h3]
        rfl
    · by_cases h2 : c = 2
      · subst h2
        rw [valQ_sym] at h
        cases e : textQ l 256 with
        | none => rw [e] at h; cases h
        | some p =>
          obtain ⟨s, r'⟩ := p
          rw [e] at h
          injection h with h
          injection h with ha hb
          obtain ⟨h3, h4⟩ := textQ_is e
          subst ha hb
          refine ⟨?_, symV_may h4, by show (-9223372036854775808 : Int) ≤ 0; decide, by show (0 : Int) ≤ 9223372036854775807; decide⟩
          unfold oneL
          rw [if_neg (by show ¬ (2 : Int) = 1; decide), h3]
          rfl
      · rw [valQ_none l h1 h2] at h; cases h
def valsQ : Nat → List UInt8 → Option (List V3 × List UInt8)
  | 0, r => some ([], r)
  | n + 1, r => match valQ r with | some (x, r') => (valsQ n r').map (fun p => (x :: p.1, p.2)) | none => none
theorem valsQ_is : ∀ (n : Nat) (l r : List UInt8) (T : List V3), valsQ n l = some (T, r) → T.length = n ∧ l = T.flatMap oneL ++ r ∧ ∀ x ∈ T, MayV x ∧ -9223372036854775808 ≤ x.n ∧ x.n ≤ 9223372036854775807
  | 0, l, r, T => fun h => by
    injection h with h
    injection h with ha hb
    subst ha hb
    exact ⟨rfl, rfl, fun x hx => by cases hx⟩
  | n + 1, l, r, T => fun h => by
    rw [valsQ] at h
    cases e : valQ l with
    | none => rw [e] at h; cases h
    | some p =>
      obtain ⟨x, r'⟩ := p
      rw [e] at h
      cases e2 : valsQ n r' with
      | none => simp only [e2] at h; cases h
      | some q =>
        obtain ⟨T', r2⟩ := q
        simp only [e2] at h
        injection h with h
        injection h with ha hb
        obtain ⟨h1, h2, h3⟩ := valsQ_is n r' r2 T' e2
        obtain ⟨h4, h5⟩ := valQ_is e
        subst ha hb
        refine ⟨by simp [h1], ?_, fun y hy => ?_⟩
        · rw [h4, h2]; simp
        · rcases List.mem_cons.1 hy with rfl | hy
          · exact h5
          · exact h3 y hy
def tupQ : List UInt8 → Option (List V3 × List UInt8)
  | [] => none
  | c :: r => if 8 < c.toNat then none else valsQ c.toNat r
theorem tupQ_is {l r : List UInt8} {T : List V3} (h : tupQ l = some (T, r)) : l = tupL T ++ r ∧ MayT T ∧ ∀ x ∈ T, -9223372036854775808 ≤ x.n ∧ x.n ≤ 9223372036854775807 := by
  cases l with
  | nil => cases h
  | cons c l =>
    rw [tupQ] at h
    by_cases h8 : 8 < c.toNat
    · rw [if_pos h8] at h; cases h
    · rw [if_neg h8] at h
      obtain ⟨h1, h2, h3⟩ := valsQ_is _ _ _ _ h
      refine ⟨?_, ⟨by omega, fun x hx => (h3 x hx).1⟩, fun x hx => (h3 x hx).2⟩
      unfold tupL
      rw [h1, UInt8.ofNat_toNat, h2]
      rfl
/-- A tuple and its count. -/
def cntQ (l : List UInt8) : Option ((List V3 × Int) × List UInt8) := match tupQ l with | some (T, r) => (intQ r).map (fun p => ((T, p.1), p.2)) | none => none
theorem cntQ_is {l r : List UInt8} {T : List V3} {n : Int} (h : cntQ l = some ((T, n), r)) : l = (tupL T ++ intL n) ++ r ∧ MayT T ∧ (∀ x ∈ T, -9223372036854775808 ≤ x.n ∧ x.n ≤ 9223372036854775807) ∧ -9223372036854775808 ≤ n ∧ n ≤ 9223372036854775807 := by
  unfold cntQ at h
  cases e : tupQ l with
  | none => rw [e] at h; cases h
  | some p =>
    obtain ⟨T', r'⟩ := p
    rw [e] at h
    cases e2 : intQ r' with
    | none => simp only [e2] at h; cases h
    | some q =>
      obtain ⟨y, r2⟩ := q
      simp only [e2] at h
      injection h with h
      injection h with ha hb
      injection ha with ha1 ha2
      obtain ⟨h1, h2, h3⟩ := tupQ_is e
      obtain ⟨h4, h5⟩ := intQ_is e2
      subst ha1 ha2 hb
      exact ⟨by rw [h1, h4, List.append_assoc], h2, h3, h5⟩
end Go.Proofs.Ythnpiafpkllbpaa

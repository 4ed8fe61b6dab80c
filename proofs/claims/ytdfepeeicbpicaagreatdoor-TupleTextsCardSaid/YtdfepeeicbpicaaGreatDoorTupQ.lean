/-
  Plain facts on rows without neighbours that are alike. No program is named here.
-/
import Derived.Test.YtdfepeeicbpicaaGreatDoorTupP
namespace Go.Proofs.YtdfepeeicbpicaaGreatDoor
open Go

section
variable {α : Type} (q : α → α → Bool)
/-- What is kept behind p: each that is not alike to the one ahead of it. -/
def keptFrom : α → List α → List α
  | _, [] => []
  | p, x :: r => if q x p = true then keptFrom x r else x :: keptFrom x r
/-- Each run of alike neighbours, once. -/
def dedup : List α → List α
  | [] => []
  | x :: r => x :: keptFrom q x r
theorem keptFrom_snoc : ∀ (a : List α) (p x : α), keptFrom q p (a ++ [x]) = keptFrom q p a ++ (if q x ((p :: a).getLast (by simp)) = true then [] else [x])
  | [], p, x => by
    simp only [List.nil_append, keptFrom, List.getLast_singleton]
    first | done | rfl | (split <;> rfl)
  | y :: a, p, x => by
    have ih := keptFrom_snoc a y x
    have e : (p :: y :: a).getLast (by simp) = (y :: a).getLast (by simp) := List.getLast_cons (by simp)
    rw [e]
    simp only [List.cons_append, keptFrom]
    split
    · exact ih
    · rw [ih]; rfl
theorem dedup_take {l : List α} {k : Nat} (h1 : 1 ≤ k) (h : k < l.length) : dedup q (l.take (k + 1)) = dedup q (l.take k) ++ (if q l[k] (l[k - 1]'(by omega)) = true then [] else [l[k]]) := by
  cases l with
  | nil => simp at h
  | cons y r =>
    obtain ⟨j, rfl⟩ : ∃ j, k = j + 1 := ⟨k - 1, by omega⟩
    have hj : j < r.length := by simpa using h
    have e1 : (y :: r).take (j + 1 + 1) = y :: (r.take j ++ [r[j]]) := by
      rw [List.take_succ_cons, List.take_succ_eq_append_getElem hj]
    have e2 : (y :: r).take (j + 1) = y :: r.take j := List.take_succ_cons
    rw [e1, e2]
    simp only [dedup, List.getElem_cons_succ, Nat.add_sub_cancel]
    rw [keptFrom_snoc]
    have e3 : (y :: r.take j).getLast (by simp) = (y :: r)[j]'(by simp; omega) := by
      rw [List.getLast_eq_getElem]
      simp only [List.length_cons, Nat.add_sub_cancel, List.length_take]
      have : min j r.length = j := by omega
      simp only [this]
      cases j with
      | zero => rfl
      | succ i => simp
    rw [e3]
    rfl
theorem dedup_one (l : List α) : dedup q (l.take 1) = l.take 1 := by cases l <;> rfl
theorem dedup_short {l : List α} (h : l.length < 2) : dedup q l = l := by
  match l, h with
  | [], _ => rfl
  | [_], _ => rfl
theorem keptFrom_len : ∀ (l : List α) (p : α), (keptFrom q p l).length ≤ l.length
  | [], _ => Nat.le_refl _
  | x :: r, p => by
    have := keptFrom_len r x
    unfold keptFrom
    split
    · simp; omega
    · simp; omega
theorem dedup_len (l : List α) : (dedup q l).length ≤ l.length := by
  cases l with
  | nil => exact Nat.le_refl _
  | cons x r => have := keptFrom_len q r x; simp [dedup]; omega
theorem dedup_keep {l : List α} {k : Nat} (h1 : 1 ≤ k) (h : k < l.length) (hk : dedup q (l.take k) = l.take k) (hq : q l[k] (l[k - 1]'(by omega)) = false) : dedup q (l.take (k + 1)) = l.take (k + 1) := by
  rw [dedup_take q h1 h, hk, if_neg (by rw [hq]; decide), List.take_succ_eq_append_getElem h]

/-- The second loop's state: m places looked at, those kept lie in front, from m - 1 on all lies as it lay. -/
structure DedInv {β : Type} (f : α → β) (l : List α) (m k : Nat) (C : List β) : Prop where
  len : C.length = l.length
  m1 : 1 ≤ m
  mle : m ≤ l.length
  klt : k < m
  kis : k = (dedup q (l.take m)).length
  low : C.take k = (dedup q (l.take m)).map f
  high : C.drop (m - 1) = (l.map f).drop (m - 1)
variable {q}
theorem DedInv.at {β : Type} {f : α → β} {l : List α} {m k : Nat} {C : List β} (h : DedInv q f l m k C) {j : Nat} (hj : m - 1 ≤ j) (hl : j < l.length) : C[j]? = some (f l[j]) := by
  have e := congrArg (fun z : List β => z[j - (m - 1)]?) h.high
  simp only [List.getElem?_drop] at e
  rw [show m - 1 + (j - (m - 1)) = j by omega] at e
  rw [e]
  simp [hl]
theorem DedInv.start {β : Type} {f : α → β} {l : List α} {k : Nat} (h1 : 1 ≤ k) (h : k < l.length) (hk : dedup q (l.take k) = l.take k) (hq : q l[k] (l[k - 1]'(by omega)) = true) : DedInv q f l (k + 1) k (l.map f) := by
  have e : dedup q (l.take (k + 1)) = l.take k := by rw [dedup_take q h1 h, hk, if_pos hq, List.append_nil]
  refine ⟨by simp, by omega, by omega, by omega, ?_, ?_, rfl⟩
  · rw [e, List.length_take]; omega
  · rw [e, List.map_take]
theorem DedInv.skip {β : Type} {f : α → β} {l : List α} {m k : Nat} {C : List β} (h : DedInv q f l m k C) (hm : m < l.length) (hq : q l[m] (l[m - 1]'(by omega)) = true) : DedInv q f l (m + 1) k C := by
  have e : dedup q (l.take (m + 1)) = dedup q (l.take m) := by rw [dedup_take q h.m1 hm, if_pos hq, List.append_nil]
  refine ⟨h.len, by omega, by omega, by have := h.klt; omega, by rw [e]; exact h.kis, by rw [e]; exact h.low, ?_⟩
  have h1 := congrArg (fun z : List β => z.drop 1) h.high
  simp only [List.drop_drop] at h1
  have := h.m1
  rw [show m - 1 + 1 = m by omega] at h1
  exact h1
theorem DedInv.keep {β : Type} {f : α → β} {l : List α} {m k : Nat} {C : List β} (h : DedInv q f l m k C) (hm : m < l.length) (hq : q l[m] (l[m - 1]'(by omega)) = false) : DedInv q f l (m + 1) (k + 1) (C.set k (f l[m])) := by
  have e : dedup q (l.take (m + 1)) = dedup q (l.take m) ++ [l[m]] := by rw [dedup_take q h.m1 hm, if_neg (by rw [hq]; decide)]
  have hk := h.klt
  have hlen := h.len
  refine ⟨by simpa using h.len, by omega, by omega, by omega, ?_, ?_, ?_⟩
  · rw [e, List.length_append, ← h.kis]; rfl
  · rw [e, List.map_append, ← h.low, List.take_succ_eq_append_getElem (by simp; omega)]
    simp [List.take_set_of_le]
  · have h1 := congrArg (fun z : List β => z.drop 1) h.high
    simp only [List.drop_drop] at h1
    have := h.m1
    rw [show m - 1 + 1 = m by omega] at h1
    rw [Nat.add_sub_cancel, List.drop_set, if_pos (by omega)]
    exact h1
theorem DedInv.done {β : Type} {f : α → β} {l : List α} {k : Nat} {C : List β} (h : DedInv q f l l.length k C) : k = (dedup q l).length ∧ C.take k = (dedup q l).map f := by
  have h1 := h.kis
  have h2 := h.low
  rw [List.take_length] at h1 h2
  exact ⟨h1, h2⟩
end
end Go.Proofs.YtdfepeeicbpicaaGreatDoor

/-
  Plain facts on patterns: terms, bindings, what a pattern makes of a tuple; the bindings put in make a pattern that still matches. No program is named here.
-/
import Derived.Test.YtaogfgohchpnoaaDoorTupP
namespace Go.Proofs.YtaogfgohchpnoaaDoor
open Go

/-- A term: its kind, its name, its value. -/
structure Tm where
  k : Int
  nm : ByteArray
  v : V3
/-- A name bound to a value. -/
structure Bd where
  nm : ByteArray
  v : V3
def zeroV : V3 := ⟨0, 0, ⟨#[]⟩⟩
open Classical in
/-- The first value to which a name is bound. -/
noncomputable def findB : List Bd → ByteArray → Option V3
  | [], _ => none
  | b :: L, s => if b.nm = s then some b.v else findB L s
open Classical in
/-- The bindings that a pattern makes of a row of values, behind those that are there. -/
noncomputable def matchT : List Tm → List V3 → List Bd → Option (List Bd)
  | x :: p, t :: T, L =>
    if x.k = 2 then (if x.v = t then matchT p T L else none)
    else if x.k = 1 then (match findB L x.nm with | some u => if u = t then matchT p T L else none | none => matchT p T (L ++ [⟨x.nm, t⟩]))
    else matchT p T L
  | _, _, L => some L
theorem matchT_nil_left (T : List V3) (L : List Bd) : matchT [] T L = some L := by cases T <;> rfl
theorem matchT_nil (L : List Bd) : matchT [] [] L = some L := rfl
theorem findB_append (L M : List Bd) (s : ByteArray) {u : V3} (h : findB L s = some u) : findB (L ++ M) s = some u := by
  induction L with
  | nil => cases h
  | cons b L ih =>
    rw [List.cons_append, findB]
    rw [findB] at h
    split
    · rename_i e; rw [if_pos e] at h; exact h
    · rename_i e; rw [if_neg e] at h; exact ih h
theorem findB_snoc (L : List Bd) (b : Bd) (h : findB L b.nm = none) : findB (L ++ [b]) b.nm = some b.v := by
  induction L with
  | nil => rw [List.nil_append, findB, if_pos rfl]
  | cons c L ih =>
    rw [findB] at h
    rw [List.cons_append, findB]
    split
    · rename_i e; rw [if_pos e] at h; cases h
    · rename_i e; rw [if_neg e] at h; exact ih h
/-- What is bound stays bound; each variable of the pattern is bound to what stands in its place; each constant is what stands in its place. -/
theorem matchT_is : ∀ (p : List Tm) (T : List V3) (L L' : List Bd), p.length = T.length → matchT p T L = some L' →
    (∀ s u, findB L s = some u → findB L' s = some u) ∧ ∀ i (h : i < p.length) (h' : i < T.length), (p[i].k = 1 → findB L' p[i].nm = some T[i]) ∧ (p[i].k = 2 → p[i].v = T[i])
  | [], [], L, L' => fun _ h => by
    injection h with h
    subst h
    exact ⟨fun _ _ h => h, fun i hi => by simp at hi⟩
  | [], _ :: _, _, _ => fun h _ => by simp at h
  | _ :: _, [], _, _ => fun h _ => by simp at h
  | x :: p, t :: T, L, L' => fun hl h => by
    have hl' : p.length = T.length := by simpa using hl
    rw [matchT] at h
    by_cases h2 : x.k = 2
    · rw [if_pos h2] at h
      by_cases hv : x.v = t
      · rw [if_pos hv] at h
        obtain ⟨a, b⟩ := matchT_is p T L L' hl' h
        refine ⟨a, fun i hi hi' => ?_⟩
        cases i with
        | zero => exact ⟨fun h1 => absurd (h1.symm.trans h2) (by decide), fun _ => hv⟩
        | succ i => exact b i (by simpa using hi) (by simpa using hi')
      · rw [if_neg hv] at h; cases h
    · rw [if_neg h2] at h
      by_cases h1 : x.k = 1
      · rw [if_pos h1] at h
        cases e : findB L x.nm with
        | some u =>
          rw [e] at h
          simp only at h
          by_cases hu : u = t
          · rw [if_pos hu] at h
            obtain ⟨a, b⟩ := matchT_is p T L L' hl' h
            refine ⟨a, fun i hi hi' => ?_⟩
            cases i with
            | zero => exact ⟨fun _ => (a _ _ e).trans (by rw [hu]; rfl), fun h => absurd h h2⟩
            | succ i => exact b i (by simpa using hi) (by simpa using hi')
          · rw [if_neg hu] at h; cases h
        | none =>
          rw [e] at h
          simp only at h
          obtain ⟨a, b⟩ := matchT_is p T _ L' hl' h
          refine ⟨fun s u hs => a _ _ (findB_append _ _ _ hs), fun i hi hi' => ?_⟩
          cases i with
          | zero => exact ⟨fun _ => a _ _ (findB_snoc L ⟨x.nm, t⟩ e), fun h => absurd h h2⟩
          | succ i => exact b i (by simpa using hi) (by simpa using hi')
      · rw [if_neg h1] at h
        obtain ⟨a, b⟩ := matchT_is p T L L' hl' h
        refine ⟨a, fun i hi hi' => ?_⟩
        cases i with
        | zero => exact ⟨fun h => absurd h h1, fun h => absurd h h2⟩
        | succ i => exact b i (by simpa using hi) (by simpa using hi')
open Classical in
/-- The bindings put in the place of their variables. -/
noncomputable def putT (x : Tm) (t : V3) : Tm := if x.k = 1 then ⟨2, ⟨#[]⟩, t⟩ else x
noncomputable def putsT (p : List Tm) (T : List V3) : List Tm := List.zipWith putT p T
theorem putsT_len {p : List Tm} {T : List V3} (h : p.length = T.length) : (putsT p T).length = p.length := by unfold putsT; simp [h]
theorem putsT_match : ∀ (p : List Tm) (T : List V3) (L : List Bd), p.length = T.length → (∀ i (h : i < p.length) (h' : i < T.length), p[i].k = 2 → p[i].v = T[i]) → matchT (putsT p T) T L = some L
  | [], [], _ => fun _ _ => rfl
  | [], _ :: _, _ => fun h _ => by simp at h
  | _ :: _, [], _ => fun h _ => by simp at h
  | x :: p, t :: T, L => fun hl hc => by
    have ih := putsT_match p T L (by simpa using hl) (fun i h h' => hc (i + 1) (by simpa using h) (by simpa using h'))
    have h0 : x.k = 2 → x.v = t := hc 0 (by simp) (by simp)
    show matchT (putT x t :: putsT p T) (t :: T) L = some L
    rw [matchT]
    unfold putT
    by_cases h1 : x.k = 1
    · rw [if_pos h1, if_pos rfl, if_pos rfl]; exact ih
    · rw [if_neg h1]
      by_cases h2 : x.k = 2
      · rw [if_pos h2, if_pos (h0 h2)]; exact ih
      · rw [if_neg h2, if_neg h1]; exact ih
end Go.Proofs.YtaogfgohchpnoaaDoor

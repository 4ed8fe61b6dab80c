/-
  Several sources; contract of merge.least.
-/
import Derived.Test.YtcfnpbmkcdmafaaMgH
namespace Go.Proofs.Ytcfnpbmkcdmafaa
open Go Go.RowKit

/-- A source: its block, whether its head is taken, what is left. -/
abbrev SrcQ := Nat × Bool × List Th
/-- Blocks of Y, and those from n on that are below m. -/
def More (n m : Nat) (Y : Nat → Prop) : Nat → Prop := fun k => Y k ∨ (n ≤ k ∧ k < m)
/-- Several sources, apart from each other, all in blocks of Y. -/
def Srcs (Q : List SrcQ) (Y : Nat → Prop) (w : World) : Prop :=
  (∀ k, Y k → k < w.heap.size) ∧ ∃ F : Nat → Nat → Prop, (∀ i (h : i < Q.length), SrcAt Q[i].1 Q[i].2.1 (F i) Q[i].2.2 w) ∧ (∀ i j k, i < Q.length → j < Q.length → i ≠ j → F i k → ¬ F j k) ∧ (∀ i k, i < Q.length → F i k → Y k)
section
variable {Q : List SrcQ} {Y : Nat → Prop} {w w' : World}
theorem Srcs.inside (h : Srcs Q Y w) : ∀ k, Y k → k < w.heap.size := h.1
theorem Srcs.keep (h : Srcs Q Y w) (hs : w.heap.size ≤ w'.heap.size) (hb : ∀ x, Y x → w'.heap[x]? = w.heap[x]?) : Srcs Q Y w' := by
  obtain ⟨h0, F, h1, h2, h3⟩ := h
  exact ⟨fun k e => Nat.lt_of_lt_of_le (h0 k e) hs, F, fun i hi => (h1 i hi).keep hs (fun x e => hb x (h3 i x hi e)), h2, h3⟩
theorem Srcs.at_ (h : Srcs Q Y w) (i : Nat) (hi : i < Q.length) : ∃ Yi, SrcAt Q[i].1 Q[i].2.1 Yi Q[i].2.2 w ∧ (∀ k, Yi k → Y k) ∧
    ∀ w' tk' Y' L', Upd (allOf Yi) w w' → Sub w.heap.size Yi Y' → SrcAt Q[i].1 tk' Y' L' w' → Upd (allOf Y) w w' ∧ Srcs (Q.set i (Q[i].1, tk', L')) (More w.heap.size w'.heap.size Y) w' := by
  obtain ⟨h0, F, h1, h2, h3⟩ := h
  refine ⟨F i, h1 i hi, fun k e => h3 i k hi e, fun w' tk' Y' L' hu hs hsrc => ⟨hu.allMono fun k e => h3 i k hi e, ?_, fun j => if j = i then Y' else F j, ?_, ?_, ?_⟩⟩
  · rintro k (e | e)
    · exact Nat.lt_of_lt_of_le (h0 k e) hu.size
    · exact e.2
  · intro j hj
    rw [List.length_set] at hj
    by_cases e : j = i
    · subst e
      simp only [List.getElem_set_self, if_true]
      exact hsrc
    · simp only [List.getElem_set_ne (Ne.symm e), if_neg e]
      exact (h1 j hj).keep hu.size (fun x ex => hu.block x ((h1 j hj).inside x ex) (fun _ ei => h2 j i x hj hi e ex ei))
  · intro a b k ha hb hab ea eb
    rw [List.length_set] at ha hb
    by_cases e1 : a = i
    · subst e1
      rw [if_pos rfl] at ea
      rw [if_neg (Ne.symm hab)] at eb
      rcases hs k ea with h | h
      · exact h2 a b k ha hb hab h eb
      · exact absurd ((h1 b hb).inside k eb) (by omega)
    · rw [if_neg e1] at ea
      by_cases e2 : b = i
      · subst e2
        rw [if_pos rfl] at eb
        rcases hs k eb with h | h
        · exact h2 a b k ha hb hab ea h
        · exact absurd ((h1 a ha).inside k ea) (by omega)
      · rw [if_neg e2] at eb
        exact h2 a b k ha hb hab ea eb
  · intro j k hj e
    rw [List.length_set] at hj
    by_cases e1 : j = i
    · subst e1
      rw [if_pos rfl] at e
      rcases hs k e with h | h
      · exact .inl (h3 j k hj h)
      · exact .inr ⟨h, hsrc.inside k e⟩
    · rw [if_neg e1] at e
      exact .inl (h3 j k hj e)
end
/-- What is left of sources. -/
def leftQ (Q : List SrcQ) : List (List Th) := Q.map fun q => q.2.2
def pkQ (q : SrcQ) : SrcQ := (q.1, !q.2.2.isEmpty, q.2.2)
/-- Which head is kept behind the first n. -/
def bestN (Ls : List (List Th)) : Nat → Option (Nat × Th)
  | 0 => none
  | n + 1 => match Ls[n]? with
    | some (x :: _) => match bestN Ls n with
      | none => some (n, x)
      | some (m, y) => if cmpT2 x y < 0 then some (n, x) else some (m, y)
    | _ => bestN Ls n
theorem bestN_some {Ls : List (List Th)} : ∀ {n m : Nat} {y : Th}, bestN Ls n = some (m, y) → m < n ∧ ∃ r, Ls[m]? = some (y :: r)
  | 0, _, _, h => by cases h
  | n + 1, m, y, h => by
    unfold bestN at h
    split at h
    · rename_i x r hx
      split at h
      · cases h; exact ⟨by omega, r, hx⟩
      · rename_i m' y' hb
        split at h
        · cases h; exact ⟨by omega, r, hx⟩
        · cases h
          obtain ⟨h1, h2⟩ := bestN_some hb
          exact ⟨by omega, h2⟩
    · obtain ⟨h1, h2⟩ := bestN_some h
      exact ⟨by omega, h2⟩
/-- A slice value reads as pointers to these blocks; its block is one of S. -/
def PtrIn (S : Nat → Prop) (w : World) (v : Value) (ss : List Nat) : Prop :=
  ∃ p c, v = .slice p ss.length c ∧ ss.length ≤ c ∧ c ≤ maxLen ∧ (ss = [] ∨ ∃ b off, p = some ⟨b, off, none⟩ ∧ S b ∧ b < w.heap.size ∧ ∀ j (h : j < ss.length), w.cell? ⟨b, off + j, none⟩ = some (.pointer (some ⟨ss[j], 0, none⟩)))
theorem PtrIn.keep {S S' : Nat → Prop} {w w' : World} {v : Value} {ss : List Nat} (h : PtrIn S w v ss) (hs : w.heap.size ≤ w'.heap.size) (hS : ∀ k, S k → k < w.heap.size → S' k ∧ w'.heap[k]? = w.heap[k]?) : PtrIn S' w' v ss := by
  obtain ⟨p, c, rfl, h1, h2, h⟩ := h
  refine ⟨p, c, rfl, h1, h2, ?_⟩
  rcases h with h | ⟨b, off, rfl, hb, hl, h⟩
  · exact .inl h
  · obtain ⟨g1, g2⟩ := hS b hb hl
    exact .inr ⟨b, off, rfl, g1, by omega, fun j hj => (World.cell?_of_block (a := ⟨b, off + j, none⟩) g2).trans (h j hj)⟩
theorem PtrIn.row {S : Nat → Prop} {w : World} {p : Option Addr} {n c : Nat} {ss : List Nat} (h : PtrIn S w (.slice p n c) ss) (hs : ss ≠ []) : ∃ b off, p = some ⟨b, off, none⟩ ∧ S b ∧ b < w.heap.size ∧ ∀ j (h : j < ss.length), w.cell? ⟨b, off + j, none⟩ = some (.pointer (some ⟨ss[j], 0, none⟩)) := by
  obtain ⟨p', c', e, -, -, h⟩ := h
  injection e with e1 e2 e3
  subst e1
  rcases h with h | h
  · exact absurd h hs
  · exact h
abbrev cmpFn : Value := .func (.func 22) #[] #[]
/-- The pointer that least answers. -/
def bestV (ss : List Nat) : Option (Nat × Th) → Value
  | none => .pointer none
  | some (m, _) => .pointer (some ⟨ss.getD m 0, 0, none⟩)
/-- What least leaves. -/
def LeastEnd (Q : List SrcQ) (Y : Nat → Prop) (w : World) (e : Ending) (w' : World) : Prop :=
  e = .returned (bestV (Q.map (·.1)) (bestN (leftQ Q) Q.length)) ∧ Upd (allOf Y) w w' ∧ Srcs (Q.map pkQ) (More w.heap.size w'.heap.size Y) w'
/-- What the loop of least keeps. -/
def LsJ (Q : List SrcQ) (Y : Nat → Prop) (w : World) (n : Nat) (w' : World) : Prop :=
  Upd (allOf Y) w w' ∧ Srcs ((Q.take n).map pkQ ++ Q.drop n) (More w.heap.size w'.heap.size Y) w'
theorem LsJ.below {Q : List SrcQ} {Y : Nat → Prop} {w w1 w2 : World} {n : Nat} (h : LsJ Q Y w n w1) (hb : Below w1.heap.size w1 w2) : LsJ Q Y w n w2 := by
  obtain ⟨h1, h2⟩ := h
  refine ⟨h1.trans (Upd.of_below hb), ?_⟩
  have h3 := h2.keep (w' := w2) hb.size (fun x e => hb.block x (h2.inside x e))
  obtain ⟨g0, F, g1, g2, g3⟩ := h3
  refine ⟨fun k e => ?_, F, g1, g2, fun i k hi e => (g3 i k hi e).imp id (fun e => ⟨e.1, Nat.lt_of_lt_of_le e.2 hb.size⟩)⟩
  rcases e with e | e
  · exact g0 k (.inl e)
  · exact e.2
theorem LsJ.next {Q : List SrcQ} {Y : Nat → Prop} {w w1 : World} {n : Nat} (h : LsJ Q Y w n w1) (hn : n < Q.length) : ∃ Yi, SrcAt Q[n].1 Q[n].2.1 Yi Q[n].2.2 w1 ∧
    ∀ w' Y', Upd (allOf Yi) w1 w' → Sub w1.heap.size Yi Y' → SrcAt Q[n].1 (!Q[n].2.2.isEmpty) Y' Q[n].2.2 w' → LsJ Q Y w (n + 1) w' := by
  obtain ⟨h1, h2⟩ := h
  have hl : ((Q.take n).map pkQ).length = n := by rw [List.length_map, List.length_take]; omega
  have hd := List.drop_eq_getElem_cons hn
  have hi : n < ((Q.take n).map pkQ ++ Q.drop n).length := by rw [List.length_append, hl, List.length_drop]; omega
  have hq : ((Q.take n).map pkQ ++ Q.drop n)[n] = Q[n] := by
    rw [List.getElem_append_right (by omega)]
    simp only [hl, Nat.sub_self, List.getElem_drop, Nat.add_zero]
  obtain ⟨Yi, g1, g2, g3⟩ := h2.at_ n hi
  rw [hq] at g1 g3
  refine ⟨Yi, g1, fun w' Y' hu hs hsrc => ?_⟩
  obtain ⟨k1, k2⟩ := g3 w' _ Y' _ hu hs hsrc
  have hset : ((Q.take n).map pkQ ++ Q.drop n).set n (Q[n].1, !Q[n].2.2.isEmpty, Q[n].2.2) = (Q.take (n + 1)).map pkQ ++ Q.drop (n + 1) := by
    rw [List.set_append_right _ _ (by omega), hl, Nat.sub_self, hd, List.set_cons_zero, List.take_succ_eq_append_getElem hn, List.map_append, List.append_assoc]
    rfl
  rw [hset] at k2
  have hmm : ∀ k, More w1.heap.size w'.heap.size (More w.heap.size w1.heap.size Y) k → More w.heap.size w'.heap.size Y k := fun k e => by
    rcases e with (e | e) | e
    · exact .inl e
    · exact .inr ⟨e.1, Nat.lt_of_lt_of_le e.2 hu.size⟩
    · exact .inr ⟨Nat.le_trans h1.size e.1, e.2⟩
  refine ⟨h1.then k1 (fun x _ hx e => ?_), ?_⟩
  · rcases e with e | e
    · exact e
    · omega
  · obtain ⟨q0, F, q1, q2, q3⟩ := k2
    refine ⟨fun k e => ?_, F, q1, q2, fun i k hi e => hmm k (q3 i k hi e)⟩
    rcases e with e | e
    · exact q0 k (.inl (.inl e))
    · exact e.2
/-- The head of a source that was looked at. -/
theorem LsJ.head {Q : List SrcQ} {Y : Nat → Prop} {w w1 : World} {k n m : Nat} {y : Th} (h : LsJ Q Y w n w1) (hb : bestN (leftQ Q) k = some (m, y)) (hkn : k ≤ n) (hn : n ≤ Q.length) : ∃ s, (Q.map (·.1)).getD m 0 = s ∧ s < w1.heap.size ∧ w1.cell? ⟨s, 1, none⟩ = some (.int .i8 y.1) ∧ w1.cell? ⟨s, 2, none⟩ = some (.int .i64 y.2) := by
  obtain ⟨hm, r, hr⟩ := bestN_some hb
  have hmQ : m < Q.length := by omega
  have hl : ((Q.take n).map pkQ).length = n := by rw [List.length_map, List.length_take]; omega
  obtain ⟨-, -, F, h1, -, -⟩ := h
  have h2 := h1 m (by rw [List.length_append, hl]; omega)
  have hq : ((Q.take n).map pkQ ++ Q.drop n)[m]'(by rw [List.length_append, hl]; omega) = pkQ Q[m] := by
    rw [List.getElem_append_left (by omega), List.getElem_map, List.getElem_take]
  rw [hq] at h2
  have hL : Q[m].2.2 = y :: r := by
    unfold leftQ at hr
    rw [List.getElem?_map, List.getElem?_eq_getElem hmQ] at hr
    simpa using hr
  have hin := h2.inside _ h2.has
  obtain ⟨-, -, x, c1, c2, h4⟩ := h2
  refine ⟨Q[m].1, by simp [List.getD, hmQ], hin, ?_, ?_⟩
  all_goals
    rcases h4 with ⟨e, -⟩ | ⟨-, r', e, -⟩
    · simp [pkQ, hL] at e
    · have e' : y :: r = x :: r' := hL.symm.trans e
      injection e' with e1 e2
      subst e1
      first | exact c1 | exact c2
end Go.Proofs.Ytcfnpbmkcdmafaa

/-
  Plain facts: rising rows of tuples, places in them, what is put in.
-/
import Derived.Test.YtaogfgohchpnoaaDoorTupP
import Derived.Test.YtaogfgohchpnoaaDoorTupQ
namespace Go.Proofs.YtaogfgohchpnoaaDoor

/-- Each tuple is below the next ones. -/
def Ris (L : List (List V3)) : Prop := L.Pairwise fun a b => cmpT a b < 0
theorem ris_head {a : List V3} {L : List (List V3)} (h : Ris (a :: L)) : ∀ x ∈ L, cmpT a x < 0 := (List.pairwise_cons.1 h).1
theorem ris_tail {a : List V3} {L : List (List V3)} (h : Ris (a :: L)) : Ris L := (List.pairwise_cons.1 h).2
theorem lt_irr (a : List V3) : ¬ cmpT a a < 0 := by rw [cmpT_self]; omega
theorem lt_asym {a b : List V3} (h : cmpT a b < 0) (h' : cmpT b a < 0) : False := by have := cmpT_neg a b; omega
theorem ris_eq : ∀ {A B : List (List V3)}, Ris A → Ris B → (∀ x, x ∈ A ↔ x ∈ B) → A = B
  | [], [], _, _, _ => rfl
  | [], b :: B, _, _, h => by have := (h b).2 List.mem_cons_self; cases this
  | a :: A, [], _, _, h => by have := (h a).1 List.mem_cons_self; cases this
  | a :: A, b :: B, hA, hB, h => by
    have hab : a = b := by
      rcases List.mem_cons.1 ((h a).1 List.mem_cons_self) with e | e
      · exact e
      · rcases List.mem_cons.1 ((h b).2 List.mem_cons_self) with e' | e'
        · exact e'.symm
        · exact (lt_asym (ris_head hA b e') (ris_head hB a e)).elim
    subst hab
    refine congrArg (a :: ·) (ris_eq (ris_tail hA) (ris_tail hB) fun x => ⟨fun hx => ?_, fun hx => ?_⟩)
    · rcases List.mem_cons.1 ((h x).1 (List.mem_cons_of_mem _ hx)) with e | e
      · exact (lt_irr x (e ▸ ris_head hA x hx)).elim
      · exact e
    · rcases List.mem_cons.1 ((h x).2 (List.mem_cons_of_mem _ hx)) with e | e
      · exact (lt_irr x (e ▸ ris_head hB x hx)).elim
      · exact e
/-- How many are below a tuple, and whether it is there. -/
def plN (L : List (List V3)) (T : List V3) : Nat := (L.filter fun x => decide (cmpT x T < 0)).length
def plI (L : List (List V3)) (T : List V3) : Bool := L.any fun x => cmpT x T == 0
theorem plN_le (L : List (List V3)) (T : List V3) : plN L T ≤ L.length := List.length_filter_le _ _
theorem plN_cons (a : List V3) (L : List (List V3)) (T : List V3) : plN (a :: L) T = (if cmpT a T < 0 then 1 else 0) + plN L T := by
  unfold plN
  by_cases h : cmpT a T < 0
  · simp [h]; omega
  · simp [h]
theorem plN_snoc (L : List (List V3)) (a T : List V3) : plN (L ++ [a]) T = plN L T + (if cmpT a T < 0 then 1 else 0) := by
  unfold plN
  by_cases h : cmpT a T < 0 <;> simp [h]
theorem plI_snoc (L : List (List V3)) (a T : List V3) : plI (L ++ [a]) T = (plI L T || cmpT a T == 0) := by simp [plI]
theorem plI_mem {L : List (List V3)} {T : List V3} : plI L T = true ↔ T ∈ L := by
  unfold plI
  rw [List.any_eq_true]
  refine ⟨?_, fun h => ⟨T, h, by simp [cmpT_self]⟩⟩
  rintro ⟨x, hx, e⟩
  rw [← (cmpT_zero x T).1 (by simpa using e)]
  exact hx
/-- A tuple is put into a rising row, once. -/
def insT (L : List (List V3)) (T : List V3) : List (List V3) := if plI L T = true then L else L.take (plN L T) ++ [T] ++ L.drop (plN L T)
theorem ins_mem (L : List (List V3)) (T x : List V3) : x ∈ insT L T ↔ x ∈ L ∨ x = T := by
  unfold insT
  split
  · rename_i h
    refine ⟨.inl, ?_⟩
    rintro (h' | rfl)
    · exact h'
    · exact plI_mem.1 h
  · rw [List.mem_append, List.mem_append, List.mem_singleton]
    refine ⟨?_, ?_⟩
    · rintro ((h | h) | h)
      · exact .inl (List.mem_of_mem_take h)
      · exact .inr h
      · exact .inl (List.mem_of_mem_drop h)
    · rintro (h | h)
      · have e := List.take_append_drop (plN L T) L
        rw [← e] at h
        rcases List.mem_append.1 h with h | h
        · exact .inl (.inl h)
        · exact .inr h
      · exact .inl (.inr h)
/-- In a rising row, those below a tuple come first. -/
theorem ris_split : ∀ {L : List (List V3)} {T : List V3}, Ris L → (∀ x ∈ L.take (plN L T), cmpT x T < 0) ∧ ∀ x ∈ L.drop (plN L T), ¬ cmpT x T < 0
  | [], _, _ => ⟨fun x h => (by simp at h), fun x h => (by simp at h)⟩
  | a :: L, T, h => by
    obtain ⟨i1, i2⟩ := ris_split (T := T) (ris_tail h)
    by_cases ha : cmpT a T < 0
    · rw [plN_cons, if_pos ha, Nat.add_comm, List.take_succ_cons, List.drop_succ_cons]
      refine ⟨fun x hx => ?_, i2⟩
      rcases List.mem_cons.1 hx with rfl | hx
      · exact ha
      · exact i1 x hx
    · have hn : ∀ x ∈ L, ¬ cmpT x T < 0 := fun x hx hlt => ha (cmpT_trans_lt a x T (ris_head h x hx) (by omega))
      have h0 : plN L T = 0 := by
        unfold plN
        rw [List.length_eq_zero_iff, List.filter_eq_nil_iff]
        intro x hx
        simpa using hn x hx
      rw [plN_cons, if_neg ha, h0]
      refine ⟨fun x hx => by simp at hx, fun x hx => ?_⟩
      rcases List.mem_cons.1 (by simpa using hx) with rfl | hx
      · exact ha
      · exact hn x hx
theorem ins_ris {L : List (List V3)} (T : List V3) (h : Ris L) : Ris (insT L T) := by
  unfold insT
  split
  · exact h
  · rename_i hni
    obtain ⟨i1, i2⟩ := ris_split (T := T) h
    have e := List.take_append_drop (plN L T) L
    have h' : Ris (L.take (plN L T) ++ L.drop (plN L T)) := by rw [e]; exact h
    obtain ⟨p1, p2, p3⟩ := List.pairwise_append.1 h'
    have gt : ∀ x ∈ L.drop (plN L T), cmpT T x < 0 := fun x hx => by
      have h1 := i2 x hx
      have h2 : cmpT x T ≠ 0 := fun e => hni (plI_mem.2 ((cmpT_zero x T).1 e ▸ List.mem_of_mem_drop hx))
      have := cmpT_neg x T
      omega
    refine List.pairwise_append.2 ⟨List.pairwise_append.2 ⟨p1, List.pairwise_singleton _ _, fun x hx y hy => ?_⟩, p2, fun x hx y hy => ?_⟩
    · obtain rfl := List.mem_singleton.1 hy
      exact i1 x hx
    · rcases List.mem_append.1 hx with hx | hx
      · exact p3 x hx y hy
      · obtain rfl := List.mem_singleton.1 hx
        exact gt y hy
/-- The document's own order: each put in, one after another. -/
def srtL (L : List (List V3)) : List (List V3) := L.foldl insT []
theorem srt_snoc (L : List (List V3)) (T : List V3) : srtL (L ++ [T]) = insT (srtL L) T := by simp [srtL]
theorem srt_fold (L : List (List V3)) : ∀ A, Ris A → Ris (L.foldl insT A) ∧ ∀ x, x ∈ L.foldl insT A ↔ x ∈ A ∨ x ∈ L := by
  induction L with
  | nil => exact fun A h => ⟨h, fun x => by simp⟩
  | cons a r ih =>
    intro A h
    obtain ⟨h1, h2⟩ := ih (insT A a) (ins_ris a h)
    refine ⟨h1, fun x => ?_⟩
    rw [List.foldl_cons, h2, ins_mem, List.mem_cons, or_assoc]
theorem srt_ris (L : List (List V3)) : Ris (srtL L) := (srt_fold L [] List.Pairwise.nil).1
theorem srt_mem (L : List (List V3)) (x : List V3) : x ∈ srtL L ↔ x ∈ L := by
  have := (srt_fold L [] List.Pairwise.nil).2 x
  simpa [srtL] using this
theorem ins_len (L : List (List V3)) (T : List V3) : (insT L T).length ≤ L.length + 1 := by
  unfold insT
  split
  · omega
  · simp
    omega
/-- Two rows, tuple by tuple. -/
def sameL : List (List V3) → List (List V3) → Bool
  | [], [] => true
  | a :: A, b :: B => cmpT a b == 0 && sameL A B
  | _, _ => false
theorem sameL_self : ∀ A : List (List V3), sameL A A = true
  | [] => rfl
  | a :: A => by simp [sameL, cmpT_self, sameL_self A]
end Go.Proofs.YtaogfgohchpnoaaDoor

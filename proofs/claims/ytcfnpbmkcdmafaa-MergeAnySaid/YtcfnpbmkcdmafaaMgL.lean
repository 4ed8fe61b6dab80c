/-
  Contract of merge.Merge.
-/
import Derived.Test.YtcfnpbmkcdmafaaMgK
import Derived.Deep.RegionWith
namespace Go.Proofs.Ytcfnpbmkcdmafaa
open Go Go.RowKit Go.Shelf

/-- A cursor that is handed in: one that was made, or nil. -/
abbrev CurC := Option Nat × List Th
def curO : Option Nat → Value
  | some b => curV b
  | none => .nilIface
def nextO : Option Nat → Value
  | some b => nextV b
  | none => .nilFunc
def CurAt (c : CurC) (F : Nat → Prop) (w : World) : Prop := match c.1 with
  | some b => MadeAt Tt b F c.2 w
  | none => c.2 = [] ∧ ∀ k, ¬ F k
theorem CurAt.inside {c : CurC} {F : Nat → Prop} {w : World} (h : CurAt c F w) : ∀ k, F k → k < w.heap.size := by
  obtain ⟨_ | b, L⟩ := c
  · exact fun k e => absurd e (h.2 k)
  · exact MadeAt.inside h
theorem CurAt.keep {c : CurC} {F : Nat → Prop} {w w' : World} (h : CurAt c F w) (hs : w.heap.size ≤ w'.heap.size) (hb : ∀ x, F x → w'.heap[x]? = w.heap[x]?) : CurAt c F w' := by
  obtain ⟨_ | b, L⟩ := c
  · exact h
  · exact MadeAt.keep h hs hb
/-- Several cursors, apart from each other. -/
def Curs (C : List CurC) (Y : Nat → Prop) (w : World) : Prop :=
  (∀ k, Y k → k < w.heap.size) ∧ ∃ F : Nat → Nat → Prop, (∀ i (h : i < C.length), CurAt C[i] (F i) w) ∧ (∀ i j k, i < C.length → j < C.length → i ≠ j → F i k → ¬ F j k) ∧ (∀ i k, i < C.length → F i k → Y k)
def CurIn (S : Nat → Prop) (w : World) (v : Value) (cs : List (Option Nat)) : Prop :=
  ∃ p c, v = .slice p cs.length c ∧ cs.length ≤ c ∧ c ≤ maxLen ∧ (cs = [] ∨ ∃ b off, p = some ⟨b, off, none⟩ ∧ S b ∧ b < w.heap.size ∧ ∀ j (h : j < cs.length), w.cell? ⟨b, off + j, none⟩ = some (curO cs[j]))
set_option maxRecDepth 100000 in
theorem sourceOf_o (c : Option Nat) (w : World) : Calls Try.prog 51 #[curO c] w fun e w' => e = .returned (.pointer (some ⟨w.heap.size + 1, 0, none⟩)) ∧ (w.alloc (.cells #[nextO c] 83)).alloc (.cells #[nextO c, .int .i8 0, .int .i64 0, .bool false] 115) = w' := by
  cases c with
  | none => exact sourceOf_nil w
  | some b => exact sourceOf_any b w
theorem src_none (w : World) : SrcAt (w.heap.size + 1) false (fun x => x = w.heap.size + 1) [] ((w.alloc (.cells #[.nilFunc] 83)).alloc (.cells #[.nilFunc, .int .i8 0, .int .i64 0, .bool false] 115)) := by
  have hn : ((w.alloc (.cells #[.nilFunc] 83)).alloc (.cells #[.nilFunc, .int .i8 0, .int .i64 0, .bool false] 115)).heap[w.heap.size + 1]? = some (.cells #[.nilFunc, .int .i8 0, .int .i64 0, .bool false] 115 (0, 0)) := by
    have := heap_alloc_new (w.alloc (.cells #[.nilFunc] 83)) (.cells #[.nilFunc, .int .i8 0, .int .i64 0, .bool false] 115)
    rwa [World.size_alloc] at this
  have hbk : Bk ((w.alloc (.cells #[.nilFunc] 83)).alloc (.cells #[.nilFunc, .int .i8 0, .int .i64 0, .bool false] 115)) (w.heap.size + 1) 115 4 := ⟨_, hn, rfl⟩
  exact ⟨hbk, cell_of_row _ _ 3 _ _ (0, 0) hn, (0, 0), cell_of_row _ _ 1 _ _ (0, 0) hn, cell_of_row _ _ 2 _ _ (0, 0) hn, .inl ⟨rfl, by rintro x rfl; simp, rfl, ⟨_, 4, by decide, hbk⟩, .inr ⟨cell_of_row _ _ 0 _ _ (0, 0) hn, rfl, .inr fun _ _ _ => trivial⟩⟩⟩
theorem src_o {c : CurC} {F : Nat → Prop} {w : World} (h : CurAt c F w) : SrcAt (w.heap.size + 1) false (fun x => x = w.heap.size + 1 ∨ F x) c.2 ((w.alloc (.cells #[nextO c.1] 83)).alloc (.cells #[nextO c.1, .int .i8 0, .int .i64 0, .bool false] 115)) := by
  obtain ⟨_ | b, L⟩ := c
  · obtain ⟨h1, h2⟩ := h
    have h1' : L = [] := h1
    subst h1'
    exact (src_none w).mono (fun b e => .inl e) (by rintro b (rfl | e); · simp
                                                    · exact absurd e (h2 b))
  · exact src_new h
/-- The first n cursors are sources, at blocks ss. -/
def MgS (C : List CurC) (n : Nat) (ss : List Nat) (Y0 : Nat → Prop) (z : Nat) (w : World) : Prop :=
  ss.length = n ∧ (∀ s ∈ ss, z + 2 ≤ s ∧ s < w.heap.size ∧ Bk w s 115 4) ∧ ∃ F : Nat → Nat → Prop,
    (∀ i s (h : i < C.length), ss[i]? = some s → SrcAt s false (F i) C[i].2 w) ∧ (∀ i (h : i < C.length), n ≤ i → CurAt C[i] (F i) w) ∧
    (∀ i j k, i < C.length → j < C.length → i ≠ j → F i k → ¬ F j k) ∧ (∀ i k, i < C.length → F i k → (Y0 k ∨ k ∈ ss) ∧ k < w.heap.size)
theorem MgS.step {C : List CurC} {n : Nat} {ss : List Nat} {Y0 : Nat → Prop} {z : Nat} {w w' : World} {ob : Option Nat} (h : MgS C n ss Y0 z w) (hn : n < C.length) (hz : z + 2 ≤ w.heap.size) (hY : ∀ k, Y0 k → k < z) (hob : ∀ k, ob = some k → z + 2 ≤ k ∧ k < w.heap.size ∧ k ∉ ss)
    (hs : ((w.alloc (.cells #[nextO C[n].1] 83)).alloc (.cells #[nextO C[n].1, .int .i8 0, .int .i64 0, .bool false] 115)).heap.size ≤ w'.heap.size)
    (hb : ∀ k, k < w.heap.size + 2 → k ≠ z + 1 → ob ≠ some k → w'.heap[k]? = ((w.alloc (.cells #[nextO C[n].1] 83)).alloc (.cells #[nextO C[n].1, .int .i8 0, .int .i64 0, .bool false] 115)).heap[k]?) :
    MgS C (n + 1) (ss ++ [w.heap.size + 1]) Y0 z w' := by
  obtain ⟨h1, h2, F, h3, h4, h5, h6⟩ := h
  simp only [World.size_alloc] at hs
  have old : ∀ k, k < w.heap.size → k ≠ z + 1 → ob ≠ some k → w'.heap[k]? = w.heap[k]? := fun k hk h1 h2 =>
    (hb k (by omega) h1 h2).trans ((Below.heap_alloc _ _ _ (by simp; omega)).trans (Below.heap_alloc _ _ _ (by omega)))
  have inF : ∀ i k, i < C.length → F i k → w'.heap[k]? = w.heap[k]? := fun i k hi e => by
    obtain ⟨a1, a2⟩ := h6 i k hi e
    refine old k a2 (fun e' => ?_) (fun e' => ?_)
    · rcases a1 with a1 | a1
      · have := hY k a1; omega
      · have := (h2 k a1).1; omega
    · obtain ⟨b1, -, b3⟩ := hob k e'
      rcases a1 with a1 | a1
      · have := hY k a1; omega
      · exact b3 a1
  have hnew := (src_o (h4 n hn (Nat.le_refl _))).keep (w' := w') (by simp only [World.size_alloc]; omega) (fun k e => by
    rcases e with rfl | e
    · exact hb _ (by omega) (by omega) (fun e' => by have := (hob _ e').2.1; omega)
    · refine (inF n k hn e).trans ((Below.heap_alloc _ _ _ (by have := (h6 n k hn e).2; simp; omega)).trans (Below.heap_alloc _ _ _ (by have := (h6 n k hn e).2; omega))).symm)
  refine ⟨by simp [h1], ?_, fun i => if i = n then (fun x => x = w.heap.size + 1 ∨ F n x) else F i, ?_, ?_, ?_, ?_⟩
  · intro s hs'
    rcases List.mem_append.1 hs' with e | e
    · obtain ⟨a1, a2, a3⟩ := h2 s e
      exact ⟨a1, by omega, a3.of_heap (old s a2 (by omega) (fun e' => (hob s e').2.2 e))⟩
    · rw [List.mem_singleton] at e
      subst e
      exact ⟨by omega, by omega, hnew.1⟩
  · intro i s hi hss
    by_cases e : i = n
    · subst e
      rw [List.getElem?_append_right (by omega), h1, Nat.sub_self] at hss
      cases hss
      simp only [if_true]
      exact hnew
    · simp only [if_neg e]
      have hlt : i < ss.length := by
        have := (List.getElem?_eq_some_iff.1 hss).1
        simp at this; omega
      rw [List.getElem?_append_left hlt] at hss
      exact (h3 i s hi hss).keep (by omega) (fun k e => inF i k hi e)
  · intro i hi hni
    have e : i ≠ n := by omega
    simp only [if_neg e]
    exact (h4 i hi (by omega)).keep (by omega) (fun k e => inF i k hi e)
  · intro i j k hi hj hij ei ej
    by_cases e1 : i = n
    · subst e1
      rw [if_pos rfl] at ei
      rw [if_neg (Ne.symm hij)] at ej
      rcases ei with rfl | ei
      · have := (h6 j _ hj ej).2; omega
      · exact h5 i j k hi hj hij ei ej
    · rw [if_neg e1] at ei
      by_cases e2 : j = n
      · subst e2
        rw [if_pos rfl] at ej
        rcases ej with rfl | ej
        · have := (h6 i _ hi ei).2; omega
        · exact h5 i j k hi hj hij ei ej
      · rw [if_neg e2] at ej
        exact h5 i j k hi hj hij ei ej
  · intro i k hi ei
    by_cases e1 : i = n
    · subst e1
      rw [if_pos rfl] at ei
      rcases ei with rfl | ei
      · exact ⟨.inr (by simp), by omega⟩
      · obtain ⟨a1, a2⟩ := h6 i k hi ei
        exact ⟨a1.imp_right fun e => List.mem_append_left _ e, by omega⟩
    · rw [if_neg e1] at ei
      obtain ⟨a1, a2⟩ := h6 i k hi ei
      exact ⟨a1.imp_right fun e => List.mem_append_left _ e, by omega⟩
theorem infoPs : (Try.prog.info? 87).map (fun i => (i.zero, i.size, i.bytes)) = some (some (.pointer none), 1, 8) := by kernel_rfl
def ptrV (s : Nat) : Value := .pointer (some ⟨s, 0, none⟩)
end Go.Proofs.Ytcfnpbmkcdmafaa

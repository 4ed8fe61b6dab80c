/-
  Contract of merge.Merge: the walk.
-/
import Derived.Test.YtcfnpbmkcdmafaaMgL
namespace Go.Proofs.Ytcfnpbmkcdmafaa
open Go Go.RowKit Go.Shelf

theorem eqlCmp (W : World) : (binOp .eql 42 cmpFn .nilFunc).run Try.prog W = .ok (.bool false) W := by kernel_rfl
/-- What the loop of Merge keeps. -/
def MgJ (C : List CurC) (Y0 : Nat → Prop) (w0 : World) (n : Nat) (v : Value) (wr : World) : Prop :=
  ∃ ss, MgS C n ss Y0 w0.heap.size wr ∧ wr.ownsRow (w0.heap.size + 2) 87 1 v n (ss.map ptrV) ∧
    wr.heap[w0.heap.size]? = some (.cells #[cmpFn] 42 (0, 0)) ∧ wr.heap[w0.heap.size + 1]? = some (.cells #[v] 86 (0, 0)) ∧ Below w0.heap.size w0 wr
theorem MgJ.off {C : List CurC} {Y0 : Nat → Prop} {w0 : World} {n : Nat} {v : Value} {wr : World} {ss : List Nat} (h : MgS C n ss Y0 w0.heap.size wr) (ho : wr.ownsRow (w0.heap.size + 2) 87 1 v n (ss.map ptrV)) : ∀ k, v.ownBlock = some k → w0.heap.size + 2 ≤ k ∧ k < wr.heap.size ∧ k ∉ ss := fun k hk => by
  obtain ⟨a1, a2⟩ := World.ownsRow.lt ho k hk
  refine ⟨a1, a2, fun e => ?_⟩
  obtain ⟨-, -, cs, hb, -⟩ := h.2.1 k e
  rcases ho.2 with ⟨rfl, -⟩ | ⟨g, cap, cur, rfl, -, hg, -⟩
  · cases hk
  · cases hk
    rw [hg] at hb
    simp only [Option.some.injEq, Obj.cells.injEq] at hb
    exact absurd hb.2.1 (by decide)
theorem MgJ.step {C : List CurC} {Y0 : Nat → Prop} {w0 wr w5 : World} {n gg cap : Nat} {v : Value} {ss : List Nat} (h1 : MgS C n ss Y0 w0.heap.size wr) (h2 : wr.ownsRow (w0.heap.size + 2) 87 1 v n (ss.map ptrV))
    (h3 : wr.heap[w0.heap.size]? = some (.cells #[cmpFn] 42 (0, 0))) (h4 : wr.heap[w0.heap.size + 1]? = some (.cells #[v] 86 (0, 0))) (h5 : Below w0.heap.size w0 wr) (hn : n < C.length) (hY : ∀ k, Y0 k → k < w0.heap.size) {o3 : Obj}
    (hr : w5.ownsRow (w0.heap.size + 2) 87 1 (.slice (some ⟨gg, 0, none⟩) (n + 1) cap) (n + 1) (ss.map ptrV ++ [ptrV (wr.heap.size + 1)]))
    (hg : (((wr.drew.alloc (.cells #[nextO C[n].1] 83)).alloc (.cells #[nextO C[n].1, .int .i8 0, .int .i64 0, .bool false] 115)).alloc o3).grownBy w5 v.ownBlock) :
    MgJ C Y0 w0 (n + 1) (.slice (some ⟨gg, 0, none⟩) (n + 1) cap) (w5.setCell ⟨w0.heap.size + 1, 0, none⟩ (.slice (some ⟨gg, 0, none⟩) (n + 1) cap)) := by
  have hz : w0.heap.size + 1 < wr.heap.size := (Array.getElem?_eq_some_iff.1 h4).1
  have hoff := MgJ.off h1 h2
  have hsz := hg.size
  simp only [World.size_alloc] at hsz
  have hsz' : wr.heap.size + 3 ≤ w5.heap.size := hsz
  have five : ∀ k, k < wr.heap.size + 2 → v.ownBlock ≠ some k → w5.heap[k]? = ((wr.alloc (.cells #[nextO C[n].1] 83)).alloc (.cells #[nextO C[n].1, .int .i8 0, .int .i64 0, .bool false] 115)).heap[k]? := fun k hk hne =>
    (hg.block k (by simp only [World.size_alloc]; have : wr.drew.heap.size = wr.heap.size := rfl; omega) (fun e => hne e.symm)).trans (Below.heap_alloc _ _ _ (by simp only [World.size_alloc]; have : wr.drew.heap.size = wr.heap.size := rfl; omega))
  have old : ∀ k, k < wr.heap.size → v.ownBlock ≠ some k → w5.heap[k]? = wr.heap[k]? := fun k hk hne => (five k (by omega) hne).trans ((Below.heap_alloc _ _ _ (by simp; omega)).trans (Below.heap_alloc _ _ _ (by omega)))
  have c1 := (old _ hz (fun e => by have := (hoff _ e).1; omega)).trans h4
  have six : ∀ k, k ≠ w0.heap.size + 1 → (w5.setCell ⟨w0.heap.size + 1, 0, none⟩ (.slice (some ⟨gg, 0, none⟩) (n + 1) cap)).heap[k]? = w5.heap[k]? := fun k hk => Below.heap_setCell _ _ _ _ hk
  refine ⟨ss ++ [wr.heap.size + 1], ?_, ?_, ?_, ?_, ?_⟩
  · refine h1.step hn (by omega) hY hoff (by simp only [World.size_alloc, World.setCell]; simp; omega) (fun k hk hne hob => (six k hne).trans (five k hk hob))
  · rw [List.map_append]
    exact ownsRow_setCell_below hr (show w0.heap.size + 1 < w0.heap.size + 2 by omega) _
  · exact (six _ (by omega)).trans ((old _ (by omega) (fun e => by have := (hoff _ e).1; omega)).trans h3)
  · rw [Go.heap_setCell_same _ _ _ _ _ _ c1]; rfl
  · have hb := ((((h5.drew.alloc h5.size (.cells #[nextO C[n].1] 83)).alloc (by simp only [World.size_alloc]; have := h5.size; have : wr.drew.heap.size = wr.heap.size := rfl; omega) (.cells #[nextO C[n].1, .int .i8 0, .int .i64 0, .bool false] 115)).alloc (by simp only [World.size_alloc]; have := h5.size; have : wr.drew.heap.size = wr.heap.size := rfl; omega) o3).grown hg (by simp only [World.size_alloc]; have := h5.size; have : wr.drew.heap.size = wr.heap.size := rfl; omega) (fun k e => by have := (hoff k e).1; omega))
    exact hb.setCell (by show w0.heap.size ≤ w0.heap.size + 1; omega) _
/-- What Merge answers. -/
def MergeEnd (C : List CurC) (Y0 : Nat → Prop) (w : World) (e : Ending) (w' : World) : Prop :=
  ∃ b Y, e = .returned (curV b) ∧ MadeAt Tt b Y (mergeL (C.map (·.2))) w' ∧ (∀ k, Y k → Y0 k ∨ w.heap.size ≤ k) ∧ Below w.heap.size w w'
/-- The closure's state, out of the loop's. -/
theorem MgJ.done {C : List CurC} {Y0 : Nat → Prop} {w0 wr : World} {v : Value} (h : MgJ C Y0 w0 C.length v wr) (hY : ∀ k, Y0 k → k < w0.heap.size) (hC : C.length ≤ 1000) :
    ∃ Y, MrJ w0.heap.size (w0.heap.size + 1) Y (mergeL (C.map (·.2))) wr ∧ ∀ k, Y k → Y0 k ∨ w0.heap.size ≤ k := by
  obtain ⟨ss, h1, h2, h3, h4, h5⟩ := h
  have hoff := MgJ.off h1 h2
  have hz : w0.heap.size + 1 < wr.heap.size := (Array.getElem?_eq_some_iff.1 h4).1
  obtain ⟨g1, g2, F, g3, -, g5, g6⟩ := h1
  obtain ⟨Q, hQ⟩ : ∃ Q : List SrcQ, Q = (ss.zip C).map fun p => (p.1, false, p.2.2) := ⟨_, rfl⟩
  have hQl : Q.length = C.length := by rw [hQ]; simp [g1]
  have hQ1 : Q.map (·.1) = ss := by rw [hQ, List.map_map]; exact (List.map_fst_zip (by omega))
  have hQ2 : leftQ Q = C.map (·.2) := by
    rw [hQ]; unfold leftQ; rw [List.map_map]
    have : (ss.zip C).map (fun p => p.2.2) = ((ss.zip C).map Prod.snd).map (·.2) := by rw [List.map_map]; rfl
    exact this.trans (by rw [List.map_snd_zip (by omega)])
  have hQi : ∀ i (hi : i < Q.length), Q[i].2.1 = false ∧ ss[i]? = some Q[i].1 ∧ Q[i].2.2 = (C[i]'(by omega)).2 := fun i hi => by
    subst hQ
    simp at hi ⊢
  refine ⟨fun k => k = w0.heap.size ∨ k = w0.heap.size + 1 ∨ v.ownBlock = some k ∨ ((Y0 k ∨ k ∈ ss) ∧ k < wr.heap.size), ⟨?_, .inl rfl, .inr (.inl rfl), cell_of_row _ _ 0 _ _ (0, 0) h3, v, Q, fun k => (Y0 k ∨ k ∈ ss) ∧ k < wr.heap.size, cell_of_row _ _ 0 _ _ (0, 0) h4, ?_, ⟨fun k e => e.2, F, ?_, ?_, ?_⟩, ?_, by rw [hQ2], by omega⟩, ?_⟩
  · rintro k (rfl | rfl | e | e)
    · omega
    · exact hz
    · exact (hoff k e).2.1
    · exact e.2
  · rw [hQ1]
    rcases Nat.eq_zero_or_pos C.length with h0 | h0
    · have e0 : ss = [] := List.eq_nil_of_length_eq_zero (by omega)
      subst e0
      rcases h2.2 with ⟨rfl, -⟩ | ⟨g, cap, cur, rfl, -, -, hnc, hcm, -⟩
      · exact ⟨none, 0, by rw [List.length_nil], by simp, by simp, .inl rfl⟩
      · exact ⟨_, cap, by rw [List.length_nil, h0], by simp, hcm, .inl rfl⟩
    · obtain ⟨g, cap, rfl, -, hg⟩ := World.ownsRow.form h2 h0
      have hcap : C.length ≤ cap ∧ cap ≤ maxLen := by
        rcases h2.2 with ⟨e, -⟩ | ⟨g', cap', cur, e, -, -, hnc, hcm, -⟩
        · cases e
        · cases e; exact ⟨hnc, hcm⟩
      refine ⟨_, cap, by rw [g1], by omega, hcap.2, .inr ⟨g, 0, rfl, ⟨.inr (.inr (.inl rfl)), fun e => ?_⟩, hg, fun j hj => ?_⟩⟩
      · obtain ⟨a1, -, a3⟩ := hoff g rfl
        rcases e.1 with e | e
        · have := hY g e; omega
        · exact a3 e
      · have hc := World.ownsRow.cells h2 (g := g) rfl j (ptrV ss[j]) (by rw [List.getElem?_map, List.getElem?_eq_getElem hj]; rfl)
        rw [addr_add] at hc
        exact hc
  · intro i hi
    obtain ⟨e1, e2, e3⟩ := hQi i hi
    rw [e1, e3]
    exact g3 i _ (by omega) e2
  · intro i j k hi hj
    exact g5 i j k (by omega) (by omega)
  · intro i k hi e
    exact g6 i k (by omega) e
  · rintro k ⟨e, hk⟩
    refine ⟨.inr (.inr (.inr ⟨e, hk⟩)), fun e' => ?_, fun e' => ?_⟩
    all_goals
      rcases e with e | e
      · have := hY k e; omega
      · have := (g2 k e).1; omega
  · rintro k (rfl | rfl | e | e)
    · exact .inr (Nat.le_refl _)
    · exact .inr (by omega)
    · exact .inr (by have := (hoff k e).1; omega)
    · rcases e.1 with e | e
      · exact .inl e
      · exact .inr (by have := (g2 k e).1; omega)
end Go.Proofs.Ytcfnpbmkcdmafaa

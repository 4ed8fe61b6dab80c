/-
  Contract of merge.Merge at counted tuples.
-/
import Derived.Test.YtcfnpbmkcdmafaaMcLN
import Derived.Deep.RegionHeld3
namespace Go.Proofs.Ytcfnpbmkcdmafaa
section
open Go Go.RowKit Go.Shelf

/-- A cursor that is handed in. -/
abbrev CurK := Nat × List Ct
/-- Several cursors, apart from each other. -/
def CursC (n0 : Nat) (C : List CurK) (Y : Nat → Prop) (w : World) : Prop :=
  (∀ k, Y k → k < w.heap.size) ∧ ∃ F : Nat → Nat → Prop, (∀ i (h : i < C.length), MadeC n0 C[i].1 (F i) C[i].2 w) ∧ (∀ i j k, i < C.length → j < C.length → i ≠ j → F i k → ¬ F j k) ∧ (∀ i k, i < C.length → F i k → Y k)
def CurInC (S : Nat → Prop) (w : World) (v : Value) (cs : List Nat) : Prop :=
  ∃ p c, v = .slice p cs.length c ∧ cs.length ≤ c ∧ c ≤ maxLen ∧ (cs = [] ∨ ∃ b off, p = some ⟨b, off, none⟩ ∧ S b ∧ b < w.heap.size ∧ ∀ j (h : j < cs.length), w.cell? ⟨b, off + j, none⟩ = some (curVC cs[j]))
/-- The first n cursors are sources, at blocks ss. -/
def MgSC (n0 : Nat) (C : List CurK) (n : Nat) (ss : List Nat) (Y0 : Nat → Prop) (z : Nat) (w : World) : Prop :=
  ss.length = n ∧ (∀ s ∈ ss, z + 2 ≤ s ∧ s < w.heap.size ∧ Bk w s 126 4) ∧ ∃ F : Nat → Nat → Prop,
    (∀ i s (h : i < C.length), ss[i]? = some s → SrcC n0 s false (F i) C[i].2 w) ∧ (∀ i (h : i < C.length), n ≤ i → MadeC n0 C[i].1 (F i) C[i].2 w) ∧
    (∀ i j k, i < C.length → j < C.length → i ≠ j → F i k → ¬ F j k) ∧ (∀ i k, i < C.length → F i k → (Y0 k ∨ k ∈ ss) ∧ k < w.heap.size)
theorem MgSC.step {n0 : Nat} {C : List CurK} {n : Nat} {ss : List Nat} {Y0 : Nat → Prop} {z : Nat} {w w' : World} {ob : Option Nat} (h : MgSC n0 C n ss Y0 z w) (hn0 : n0 ≤ z) (hn : n < C.length) (hz : z + 2 ≤ w.heap.size) (hY : ∀ k, Y0 k → k < z) (hob : ∀ k, ob = some k → z + 2 ≤ k ∧ k < w.heap.size ∧ k ∉ ss)
    (hs : ((w.alloc (.cells #[nextVC C[n].1] 122)).alloc (.cells #[nextVC C[n].1, .slice none 0 0, .int .i64 0, .bool false] 126)).heap.size ≤ w'.heap.size)
    (hb : ∀ k, k < w.heap.size + 2 → k ≠ z + 1 → ob ≠ some k → w'.heap[k]? = ((w.alloc (.cells #[nextVC C[n].1] 122)).alloc (.cells #[nextVC C[n].1, .slice none 0 0, .int .i64 0, .bool false] 126)).heap[k]?) :
    MgSC n0 C (n + 1) (ss ++ [w.heap.size + 1]) Y0 z w' := by
  obtain ⟨h1, h2, F, h3, h4, h5, h6⟩ := h
  simp only [World.size_alloc] at hs
  have old : ∀ k, k < w.heap.size → k ≠ z + 1 → ob ≠ some k → w'.heap[k]? = w.heap[k]? := fun k hk h1 h2 =>
    (hb k (by omega) h1 h2).trans ((Below.heap_alloc _ _ _ (by simp; omega)).trans (Below.heap_alloc _ _ _ (by omega)))
  have inF : ∀ i k, i < C.length → F i k → w'.heap[k]? = w.heap[k]? := fun i k hi e => by
    obtain ⟨a1, a2⟩ := h6 i k hi e
    refine old k a2 (fun e' => ?_) (fun e' => ?_)
    · rcases a1 with a1 | a1
      · have := hY k a1; omega
      · have := (h2 k a1).1; omega
    · obtain ⟨b1, -, b3⟩ := hob k e'
      rcases a1 with a1 | a1
      · have := hY k a1; omega
      · exact b3 a1
  have inF' : ∀ i k, i < C.length → (F i k ∨ k < n0) → w'.heap[k]? = w.heap[k]? := fun i k hi e => by
    rcases e with e | e
    · exact inF i k hi e
    · exact old k (by omega) (by omega) (fun e' => by have := (hob k e').1; omega)
  have hnew := (src_newC (h4 n hn (Nat.le_refl _))).keep (w' := w') (by simp only [World.size_alloc]; omega) (fun k e => by
    rcases e with (rfl | e) | e
    rotate_left 2
    · exact hb k (by omega) (by omega) (fun e' => by have := (hob k e').1; omega)
    · exact hb _ (by omega) (by omega) (fun e' => by have := (hob _ e').2.1; omega)
    · refine (inF n k hn e).trans ((Below.heap_alloc _ _ _ (by have := (h6 n k hn e).2; simp; omega)).trans (Below.heap_alloc _ _ _ (by have := (h6 n k hn e).2; omega))).symm)
  refine ⟨by simp [h1], ?_, fun i => if i = n then (fun x => x = w.heap.size + 1 ∨ F n x) else F i, ?_, ?_, ?_, ?_⟩
  · intro s hs'
    rcases List.mem_append.1 hs' with e | e
    · obtain ⟨a1, a2, a3⟩ := h2 s e
      exact ⟨a1, by omega, a3.of_heap (old s a2 (by omega) (fun e' => (hob s e').2.2 e))⟩
    · rw [List.mem_singleton] at e
      subst e
      exact ⟨by omega, by omega, hnew.2.2.2.1⟩
  · intro i s hi hss
    by_cases e : i = n
    · subst e
      rw [List.getElem?_append_right (by omega), h1, Nat.sub_self] at hss
      cases hss
      simp only [if_true]
      exact hnew
    · simp only [if_neg e]
      have hlt : i < ss.length := by
        have := (List.getElem?_eq_some_iff.1 hss).1
        simp at this; omega
      rw [List.getElem?_append_left hlt] at hss
      exact (h3 i s hi hss).keep (by omega) (fun k e => inF' i k hi e)
  · intro i hi hni
    have e : i ≠ n := by omega
    simp only [if_neg e]
    exact (h4 i hi (by omega)).keep (by omega) (fun k e => inF' i k hi e)
  · intro i j k hi hj hij ei ej
    by_cases e1 : i = n
    · subst e1
      rw [if_pos rfl] at ei
      rw [if_neg (Ne.symm hij)] at ej
      rcases ei with rfl | ei
      · have := (h6 j _ hj ej).2; omega
      · exact h5 i j k hi hj hij ei ej
    · rw [if_neg e1] at ei
      by_cases e2 : j = n
      · subst e2
        rw [if_pos rfl] at ej
        rcases ej with rfl | ej
        · have := (h6 i _ hi ei).2; omega
        · exact h5 i j k hi hj hij ei ej
      · rw [if_neg e2] at ej
        exact h5 i j k hi hj hij ei ej
  · intro i k hi ei
    by_cases e1 : i = n
    · subst e1
      rw [if_pos rfl] at ei
      rcases ei with rfl | ei
      · exact ⟨.inr (by simp), by omega⟩
      · obtain ⟨a1, a2⟩ := h6 i k hi ei
        exact ⟨a1.imp_right fun e => List.mem_append_left _ e, by omega⟩
    · rw [if_neg e1] at ei
      obtain ⟨a1, a2⟩ := h6 i k hi ei
      exact ⟨a1.imp_right fun e => List.mem_append_left _ e, by omega⟩
theorem infoPsC : (Try.prog.info? 105).map (fun i => (i.zero, i.size, i.bytes)) = some (some (.pointer none), 1, 8) := by kernel_rfl

/-- What the loop of Merge keeps. -/
def MgJC (n0 : Nat) (C : List CurK) (Y0 : Nat → Prop) (w0 : World) (n : Nat) (v : Value) (wr : World) : Prop :=
  ∃ ss, MgSC n0 C n ss Y0 w0.heap.size wr ∧ wr.ownsRow (w0.heap.size + 2) 105 1 v n (ss.map ptrV) ∧
    wr.heap[w0.heap.size]? = some (.cells #[byFn] 108 (0, 0)) ∧ wr.heap[w0.heap.size + 1]? = some (.cells #[v] 127 (0, 0)) ∧ Below w0.heap.size w0 wr
theorem MgJC.off {n0 : Nat} {C : List CurK} {Y0 : Nat → Prop} {w0 : World} {n : Nat} {v : Value} {wr : World} {ss : List Nat} (h : MgSC n0 C n ss Y0 w0.heap.size wr) (ho : wr.ownsRow (w0.heap.size + 2) 105 1 v n (ss.map ptrV)) : ∀ k, v.ownBlock = some k → w0.heap.size + 2 ≤ k ∧ k < wr.heap.size ∧ k ∉ ss := fun k hk => by
  obtain ⟨a1, a2⟩ := World.ownsRow.lt ho k hk
  refine ⟨a1, a2, fun e => ?_⟩
  obtain ⟨-, -, cs, hb, -⟩ := h.2.1 k e
  rcases ho.2 with ⟨rfl, -⟩ | ⟨g, cap, cur, rfl, -, hg, -⟩
  · cases hk
  · cases hk
    rw [hg] at hb
    simp only [Option.some.injEq, Obj.cells.injEq] at hb
    exact absurd hb.2.1 (by decide)
theorem MgJC.step {n0 : Nat} {C : List CurK} {Y0 : Nat → Prop} {w0 wr w5 : World} {n gg cap : Nat} {v : Value} {ss : List Nat} (h1 : MgSC n0 C n ss Y0 w0.heap.size wr) (h2 : wr.ownsRow (w0.heap.size + 2) 105 1 v n (ss.map ptrV))
    (h3 : wr.heap[w0.heap.size]? = some (.cells #[byFn] 108 (0, 0))) (h4 : wr.heap[w0.heap.size + 1]? = some (.cells #[v] 127 (0, 0))) (h5 : Below w0.heap.size w0 wr) (hn0 : n0 ≤ w0.heap.size) (hn : n < C.length) (hY : ∀ k, Y0 k → k < w0.heap.size) {o3 : Obj}
    (hr : w5.ownsRow (w0.heap.size + 2) 105 1 (.slice (some ⟨gg, 0, none⟩) (n + 1) cap) (n + 1) (ss.map ptrV ++ [ptrV (wr.heap.size + 1)]))
    (hg : (((wr.drew.alloc (.cells #[nextVC C[n].1] 122)).alloc (.cells #[nextVC C[n].1, .slice none 0 0, .int .i64 0, .bool false] 126)).alloc o3).grownBy w5 v.ownBlock) :
    MgJC n0 C Y0 w0 (n + 1) (.slice (some ⟨gg, 0, none⟩) (n + 1) cap) (w5.setCell ⟨w0.heap.size + 1, 0, none⟩ (.slice (some ⟨gg, 0, none⟩) (n + 1) cap)) := by
  have hz : w0.heap.size + 1 < wr.heap.size := (Array.getElem?_eq_some_iff.1 h4).1
  have hoff := MgJC.off h1 h2
  have hsz := hg.size
  simp only [World.size_alloc] at hsz
  have hsz' : wr.heap.size + 3 ≤ w5.heap.size := hsz
  have five : ∀ k, k < wr.heap.size + 2 → v.ownBlock ≠ some k → w5.heap[k]? = ((wr.alloc (.cells #[nextVC C[n].1] 122)).alloc (.cells #[nextVC C[n].1, .slice none 0 0, .int .i64 0, .bool false] 126)).heap[k]? := fun k hk hne =>
    (hg.block k (by simp only [World.size_alloc]; have : wr.drew.heap.size = wr.heap.size := rfl; omega) (fun e => hne e.symm)).trans (Below.heap_alloc _ _ _ (by simp only [World.size_alloc]; have : wr.drew.heap.size = wr.heap.size := rfl; omega))
  have old : ∀ k, k < wr.heap.size → v.ownBlock ≠ some k → w5.heap[k]? = wr.heap[k]? := fun k hk hne => (five k (by omega) hne).trans ((Below.heap_alloc _ _ _ (by simp; omega)).trans (Below.heap_alloc _ _ _ (by omega)))
  have c1 := (old _ hz (fun e => by have := (hoff _ e).1; omega)).trans h4
  have six : ∀ k, k ≠ w0.heap.size + 1 → (w5.setCell ⟨w0.heap.size + 1, 0, none⟩ (.slice (some ⟨gg, 0, none⟩) (n + 1) cap)).heap[k]? = w5.heap[k]? := fun k hk => Below.heap_setCell _ _ _ _ hk
  refine ⟨ss ++ [wr.heap.size + 1], ?_, ?_, ?_, ?_, ?_⟩
  · refine h1.step hn0 hn (by omega) hY hoff (by simp only [World.size_alloc, World.setCell]; simp; omega) (fun k hk hne hob => (six k hne).trans (five k hk hob))
  · rw [List.map_append]
    exact ownsRow_setCell_below hr (show w0.heap.size + 1 < w0.heap.size + 2 by omega) _
  · exact (six _ (by omega)).trans ((old _ (by omega) (fun e => by have := (hoff _ e).1; omega)).trans h3)
  · rw [Go.heap_setCell_same _ _ _ _ _ _ c1]; rfl
  · have hb := ((((h5.drew.alloc h5.size (.cells #[nextVC C[n].1] 122)).alloc (by simp only [World.size_alloc]; have := h5.size; have : wr.drew.heap.size = wr.heap.size := rfl; omega) (.cells #[nextVC C[n].1, .slice none 0 0, .int .i64 0, .bool false] 126)).alloc (by simp only [World.size_alloc]; have := h5.size; have : wr.drew.heap.size = wr.heap.size := rfl; omega) o3).grown hg (by simp only [World.size_alloc]; have := h5.size; have : wr.drew.heap.size = wr.heap.size := rfl; omega) (fun k e => by have := (hoff k e).1; omega))
    exact hb.setCell (by show w0.heap.size ≤ w0.heap.size + 1; omega) _
/-- What Merge answers. -/
def MergeEndC (n0 : Nat) (C : List CurK) (Y0 : Nat → Prop) (w : World) (e : Ending) (w' : World) : Prop :=
  ∃ b Y, e = .returned (curVC b) ∧ MadeC n0 b Y (mergeLC (C.map (·.2))) w' ∧ (∀ k, Y k → Y0 k ∨ w.heap.size ≤ k) ∧ Below w.heap.size w w'
/-- The closure's state, out of the loop's. -/
theorem MgJC.done {n0 : Nat} {C : List CurK} {Y0 : Nat → Prop} {w0 wr : World} {v : Value} (h : MgJC n0 C Y0 w0 C.length v wr) (hn0 : n0 ≤ w0.heap.size) (hY : ∀ k, Y0 k → k < w0.heap.size) (hC : C.length ≤ 1000) :
    ∃ Y, MrC n0 w0.heap.size (w0.heap.size + 1) Y (mergeLC (C.map (·.2))) wr ∧ ∀ k, Y k → Y0 k ∨ w0.heap.size ≤ k := by
  obtain ⟨ss, h1, h2, h3, h4, h5⟩ := h
  have hoff := MgJC.off h1 h2
  have hz : w0.heap.size + 1 < wr.heap.size := (Array.getElem?_eq_some_iff.1 h4).1
  obtain ⟨g1, g2, F, g3, -, g5, g6⟩ := h1
  obtain ⟨Q, hQ⟩ : ∃ Q : List SrcQC, Q = (ss.zip C).map fun p => (p.1, false, p.2.2) := ⟨_, rfl⟩
  have hQl : Q.length = C.length := by rw [hQ]; simp [g1]
  have hQ1 : Q.map (·.1) = ss := by rw [hQ, List.map_map]; exact (List.map_fst_zip (by omega))
  have hQ2 : leftC Q = C.map (·.2) := by
    rw [hQ]; unfold leftC; rw [List.map_map]
    have : (ss.zip C).map (fun p => p.2.2) = ((ss.zip C).map Prod.snd).map (·.2) := by rw [List.map_map]; rfl
    exact this.trans (by rw [List.map_snd_zip (by omega)])
  have hQi : ∀ i (hi : i < Q.length), Q[i].2.1 = false ∧ ss[i]? = some Q[i].1 ∧ Q[i].2.2 = (C[i]'(by omega)).2 := fun i hi => by
    subst hQ
    simp at hi ⊢
  have hz5 := h5.size
  have hsrc : ∀ i, i < Q.length → ∀ k, F i k → n0 ≤ k ∧ k < wr.heap.size := fun i hi k e => by
    obtain ⟨-, e2, -⟩ := hQi i hi
    exact (g3 i _ (by omega) e2).inside k e
  refine ⟨fun k => k = w0.heap.size ∨ k = w0.heap.size + 1 ∨ v.ownBlock = some k ∨ UnF Q.length F k, ⟨?_, .inl rfl, .inr (.inl rfl), cell_of_row _ _ 0 _ _ (0, 0) h3, v, Q, F, cell_of_row _ _ 0 _ _ (0, 0) h4, ?_, ⟨by omega, ?_, ?_⟩, ?_, by rw [hQ2], by omega⟩, ?_⟩
  · rintro k (rfl | rfl | e | ⟨i, hi, e⟩)
    · omega
    · omega
    · have := hoff k e; omega
    · exact hsrc i hi k e
  · rw [hQ1]
    rcases Nat.eq_zero_or_pos C.length with h0 | h0
    · have e0 : ss = [] := List.eq_nil_of_length_eq_zero (by omega)
      subst e0
      rcases h2.2 with ⟨rfl, -⟩ | ⟨g, cap, cur, rfl, -, -, hnc, hcm, -⟩
      · exact ⟨none, 0, by rw [List.length_nil], by simp, by simp, .inl rfl⟩
      · exact ⟨_, cap, by rw [List.length_nil, h0], by simp, hcm, .inl rfl⟩
    · obtain ⟨g, cap, rfl, -, hg⟩ := World.ownsRow.form h2 h0
      have hcap : C.length ≤ cap ∧ cap ≤ maxLen := by
        rcases h2.2 with ⟨e, -⟩ | ⟨g', cap', cur, e, -, -, hnc, hcm, -⟩
        · cases e
        · cases e; exact ⟨hnc, hcm⟩
      refine ⟨_, cap, by rw [g1], by omega, hcap.2, .inr ⟨g, 0, rfl, ⟨.inr (.inr (.inl rfl)), fun e => ?_⟩, hg, fun j hj => ?_⟩⟩
      · obtain ⟨a1, -, a3⟩ := hoff g rfl
        obtain ⟨i, hi, e⟩ := e
        rcases (g6 i g (by omega) e).1 with e | e
        · have := hY g e; omega
        · exact a3 e
      · have hc := World.ownsRow.cells h2 (g := g) rfl j (ptrV ss[j]) (by rw [List.getElem?_map, List.getElem?_eq_getElem hj]; rfl)
        rw [addr_add] at hc
        exact hc
  · intro i hi
    obtain ⟨e1, e2, e3⟩ := hQi i hi
    rw [e1, e3]
    exact g3 i _ (by omega) e2
  · intro i j k hi hj
    exact g5 i j k (by omega) (by omega)
  · rintro k ⟨i, hi, e⟩
    refine ⟨.inr (.inr (.inr ⟨i, hi, e⟩)), fun e' => ?_, fun e' => ?_⟩
    all_goals
      rcases (g6 i k (by omega) e).1 with e | e
      · have := hY k e; omega
      · have := (g2 k e).1; omega
  · rintro k (rfl | rfl | e | ⟨i, hi, e⟩)
    · exact .inr (Nat.le_refl _)
    · exact .inr (by omega)
    · exact .inr (by have := (hoff k e).1; omega)
    · rcases (g6 i k (by omega) e).1 with e | e
      · exact .inl e
      · exact .inr (by have := (g2 k e).1; omega)
end
section
open Go Go.RowKit Go.Shelf

set_option maxRecDepth 100000 in
set_option maxHeartbeats 4000000 in
theorem merge_anyC {n0 : Nat} {C : List CurK} {Y0 S : Nat → Prop} {w : World} {v : Value} (hn0 : n0 ≤ w.heap.size) (h : CursC n0 C Y0 w) (hv : CurInC S w v (C.map (·.1))) (hC : C.length ≤ 1000) :
    Calls Try.prog 67 #[byFn, v] w (MergeEndC n0 C Y0 w) := by
  have hmf : ∀ (fn : Fn) (first cap : Array Value) (w : World), (Instr.makeFunc fn first cap).run Try.prog w = .ok (.func fn first cap) w := fun _ _ _ _ => rfl
  have q1 := eqlByC
  have HY := Lib.hid h.1
  have HN0 := Lib.hid hn0
  clear hn0
  have HC := Lib.hid hC
  have H0 : Hid (MgJC n0 C Y0 w 0 (.slice none 0 0) ((w.alloc (.cells #[byFn] 108)).alloc (.cells #[.slice none 0 0] 127))) := Lib.hid (by
    obtain ⟨a1, F, a2, a3, a4⟩ := h
    have hb : Below w.heap.size w ((w.alloc (.cells #[byFn] 108)).alloc (.cells #[.slice none 0 0] 127)) := ((Below.refl _ _).alloc (Nat.le_refl _) _).alloc (by simp) _
    refine ⟨[], ⟨rfl, fun s e => (by cases e), F, fun i s _ e => (by simp at e), fun i hi _ => (a2 i hi).keep hb.size (fun x e => hb.block x ((a2 i hi).lt x e)), a3, fun i k hi e => ⟨.inl (a4 i k hi e), Nat.lt_of_lt_of_le ((a2 i hi).inside k e).2 hb.size⟩⟩, World.ownsRow_nil _ _ _ _, ?_, ?_, hb⟩
    · exact (Below.heap_alloc _ _ _ (by simp)).trans (heap_alloc_new w _)
    · have := heap_alloc_new (w.alloc (.cells #[byFn] 108)) (.cells #[.slice none 0 0] 127)
      rwa [World.size_alloc] at this)
  obtain ⟨p, c, rfl, hc1, hc2, hrow⟩ := hv
  rw [List.length_map] at hc1 ⊢
  have HR := Lib.hid hrow
  clear h hrow
  obtain ⟨i0, hi, hz0, hz1, hz2⟩ := info_parts infoPsC
  go_enter Try.func67, Try.ntmps67
  go_wp2_with fail
  go_loopw [13] (fun i wr => ∃ n v, n ≤ C.length ∧ i = .int .i64 (n : Nat) ∧ Hid (MgJC n0 C Y0 w n v wr)) (fun i _ => C.length - (intOf i).toNat)
  case atStart => exact ⟨0, _, Nat.zero_le _, rfl, H0⟩
  case round =>
    obtain ⟨n, v, hn, rfl, HJ⟩ := hrel
    by_cases hlt : n < C.length
    · have hlt' : (n : Int) < (C.length : Int) := by omega
      obtain ⟨ss, j1, j2, j3, j4, j5⟩ := HJ.out
      have HJ0 := Lib.hid (fun (w5 : World) (gg cap : Nat) (o3 : Obj) => MgJC.step (w5 := w5) (gg := gg) (cap := cap) (o3 := o3) j1 j2 j3 j4 j5 HN0.out hlt HY.out)
      obtain ⟨co, hco⟩ : ∃ co, co = C[n].1 := ⟨_, rfl⟩
      rcases HR.out with h0 | ⟨b, off, rfl, -, hbl, hcell⟩
      · rw [List.map_eq_nil_iff] at h0; rw [h0] at hlt; simp at hlt
      have hcl : wr.cell? ⟨b, off + n, none⟩ = some (curVC co) := by
        have h1 := hcell n (by simpa using hlt)
        rw [List.getElem_map, ← hco] at h1
        exact (j5.cell (p := ⟨b, _, none⟩) hbl).trans h1
      rw [← hco] at HJ0
      clear hco
      have hsz : w.heap.size + 1 < wr.heap.size := (Array.getElem?_eq_some_iff.1 j4).1
      have k4 := cell_of_row wr _ 0 _ _ (0, 0) j4
      have f4 := frozen_of_row wr _ 0 _ _ j4
      have k5 : ((wr.alloc (.cells #[nextVC co] 122)).alloc (.cells #[nextVC co, .slice none 0 0, .int .i64 0, .bool false] 126)).drew.cell? ⟨w.heap.size + 1, 0, none⟩ = some v := by
        rw [World.cell?_drew, World.cell?_alloc_lt _ _ _ (by simp only [World.size_alloc]; omega), World.cell?_alloc_lt _ _ _ hsz]; exact k4
      have k6 : (((wr.alloc (.cells #[nextVC co] 122)).alloc (.cells #[nextVC co, .slice none 0 0, .int .i64 0, .bool false] 126)).alloc (.cells #[.pointer (some ⟨wr.heap.size + 1, 0, none⟩)] 105)).drew.cell? ⟨w.heap.size + 1, 0, none⟩ = some v := by
        rw [World.cell?_drew, World.cell?_alloc_lt _ _ _ (by simp only [World.size_alloc]; omega), World.cell?_alloc_lt _ _ _ (by simp only [World.size_alloc]; omega), World.cell?_alloc_lt _ _ _ hsz]; exact k4
      have HOff := Lib.hid (MgJC.off j1 j2)
      have how : (((wr.drew.alloc (.cells #[nextVC co] 122)).alloc (.cells #[nextVC co, .slice none 0 0, .int .i64 0, .bool false] 126)).alloc (.cells #[.pointer (some ⟨wr.heap.size + 1, 0, none⟩)] 105)).ownsRow (w.heap.size + 2) 105 1 v n (ss.map ptrV) := ((World.ownsRow.alloc j2.drew _).alloc _).alloc _
      have HW := Lib.hid how
      have HJ4 := Lib.hid j4
      clear j1 j2 j3 j4 j5 how hcell
      have hcs : ∀ w5 : World, (((wr.drew.alloc (.cells #[nextVC co] 122)).alloc (.cells #[nextVC co, .slice none 0 0, .int .i64 0, .bool false] 126)).alloc (.cells #[.pointer (some ⟨wr.heap.size + 1, 0, none⟩)] 105)).grownBy w5 v.ownBlock → w5.heap[w.heap.size + 1]? = some (.cells #[v] 127 (0, 0)) := fun w5 hg => by
        have hd : wr.drew.heap.size = wr.heap.size := rfl
        refine (hg.block _ (by simp only [World.size_alloc]; omega) (fun e => by have := (HOff.out _ e.symm).1; omega)).trans ((Below.heap_alloc _ _ _ (by simp only [World.size_alloc]; omega)).trans ((Below.heap_alloc _ _ _ (by simp only [World.size_alloc]; omega)).trans ((Below.heap_alloc _ _ _ (by omega)).trans HJ4.out)))
      have HCS := Lib.hid hcs
      clear hcs
      have o1 : n + 1 ≤ maxLen := by have := HC.out; unfold maxLen; omega
      have o2 : (n + 1) * 8 ≤ 140737488355328 := by have := HC.out; omega
      have o3 : w.heap.size + 2 ≤ (((wr.drew.alloc (.cells #[nextVC co] 122)).alloc (.cells #[nextVC co, .slice none 0 0, .int .i64 0, .bool false] 126)).alloc (.cells #[.pointer (some ⟨wr.heap.size + 1, 0, none⟩)] 105)).heap.size := by
        simp only [World.size_alloc]; have hd : wr.drew.heap.size = wr.heap.size := rfl; omega
      have o4 : (((wr.drew.alloc (.cells #[nextVC co] 122)).alloc (.cells #[nextVC co, .slice none 0 0, .int .i64 0, .bool false] 126)).alloc (.cells #[.pointer (some ⟨wr.heap.size + 1, 0, none⟩)] 105)).heap.size = wr.heap.size + 3 := by
        simp only [World.size_alloc]; rfl
      go_wp2_with fail
      have hnews : ∀ j u, ([ptrV (wr.heap.size + 1)] : List Value)[j]? = some u → (((wr.drew.alloc (.cells #[nextVC co] 122)).alloc (.cells #[nextVC co, .slice none 0 0, .int .i64 0, .bool false] 126)).alloc (.cells #[.pointer (some ⟨wr.heap.size + 1, 0, none⟩)] 105)).cell? ((⟨wr.heap.size + 2, 0, none⟩ : Addr).add j) = some u := by
        intro j u hu
        have e : ((wr.drew.alloc (.cells #[nextVC co] 122)).alloc (.cells #[nextVC co, .slice none 0 0, .int .i64 0, .bool false] 126)).heap.size = wr.heap.size + 2 := by simp only [World.size_alloc]; rfl
        have hb := heap_alloc_new ((wr.drew.alloc (.cells #[nextVC co] 122)).alloc (.cells #[nextVC co, .slice none 0 0, .int .i64 0, .bool false] 126)) (.cells #[.pointer (some ⟨wr.heap.size + 1, 0, none⟩)] 105)
        rw [e] at hb
        rw [addr_add, cell_of_row _ _ _ _ _ (0, 0) hb, Nat.zero_add]
        match j, hu with
        | 0, hu => cases hu; rfl
      have HNw := Lib.hid hnews
      clear hnews
      refine wp_region_held_drew (S := fun _ => True) (by kernel_rfl) trivial (fun _ => ?_)
      refine wpAnyH_ready (rs := [0, 1]) (by kernel_rfl) (by simp) ?_
      refine AllReadyH.cons rfl (fun K hK => ?_) (AllReadyH.cons rfl (fun K hK => ?_) AllReadyH.nil)
      · go_simp
        refine hK.out _ _ trivial (fun _ => ?_)
        clear hK K
        refine wpAnyH_ready (rs := [1]) (by kernel_rfl) (by simp) ?_
        refine AllReadyH.cons rfl (fun K hK => ?_) AllReadyH.nil
        go_simp
        refine hK.out _ _ trivial (fun _ => ?_)
        clear hK K
        refine wpAnyH_ready (rs := [2]) (by kernel_rfl) (by simp) ?_
        refine AllReadyH.cons rfl (fun K hK => ?_) AllReadyH.nil
        go_simp
        refine (sourceOf_anyC co wr.drew).mono ?_
        rintro e w4 ⟨rfl, rfl⟩
        refine hK.out _ _ trivial (fun _ => ?_)
        clear hK K
        refine wpAnyH_ready (rs := [3]) (by kernel_rfl) (by simp) ?_
        refine AllReadyH.cons rfl (fun K hK => ?_) AllReadyH.nil
        go_simp
        refine hK.out _ _ trivial (fun _ => ?_)
        clear hK K
        refine wpAnyH_ready (rs := [4]) (by kernel_rfl) (by simp) ?_
        refine AllReadyH.cons rfl (fun K hK => ?_) AllReadyH.nil
        refine step_append_lies _ (by rfl) _ _ _ (by rfl) (w.heap.size + 2) 105 i0 (.pointer none) 1 8 Try.underlying127 hi hz0 hz1 hz2 rfl (by decide) v n (ss.map ptrV) (by rfl) HW.out ⟨wr.heap.size + 2, 0, none⟩ 1 1 [ptrV (wr.heap.size + 1)] (by rfl) (by rfl) HNw.out (by intro u hu; simp only [List.mem_singleton] at hu; subst hu; rfl) (by decide) o1 o2 o3 (wr.heap.size + 3) o4 ?_
        intro gg cap w5 how5 hgrow5 hloc5 hlt5
        have HEn := Lib.hid (HJ0.out w5 gg cap _ how5 hgrow5)
        have hcs5 := HCS.out w5 hgrow5
        have cs5 := cell_of_row w5 _ 0 _ _ (0, 0) hcs5
        have fs5 := frozen_of_row w5 _ 0 _ _ hcs5
        clear hcs5 how5 hgrow5 hloc5 hlt5
        refine hK.out _ _ trivial (fun _ => ?_)
        clear hK K
        refine wpAnyH_ready (rs := [5]) (by kernel_rfl) (by simp) ?_
        refine AllReadyH.cons rfl (fun K hK => ?_) AllReadyH.nil
        go_simp
        refine hK.out _ _ trivial (fun _ => ?_)
        clear hK K
        refine wpAnyH_done (by kernel_rfl) ?_ _
        go_wp2_with fail
        go_roundw
        case rel => exact ⟨n + 1, _, hlt, by simp, HEn⟩
        case measure => simp [intOf]; omega
      · go_simp
        refine hK.out _ _ trivial (fun _ => ?_)
        clear hK K
        refine wpAnyH_ready (rs := [0, 2]) (by kernel_rfl) (by simp) ?_
        refine AllReadyH.cons rfl (fun K hK => ?_) (AllReadyH.cons rfl (fun K hK => ?_) AllReadyH.nil)
        · go_simp
          refine hK.out _ _ trivial (fun _ => ?_)
          clear hK K
          refine wpAnyH_ready (rs := [2]) (by kernel_rfl) (by simp) ?_
          refine AllReadyH.cons rfl (fun K hK => ?_) AllReadyH.nil
          go_simp
          refine (sourceOf_anyC co wr.drew).mono ?_
          rintro e w4 ⟨rfl, rfl⟩
          refine hK.out _ _ trivial (fun _ => ?_)
          clear hK K
          refine wpAnyH_ready (rs := [3]) (by kernel_rfl) (by simp) ?_
          refine AllReadyH.cons rfl (fun K hK => ?_) AllReadyH.nil
          go_simp
          refine hK.out _ _ trivial (fun _ => ?_)
          clear hK K
          refine wpAnyH_ready (rs := [4]) (by kernel_rfl) (by simp) ?_
          refine AllReadyH.cons rfl (fun K hK => ?_) AllReadyH.nil
          refine step_append_lies _ (by rfl) _ _ _ (by rfl) (w.heap.size + 2) 105 i0 (.pointer none) 1 8 Try.underlying127 hi hz0 hz1 hz2 rfl (by decide) v n (ss.map ptrV) (by rfl) HW.out ⟨wr.heap.size + 2, 0, none⟩ 1 1 [ptrV (wr.heap.size + 1)] (by rfl) (by rfl) HNw.out (by intro u hu; simp only [List.mem_singleton] at hu; subst hu; rfl) (by decide) o1 o2 o3 (wr.heap.size + 3) o4 ?_
          intro gg cap w5 how5 hgrow5 hloc5 hlt5
          have HEn := Lib.hid (HJ0.out w5 gg cap _ how5 hgrow5)
          have hcs5 := HCS.out w5 hgrow5
          have cs5 := cell_of_row w5 _ 0 _ _ (0, 0) hcs5
          have fs5 := frozen_of_row w5 _ 0 _ _ hcs5
          clear hcs5 how5 hgrow5 hloc5 hlt5
          refine hK.out _ _ trivial (fun _ => ?_)
          clear hK K
          refine wpAnyH_ready (rs := [5]) (by kernel_rfl) (by simp) ?_
          refine AllReadyH.cons rfl (fun K hK => ?_) AllReadyH.nil
          go_simp
          refine hK.out _ _ trivial (fun _ => ?_)
          clear hK K
          refine wpAnyH_done (by kernel_rfl) ?_ _
          go_wp2_with fail
          go_roundw
          case rel => exact ⟨n + 1, _, hlt, by simp, HEn⟩
          case measure => simp [intOf]; omega
        · go_simp
          refine (sourceOf_anyC co wr.drew).mono ?_
          rintro e w4 ⟨rfl, rfl⟩
          refine hK.out _ _ trivial (fun _ => ?_)
          clear hK K
          refine wpAnyH_ready (rs := [0, 3]) (by kernel_rfl) (by simp) ?_
          refine AllReadyH.cons rfl (fun K hK => ?_) (AllReadyH.cons rfl (fun K hK => ?_) AllReadyH.nil)
          · go_simp
            refine hK.out _ _ trivial (fun _ => ?_)
            clear hK K
            refine wpAnyH_ready (rs := [3]) (by kernel_rfl) (by simp) ?_
            refine AllReadyH.cons rfl (fun K hK => ?_) AllReadyH.nil
            go_simp
            refine hK.out _ _ trivial (fun _ => ?_)
            clear hK K
            refine wpAnyH_ready (rs := [4]) (by kernel_rfl) (by simp) ?_
            refine AllReadyH.cons rfl (fun K hK => ?_) AllReadyH.nil
            refine step_append_lies _ (by rfl) _ _ _ (by rfl) (w.heap.size + 2) 105 i0 (.pointer none) 1 8 Try.underlying127 hi hz0 hz1 hz2 rfl (by decide) v n (ss.map ptrV) (by rfl) HW.out ⟨wr.heap.size + 2, 0, none⟩ 1 1 [ptrV (wr.heap.size + 1)] (by rfl) (by rfl) HNw.out (by intro u hu; simp only [List.mem_singleton] at hu; subst hu; rfl) (by decide) o1 o2 o3 (wr.heap.size + 3) o4 ?_
            intro gg cap w5 how5 hgrow5 hloc5 hlt5
            have HEn := Lib.hid (HJ0.out w5 gg cap _ how5 hgrow5)
            have hcs5 := HCS.out w5 hgrow5
            have cs5 := cell_of_row w5 _ 0 _ _ (0, 0) hcs5
            have fs5 := frozen_of_row w5 _ 0 _ _ hcs5
            clear hcs5 how5 hgrow5 hloc5 hlt5
            refine hK.out _ _ trivial (fun _ => ?_)
            clear hK K
            refine wpAnyH_ready (rs := [5]) (by kernel_rfl) (by simp) ?_
            refine AllReadyH.cons rfl (fun K hK => ?_) AllReadyH.nil
            go_simp
            refine hK.out _ _ trivial (fun _ => ?_)
            clear hK K
            refine wpAnyH_done (by kernel_rfl) ?_ _
            go_wp2_with fail
            go_roundw
            case rel => exact ⟨n + 1, _, hlt, by simp, HEn⟩
            case measure => simp [intOf]; omega
          · go_simp
            refine hK.out _ _ trivial (fun _ => ?_)
            clear hK K
            refine wpAnyH_ready (rs := [0]) (by kernel_rfl) (by simp) ?_
            refine AllReadyH.cons rfl (fun K hK => ?_) AllReadyH.nil
            go_simp
            refine hK.out _ _ trivial (fun _ => ?_)
            clear hK K
            refine wpAnyH_ready (rs := [4]) (by kernel_rfl) (by simp) ?_
            refine AllReadyH.cons rfl (fun K hK => ?_) AllReadyH.nil
            refine step_append_lies _ (by rfl) _ _ _ (by rfl) (w.heap.size + 2) 105 i0 (.pointer none) 1 8 Try.underlying127 hi hz0 hz1 hz2 rfl (by decide) v n (ss.map ptrV) (by rfl) HW.out ⟨wr.heap.size + 2, 0, none⟩ 1 1 [ptrV (wr.heap.size + 1)] (by rfl) (by rfl) HNw.out (by intro u hu; simp only [List.mem_singleton] at hu; subst hu; rfl) (by decide) o1 o2 o3 (wr.heap.size + 3) o4 ?_
            intro gg cap w5 how5 hgrow5 hloc5 hlt5
            have HEn := Lib.hid (HJ0.out w5 gg cap _ how5 hgrow5)
            have hcs5 := HCS.out w5 hgrow5
            have cs5 := cell_of_row w5 _ 0 _ _ (0, 0) hcs5
            have fs5 := frozen_of_row w5 _ 0 _ _ hcs5
            clear hcs5 how5 hgrow5 hloc5 hlt5
            refine hK.out _ _ trivial (fun _ => ?_)
            clear hK K
            refine wpAnyH_ready (rs := [5]) (by kernel_rfl) (by simp) ?_
            refine AllReadyH.cons rfl (fun K hK => ?_) AllReadyH.nil
            go_simp
            refine hK.out _ _ trivial (fun _ => ?_)
            clear hK K
            refine wpAnyH_done (by kernel_rfl) ?_ _
            go_wp2_with fail
            go_roundw
            case rel => exact ⟨n + 1, _, hlt, by simp, HEn⟩
            case measure => simp [intOf]; omega
    · obtain rfl : n = C.length := by omega
      obtain ⟨ss, j1, j2, j3, j4, j5⟩ := HJ.out
      obtain ⟨Y, hY1, hY2⟩ := HJ.out.done HN0.out HY.out HC.out
      have HT := Lib.hid (hY1.tells (Nat.le_trans HN0.out j5.size))
      have HYY := Lib.hid hY2
      have HB := Lib.hid j5
      clear j1 j2 j3 j4 j5 hY1 hY2
      go_wp2_with fail
      refine (cursor_anyC _ _ _).mono ?_
      rintro e w2 ⟨rfl, rfl⟩
      go_wp2_with fail
      go_ret
      refine ⟨_, _, rfl, made_newC 122 (FvC.clo _ _ (enters_of Try.func85 (by kernel_rfl) rfl)) HT.out, ?_, HB.out.alloc HB.out.size _⟩
      rintro k (rfl | e)
      · exact .inr HB.out.size
      · exact HYY.out k e
end
section
open Go Go.RowKit Go.Shelf

/-- Like ones behind x are added to it. -/
def sumHead : Ct → List Ct → Ct × List Ct
  | x, [] => (x, [])
  | x, y :: r => if cmpT y.1 x.1 = 0 then sumHead (x.1, wrap64 (x.2 + y.2)) r else (x, y :: r)
def sumF : Nat → List Ct → List Ct
  | 0, _ => []
  | _ + 1, [] => []
  | f + 1, x :: r => (sumHead x r).1 :: sumF f (sumHead x r).2
/-- The sums of like ones, those that are 0 too. -/
def sumL (L : List Ct) : List Ct := sumF L.length L
theorem sumHead_len : ∀ (x : Ct) (L : List Ct), (sumHead x L).2.length ≤ L.length
  | _, [] => Nat.le_refl _
  | x, y :: r => by
    unfold sumHead
    split
    · exact Nat.le_trans (sumHead_len _ r) (Nat.le_succ _)
    · exact Nat.le_refl _
theorem sumF_more : ∀ (f g : Nat) (L : List Ct), L.length ≤ f → L.length ≤ g → sumF f L = sumF g L
  | 0, 0, _, _, _ => rfl
  | 0, _ + 1, L, h, _ => by
    obtain rfl := List.eq_nil_of_length_eq_zero (Nat.le_zero.1 h)
    rfl
  | _ + 1, 0, L, _, h => by
    obtain rfl := List.eq_nil_of_length_eq_zero (Nat.le_zero.1 h)
    rfl
  | f + 1, g + 1, [], _, _ => rfl
  | f + 1, g + 1, x :: r, h1, h2 => by
    simp only [List.length_cons] at h1 h2
    have := sumHead_len x r
    simp only [sumF]
    rw [sumF_more f g _ (by omega) (by omega)]
theorem sumL_cons (x : Ct) (r : List Ct) : sumL (x :: r) = (sumHead x r).1 :: sumL (sumHead x r).2 := by
  unfold sumL
  simp only [List.length_cons, sumF]
  rw [sumF_more r.length _ _ (sumHead_len x r) (Nat.le_refl _)]
/-- What the closure of Sum keeps. -/
def SuC (n0 cs : Nat) (Y : Nat → Prop) (M : List Ct) (w : World) : Prop :=
  (∀ b, Y b → n0 ≤ b ∧ b < w.heap.size) ∧ Y cs ∧ ∃ s tk L Ys, w.heap[cs]? = some (.cells #[.pointer (some ⟨s, 0, none⟩)] 105 (0, 0)) ∧ SrcC n0 s tk Ys L w ∧ (∀ k, Ys k → Y k ∧ k ≠ cs) ∧ M = sumL L
theorem SuC.keep {n0 cs : Nat} {Y : Nat → Prop} {M : List Ct} {w w' : World} (h : SuC n0 cs Y M w) (hs : w.heap.size ≤ w'.heap.size) (hb : ∀ b, Y b ∨ b < n0 → w'.heap[b]? = w.heap[b]?) : SuC n0 cs Y M w' := by
  obtain ⟨h1, h3, s, tk, L, Ys, h4, h5, h6, h7⟩ := h
  exact ⟨fun b e => ⟨(h1 b e).1, Nat.lt_of_lt_of_le (h1 b e).2 hs⟩, h3, s, tk, L, Ys, (hb _ (.inl h3)).trans h4, h5.keep hs (fun b e => hb b (e.imp_left fun e => (h6 b e).1)), h6, h7⟩
/-- What the loop of Sum's closure keeps. -/
def LpC (n0 cs s : Nat) (Y : Nat → Prop) (w : World) (B3 : Nat) (h : Option Addr × Nat × Nat) (T : List V3) (n : Int) (L : List Ct) (wr : World) : Prop :=
  (∃ tk Ys, SrcC n0 s tk Ys L wr ∧ (∀ k, Ys k → (Y k ∧ k ≠ cs) ∨ (w.heap.size ≤ k ∧ k ≠ w.heap.size ∧ k ≠ B3)) ∧ TupS (fun b => b < n0 ∨ ((Y b ∨ w.heap.size ≤ b) ∧ ¬ Ys b ∧ b ≠ cs ∧ b ≠ w.heap.size ∧ b ≠ B3)) wr (.slice h.1 h.2.1 h.2.2) T) ∧
  Upd (allOf Y) w wr ∧ wr.heap[cs]? = some (.cells #[.pointer (some ⟨s, 0, none⟩)] 105 (0, 0)) ∧ wr.heap[w.heap.size]? = some (.cells #[.slice none 0 0, .int .i64 0] 68 (0, 0)) ∧ wr.heap[B3]? = some (.cells #[.slice h.1 h.2.1 h.2.2, .int .i64 n] 68 (0, 0))
section
variable {n0 cs s : Nat} {Y : Nat → Prop} {w wr w2 : World} {B3 : Nat} {h : Option Addr × Nat × Nat} {T : List V3} {n : Int} {L : List Ct}
theorem LpC.below (g : LpC n0 cs s Y w B3 h T n L wr) (hb : Below wr.heap.size wr w2) : LpC n0 cs s Y w B3 h T n L w2 := by
  obtain ⟨⟨tk, Ys, g1, g2, g3⟩, g4, g5, g6, g7⟩ := g
  have k : ∀ {b o}, wr.heap[b]? = some o → w2.heap[b]? = some o := fun e => (hb.block _ (Array.getElem?_eq_some_iff.1 e).1).trans e
  exact ⟨⟨tk, Ys, g1.below hb, g2, g3.keep (fun _ e _ => e) (fun b _ hl => hb.block b hl)⟩, g4.trans (Upd.of_below hb), k g5, k g6, k g7⟩
theorem LpC.tup (g : LpC n0 cs s Y w B3 h T n L wr) : TupS (fun _ => True) wr (.slice h.1 h.2.1 h.2.2) T := by
  obtain ⟨⟨tk, Ys, g1, g2, g3⟩, -⟩ := g
  exact g3.keep (fun _ _ _ => trivial) (fun _ _ _ => rfl)
theorem LpC.src (g : LpC n0 cs s Y w B3 h T n L wr) (hI : ∀ k, Y k → n0 ≤ k ∧ k < w.heap.size) (hcsY : Y cs) (hB : w.heap.size < B3) : ∃ tk Ys, SrcC n0 s tk Ys L wr ∧
    ∀ w2 tk' Y' L', Upd (allOf Ys) wr w2 → Sub wr.heap.size Ys Y' → SrcC n0 s tk' Y' L' w2 → LpC n0 cs s Y w B3 h T n L' w2 := by
  obtain ⟨⟨tk, Ys, g1, g2, g3⟩, g4, g5, g6, g7⟩ := g
  have l5 := (Array.getElem?_eq_some_iff.1 g5).1
  have l6 := (Array.getElem?_eq_some_iff.1 g6).1
  have l7 := (Array.getElem?_eq_some_iff.1 g7).1
  refine ⟨tk, Ys, g1, fun w2 tk' Y' L' hu hs hsrc => ?_⟩
  have n5 : ¬ Ys w.heap.size := fun e => by
    rcases g2 _ e with e | e
    · have := hI _ e.1; omega
    · exact e.2.1 rfl
  have n7 : ¬ Ys B3 := fun e => by
    rcases g2 _ e with e | e
    · have := hI _ e.1; omega
    · exact e.2.2 rfl
  have hcs : cs < wr.heap.size := l5
  refine ⟨⟨tk', Y', hsrc, fun k e => ?_, g3.keep (fun b e hl => e.imp_right fun e => ⟨e.1, fun e' => ?_, e.2.2⟩) (fun b e hl => hu.block b hl (fun _ e' => ?_))⟩, g4.then hu (fun x _ hx e => ?_), ?_, (hu.block _ l6 (fun _ e => n5 e)).trans g6, (hu.block _ l7 (fun _ e => n7 e)).trans g7⟩
  · rcases hs k e with e | e
    · exact g2 k e
    · exact .inr (by omega)
  · rcases hs b e' with e' | e'
    · exact e.2.1 e'
    · omega
  · rcases e with e | e
    · have := (g1.inside b e').1; omega
    · exact e.2.1 e'
  · rcases g2 x e with e | e
    · exact e.1
    · omega
  · refine (hu.block cs hcs (fun _ e => ?_)).trans g5
    rcases g2 cs e with e | e
    · exact e.2 rfl
    · have := hI _ hcsY; omega
theorem LpC.setN (g : LpC n0 cs s Y w B3 h T n L wr) (hI : ∀ k, Y k → n0 ≤ k ∧ k < w.heap.size) (hn : n0 ≤ w.heap.size) (hcs : Y cs) (hB : w.heap.size < B3) (n' : Int) : LpC n0 cs s Y w B3 h T n' L (wr.setCell ⟨B3, 1, none⟩ (.int .i64 n')) := by
  obtain ⟨⟨tk, Ys, g1, g2, g3⟩, g4, g5, g6, g7⟩ := g
  have lc := hI _ hcs
  have off : ∀ k, k ≠ B3 → (wr.setCell ⟨B3, 1, none⟩ (.int .i64 n')).heap[k]? = wr.heap[k]? := fun k hk => Below.heap_setCell _ _ _ _ hk
  have nY : ∀ k, Ys k ∨ k < n0 → k ≠ B3 := by
    rintro k (e | e) rfl
    · rcases g2 _ e with e | e
      · have := hI _ e.1; omega
      · exact e.2.2 rfl
    · omega
  refine ⟨⟨tk, Ys, g1.keep (by simp [World.setCell]) (fun k e => off k (nY k e)), g2, g3.keep (fun _ e _ => e) (fun b e _ => off b ?_)⟩, g4.setCell _ _ _ (fun e => by omega), (off _ (by omega)).trans g5, (off _ (by omega)).trans g6, ?_⟩
  · rcases e with e | e
    · omega
    · exact e.2.2.2.2
  · rw [Go.heap_setCell_same _ _ _ _ _ _ g7]; rfl
theorem LpC.done (g : LpC n0 cs s Y w B3 h T n L wr) (hI : ∀ k, Y k → n0 ≤ k ∧ k < w.heap.size) (hn : n0 ≤ w.heap.size) (hcs : Y cs) (u v : Value) :
    Upd (allOf Y) w ((wr.setCell ⟨w.heap.size, 0, none⟩ u).setCell ⟨w.heap.size, 1, none⟩ v) ∧ ∃ Y2, Sub w.heap.size Y Y2 ∧ SuC n0 cs Y2 (sumL L) ((wr.setCell ⟨w.heap.size, 0, none⟩ u).setCell ⟨w.heap.size, 1, none⟩ v) ∧ TupS (SafeC n0 w.heap.size Y Y2) ((wr.setCell ⟨w.heap.size, 0, none⟩ u).setCell ⟨w.heap.size, 1, none⟩ v) (.slice h.1 h.2.1 h.2.2) T := by
  obtain ⟨⟨tk, Ys, g1, g2, g3⟩, g4, g5, g6, g7⟩ := g
  have lc := hI _ hcs
  have off : ∀ k, k ≠ w.heap.size → ((wr.setCell ⟨w.heap.size, 0, none⟩ u).setCell ⟨w.heap.size, 1, none⟩ v).heap[k]? = wr.heap[k]? := fun k hk => (Below.heap_setCell _ _ _ _ hk).trans (Below.heap_setCell _ _ _ _ hk)
  have size2 : ((wr.setCell ⟨w.heap.size, 0, none⟩ u).setCell ⟨w.heap.size, 1, none⟩ v).heap.size = wr.heap.size := by simp [World.setCell]
  have nY : ∀ k, Ys k ∨ k < n0 → k ≠ w.heap.size := by
    rintro k (e | e) rfl
    · rcases g2 _ e with e | e
      · have := hI _ e.1; omega
      · exact e.2.1 rfl
    · omega
  have nC : ∀ k, Ys k → k ≠ cs := by
    rintro k e rfl
    rcases g2 _ e with e | e
    · exact e.2 rfl
    · omega
  have hsz := g4.size
  refine ⟨(g4.setCell _ _ _ (fun e => absurd e (Nat.lt_irrefl _))).setCell _ _ _ (fun e => absurd e (Nat.lt_irrefl _)), fun k => k = cs ∨ Ys k, ?_, ⟨?_, .inl rfl, s, tk, L, Ys, (off _ (by omega)).trans g5, g1.keep (by rw [size2]; exact Nat.le_refl _) (fun k e => off k (nY k e)), fun k e => ⟨.inr e, nC k e⟩, rfl⟩, g3.keep (fun b e _ => ?_) (fun b e _ => off b ?_)⟩
  · rintro k (rfl | e)
    · exact .inl hcs
    · exact (g2 k e).imp (fun e => e.1) (fun e => e.1)
  · rw [size2]
    rintro k (rfl | e)
    · omega
    · exact g1.inside k e
  · rcases e with e | e
    · exact .inl e
    · refine .inr ⟨?_, e.1, ?_⟩
      · rcases e.1 with e | e
        · exact (hI _ e).1
        · omega
      · rintro (e' | e')
        · exact e.2.2.1 e'
        · exact e.2.1 e'
  · rcases e with e | e
    · omega
    · exact e.2.2.2.1
end
end
section
open Go Go.RowKit Go.Shelf

theorem LpC.start {n0 cs s : Nat} {tk : Bool} {Y Ys Y1 : Nat → Prop} {w w1 : World} {L' : List Ct} {h : Raw} {T : List V3} (h1 : ∀ k, Y k → n0 ≤ k ∧ k < w.heap.size) (h3 : Y cs) (h4 : w.heap[cs]? = some (.cells #[.pointer (some ⟨s, 0, none⟩)] 105 (0, 0))) (h6 : ∀ k, Ys k → Y k ∧ k ≠ cs)
    (hu : Upd (allOf Ys) (w.alloc (.cells #[.slice none 0 0, .int .i64 0] 68)) w1) (hs : Sub (w.alloc (.cells #[.slice none 0 0, .int .i64 0] 68)).heap.size Ys Y1) (hsrc : SrcC n0 s tk Y1 L' w1)
    (ht : TupS (SafeC n0 (w.alloc (.cells #[.slice none 0 0, .int .i64 0] 68)).heap.size Ys Y1) w1 (rawS h) T) :
    LpC n0 cs s Y w w1.heap.size h.1 T h.2 L' (w1.alloc (.cells #[.slice h.1.1 h.1.2.1 h.1.2.2, .int .i64 h.2] 68)) := by
  have lc := h1 _ h3
  have hc1 := upd_cell (fun k e => (h1 k (h6 k e).1).2) hu
  have hsz := hu.size
  have hin := hsrc.inside
  simp only [World.size_alloc] at hsz hs ht
  refine ⟨⟨tk, Y1, hsrc.alloc _, fun k e => ?_, ht.inside.keep (fun b e _ => ?_) (fun b e _ => Below.heap_alloc _ _ _ e.2)⟩, ((((Upd.refl (allOf Y) w).alloc _).trans (hu.allMono fun k e => (h6 k e).1)).alloc _), ?_, (Below.heap_alloc _ _ _ (by omega)).trans hc1, heap_alloc_new w1 _⟩
  · have := hin k e
    rcases hs k e with e | e
    · exact .inl (h6 k e)
    · exact .inr (by omega)
  · obtain ⟨e | ⟨e1, e2, e3⟩, hl⟩ := e
    · exact .inl e
    · refine .inr ⟨?_, e3, ?_, ?_, by omega⟩
      · exact e2.imp (fun e => (h6 b e).1) (fun e => by omega)
      · rcases e2 with e | e
        · exact (h6 b e).2
        · omega
      · rcases e2 with e | e
        · have := h1 b (h6 b e).1; omega
        · omega
  · exact (Below.heap_alloc _ _ _ (by omega)).trans ((hu.block cs (by simp; omega) (fun _ e => (h6 cs e).2 rfl)).trans ((Below.heap_alloc _ _ _ (by omega)).trans h4))
theorem SuC.alloc {n0 cs : Nat} {Y : Nat → Prop} {M : List Ct} {w : World} (h : SuC n0 cs Y M w) (o : Obj) : SuC n0 cs Y M (w.alloc o) := by
  refine h.keep (by simp) (fun b e => Below.heap_alloc _ _ _ ?_)
  have := h.1 _ h.2.1
  rcases e with e | e
  · have := h.1 b e; omega
  · omega
theorem sumHead_like {x y : Ct} {r : List Ct} (h : cmpT y.1 x.1 = 0) : sumHead x (y :: r) = sumHead (x.1, wrap64 (x.2 + y.2)) r := by
  conv => lhs; unfold sumHead
  rw [if_pos h]
theorem sumHead_other {x y : Ct} {r : List Ct} (h : ¬ cmpT y.1 x.1 = 0) : sumHead x (y :: r) = (x, y :: r) := by
  conv => lhs; unfold sumHead
  rw [if_neg h]
set_option maxRecDepth 100000 in
set_option maxHeartbeats 2000000 in
theorem sum1_anyC {n0 cs : Nat} {Y : Nat → Prop} {M : List Ct} {w : World} (hn : n0 ≤ w.heap.size) (h : SuC n0 cs Y M w) : Calls Try.prog 70 #[.pointer (some ⟨cs, 0, none⟩)] w (TellEndC n0 Y M (SuC n0 cs) w) := by
  obtain ⟨h1, h3, s, tk, L, Ys, h4, h5, h6, rfl⟩ := h
  have hl := (h1 _ h3).2
  have c1 := cell_of_row _ _ 0 _ _ (0, 0) h4
  have HT := Lib.hid (take_anyC (h5.alloc (.cells #[.slice none 0 0, .int .i64 0] 68)))
  have HI := Lib.hid h1
  have HN0 := Lib.hid hn
  have H3 := Lib.hid h3
  have HSt := Lib.hid (fun w1 Y1 L' (h : Raw) T hu hs (hsrc : SrcC n0 s false Y1 L' w1) ht => LpC.start (h := h) (T := T) h1 h3 h4 h6 hu hs hsrc ht)
  have HS5 := Lib.hid (fun k e => (h1 k (h6 k e).1).2)
  clear h1 h3 h4 h5 h6 hn
  go_enter Try.func70, Try.ntmps70
  go_wp2_with fail
  refine HT.out.mono ?_
  rintro e w1 ⟨h, ok, rfl, hu, Y', hs, hsrc, hd⟩
  cases L with
  | nil =>
    obtain ⟨rfl, rfl⟩ := hd
    have HJ := Lib.hid (HSt.out w1 Y' [] rawZ [] hu hs hsrc ⟨none, 0, rfl, by simp, .inl rfl⟩)
    have hc1 := upd_cell HS5.out hu
    have hsz : w.heap.size < w1.heap.size := (Array.getElem?_eq_some_iff.1 hc1).1
    have d0 := cell_of_row w1 w.heap.size 0 _ _ (0, 0) hc1
    have d1 := cell_of_row w1 w.heap.size 1 _ _ (0, 0) hc1
    have g0 := frozen_of_row w1 w.heap.size 0 _ _ hc1
    have g1 := frozen_of_row w1 w.heap.size 1 _ _ hc1
    have HN2 := Lib.hid (cells_set2 hc1 (.slice none 0 0) (.int .i64 0))
    clear hu hs hsrc HT HSt hc1
    go_wp2_with fail
    obtain ⟨w3, hw3⟩ : ∃ w3, w3 = w1.alloc (.cells #[.slice none 0 0, .int .i64 0] 68) := ⟨_, rfl⟩
    rw [← hw3]
    have HW3 := Lib.hid hw3
    clear hw3
    go_loopw [5] (fun _ wr => Hid (wr = w3)) (fun _ _ => 0)
    case atStart => exact Lib.hid rfl
    case round =>
      obtain rfl := hrel.out
      rw [HW3.out]
      go_wp2_with fail
      obtain ⟨n0', n1'⟩ := HN2.out
      have hd' := HJ.out.done HI.out HN0.out H3.out (.slice none 0 0) (.int .i64 0)
      rw [World.setCell_alloc_past _ _ _ _ hsz, World.setCell_alloc_past _ _ _ _ (by simpa [World.setCell] using hsz)] at hd'
      obtain ⟨u1, Y2, u2, u3, u4⟩ := hd'
      exact bodyPost_ret (v := .tuple #[.agg #[.slice none 0 0, .int .i64 0], .bool false]) (by simp [results, Try.results70, go_sem, n0', n1', hsz]) rfl ⟨rawZ, false, rfl, u1, Y2, u2, u3, rfl, rfl⟩
  | cons x r =>
    obtain ⟨⟨hp, hq, hc⟩, hm⟩ := h
    obtain ⟨e1, e2, e3⟩ := hd
    subst e1
    have hJ0 := HSt.out w1 Y' r ((hp, hq, hc), hm) x.1 hu hs hsrc e3
    have hsz : w.heap.size < w1.heap.size := (Array.getElem?_eq_some_iff.1 (upd_cell HS5.out hu)).1
    have HP := Lib.hid (show sumHead (x.1, hm) r = sumHead x r by have e2' : hm = x.2 := e2; rw [e2'])
    have HJ0 := Lib.hid hJ0
    clear hu hs hsrc HT HSt e2 e3 hJ0
    go_wp2_with fail
    obtain ⟨B3, hB3⟩ : ∃ B3, B3 = w1.heap.size := ⟨_, rfl⟩
    obtain ⟨w3, hw3⟩ : ∃ w3, w3 = w1.alloc (.cells #[.slice hp hq hc, .int .i64 hm] 68) := ⟨_, rfl⟩
    rw [← hB3, ← hw3] at HJ0
    rw [← hB3, ← hw3]
    rw [← hB3] at hsz
    clear hB3 hw3
    have HB3 := Lib.hid hsz
    go_loopw [5] (fun _ wr => ∃ D, Hid (∃ n, LpC n0 cs s Y w B3 (hp, hq, hc) x.1 n D wr ∧ sumHead (x.1, n) D = sumHead x r)) (fun _ wr => leastN fun k => ∃ D, D.length = k ∧ ∃ n, LpC n0 cs s Y w B3 (hp, hq, hc) x.1 n D wr ∧ sumHead (x.1, n) D = sumHead x r)
    case atStart => exact ⟨r, Lib.hid ⟨hm, HJ0.out, HP.out⟩⟩
    case round =>
      obtain ⟨D0, HD0⟩ := hrel
      obtain ⟨D, hDl, n, hDj, hDe⟩ := (leastN_spec (p := fun k => ∃ D, D.length = k ∧ ∃ n, LpC n0 cs s Y w B3 (hp, hq, hc) x.1 n D wr ∧ sumHead (x.1, n) D = sumHead x r) ⟨D0, rfl, HD0.out⟩).1
      have HD := Lib.hid hDl
      have HE := Lib.hid hDe
      have cc := cell_of_row _ _ 0 _ _ (0, 0) hDj.2.2.1
      obtain ⟨tk1, Ys1, g1, g2⟩ := hDj.src HI.out H3.out HB3.out
      have HC := Lib.hid (peek_anyC g1)
      have HG := Lib.hid g2
      clear hDl hDj hDe g1 g2
      go_wp2_with fail
      refine HC.out.mono ?_
      rintro e w4 ⟨⟨⟨yp, yq, yc⟩, ym⟩, ok, rfl, hu, Y4, hs4, hsrc, hd, -, -⟩
      have hJ4 := HG.out w4 _ Y4 D hu hs4 hsrc
      have lz : w.heap.size < w4.heap.size := (Array.getElem?_eq_some_iff.1 hJ4.2.2.2.1).1
      have lb : B3 < w4.heap.size := (Array.getElem?_eq_some_iff.1 hJ4.2.2.2.2).1
      have z0 := cell_of_row _ _ 0 _ _ (0, 0) hJ4.2.2.2.1
      have z1 := cell_of_row _ _ 1 _ _ (0, 0) hJ4.2.2.2.1
      have zf0 := frozen_of_row _ _ 0 _ _ hJ4.2.2.2.1
      have zf1 := frozen_of_row _ _ 1 _ _ hJ4.2.2.2.1
      have b0 := cell_of_row _ _ 0 _ _ (0, 0) hJ4.2.2.2.2
      have b1 := cell_of_row _ _ 1 _ _ (0, 0) hJ4.2.2.2.2
      have HJ4 := Lib.hid hJ4
      cases D with
      | nil =>
        obtain ⟨e1, rfl⟩ := hd
        have HN2 := Lib.hid (cells_set2 hJ4.2.2.2.1 (.slice hp hq hc) (.int .i64 n))
        clear hu hs4 hsrc hJ4 HC HG
        go_wp2_with fail
        obtain ⟨n0', n1'⟩ := HN2.out
        obtain ⟨u1, Y2, u2, u3, u4⟩ := HJ4.out.done HI.out HN0.out H3.out (.slice hp hq hc) (.int .i64 n)
        have he : sumHead x r = ((x.1, n), []) := HE.out.symm
        refine bodyPost_ret (v := .tuple #[.agg #[.slice hp hq hc, .int .i64 n], .bool true]) (by simp [results, Try.results70, go_sem, n0', n1', lz]) rfl ⟨((hp, hq, hc), n), true, rfl, ?_⟩
        rw [sumL_cons, he]
        exact ⟨u1.alloc _, Y2, u2, u3.alloc _, rfl, rfl, u4.keep (fun _ e _ => e) (fun b _ hb => Below.heap_alloc _ _ _ (by omega))⟩
      | cons y D =>
        obtain ⟨e1, e2, e3⟩ := hd
        subst e1
        have e2' : ym = y.2 := e2
        have HYm := Lib.hid e2'
        have hbt := byTuple_any ((yp, yq, yc), ym) ((hp, hq, hc), n) y.1 x.1 (w4.alloc (.cells #[.slice yp yq yc, .int .i64 ym] 68)) (e3.keep (fun _ _ _ => trivial) (fun k _ hk => Below.heap_alloc _ _ _ (by omega))) ((LpC.tup hJ4).keep (fun _ _ _ => trivial) (fun k _ hk => Below.heap_alloc _ _ _ (by omega)))
        obtain ⟨z, hz⟩ : ∃ z, z = cmpT y.1 x.1 := ⟨_, rfl⟩
        rw [← hz] at hbt
        have HZ := Lib.hid hz
        have HBt := Lib.hid hbt
        clear hu hs4 hsrc hJ4 HC HG e2 e2' e3 hbt hz z0 z1 zf0 zf1
        go_wp2_with fail
        refine HBt.out.mono ?_
        rintro e w6 ⟨rfl, hb6⟩
        have hj6 := HJ4.out.below ((below_new' w4 (.cells #[.slice yp yq yc, .int .i64 ym] 68)).trans (hb6.mono (by simp)))
        have hy6 := (hb6.block w4.heap.size (by simp)).trans (heap_alloc_new w4 _)
        have HJ6 := Lib.hid hj6
        have z0 := cell_of_row _ _ 0 _ _ (0, 0) hj6.2.2.2.1
        have z1 := cell_of_row _ _ 1 _ _ (0, 0) hj6.2.2.2.1
        have zf0 := frozen_of_row _ _ 0 _ _ hj6.2.2.2.1
        have zf1 := frozen_of_row _ _ 1 _ _ hj6.2.2.2.1
        have k0 := cell_of_row _ _ 0 _ _ (0, 0) hj6.2.2.2.2
        have k1 := cell_of_row _ _ 1 _ _ (0, 0) hj6.2.2.2.2
        have kf1 := frozen_of_row _ _ 1 _ _ hj6.2.2.2.2
        have y1 := cell_of_row _ _ 1 _ _ (0, 0) hy6
        have lz6 : w.heap.size < w6.heap.size := (Array.getElem?_eq_some_iff.1 hj6.2.2.2.1).1
        have HN2 := Lib.hid (cells_set2 hj6.2.2.2.1 (.slice hp hq hc) (.int .i64 n))
        clear hb6 hy6 hj6 HBt HJ4 b0 b1
        by_cases hz0 : z = 0
        · subst hz0
          have HJ7 := Lib.hid (HJ6.out.setN HI.out HN0.out H3.out HB3.out (wrap64 (n + ym)))
          have cc7 := cell_of_row _ _ 0 _ _ (0, 0) HJ7.out.2.2.1
          obtain ⟨tk7, Ys7, g1, g2⟩ := HJ7.out.src HI.out H3.out HB3.out
          have HC := Lib.hid (take_anyC g1)
          have HG := Lib.hid g2
          clear g1 g2
          go_wp2_with fail
          refine HC.out.mono ?_
          rintro e w8 ⟨⟨⟨tp, tq, tc⟩, tm⟩, tok, rfl, hu, Y8, hs8, hsrc, hd⟩
          obtain rfl : tok = true := hd.1
          have HJ8 := Lib.hid (HG.out w8 _ Y8 D hu hs8 hsrc)
          have HE8 := Lib.hid (show sumHead (x.1, wrap64 (n + ym)) D = sumHead x r by
            rw [← HE.out, sumHead_like (by exact HZ.out.symm), HYm.out])
          clear hu hs8 hsrc hd HG HC
          go_wp2_with fail
          go_roundw
          case rel => exact ⟨D, Lib.hid ⟨_, HJ8.out, HE8.out⟩⟩
          case measure =>
            have := (leastN_spec (p := fun k => ∃ D, D.length = k ∧ ∃ n, LpC n0 cs s Y w B3 (hp, hq, hc) x.1 n D w8 ∧ sumHead (x.1, n) D = sumHead x r) ⟨D, rfl, _, HJ8.out, HE8.out⟩).2
            have h3 := HD.out
            simp only [List.length_cons] at h3
            omega
        · go_wp2_with fail
          obtain ⟨n0', n1'⟩ := HN2.out
          obtain ⟨u1, Y2, u2, u3, u4⟩ := HJ6.out.done HI.out HN0.out H3.out (.slice hp hq hc) (.int .i64 n)
          have he : sumHead x r = ((x.1, n), y :: D) := by rw [← HE.out, sumHead_other (by rw [← HZ.out]; exact hz0)]
          refine bodyPost_ret (v := .tuple #[.agg #[.slice hp hq hc, .int .i64 n], .bool true]) (by simp [results, Try.results70, go_sem, n0', n1']) rfl ⟨((hp, hq, hc), n), true, rfl, ?_⟩
          rw [sumL_cons, he]
          exact ⟨u1, Y2, u2, u3, rfl, rfl, u4⟩
theorem SuC.tells {n0 cs : Nat} {Y : Nat → Prop} {M : List Ct} {w : World} (hn : n0 ≤ w.heap.size) (h : SuC n0 cs Y M w) : TellsC n0 70 #[.pointer (some ⟨cs, 0, none⟩)] Y M w :=
  ⟨h.1, hn, SuC n0 cs, Y, fun _ e => e, h, fun _ _ _ h => h.1, fun _ _ _ _ h => h.keep, fun _ _ _ hn h => sum1_anyC hn h⟩
end
end Go.Proofs.Ytcfnpbmkcdmafaa

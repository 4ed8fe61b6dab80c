/-
  Words for the loops of MergeOrder: rows that get their marks, marks that were seen.
-/
import Derived.Test.YtlccleafjpeccaaMhO
import Derived.Test.YtlccleafjpeccaaMhC
import Derived.Test.YtlccleafjpeccaaMhE
import Derived.Maps.Keyed
namespace Go.Proofs.Ytlccleafjpeccaa
open Go Go.RowKit Go.Shelf Go.Maps

theorem zeroB (w : World) : (zeroValue 4).run Try.prog w = .ok (.bool false) w := by kernel_rfl
theorem keyInt : Keyed Try.prog 3 := int_keyed Try.underlying3
theorem wf_small {m : Int} (h0 : 0 ≤ m) (h1 : m ≤ 1000) : (Lit.int .i64 m).wf = true := by
  have : IntKind.i64.min ≤ m ∧ m ≤ IntKind.i64.max := ⟨by have : IntKind.i64.min = -9223372036854775808 := rfl; omega, by have : IntKind.i64.max = 9223372036854775807 := rfl; omega⟩
  simpa [Lit.wf] using this
theorem keyOf_small {m : Int} (h0 : 0 ≤ m) (h1 : m ≤ 1000) : keyOf Try.prog 3 (.int .i64 m) = some (.int .i64 m) := keyOf_int_mk (P := Try.prog) Try.underlying3 (wf_small h0 h1)
theorem SeenAt.made (w : World) : SeenAt (w.alloc (.map #[] 0)) w.heap.size 0 [] := ⟨.map [], MapAt.made w _ _, ⟨[], rfl⟩, fun m => by simp [DataW.atKey]⟩
theorem SeenAt.below {w w' : World} {b n m : Nat} {M : List Int} (h : SeenAt w b n M) (hb : Below m w w') (hl : b < m) : SeenAt w' b n M := by
  obtain ⟨D, h1, h2⟩ := h
  exact ⟨D, h1.below hb hl, h2⟩
theorem SeenAt.lt {w : World} {b n : Nat} {M : List Int} (h : SeenAt w b n M) : b < w.heap.size := by
  obtain ⟨D, h1, -⟩ := h
  exact h1.lt
set_option maxRecDepth 100000 in
theorem SeenAt.look {w : World} {b n : Nat} {M : List Int} (h : SeenAt w b n M) {m : Int} (h0 : 0 ≤ m) (h1 : m ≤ 1000) {c : Bool} (hc : decide (m ∈ M) = c) : (Instr.lookup 76 (.map (some b)) (.int .i64 m) false).run Try.prog w = .ok (.bool c) w := by
  obtain ⟨D, g1, -, g3⟩ := h
  obtain ⟨u, ps, hrun, hu⟩ := World.ownsMap.lookup g1 keyInt Try.underlying76 (zeroB w) (zd := .held (.bool false)) (zp := []) rfl (keyOf_small h0 h1)
  have := heldE_inv hu
  rw [g3 m, hc] at this
  injection this with this _
  injection this with this
  subst this
  exact hrun
theorem SeenAt.put {w : World} {b n : Nat} {M : List Int} {D : DataW Value} {m : Int} (h2 : IsMap D) (h3 : ∀ m : Int, D.atKey (.int .i64 m) (.held (.bool false)) = .held (.bool (decide (m ∈ M)))) (h : MapAt w Try.prog 3 b n (D.put (.int .i64 m) (.held (.bool true)))) : SeenAt w b n (m :: M) := by
  refine ⟨_, h, h2.put _ _, fun k => ?_⟩
  by_cases e : k = m
  · subst e
    rw [atKey_put_same h2 (show WideAt.IsKeyLit (.int .i64 k) from trivial)]
    simp
  · rw [atKey_put_other (by intro h; injection h with _ h; exact e h), h3 k]
    simp [e]
/-- A row in place of another one, in a row of rows of the call's own. -/
theorem OwnRr.set {B : Nat} {S : Nat → Prop} {w : World} {v u : Value} {LL : List (List Th)} {L : List Th} {n g cap : Nat} (h : OwnRr B S w v LL) (hv : v = .slice (some ⟨g, 0, none⟩) LL.length cap) (hn : n < LL.length) (hS : ¬ S g) (hu : ThIn S w u L) : OwnRr B S (w.setCell ⟨g, n, none⟩ u) v (LL.set n L) := by
  have hsame : ∀ k, S k → (w.setCell ⟨g, n, none⟩ u).heap[k]? = w.heap[k]? := fun k e => Below.heap_setCell _ _ _ _ (fun e' => hS (by have e2 : k = g := e'; subst e2; exact e))
  obtain ⟨us, h1, h2, h3⟩ := h
  subst hv
  refine ⟨us.set n u, by rw [List.length_set, List.length_set, h1], ?_, fun j hj hj' => ?_⟩
  · rw [List.length_set]
    rcases h2.2 with ⟨e, -⟩ | ⟨g', cap', cur, e, hB, hg, hnc, hcm, hcs, htk⟩
    · cases e
    · cases e
      refine ⟨by rw [List.length_set]; exact h2.1, .inr ⟨g, cap, cur.setIfInBounds n u, rfl, hB, Go.heap_setCell_same _ _ _ _ _ _ hg, hnc, hcm, by simpa using hcs, ?_⟩⟩
      rw [Array.toList_setIfInBounds, List.take_set, htk]
  · rw [List.length_set] at hj hj'
    by_cases e : j = n
    · subst e
      rw [List.getElem_set_self, List.getElem_set_self]
      exact hu.keep (by simp [World.setCell]) (fun k e _ => ⟨e, hsame k e⟩)
    · rw [List.getElem_set_ne (Ne.symm e), List.getElem_set_ne (Ne.symm e)]
      exact (h3 j hj hj').keep (by simp [World.setCell]) (fun k e _ => ⟨e, hsame k e⟩)
theorem markL_len (LL : List (List Th)) : (markL LL).length = LL.length := by unfold markL; simp
theorem markL_get (LL : List (List Th)) (n : Nat) (hn : n < LL.length) (hn' : n < (markL LL).length) : (markL LL)[n] = markR n LL[n] := List.getElem_mapIdx ..
theorem mark_set {LL : List (List Th)} {n : Nat} (hn : n < LL.length) : ((markL LL).take n ++ LL.drop n).set n (markR n LL[n]) = (markL LL).take (n + 1) ++ LL.drop (n + 1) := by
  have hl : ((markL LL).take n).length = n := by rw [List.length_take, markL_len]; omega
  rw [List.set_append_right _ _ (by omega), hl, Nat.sub_self, List.drop_eq_getElem_cons hn, List.set_cons_zero, List.take_succ_eq_append_getElem (show n < (markL LL).length by rw [markL_len]; exact hn), List.append_assoc, markL_get LL n hn]
  rfl
/-- What the first loop of MergeOrder keeps: n rows have their marks. -/
def OdJ (LL : List (List Th)) (w W1 : World) (n : Nat) (vL va : Value) (W : World) : Prop :=
  OwnRr w.heap.size (fun k => (k < w.heap.size ∨ W1.heap.size ≤ k) ∧ va.ownBlock ≠ some k) W vL ((markL LL).take n ++ LL.drop n) ∧ OwnTh W1.heap.size W va ((markL LL).take n).flatten ∧ Below w.heap.size w W ∧ W1.heap.size ≤ W.heap.size ∧ ∀ i (_ : i < n) (h' : i < LL.length), Rise LL[i]
theorem OdJ.below {LL : List (List Th)} {w W1 : World} {n : Nat} {vL va : Value} {W W' : World} (h : OdJ LL w W1 n vL va W) (hb : Below W.heap.size W W') : OdJ LL w W1 n vL va W' := by
  obtain ⟨h1, h2, h3, h4, h5⟩ := h
  exact ⟨h1.below hb, h2.below hb, h3.trans (hb.mono h3.size), Nat.le_trans h4 hb.size, h5⟩
/-- The row is stored, then put behind all. -/
theorem OdJ.step {LL : List (List Th)} {w W1 : World} {n : Nat} {vL va : Value} {W W5 W7 : World} {v5 v7 : Value} {gL cap : Nat} (h : OdJ LL w W1 n vL va W) (hn : n < LL.length) (hv : vL = .slice (some ⟨gL, 0, none⟩) LL.length cap) (hgL : w.heap.size ≤ gL ∧ gL < W1.heap.size) (hr : Rise LL[n])
    (hb : Below W.heap.size W W5) (h5 : OwnTh W1.heap.size W5 v5 (markR n LL[n])) (h5b : ∀ k, v5.ownBlock = some k → W.heap.size ≤ k)
    (h7 : OwnTh W1.heap.size W7 v7 (((markL LL).take n).flatten ++ markR n LL[n])) (hg : (W5.setCell ⟨gL, n, none⟩ v5).grownBy W7 va.ownBlock) (hv7 : v7.ownBlock = va.ownBlock ∨ v7.ownBlock = some (W5.setCell ⟨gL, n, none⟩ v5).heap.size) : OdJ LL w W1 (n + 1) vL v7 W7 := by
  obtain ⟨a1, a2, a3, a4, a5⟩ := h.below hb
  have hl : ((markL LL).take n ++ LL.drop n).length = LL.length := by rw [List.length_append, List.length_take, markL_len, List.length_drop]; omega
  have hva := fun k (e : va.ownBlock = some k) => h.2.1.lt k e
  have h5in : ThIn (fun k => (k < w.heap.size ∨ W1.heap.size ≤ k) ∧ va.ownBlock ≠ some k) W5 v5 (markR n LL[n]) := h5.in_ _ (fun k e => ⟨.inr (h5.lt k e).1, fun e' => by have := (hva k e').2; have := h5b k e; omega⟩)
  have hset := a1.set (n := n) (L := markR n LL[n]) (by rw [hl]; exact hv) (by rw [hl]; exact hn) (fun e => by rcases e.1 with e | e <;> omega) h5in
  rw [mark_set hn] at hset
  have hsz : (W5.setCell ⟨gL, n, none⟩ v5).heap.size = W5.heap.size := by simp [World.setCell]
  rw [hsz] at hv7
  have hsz7 : W5.heap.size ≤ W7.heap.size := by have := hg.size; rw [hsz] at this; exact this
  have hold : ∀ k, (k < w.heap.size ∨ W1.heap.size ≤ k) ∧ va.ownBlock ≠ some k → k < W5.heap.size → W7.heap[k]? = (W5.setCell ⟨gL, n, none⟩ v5).heap[k]? := fun k e hk => hg.block k (by rw [hsz]; exact hk) (fun e' => e.2 e'.symm)
  have hbw : Below w.heap.size w (W5.setCell ⟨gL, n, none⟩ v5) := a3.setCell hgL.1 _
  refine ⟨?_, ?_, hbw.grown hg hbw.size (fun k e => by have := (hva k e).1; omega), Nat.le_trans a4 hsz7, fun i hi hi' => ?_⟩
  · obtain ⟨us, g1, g2, g3⟩ := hset
    refine ⟨us, g1, ownsRow_keep g2 (fun k e => hg.block k (World.ownsRow.lt g2 k e).2 (fun e' => ?_)), fun j hj hj' => (g3 j hj hj').keep (by rw [hsz]; exact hsz7) (fun k e hk => ⟨⟨e.1, fun e' => ?_⟩, hold k e (by rw [hsz] at hk; exact hk)⟩)⟩
    · subst hv
      cases e
      have := (hva gL e'.symm).1
      omega
    · rcases hv7 with hv7 | hv7
      · exact e.2 (hv7 ▸ e')
      · rw [hv7] at e'; injection e' with e'; rw [hsz] at hk; omega
  · rw [List.take_succ_eq_append_getElem (show n < (markL LL).length by rw [markL_len]; exact hn), List.flatten_append, markL_get LL n hn]
    simpa using h7
  · by_cases e : i = n
    · subst e; exact hr
    · exact a5 i (by omega) hi'
/-- While a row gets its marks. -/
def MkJ (W1 W4 : World) (i : Nat) (L : List Th) (k : Nat) (v : Value) (W : World) : Prop := OwnTh W1.heap.size W v ((markR i L).take k ++ L.drop k) ∧ W4.grownBy W v.ownBlock
theorem MkJ.step {W1 W4 : World} {i : Nat} {L : List Th} {k g cap : Nat} {v : Value} {W : World} (h : MkJ W1 W4 i L k v W) (hk : k < L.length) (hv : v = .slice (some ⟨g, 0, none⟩) L.length cap) : MkJ W1 W4 i L (k + 1) v (W.setCell ⟨g, k * 2 + 1, none⟩ (.int .i64 ((i : Int) * 30 + (k : Int)))) := by
  obtain ⟨h1, h2⟩ := h
  have hkm : k < (markR i L).length := by rw [markR_len]; exact hk
  have hl : ((markR i L).take k).length = k := by rw [List.length_take]; omega
  rw [List.drop_eq_getElem_cons hk] at h1
  have e1 : ((markR i L).take k ++ L[k] :: L.drop (k + 1)).length = L.length := by
    rw [List.length_append, hl, List.length_cons, List.length_drop]; omega
  have h3 := h1.mark (g := g) (cap := cap) (by rw [e1]; exact hv) (((i * 30 + k : Nat) : Int))
  rw [hl] at h3
  have e2 : (markR i L).take (k + 1) ++ L.drop (k + 1) = (markR i L).take k ++ (L[k].1, ((i * 30 + k : Nat) : Int)) :: L.drop (k + 1) := by
    rw [List.take_succ_eq_append_getElem hkm, markR_at i L k hkm hk, List.append_assoc]; rfl
  have e3 : ((i * 30 + k : Nat) : Int) = (i : Int) * 30 + (k : Int) := by simp
  rw [e3] at h3 e2
  refine ⟨by rw [e2]; exact h3, ⟨h2.os, h2.tape, h2.output, by have := h2.size; simpa [World.setCell] using this, fun b hb hne => ?_⟩⟩
  refine (Below.heap_setCell _ _ _ _ (fun e => hne ?_)).trans (h2.block b hb hne)
  subst hv
  rw [e]; rfl
theorem own_lit0 {B : Nat} {w : World} (hB : B ≤ w.heap.size) : OwnTh B (w.alloc (.cells #[] 28)) (.slice (some ⟨w.heap.size, 0, none⟩) 0 0) [] :=
  ⟨rfl, .inr ⟨w.heap.size, 0, #[], rfl, hB, heap_alloc_new w _, Nat.le_refl _, Nat.zero_le _, rfl, rfl⟩⟩
end Go.Proofs.Ytlccleafjpeccaa

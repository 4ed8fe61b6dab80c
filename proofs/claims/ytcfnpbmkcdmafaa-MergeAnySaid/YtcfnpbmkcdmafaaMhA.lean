/-
  Rows of rows of things: what is read, what an argument brings, what the call owns.
-/
import Derived.Test.YtcfnpbmkcdmafaaMgOp
import Derived.Test.YtcfnpbmkcdmafaaMgGh
import Derived.Test.YtcfnpbmkcdmafaaMgRo
namespace Go.Proofs.Ytcfnpbmkcdmafaa
open Go Go.RowKit Go.ChangeShapes Go.WideShapes Go.Deep

set_option maxRecDepth 100000
/-- A slice value reads as rows of things; all their blocks are of S. -/
def RowsIn (S : Nat → Prop) (w : World) (v : Value) (LL : List (List Th)) : Prop :=
  ∃ p c, v = .slice p LL.length c ∧ LL.length ≤ c ∧ c ≤ maxLen ∧ (LL = [] ∨ ∃ b off, p = some ⟨b, off, none⟩ ∧ S b ∧ b < w.heap.size ∧ ∀ j (h : j < LL.length), ∃ u, w.cell? ⟨b, off + j, none⟩ = some u ∧ ThIn S w u LL[j])
theorem RowsIn.keep {S S' : Nat → Prop} {w w' : World} {v : Value} {LL : List (List Th)} (h : RowsIn S w v LL) (hs : w.heap.size ≤ w'.heap.size) (hS : ∀ k, S k → k < w.heap.size → S' k ∧ w'.heap[k]? = w.heap[k]?) : RowsIn S' w' v LL := by
  obtain ⟨p, c, rfl, h1, h2, h⟩ := h
  refine ⟨p, c, rfl, h1, h2, ?_⟩
  rcases h with h | ⟨b, off, rfl, hb, hl, h⟩
  · exact .inl h
  · obtain ⟨g1, g2⟩ := hS b hb hl
    refine .inr ⟨b, off, rfl, g1, by omega, fun j hj => ?_⟩
    obtain ⟨u, hu, ht⟩ := h j hj
    exact ⟨u, (World.cell?_of_block (a := ⟨b, off + j, none⟩) g2).trans hu, ht.keep hs hS⟩
theorem RowsIn.below {S : Nat → Prop} {w w' : World} {v : Value} {LL : List (List Th)} (h : RowsIn S w v LL) (hb : Below w.heap.size w w') : RowsIn S w' v LL := h.keep hb.size fun k e hk => ⟨e, hb.block k hk⟩
theorem RowsIn.at_ {S : Nat → Prop} {w : World} {p : Option Addr} {n c : Nat} {LL : List (List Th)} (h : RowsIn S w (.slice p n c) LL) {j : Nat} (hj : j < LL.length) : ∃ b off pu cu, p = some ⟨b, off, none⟩ ∧ S b ∧ b < w.heap.size ∧ w.cell? ⟨b, off + j, none⟩ = some (.slice pu LL[j].length cu) ∧ ThIn S w (.slice pu LL[j].length cu) LL[j] := by
  obtain ⟨p', c', e, -, -, h⟩ := h
  injection e with e1 e2 e3
  subst e1
  rcases h with h | ⟨b, off, rfl, hb, hl, h⟩
  · rw [h] at hj; simp at hj
  · obtain ⟨u, hu, ht⟩ := h j hj
    obtain ⟨pu, cu, rfl, -⟩ := id ht
    exact ⟨b, off, pu, cu, rfl, hb, hl, hu, ht⟩
theorem RowsIn.rows {S : Nat → Prop} {w : World} {p : Option Addr} {n c : Nat} {LL : List (List Th)} (h : RowsIn S w (.slice p n c) LL) (hL : LL ≠ []) : ∃ b off, p = some ⟨b, off, none⟩ ∧ S b ∧ b < w.heap.size ∧ ∀ j (hj : j < LL.length), ∃ pu cu, w.cell? ⟨b, off + j, none⟩ = some (.slice pu LL[j].length cu) ∧ ThIn S w (.slice pu LL[j].length cu) LL[j] := by
  obtain ⟨p', c', e, -, -, h⟩ := h
  injection e with e1 e2 e3
  subst e1
  rcases h with h | ⟨b, off, rfl, hb, hl, h⟩
  · exact absurd h hL
  · refine ⟨b, off, rfl, hb, hl, fun j hj => ?_⟩
    obtain ⟨u, hu, ht⟩ := h j hj
    obtain ⟨pu, cu, rfl, -⟩ := id ht
    exact ⟨pu, cu, hu, ht⟩
/-- A row of rows of the call's own; the things lie where S says. -/
def OwnRr (B : Nat) (S : Nat → Prop) (w : World) (v : Value) (LL : List (List Th)) : Prop :=
  ∃ us : List Value, us.length = LL.length ∧ w.ownsRow B 22 1 v LL.length us ∧ ∀ j (h : j < us.length) (h' : j < LL.length), ThIn S w us[j] LL[j]
theorem OwnRr.nil (B : Nat) (S : Nat → Prop) (w : World) : OwnRr B S w (.slice none 0 0) [] := ⟨[], rfl, World.ownsRow_nil w B _ 1, fun j h => by simp at h⟩
theorem OwnRr.lt {B : Nat} {S : Nat → Prop} {w : World} {v : Value} {LL : List (List Th)} (h : OwnRr B S w v LL) : ∀ k, v.ownBlock = some k → B ≤ k ∧ k < w.heap.size := by
  obtain ⟨us, -, h, -⟩ := h
  exact World.ownsRow.lt h
theorem ownsRow_keep {B sz n : Nat} {t : TypeId} {w w' : World} {v : Value} {us : List Value} (h : w.ownsRow B t sz v n us) (hb : ∀ k, v.ownBlock = some k → w'.heap[k]? = w.heap[k]?) : w'.ownsRow B t sz v n us := by
  refine ⟨h.1, ?_⟩
  rcases h.2 with hn | ⟨g, cap, cur, rfl, hB, hg, rest⟩
  · exact .inl hn
  · exact .inr ⟨g, cap, cur, rfl, hB, (hb g rfl).trans hg, rest⟩
theorem OwnRr.keep {B : Nat} {S : Nat → Prop} {w w' : World} {v : Value} {LL : List (List Th)} (h : OwnRr B S w v LL) (hs : w.heap.size ≤ w'.heap.size) (hS : ∀ k, S k → k < w.heap.size → w'.heap[k]? = w.heap[k]?) (hb : ∀ k, v.ownBlock = some k → w'.heap[k]? = w.heap[k]?) : OwnRr B S w' v LL := by
  obtain ⟨us, h1, h2, h3⟩ := h
  exact ⟨us, h1, ownsRow_keep h2 hb, fun j hj hj' => (h3 j hj hj').keep hs (fun k e hk => ⟨e, hS k e hk⟩)⟩
theorem OwnRr.below {B : Nat} {S : Nat → Prop} {w w' : World} {v : Value} {LL : List (List Th)} (h : OwnRr B S w v LL) (hb : Below w.heap.size w w') : OwnRr B S w' v LL := h.keep hb.size (fun k _ hk => hb.block k hk) (fun k e => hb.block k (h.lt k e).2)
theorem OwnRr.in_ {B : Nat} {S S' : Nat → Prop} {w : World} {v : Value} {LL : List (List Th)} (h : OwnRr B S w v LL) (hS : ∀ k, S k → S' k) (hv : ∀ k, v.ownBlock = some k → S' k) : RowsIn S' w v LL := by
  obtain ⟨us, h1, h2, h3⟩ := h
  rcases Nat.eq_zero_or_pos LL.length with h0 | h0
  · obtain rfl := List.eq_nil_of_length_eq_zero h0
    rcases h2.2 with ⟨rfl, -⟩ | ⟨g, cap, cur, rfl, -, -, hnc, hcm, -⟩
    · exact ⟨none, 0, rfl, by simp, by simp, .inl rfl⟩
    · exact ⟨_, cap, rfl, by simp, hcm, .inl rfl⟩
  · have hcap : ∃ g cap, v = .slice (some ⟨g, 0, none⟩) LL.length cap ∧ LL.length ≤ cap ∧ cap ≤ maxLen ∧ g < w.heap.size := by
      rcases h2.2 with ⟨rfl, e⟩ | ⟨g, cap, cur, rfl, -, hg, hnc, hcm, -⟩
      · omega
      · exact ⟨g, cap, rfl, hnc, hcm, (Array.getElem?_eq_some_iff.1 hg).1⟩
    obtain ⟨g, cap, rfl, g1, g2, g3⟩ := hcap
    refine ⟨_, cap, rfl, g1, g2, .inr ⟨g, 0, rfl, hv g rfl, g3, fun j hj => ?_⟩⟩
    have hju : j < us.length := by omega
    have hc := World.ownsRow.cells h2 (g := g) rfl j us[j] (List.getElem?_eq_getElem hju)
    rw [addr_add] at hc
    exact ⟨us[j], hc, (h3 j hju hj).keep (Nat.le_refl _) (fun k e _ => ⟨hS k e, rfl⟩)⟩
theorem infoRr : (Try.prog.info? 22).map (fun i => (i.zero, i.size, i.bytes)) = some (some (.slice none 0 0), 1, 24) := by kernel_rfl
/-- An append of one row onto rows of the call's own: the facts that it leaves. -/
theorem OwnRr.snoc {B : Nat} {S : Nat → Prop} {w' : World} {v' u : Value} {LL : List (List Th)} {L : List Th} {us : List Value} (hu : us.length = LL.length) (hk : ∀ j (h : j < us.length) (h' : j < LL.length), ThIn S w' us[j] LL[j]) (hL : ThIn S w' u L) (ho : w'.ownsRow B 22 1 v' (LL.length + 1) (us ++ [u])) : OwnRr B S w' v' (LL ++ [L]) := by
  refine ⟨us ++ [u], by simp [hu], by rw [List.length_append]; exact ho, fun j hj hj' => ?_⟩
  by_cases e : j < us.length
  · rw [List.getElem_append_left e, List.getElem_append_left (by omega)]
    exact hk j e (by omega)
  · have e1 : j = us.length := by simp at hj; omega
    subst e1
    rw [List.getElem_append_right (Nat.le_refl _), List.getElem_append_right (by omega)]
    simp only [hu, Nat.sub_self, List.getElem_cons_zero]
    exact hL
/-- Rows of things that an argument brings. -/
def ArgRr (W : World) (v : Value) (LL : List (List Th)) : Prop := RowsIn (fun b => b < W.heap.size) W v LL
theorem cellsRow : Try.prog.cellsOf 22 = 1 := by kernel_rfl
theorem open_rrs {H : Type} {enc : TypeId × Value → H} {W : World} {base : Nat} {sp : Nat → Bool} {held : Bool} {r : Reach} {b0 : Nat} {v : Value} {d : DataW H} {p : List MemPlace}
    (hv : Value.okWide Try.prog W r b0 39 v) (h : DataW.Trod enc Try.prog W base sp held 39 v d p) : ∃ LL : List (List Th), ArgRr W v LL := by
  obtain ⟨a, len, cap, rfl⟩ := okWide_slice Try.underlying39 hv
  obtain ⟨fuel, hf⟩ := h
  have hf' : DataW.trod enc Try.prog W base sp held fuel 39 [.slice a len cap] = some (d, p) := hf
  rcases open_slice Try.underlying39 hf' with ⟨e, -⟩ | ⟨a', len', cap', m, n, D, Pl, e, -, hle, hcap, hm, -, hi⟩
  · simp at e
    obtain ⟨rfl, rfl, rfl⟩ := e
    exact ⟨[], none, 0, rfl, Nat.le_refl _, Nat.zero_le _, .inl rfl⟩
  · simp at e
    obtain ⟨rfl, rfl, rfl⟩ := e
    have hlm : len ≤ m := by rw [hm]; split <;> omega
    have hx : ∀ i, i < len → ∃ x : Value × List Th, W.cell? (a'.add i) = some x.1 ∧ ThIn (fun b => b < W.heap.size) W x.1 x.2 := by
      intro i hil
      obtain ⟨cs', hc, ht⟩ := hi i (by omega)
      rw [cellsRow] at hc
      obtain ⟨_, hcl, hat⟩ := World.cells?_some hc
      match cs', hcl with
      | [c0], _ =>
        obtain ⟨L, hL⟩ := open_ths_cell ht
        have h0 := hat 0 (by simp)
        rw [Nat.mul_one] at h0
        exact ⟨(c0, L), by simpa [Addr.add] using h0, hL.1⟩
    obtain ⟨L, rfl, hL⟩ := list_of _ hx
    refine ⟨L.map (·.2), some a', cap, by rw [List.length_map], by rw [List.length_map]; exact hle, hcap, ?_⟩
    by_cases hz : L = []
    · exact .inl (by rw [hz]; rfl)
    · have h0 : 0 < L.length := List.length_pos_iff.2 hz
      have hc0 := (hL 0 h0).1
      obtain ⟨b, off, spot⟩ := a'
      obtain rfl : spot = none := by
        have := World.cell?_spot hc0
        simpa [Addr.add] using this
      have hb := World.block_lt_of_cell? W _ hc0
      rw [addr_add] at hb
      refine .inr ⟨b, off, rfl, hb, hb, fun j hj => ?_⟩
      rw [List.length_map] at hj
      have x0 := (hL j hj).1
      rw [addr_add] at x0
      exact ⟨_, x0, by rw [List.getElem_map]; exact (hL j hj).2⟩
end Go.Proofs.Ytcfnpbmkcdmafaa

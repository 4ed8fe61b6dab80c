/-
  The walk of MergeRows.
-/
import Derived.Test.YtemfglpjokmioaaMgY
import Derived.Test.YtemfglpjokmioaaMgW
namespace Go.Proofs.Ytemfglpjokmioaa
open Go Go.RowKit Go.Shelf

/-- The cursor behind another one: it tells L, and its blocks are those that it had or new ones. -/
def Gh (b : Nat) (W0 : World) (Y0 : Nat → Prop) : List Th → World → Prop := fun L w => ∃ Z, MadeAt Tt b Z L w ∧ ∀ k, k < W0.heap.size → ¬ Y0 k → ¬ Z k
theorem MadeAt.ghost {G : List Th → World → Prop} {b : Nat} {Y : Nat → Prop} {L : List Th} {w : World} (h : MadeAt G b Y L w) : G L w := by
  obtain ⟨-, -, -, h⟩ := h
  rcases h with ⟨fv, k, lb, Y0, -, -, -, h⟩ | ⟨-, rfl, ⟨k, lb, Y0, -, h⟩ | h⟩
  · exact h.ghost
  · exact h.ghost
  · exact h _ _
theorem made_over {b r : Nat} {Y : Nat → Prop} {L : List Th} {W : World} {t : TypeId} (h : MadeAt Tt b Y L W) (hr : W.heap[r]? = some (.cells #[nextV b] t (0, 0))) (hn : ¬ Y r) : MadeAt (Gh b W Y) r (fun k => k = r ∨ Y k) L W := by
  have hl := (Array.getElem?_eq_some_iff.1 hr).1
  refine ⟨?_, .inl rfl, ⟨t, 1, by decide, _, hr, rfl⟩, .inl ⟨nextV b, _, _, Y, cell_of_row _ _ 0 _ _ (0, 0) hr, .next b, fun x e => ⟨.inr e, fun e' => hn (e' ▸ e)⟩, ?_⟩⟩
  · rintro k (rfl | e)
    · exact hl
    · exact h.inside k e
  · refine ⟨h.inside, fun Z L w => MadeAt Tt b Z L w ∧ W.heap.size ≤ w.heap.size ∧ ∀ k, k < W.heap.size → ¬ Y k → ¬ Z k, Y, fun _ e => e, ⟨h, Nat.le_refl _, fun k _ e => e⟩, fun Z L w hj => ⟨hj.1.inside, Z, hj.1, hj.2.2⟩, fun Z L w w' hj hs hb => ⟨hj.1.keep hs hb, Nat.le_trans hj.2.1 hs, hj.2.2⟩, fun Z L w hj => ?_⟩
    refine (next_any hj.1).mono ?_
    rintro e w' ⟨rfl, hu, Z', hs, hm⟩
    refine ⟨rfl, hu, Z', hs, hm, Nat.le_trans hj.2.1 hu.size, fun k hk hny hz => ?_⟩
    rcases hs k hz with e | e
    · exact hj.2.2 k hk hny e
    · have := hj.2.1; omega
/-- What is kept while the rows are told. -/
def SeJ (W0 : World) (b r y : Nat) (Y : Nat → Prop) (L : List Th) (n : Nat) (D : List Th) (W : World) : Prop :=
  n ≤ L.length ∧ (∃ Yr, MadeAt (Gh b W0 Y) r Yr D W ∧ ∀ k, Yr k → k = r ∨ Y k ∨ W0.heap.size ≤ k) ∧ W.heap[y]? = some (.cells #[.int .i64 (n : Nat)] 3 (0, 0)) ∧ W.heap[y + 1]? = some (.cells #[.bool true] 4 (0, 0)) ∧
  Upd (fun k _ => k = y ∨ k = y + 1 ∨ k = r ∨ Y k) W0 W
section
variable {W0 W W' : World} {b r y n : Nat} {Y : Nat → Prop} {L D : List Th}
theorem SeJ.below (h : SeJ W0 b r y Y L n D W) (hb : Below W.heap.size W W') : SeJ W0 b r y Y L n D W' := by
  obtain ⟨h1, ⟨Yr, h2, h3⟩, h4, h5, h6⟩ := h
  exact ⟨h1, ⟨Yr, h2.keep hb.size (fun k e => hb.block k (h2.inside k e)), h3⟩, (hb.block _ (Array.getElem?_eq_some_iff.1 h4).1).trans h4, (hb.block _ (Array.getElem?_eq_some_iff.1 h5).1).trans h5, h6.trans (Upd.of_below hb)⟩
theorem SeJ.same (h : SeJ W0 b r y Y L n D W) {k : Nat} {o : Obj} (hk : W0.heap[k]? = some o) (h1 : k ≠ y) (h2 : k ≠ y + 1) (h3 : k ≠ r) (h4 : ¬ Y k) : W.heap[k]? = some o :=
  (h.2.2.2.2.block k (Array.getElem?_eq_some_iff.1 hk).1 (fun _ e => by rcases e with e | e | e | e; · exact h1 e
                                                                        · exact h2 e
                                                                        · exact h3 e
                                                                        · exact h4 e)).trans hk
theorem SeJ.move (hy : y + 1 < W0.heap.size) (hyr : y ≠ r ∧ y + 1 ≠ r ∧ ¬ Y y ∧ ¬ Y (y + 1)) (h : SeJ W0 b r y Y L n D W) : Calls Try.prog 49 #[.pointer (some ⟨r, 0, none⟩)] W fun e W' => e = .returned (headV D) ∧ SeJ W0 b r y Y L n D.tail W' := by
  obtain ⟨h1, ⟨Yr, h2, h3⟩, h4, h5, h6⟩ := h
  refine (next_any h2).mono ?_
  rintro e W' ⟨rfl, hu, Y', hs, hm⟩
  have hz := h6.size
  have ny : ∀ k, k < W0.heap.size → k ≠ r → ¬ Y k → ¬ Yr k := fun k a1 a2 a3 e => by
    rcases h3 k e with e | e | e
    · exact a2 e
    · exact a3 e
    · omega
  refine ⟨rfl, h1, ⟨Y', hm, fun k e => ?_⟩, (hu.block _ (by omega) (fun _ e => ny y (by omega) hyr.1 hyr.2.2.1 e)).trans h4, (hu.block _ (by omega) (fun _ e => ny (y + 1) hy hyr.2.1 hyr.2.2.2 e)).trans h5, h6.then hu (fun x _ hx e => ?_)⟩
  · rcases hs k e with e | e
    · exact h3 k e
    · exact .inr (.inr (by omega))
  · rcases h3 x e with e | e | e
    · exact .inr (.inr (.inl e))
    · exact .inr (.inr (.inr e))
    · omega
end
/-- What the row of all things is asked with. -/
theorem all_rows {W0 : World} {b r z y off cap bl : Nat} {Y : Nat → Prop} {mo : Int} {L : List Th} (hm : MadeAt Tt b Y L W0) (hr : ∃ t, W0.heap[r]? = some (.cells #[nextV b] t (0, 0))) (hnr : ¬ Y r)
    (hz0 : W0.heap[z]? = some (.cells #[.slice (some ⟨bl, off, none⟩) L.length cap] 22 (0, 0)) ∨ L = []) (hz1 : W0.heap[z + 1]? = some (.cells #[.int .i64 mo] 3 (0, 0)))
    (hy0 : W0.heap[y]? = some (.cells #[.int .i64 0] 3 (0, 0))) (hy1 : W0.heap[y + 1]? = some (.cells #[.bool true] 4 (0, 0))) (hz : z + 1 < y)
    (hc : L = [] ∨ ∀ j (h : j < L.length), W0.cell? ⟨bl, off + j * 2, none⟩ = some (.int .i8 L[j].1) ∧ W0.cell? ⟨bl, off + j * 2 + 1, none⟩ = some (.int .i64 L[j].2)) (hbl : L = [] ∨ (bl < z ∧ ¬ Y bl))
    (hry : z + 1 < r ∧ r ≠ y ∧ r ≠ y + 1) (hYz : ∀ k, Y k → z + 1 < k ∧ k ≠ y ∧ k ≠ y + 1) (hL : L.length ≤ 30) (hmo : 1 ≤ mo) :
    Calls Try.prog 48 #[.func (.func 18) #[] #[.pointer (some ⟨y + 1, 0, none⟩), .pointer (some ⟨y, 0, none⟩), .pointer (some ⟨z, 0, none⟩), .pointer (some ⟨z + 1, 0, none⟩)], .pointer (some ⟨r, 0, none⟩)] W0 fun e W =>
      e = .returned (.tuple #[]) ∧ ∃ n : Nat, n ≤ L.length ∧ (n : Int) ≤ mo ∧ (n = L.length ∨ (n : Int) = mo) ∧ (∃ Yr, MadeAt (Gh b W0 Y) r Yr (L.drop n) W) ∧ W.heap[y]? = some (.cells #[.int .i64 (n : Nat)] 3 (0, 0)) ∧ W.heap[y + 1]? = some (.cells #[.bool true] 4 (0, 0)) ∧ Upd (fun k _ => k = y ∨ k = y + 1 ∨ k = r ∨ Y k) W0 W := by
  obtain ⟨t, hr⟩ := hr
  have ly := (Array.getElem?_eq_some_iff.1 hy1).1
  have hyr : y ≠ r ∧ y + 1 ≠ r ∧ ¬ Y y ∧ ¬ Y (y + 1) := ⟨fun e => hry.2.1 e.symm, fun e => hry.2.2 e.symm, fun e => (hYz y e).2.1 rfl, fun e => (hYz (y + 1) e).2.2 rfl⟩
  have h0 : SeJ W0 b r y Y L 0 L W0 := ⟨Nat.zero_le _, ⟨_, made_over hm hr hnr, fun k e => e.imp_right .inl⟩, hy0, hy1, Upd.refl _ _⟩
  refine (all1_plain _ _ (enters_of Try.func18 (by kernel_rfl) rfl) r (fun D W => ∃ n : Nat, D = L.drop n ∧ (n : Int) < mo ∧ SeJ W0 b r y Y L n D W) (fun D W => ∃ n : Nat, D = L.drop n ∧ (n : Int) < mo ∧ SeJ W0 b r y Y L n D.tail W)
    (fun W => ∃ n : Nat, n ≤ L.length ∧ (n : Int) = mo ∧ SeJ W0 b r y Y L n (L.drop n) W) (fun D W o h => ?_) (fun D W h => ?_) (fun x D W h => ?_) L W0 ⟨0, rfl, by omega, h0⟩).mono ?_
  · obtain ⟨n, a1, a2, a3⟩ := h
    exact ⟨n, a1, a2, a3.below ((Below.refl _ _).alloc (Nat.le_refl _) o)⟩
  · obtain ⟨n, a1, a2, a3⟩ := h
    refine (a3.move ly hyr).mono ?_
    rintro e W' ⟨rfl, h⟩
    exact ⟨rfl, n, a1, a2, h⟩
  · obtain ⟨n, a1, a2, a3⟩ := h
    have hlt : n < L.length := by
      have h := congrArg List.length a1
      rw [List.length_drop, List.length_cons] at h
      omega
    have hd := List.drop_eq_getElem_cons hlt
    rw [← a1] at hd
    injection hd with hx hD
    have hne : L ≠ [] := by rintro rfl; simp at hlt
    have hz0' := hz0.resolve_right hne
    obtain ⟨hb1, hb2⟩ := hbl.resolve_left hne
    have hcj := hc.resolve_left hne n hlt
    have same : ∀ {k : Nat} {o : Obj}, W0.heap[k]? = some o → k ≤ z + 1 → W.heap[k]? = some o := fun {k o} hk hle =>
      a3.same hk (by omega) (by omega) (by omega) (fun e => by have := (hYz k e).1; omega)
    have hcell : ∀ o v, W0.cell? ⟨bl, o, none⟩ = some v → W.cell? ⟨bl, o, none⟩ = some v := fun o v e =>
      (a3.2.2.2.2.cell bl o (World.block_lt_of_cell? _ _ e) (fun e' => by
        rcases e' with e' | e' | e' | e'
        · omega
        · omega
        · omega
        · exact hb2 e')).trans e
    refine (rows1_any (z := z) (y := y) (n := n) (L := L) (most := mo) (x := x) (same hz0' (by omega)) (same hz1 (Nat.le_refl _)) a3.2.2.1 a3.2.2.2.1 hz hlt hL (by rw [hx]; exact ⟨hcell _ _ hcj.1, hcell _ _ hcj.2⟩)).mono ?_
    rintro e W' ⟨rfl, hu, k1, k2⟩
    have hj : SeJ W0 b r y Y L (n + 1) D W' := by
      obtain ⟨s1, ⟨Yr, s2, s3⟩, s4, s5, s6⟩ := a3
      have hsz := s6.size
      have hnr' : ∀ k, Yr k → ¬ (k = y ∨ k = y + 1) := fun k e e' => by
        rcases s3 k e with a | a | a
        · rcases e' with e' | e' <;> omega
        · have := hYz k a; omega
        · omega
      refine ⟨hlt, ⟨Yr, s2.keep hu.size (fun k e => hu.block k (s2.inside k e) (fun _ e' => hnr' k e e')), s3⟩, k1, k2, s6.then hu (fun k _ _ e => by
        rcases e with e | e
        · exact .inl e
        · exact .inr (.inl e))⟩
    by_cases hlast : ((n : Int) + 1) < mo
    · exact .inl ⟨by rw [decide_eq_true hlast], n + 1, hD, by omega, hj⟩
    · refine .inr ⟨by rw [decide_eq_false hlast], n + 1, hlt, by omega, ?_⟩
      rw [← hD]
      exact hj
  · rintro e W ⟨rfl, ⟨n, a1, a2, a3⟩ | ⟨n, a1, a2, a3⟩⟩
    · have hnl : n = L.length := by
        have h := congrArg List.length a1
        rw [List.length_drop, List.length_nil] at h
        have := a3.1
        omega
      refine ⟨rfl, n, a3.1, by omega, .inl hnl, ?_, a3.2.2.1, a3.2.2.2.1, a3.2.2.2.2⟩
      obtain ⟨Yr, s2, -⟩ := a3.2.1
      rw [← a1]
      exact ⟨Yr, s2⟩
    · refine ⟨rfl, n, a1, by omega, .inr a2, ?_, a3.2.2.1, a3.2.2.2.1, a3.2.2.2.2⟩
      obtain ⟨Yr, s2, -⟩ := a3.2.1
      exact ⟨Yr, s2⟩
end Go.Proofs.Ytemfglpjokmioaa

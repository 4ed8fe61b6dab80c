/-
  The document's reader of tokens: how it stands, what a part of it does; next, fault.
  The document's reader: take, mark, a name, a type, a term.
  The document's reader: mark, reserved, name, takeName, kind.
  The document's reader: takeName, kind, op, term.
  The document's reader: term.
  The document's reader: what its loops keep.
-/
import Derived.Test.YtnbaemfkpfmheaaGreatDoorG13
import Derived.Test.YtnbaemfkpfmheaaGreatDoorG03
import Derived.Test.YtnbaemfkpfmheaaGreatDoorG14
import Derived.RegionTactic
import Derived.BigRegion
namespace Go.Proofs.YtnbaemfkpfmheaaGreatDoor
section
open Go Go.RowKit Go.Shelf

/-- How the reader stands: the next token; whether one did not fit, and where. -/
structure Qs where
  i : Nat
  bad : Bool
  q : Nat
/-- The reader at block b; the tokens lie below n. -/
structure Rq (n : Nat) (W : World) (b : Nat) (L : List Wd) (e : Nat) (s : Qs) : Prop where
  row : ∃ v, RdAt W b v s.i e s.bad s.q ∧ WIn (fun k => k ≠ b ∧ k < n) W v L
  le : s.i ≤ L.length
  len : L.length ≤ 100000
  at_ : b < n
  below_ : n ≤ W.heap.size
section
variable {n b e : Nat} {W W' : World} {L : List Wd} {s : Qs}
theorem Rq.lt (h : Rq n W b L e s) : b < W.heap.size := Nat.lt_of_lt_of_le h.at_ h.below_
theorem Rq.keep (h : Rq n W b L e s) (hs : W.heap.size ≤ W'.heap.size) (hb : ∀ k, k < n → W'.heap[k]? = W.heap[k]?) : Rq n W' b L e s := by
  obtain ⟨⟨v, h1, h2⟩, h3, h4, h5, h6⟩ := h
  exact ⟨⟨v, (hb b h5).trans h1, h2.keep hs fun k e hk => ⟨e, hb k e.2⟩⟩, h3, h4, h5, by omega⟩
theorem Rq.below (h : Rq n W b L e s) (hb : Below W.heap.size W W') : Rq n W' b L e s := h.keep hb.size fun k hk => hb.block k (Nat.lt_of_lt_of_le hk h.below_)
theorem Rq.alloc (h : Rq n W b L e s) (o : Obj) : Rq n (W.alloc o) b L e s := h.below ((Below.refl _ W).alloc (Nat.le_refl _) o)
theorem Rq.turned {Z : Nat → Prop} (h : Rq n W b L e s) (ht : Turned Z W W') (hZ : ∀ k, Z k → n ≤ k) : Rq n W' b L e s := h.keep ht.size fun k hk => ht.block k (Nat.lt_of_lt_of_le hk h.below_) fun e => by have := hZ k e; omega
theorem Rq.set (h : Rq n W b L e s) {k : Nat} (hk : n ≤ k) (j : Nat) (u : Value) : Rq n (W.setCell ⟨k, j, none⟩ u) b L e s := h.turned (Turned.set W k j u) fun _ e => by rw [e]; exact hk
theorem Rq.drew (h : Rq n W b L e s) : Rq n W.drew b L e s := h.keep (Nat.le_refl _) fun _ _ => rfl
theorem Rq.still (h : Rq n W b L e s) (hs : Still W W') : Rq n W' b L e s := h.below hs.1
/-- The reader one token on. -/
theorem Rq.step (h : Rq n W b L e s) (hi : s.i < L.length) : Rq n (W.setCell ⟨b, 1, none⟩ (.int .i64 ((s.i : Int) + 1))) b L e { s with i := s.i + 1 } := by
  obtain ⟨⟨v, h1, h2⟩, h3, h4, h5, h6⟩ := h
  refine ⟨⟨v, ?_, h2.keep (by simp) fun k e _ => ⟨e, heap_setCell_other W ⟨b, 1, none⟩ k _ e.1⟩⟩, hi, h4, h5, by simpa using h6⟩
  have := Go.heap_setCell_same W b 1 _ _ (.int .i64 ((s.i : Int) + 1)) h1
  unfold RdAt
  rw [this]
  simp
/-- The reader at its first fault. -/
theorem Rq.faulted (h : Rq n W b L e s) (q : Nat) : Rq n ((W.setCell ⟨b, 3, none⟩ (.bool true)).setCell ⟨b, 4, none⟩ (.int .i64 q)) b L e ⟨s.i, true, q⟩ := by
  obtain ⟨⟨v, h1, h2⟩, h3, h4, h5, h6⟩ := h
  refine ⟨⟨v, ?_, h2.keep (by simp) fun k e _ => ⟨e, (heap_setCell_other _ ⟨b, 4, none⟩ k _ e.1).trans (heap_setCell_other W ⟨b, 3, none⟩ k _ e.1)⟩⟩, h3, h4, h5, by simpa using h6⟩
  have g1 := Go.heap_setCell_same W b 3 _ _ (.bool true) h1
  have g2 := Go.heap_setCell_same _ b 4 _ _ (.int .i64 q) g1
  unfold RdAt
  rw [g2]
  simp
end
theorem Still.turned {W W' : World} (h : Still W W') (Y : Nat → Prop) : Turned Y W W' := Turned.of_below h.1
/-- Where the first fault is told. -/
def Qs.fault (s : Qs) (L : List Wd) (e : Nat) : Qs := if s.bad = true then s else ⟨s.i, true, hereW e (L.drop s.i)⟩
theorem Qs.fault_i (s : Qs) (L : List Wd) (e : Nat) : (s.fault L e).i = s.i := by unfold Qs.fault; split <;> rfl
theorem Qs.fault_bad (s : Qs) (L : List Wd) (e : Nat) : (s.fault L e).bad = true := by unfold Qs.fault; split <;> first | assumption | rfl
theorem hereL_eq (L : List Wd) (i e : Nat) : hereL L i e = hereW e (L.drop i) := by
  unfold hereL
  rcases Nat.lt_or_ge i L.length with h | h
  · rw [List.getElem?_eq_getElem h, List.drop_eq_getElem_cons h]; rfl
  · rw [List.getElem?_eq_none h, List.drop_eq_nil_of_le h]; rfl

/-- What a part of the reader does: from where it stood to where it stands. -/
structure Aft {α : Type} (p : Rd α) (L : List Wd) (e : Nat) (s : Qs) (a : α) (s' : Qs) : Prop where
  up : s.i ≤ s'.i
  le : s'.i ≤ L.length
  bad : s.bad = true → s'.bad = true ∧ s'.q = s.q
  ok : s.bad = false → s'.bad = false → p (keys (L.drop s.i)) = .ok a (keys (L.drop s'.i))
  no : s.bad = false → s'.bad = true → ∃ j, j ≤ L.length ∧ p (keys (L.drop s.i)) = .bad (keys (L.drop j)) ∧ s'.q = hereW e (L.drop j)
section
variable {α β : Type} {L : List Wd} {e : Nat} {s s1 s' : Qs}
theorem Aft.bind {p : Rd α} {f : α → Rd β} {a : α} {c : β} (h : Aft p L e s a s1) (g : Aft (f a) L e s1 c s') : Aft (bindR p f) L e s c s' := by
  refine ⟨Nat.le_trans h.up g.up, g.le, fun hb => ?_, fun hs hs' => ?_, fun hs hs' => ?_⟩
  · obtain ⟨h1, h2⟩ := h.bad hb
    obtain ⟨g1, g2⟩ := g.bad h1
    exact ⟨g1, g2.trans h2⟩
  · cases h1 : s1.bad with
    | true => exact absurd (g.bad h1).1 (by rw [hs']; simp)
    | false => exact (bind_ok (h.ok hs h1)).trans (g.ok h1 hs')
  · cases h1 : s1.bad with
    | true =>
      obtain ⟨j, j1, j2, j3⟩ := h.no hs h1
      exact ⟨j, j1, bind_bad j2, (g.bad h1).2.trans j3⟩
    | false =>
      obtain ⟨j, j1, j2, j3⟩ := g.no h1 hs'
      exact ⟨j, j1, (bind_ok (h.ok hs h1)).trans j2, j3⟩
theorem Aft.pure (hi : s.i ≤ L.length) (a : α) : Aft (pureR a) L e s a s := ⟨Nat.le_refl _, hi, fun h => ⟨h, rfl⟩, fun _ _ => rfl, fun h h' => (by rw [h] at h'; cases h')⟩
theorem Aft.map {p : Rd α} {a : α} (h : Aft p L e s a s') (f : α → β) : Aft (bindR p fun a => pureR (f a)) L e s (f a) s' := h.bind (Aft.pure h.le _)
theorem Aft.congr {p p' : Rd α} {a : α} (h : Aft p L e s a s') (hp : s.bad = false → p (keys (L.drop s.i)) = p' (keys (L.drop s.i))) : Aft p' L e s a s' :=
  ⟨h.up, h.le, h.bad, fun hs hs' => (hp hs).symm.trans (h.ok hs hs'), fun hs hs' => by
    obtain ⟨j, j1, j2, j3⟩ := h.no hs hs'
    exact ⟨j, j1, (hp hs).symm.trans j2, j3⟩⟩
/-- Where it stood at a fault already any part does. -/
theorem Aft.any {p : Rd α} {p' : Rd β} {a : α} (h : Aft p L e s a s') (hs : s.bad = true) (c : β) : Aft p' L e s c s' :=
  ⟨h.up, h.le, h.bad, fun h0 => (by rw [hs] at h0; cases h0), fun h0 => by rw [hs] at h0; cases h0⟩
/-- Where it ended at a fault any answer does. -/
theorem Aft.junk {p : Rd α} {a : α} (h : Aft p L e s a s') (hs : s'.bad = true) (c : α) : Aft p L e s c s' :=
  ⟨h.up, h.le, h.bad, fun _ h0 => (by rw [hs] at h0; cases h0), h.no⟩
theorem Aft.fault {p : Rd α} (hi : s.i ≤ L.length) (a : α) (h : s.bad = false → p (keys (L.drop s.i)) = .bad (keys (L.drop s.i))) : Aft p L e s a (s.fault L e) :=
  ⟨Nat.le_of_eq (s.fault_i L e).symm, by rw [s.fault_i]; exact hi, fun hb => (by unfold Qs.fault; rw [if_pos hb]; exact ⟨hb, rfl⟩), fun _ h' => (by rw [s.fault_bad] at h'; cases h'),
    fun hs _ => ⟨s.i, hi, h hs, by unfold Qs.fault; rw [if_neg (by rw [hs]; simp)]⟩⟩
/-- Is the next one so? -/
def nxB (s : Qs) (L : List Wd) (q : Kt → Bool) : Bool := !s.bad && nxt q (keys (L.drop s.i))
theorem nxB.yes {q : Kt → Bool} (h : nxB s L q = true) : s.bad = false ∧ nxt q (keys (L.drop s.i)) = true := by
  unfold nxB at h
  cases hb : s.bad <;> simp_all
theorem nxB.no {q : Kt → Bool} (h : nxB s L q = false) (hb : s.bad = false) : nxt q (keys (L.drop s.i)) = false := by
  unfold nxB at h
  rw [hb] at h
  simpa using h
theorem nxB.lt {q : Kt → Bool} (h : nxB s L q = true) : s.i < L.length := by
  rcases Nat.lt_or_ge s.i L.length with h1 | h1
  · exact h1
  · have h2 := (nxB.yes h).2
    rw [List.drop_eq_nil_of_le h1] at h2
    cases h2
theorem Aft.alt_yes {q : Kt → Bool} {p p' : Rd α} {a : α} (h : Aft p L e s a s') (hq : nxB s L q = true) : Aft (altR q p p') L e s a s' := h.congr fun _ => by
  unfold altR
  rw [if_pos (nxB.yes hq).2]
theorem Aft.alt_no {q : Kt → Bool} {p p' : Rd α} {a : α} (h : Aft p' L e s a s') (hq : nxB s L q = false) : Aft (altR q p p') L e s a s' := h.congr fun hb => by
  unfold altR
  rw [if_neg (by rw [nxB.no hq hb]; simp)]
theorem dropK_at {i : Nat} (h : i < L.length) : keys (L.drop i) = L[i].key :: keys (L.drop (i + 1)) := by rw [List.drop_eq_getElem_cons h]; rfl
/-- One token on. -/
theorem Aft.step {q : Kt → Bool} (h : nxB s L q = true) (hl : s.i < L.length) : Aft (tok1 q) L e s L[s.i].key { s with i := s.i + 1 } := by
  obtain ⟨h1, h2⟩ := nxB.yes h
  refine ⟨Nat.le_succ _, hl, fun h0 => (by rw [h1] at h0; cases h0), fun _ _ => ?_, fun _ h0 => by rw [show s.bad = true from h0] at h1; cases h1⟩
  rw [dropK_at hl] at h2 ⊢
  rw [tok1_cons, if_pos (show q L[s.i].key = true from h2)]
theorem Aft.unstep {q : Kt → Bool} (hi : s.i ≤ L.length) (h : nxB s L q = false) (a : Kt) : Aft (tok1 q) L e s a (s.fault L e) := .fault hi a fun hb => tok1_no (nxB.no h hb)
end
/-- A token of this kind, with this text (none: any). -/
def isKT (k : Int) (T : List UInt8) (t : Kt) : Bool := t.1 == k && (T == [] || t.2.1 == T)
theorem nextL_eq (L : List Wd) (i : Nat) (k : Int) (T : List UInt8) : nextL L i k T = nxt (isKT k T) (keys (L.drop i)) := by
  unfold nextL
  rcases Nat.lt_or_ge i L.length with h | h
  · rw [List.getElem?_eq_getElem h, dropK_at h]; rfl
  · rw [List.getElem?_eq_none h, List.drop_eq_nil_of_le h]; rfl
abbrev rdq (b : Nat) : Value := .pointer (some ⟨b, 0, none⟩)
/-- How a test of the next token ends. -/
def NxE (n b e : Nat) (L : List Wd) (s : Qs) (q : Kt → Bool) (W : World) (x : Ending) (w' : World) : Prop :=
  ((nxB s L q = true ∧ x = .returned (.bool true)) ∨ (nxB s L q = false ∧ x = .returned (.bool false))) ∧ Still W w' ∧ Rq n w' b L e s
theorem qnext_any {n b e : Nat} {W : World} {L : List Wd} {s : Qs} (h : Rq n W b L e s) (k : Int) (T : List UInt8) :
    Calls Tryz.prog 24 #[rdq b, .int .i64 k, .string ⟨T.toArray⟩] W (NxE n b e L s (isKT k T) W) := by
  obtain ⟨v, h1, h2⟩ := h.row
  refine (rnext_any W h2 h1 h.le k T).mono ?_
  rintro x w' ⟨rfl, hs⟩
  rw [nextL_eq]
  refine ⟨?_, hs, h.still hs⟩
  cases hb : nxB s L (isKT k T)
  · exact .inr ⟨rfl, by rw [← hb]; rfl⟩
  · exact .inl ⟨rfl, by rw [← hb]; rfl⟩
set_option maxRecDepth 100000 in
theorem qfault_any {n b e : Nat} {W : World} {L : List Wd} {s : Qs} (h : Rq n W b L e s) :
    Calls Tryz.prog 54 #[rdq b] W fun x w' => x = .returned (.tuple #[]) ∧ Turned (fun k => k = b) W w' ∧ Rq n w' b L e (s.fault L e) := by
  have HR := Lib.hid h
  obtain ⟨v, h1, h2⟩ := h.row
  have HH := Lib.hid (rhere_any W h2 h1 h.le)
  obtain ⟨c0, c1, c2, c3, c4⟩ := h1.cells
  have HA := Lib.hid h1
  clear h2
  cases hb : s.bad with
  | true =>
    have HF := Lib.hid (show s.fault L e = s by unfold Qs.fault; rw [if_pos hb])
    rw [hb] at c3
    clear h1 h hb
    go_enter Tryz.func54, Tryz.ntmps54
    go_wp2_with fail
    exact bodyPost_end (results_none rfl _ _ _) rfl ⟨rfl, Turned.refl _ _, by rw [HF.out]; exact HR.out⟩
  | false =>
    have HF := Lib.hid (show s.fault L e = ⟨s.i, true, hereW e (L.drop s.i)⟩ by unfold Qs.fault; rw [if_neg (by rw [hb]; simp)])
    rw [hb] at c3
    clear h1 h hb
    go_enter Tryz.func54, Tryz.ntmps54
    go_wp2_with fail
    refine HH.out.mono ?_
    rintro y w1 ⟨rfl, hs⟩
    have h1 : RdAt w1 b v s.i e s.bad s.q := by unfold RdAt; rw [hs.2]; exact HA.out
    have f3 : w1.frozen? ⟨b, 3, none⟩ = false := frozen_of_row _ b 3 _ _ h1
    have f4 : w1.frozen? ⟨b, 4, none⟩ = false := frozen_of_row _ b 4 _ _ h1
    obtain ⟨d0, d1, d2, d3, d4⟩ := h1.cells
    have HS := Lib.hid hs
    clear hs h1 c0 c1 c2 c3 c4
    go_wp2_with fail
    refine bodyPost_end (results_none rfl _ _ _) rfl ⟨rfl, ?_, ?_⟩
    · exact (HS.out.turned _).trans (((Turned.set w1 b 3 _).trans (Turned.set _ b 4 _) fun _ _ e => e)) fun _ _ e => e
    · rw [HF.out, ← hereL_eq]
      exact (HR.out.still HS.out).faulted _
end
section
open Go Go.RowKit Go.Shelf

theorem rowQ6_set {w1 : World} {b : Nat} {t : TypeId} {x0 x1 x2 x3 x4 x5 y0 y1 y2 y3 y4 y5 : Value} (h : w1.heap[b]? = some (.cells #[x0, x1, x2, x3, x4, x5] t (0, 0))) :
    ((((((w1.setCell ⟨b, 0, none⟩ y0).setCell ⟨b, 1, none⟩ y1).setCell ⟨b, 2, none⟩ y2).setCell ⟨b, 3, none⟩ y3).setCell ⟨b, 4, none⟩ y4).setCell ⟨b, 5, none⟩ y5).heap[b]? = some (.cells #[y0, y1, y2, y3, y4, y5] t (0, 0)) := by
  have h0 : (w1.setCell ⟨b, 0, none⟩ y0).heap[b]? = some (.cells #[y0, x1, x2, x3, x4, x5] t (0, 0)) := Go.heap_setCell_same _ b 0 _ _ y0 h
  have h1 : ((w1.setCell ⟨b, 0, none⟩ y0).setCell ⟨b, 1, none⟩ y1).heap[b]? = some (.cells #[y0, y1, x2, x3, x4, x5] t (0, 0)) := Go.heap_setCell_same _ b 1 _ _ y1 h0
  have h2 : (((w1.setCell ⟨b, 0, none⟩ y0).setCell ⟨b, 1, none⟩ y1).setCell ⟨b, 2, none⟩ y2).heap[b]? = some (.cells #[y0, y1, y2, x3, x4, x5] t (0, 0)) := Go.heap_setCell_same _ b 2 _ _ y2 h1
  have h3 : ((((w1.setCell ⟨b, 0, none⟩ y0).setCell ⟨b, 1, none⟩ y1).setCell ⟨b, 2, none⟩ y2).setCell ⟨b, 3, none⟩ y3).heap[b]? = some (.cells #[y0, y1, y2, y3, x4, x5] t (0, 0)) := Go.heap_setCell_same _ b 3 _ _ y3 h2
  have h4 : (((((w1.setCell ⟨b, 0, none⟩ y0).setCell ⟨b, 1, none⟩ y1).setCell ⟨b, 2, none⟩ y2).setCell ⟨b, 3, none⟩ y3).setCell ⟨b, 4, none⟩ y4).heap[b]? = some (.cells #[y0, y1, y2, y3, y4, x5] t (0, 0)) := Go.heap_setCell_same _ b 4 _ _ y4 h3
  have h5 : ((((((w1.setCell ⟨b, 0, none⟩ y0).setCell ⟨b, 1, none⟩ y1).setCell ⟨b, 2, none⟩ y2).setCell ⟨b, 3, none⟩ y3).setCell ⟨b, 4, none⟩ y4).setCell ⟨b, 5, none⟩ y5).heap[b]? = some (.cells #[y0, y1, y2, y3, y4, y5] t (0, 0)) := Go.heap_setCell_same _ b 5 _ _ y5 h4
  exact h5
theorem cellsQ6 {W : World} {b : Nat} {x0 x1 x2 x3 x4 x5 : Value} {t : TypeId} (h : W.heap[b]? = some (.cells #[x0, x1, x2, x3, x4, x5] t (0, 0))) :
    (W.cell? ⟨b, 0, none⟩ = some x0 ∧ W.cell? ⟨b, 1, none⟩ = some x1 ∧ W.cell? ⟨b, 2, none⟩ = some x2 ∧ W.cell? ⟨b, 3, none⟩ = some x3 ∧ W.cell? ⟨b, 4, none⟩ = some x4 ∧ W.cell? ⟨b, 5, none⟩ = some x5) ∧ W.frozen? ⟨b, 0, none⟩ = false ∧ W.frozen? ⟨b, 1, none⟩ = false ∧ W.frozen? ⟨b, 2, none⟩ = false ∧ W.frozen? ⟨b, 3, none⟩ = false ∧ W.frozen? ⟨b, 4, none⟩ = false ∧ W.frozen? ⟨b, 5, none⟩ = false :=
  ⟨⟨(cell_of_row _ b 0 _ _ (0, 0) h).trans rfl, (cell_of_row _ b 1 _ _ (0, 0) h).trans rfl, (cell_of_row _ b 2 _ _ (0, 0) h).trans rfl, (cell_of_row _ b 3 _ _ (0, 0) h).trans rfl, (cell_of_row _ b 4 _ _ (0, 0) h).trans rfl, (cell_of_row _ b 5 _ _ (0, 0) h).trans rfl⟩, frozen_of_row _ b 0 _ _ h, frozen_of_row _ b 1 _ _ h, frozen_of_row _ b 2 _ _ h, frozen_of_row _ b 3 _ _ h, frozen_of_row _ b 4 _ _ h, frozen_of_row _ b 5 _ _ h⟩
theorem setQ6_off {w1 : World} {b k : Nat} {y0 y1 y2 y3 y4 y5 : Value} (h : k ≠ b) : ((((((w1.setCell ⟨b, 0, none⟩ y0).setCell ⟨b, 1, none⟩ y1).setCell ⟨b, 2, none⟩ y2).setCell ⟨b, 3, none⟩ y3).setCell ⟨b, 4, none⟩ y4).setCell ⟨b, 5, none⟩ y5).heap[k]? = w1.heap[k]? := (heap_setCell_other _ ⟨b, 5, none⟩ k _ h).trans ((heap_setCell_other _ ⟨b, 4, none⟩ k _ h).trans ((heap_setCell_other _ ⟨b, 3, none⟩ k _ h).trans ((heap_setCell_other _ ⟨b, 2, none⟩ k _ h).trans ((heap_setCell_other _ ⟨b, 1, none⟩ k _ h).trans (heap_setCell_other _ ⟨b, 0, none⟩ k _ h)))))

theorem heap_of_still {W W' : World} (h : Still W W') (k : Nat) : W'.heap[k]? = W.heap[k]? := by rw [h.2]
/-- A token as a value, at any place. -/
def wdT (_ : Nat → Prop) (_ : World) (v : Value) (t : Kt) : Prop := ∃ p, v = wordV ⟨t.1, t.2.1, t.2.2, p⟩
/-- How a part of the reader ends. -/
def QEnd {α : Type} (p : Rd α) (T : (Nat → Prop) → World → Value → α → Prop) (n b e : Nat) (L : List Wd) (s : Qs) (w : World) (x : Ending) (w' : World) : Prop :=
  Turned (fun k => k = b) w w' ∧ ∃ a s' v, Aft p L e s a s' ∧ x = .returned v ∧ T (fun k => w.heap.size ≤ k) w' v a ∧ Rq n w' b L e s'
abbrev zWd : Obj := .cells #[.int .i64 0, .string ⟨#[]⟩, .int .i64 0, .int .i64 0, .string ⟨#[]⟩, .int .i64 0] 107
set_option maxRecDepth 100000 in
set_option maxHeartbeats 2000000 in
theorem qtake_any {n b e : Nat} {W : World} {L : List Wd} {s : Qs} (h : Rq n W b L e s) (k : Int) (T : List UInt8) :
    Calls Tryz.prog 55 #[rdq b, .int .i64 k, .string ⟨T.toArray⟩] W (QEnd (tok1 (isKT k T)) wdT n b e L s W) := by
  have HR := Lib.hid h
  have hlt := h.lt
  have hnW := h.below_
  have hle := h.le
  have hne : W.heap.size ≠ b := by omega
  clear h
  go_enter Tryz.func55, Tryz.ntmps55
  go_wp2_with fail
  refine (qnext_any (HR.out.alloc zWd) k T).mono ?_
  rintro y w1 ⟨⟨hx, rfl⟩ | ⟨hx, rfl⟩, hs, hr⟩
  · have hi := nxB.lt hx
    obtain ⟨v, h1, h2⟩ := hr.row
    obtain ⟨c0, c1, c2, c3, c4⟩ := h1.cells
    have f1 : w1.frozen? ⟨b, 1, none⟩ = false := frozen_of_row _ b 1 _ _ h1
    obtain ⟨bq, off, cq, rfl, g1, g2, hbl, hSb, hat⟩ := h2.at_ (by omega)
    obtain ⟨a0, a1, a2, a3, a4, a5⟩ := hat s.i hi
    have HX := Lib.hid (show ∃ p, wordV L[s.i] = wordV ⟨L[s.i].key.1, L[s.i].key.2.1, L[s.i].key.2.2, p⟩ from ⟨L[s.i].pos, rfl⟩)
    have HA := Lib.hid (Aft.step (e := e) hx hi)
    have hi' : (s.i : Int) < (L.length : Int) := by omega
    have hlt1 := hr.lt
    have hnW1 : n ≤ W.heap.size ∧ W.heap.size + 1 ≤ w1.heap.size := ⟨hnW, by have := hs.1.size; simpa using this⟩
    have q1 : w1.heap[W.heap.size]? = some zWd := (heap_of_still hs _).trans (heap_alloc_new W zWd)
    obtain ⟨⟨d0, d1, d2, d3, d4, d5⟩, k0, k1, k2, k3, k4, k5⟩ := cellsQ6 q1
    have hz1 : W.heap.size < w1.heap.size := hnW1.2
    have hlen : (L.length : Int) ≤ 100000 := by have := HR.out.len; omega
    have HS := Lib.hid (And.intro hs (And.intro (hr.step hi) q1))
    generalize L[s.i] = X at a0 a1 a2 a3 a4 a5 HX HA
    clear hat h1 h2 hx hs hr g1 g2 hi q1
    go_wp2_with fail
    go_region
    all_goals
      go_wp2_with fail
      obtain ⟨hs, hr, q1⟩ := HS.out
      obtain ⟨p, hp⟩ := HX.out
      refine bodyPost_ret (results_cell_row (fn := Tryz.f55) (by rfl) _ _ _ _ _ _ _ (by rfl) ((Below.heap_alloc _ _ _ (by simpa using hz1)).trans (rowQ6_set ((heap_setCell_other w1 ⟨b, 1, none⟩ _ _ hne).trans q1))) Tryz.underlying107 (by rfl) (by kernel_rfl)) (by rfl) ?_
      have hO : Only W.heap.size b W (w1.setCell ⟨b, 1, none⟩ (.int .i64 ((s.i : Int) + 1))) := (((Only.refl b W).alloc zWd).on (hs.turned _)).on (Turned.set w1 b 1 _)
      exact ⟨Only.turned (((((((((hO).set (Nat.le_refl _) _ _).set (Nat.le_refl _) _ _).set (Nat.le_refl _) _ _).set (Nat.le_refl _) _ _).set (Nat.le_refl _) _ _).set (Nat.le_refl _) _ _).alloc _).drew), X.key, _, _, HA.out, rfl, ⟨p, hp⟩, ((((((((hr).set hnW _ _).set hnW _ _).set hnW _ _).set hnW _ _).set hnW _ _).set hnW _ _).alloc _).drew⟩
  · have HS := Lib.hid hs
    have HX := Lib.hid hx
    clear hs hx
    go_wp2_with fail
    refine (qfault_any hr).mono ?_
    rintro y w2 ⟨rfl, ht, hr2⟩
    have q1 : w2.heap[W.heap.size]? = some zWd := (ht.block _ (by rw [HS.out.2]; simp) hne).trans ((heap_of_still HS.out _).trans (heap_alloc_new W zWd))
    obtain ⟨⟨d0, d1, d2, d3, d4, d5⟩, k0, k1, k2, k3, k4, k5⟩ := cellsQ6 q1
    have HQ := Lib.hid q1
    have HT : Hid (Only W.heap.size b W w2) := Lib.hid ((((Only.refl b W).alloc zWd).on (HS.out.turned _)).on ht)
    have HR2 := Lib.hid hr2
    clear q1 ht hr hr2
    go_wp2_with fail
    refine bodyPost_ret (results_cell_row (fn := Tryz.f55) (by rfl) _ _ _ _ _ _ _ (by rfl) (rowQ6_set HQ.out) Tryz.underlying107 (by rfl) (by kernel_rfl)) (by rfl) ?_
    refine ⟨Only.turned ((((((HT.out.set (Nat.le_refl _) _ _).set (Nat.le_refl _) _ _).set (Nat.le_refl _) _ _).set (Nat.le_refl _) _ _).set (Nat.le_refl _) _ _).set (Nat.le_refl _) _ _), (0, [], zeroL), _, _, Aft.unstep hle HX.out _, rfl, ⟨0, rfl⟩, ((((((HR2.out.set hnW _ _).set hnW _ _).set hnW _ _).set hnW _ _).set hnW _ _).set hnW _ _)⟩
end
section
open Go Go.RowKit Go.Shelf

section
variable {α β : Type} {L : List Wd} {e : Nat} {s s1 s' : Qs}
/-- What is answered may be told otherwise where it was read. -/
theorem Aft.ans {p : Rd α} {a c : α} (h : Aft p L e s a s') (hc : s.bad = false → s'.bad = false → a = c) : Aft p L e s c s' :=
  ⟨h.up, h.le, h.bad, fun hs hs' => by rw [← hc hs hs']; exact h.ok hs hs', h.no⟩
theorem tok1_eq {q q' : Kt → Bool} {l : List Kt} (h : nxt q l = nxt q' l) : tok1 q l = tok1 q' l := by
  cases l with
  | nil => rfl
  | cons t r => rw [tok1_cons, tok1_cons, show q t = q' t from h]
theorem tok1_ok {q : Kt → Bool} {l r : List Kt} {a : Kt} (h : tok1 q l = .ok a r) : q a = true := by
  cases l with
  | nil => cases h
  | cons t x =>
    rw [tok1_cons] at h
    by_cases hq : q t = true
    · rw [if_pos hq] at h; cases h; exact hq
    · rw [if_neg hq] at h; cases h
theorem isKT_m {m : List UInt8} (h : (m == []) = false) : isKT 6 m = isM m := by
  funext t
  unfold isKT isM
  rw [h, Bool.false_or]
theorem isKT_w {m : List UInt8} (h : (m == []) = false) : isKT 1 m = isW m := by
  funext t
  unfold isKT isW
  rw [h, Bool.false_or]
theorem isKT_k (k : Int) : isKT k [] = isK k := by
  funext t
  unfold isKT isK
  simp
theorem NxE.yes {n b : Nat} {q : Kt → Bool} {W w' : World} {x : Ending} (h : NxE n b e L s q W x w') (hq : nxB s L q = true) : x = .returned (.bool true) ∧ Still W w' ∧ Rq n w' b L e s := by
  obtain ⟨⟨-, rfl⟩ | ⟨h1, -⟩, h2, h3⟩ := h
  · exact ⟨rfl, h2, h3⟩
  · rw [hq] at h1; cases h1
theorem NxE.nope {n b : Nat} {q : Kt → Bool} {W w' : World} {x : Ending} (h : NxE n b e L s q W x w') (hq : nxB s L q = false) : x = .returned (.bool false) ∧ Still W w' ∧ Rq n w' b L e s := by
  obtain ⟨⟨h1, -⟩ | ⟨-, rfl⟩, h2, h3⟩ := h
  · rw [hq] at h1; cases h1
  · exact ⟨rfl, h2, h3⟩
end
def unT (_ : Nat → Prop) (_ : World) (v : Value) (_ : Unit) : Prop := v = .tuple #[]
def sqT (_ : Nat → Prop) (_ : World) (v : Value) (a : List UInt8) : Prop := v = .string ⟨a.toArray⟩
def iqT (_ : Nat → Prop) (_ : World) (v : Value) (a : Int) : Prop := v = .int .i64 a
set_option maxRecDepth 100000 in
theorem qmark_any {n b e : Nat} {W : World} {L : List Wd} {s : Qs} (h : Rq n W b L e s) (m : List UInt8) (hm : (m == []) = false) :
    Calls Tryz.prog 52 #[rdq b, .string ⟨m.toArray⟩] W (QEnd (markR m) unT n b e L s W) := by
  have HR := Lib.hid h
  have HM := Lib.hid hm
  clear h hm
  go_enter Tryz.func52, Tryz.ntmps52
  go_wp2_with fail
  refine (qtake_any HR.out 6 m).mono ?_
  rintro y w1 ⟨ht, a, s', v, ha, rfl, hv, hr⟩
  have HE := Lib.hid (And.intro ht (And.intro ha hr))
  clear ht ha hv hr
  go_wp2_with fail
  obtain ⟨ht, ha, hr⟩ := HE.out
  rw [isKT_m HM.out] at ha
  exact bodyPost_end (results_none rfl _ _ _) rfl ⟨ht, (), s', _, ha.map (fun _ => ()), rfl, rfl, hr⟩
set_option maxRecDepth 100000 in
theorem qreserved_any (T : List UInt8) (W : World) : Calls Tryz.prog 105 #[.string ⟨T.toArray⟩] W fun x w' => x = .returned (.bool (reservedL T)) ∧ W = w' := by
  have hr : reservedL T = (T == [98, 97, 115, 101] || T == [118, 105, 101, 119] || T == [111, 110] || T == [110, 111, 116]) := rfl
  cases h1 : (T == [98, 97, 115, 101])
  · cases h2 : (T == [118, 105, 101, 119])
    · cases h3 : (T == [111, 110])
      · cases h4 : (T == [110, 111, 116])
        all_goals
          rw [h1, h2, h3, h4] at hr
          have HR := Lib.hid hr
          clear hr
          go_enter Tryz.func105, Tryz.ntmps105
          go_wp2_with fail
          go_ret
          exact ⟨by rw [HR.out]; rfl, rfl⟩
      · rw [h1, h2, h3] at hr
        have HR := Lib.hid hr
        clear hr
        go_enter Tryz.func105, Tryz.ntmps105
        go_wp2_with fail
        go_ret
        exact ⟨by rw [HR.out]; rfl, rfl⟩
    · rw [h1, h2] at hr
      have HR := Lib.hid hr
      clear hr
      go_enter Tryz.func105, Tryz.ntmps105
      go_wp2_with fail
      go_ret
      exact ⟨by rw [HR.out]; rfl, rfl⟩
  · rw [h1] at hr
    have HR := Lib.hid hr
    clear hr
    go_enter Tryz.func105, Tryz.ntmps105
    go_wp2_with fail
    go_ret
    exact ⟨by rw [HR.out]; rfl, rfl⟩
theorem isName_of {t : Kt} : isName t = (isKT 1 [] t && !reservedL t.2.1) := by unfold isName isKT; simp
theorem qnext_quiet {n b e : Nat} {W : World} {L : List Wd} {s : Qs} (h : Rq n W b L e s) (k : Int) (T : List UInt8) (v : Bool) (hv : nxB s L (isKT k T) = v) (m : Nat) :
    Calls Tryz.prog 24 #[rdq b, .int .i64 k, .string ⟨T.toArray⟩] (W.drewN m) fun x w' => x = .returned (.bool v) ∧ ∃ p, w' = W.drewN p := by
  have hs := Still.drewN W m
  refine (qnext_any (h.still hs) k T).mono ?_
  intro x w' hE
  have h3 : ∃ p, w' = W.drewN p := (hs.trans hE.2.1).3
  cases v with
  | true => exact ⟨(hE.yes hv).1, h3⟩
  | false => exact ⟨(hE.nope hv).1, h3⟩
set_option maxRecDepth 100000 in
set_option maxHeartbeats 2000000 in
theorem qname_any {n b e : Nat} {W : World} {L : List Wd} {s : Qs} (h : Rq n W b L e s) :
    Calls Tryz.prog 86 #[rdq b] W (NxE n b e L s isName W) := by
  have HR := Lib.hid h
  have mixed : Tryz.prog.follows .mixedOrders = true := by kernel_rfl
  clear h
  cases hx : nxB s L (isKT 1 []) with
  | false =>
    have HN := Lib.hid (show nxB s L isName = false by
      unfold nxB at hx ⊢
      cases hb : s.bad with
      | true => rfl
      | false =>
        rw [hb] at hx
        have hx : nxt (isKT 1 []) (keys (L.drop s.i)) = false := by simpa using hx
        have : nxt isName (keys (L.drop s.i)) = false := by
          cases hk : keys (L.drop s.i) with
          | nil => rfl
          | cons t r =>
            rw [hk] at hx
            show isName t = false
            rw [isName_of, show isKT 1 [] t = false from hx]
            rfl
        rw [this]
        rfl)
    have HX := Lib.hid hx
    clear hx
    go_enter Tryz.func86, Tryz.ntmps86
    go_wp2_with fail
    go_quiet (exact qnext_quiet HR.out 1 [] false HX.out _)
    go_wp2_with fail
    go_ret
    exact ⟨.inr ⟨HN.out, rfl⟩, Still.drewN _ _, HR.out.still (Still.drewN _ _)⟩
  | true =>
    have hi := nxB.lt hx
    obtain ⟨v, h1, h2⟩ := HR.out.row
    obtain ⟨bq, off, cq, rfl, g1, g2, hbl, hSb, hat⟩ := h2.at_ (by omega)
    obtain ⟨a0, a1, a2, a3, a4, a5⟩ := hat s.i hi
    obtain ⟨c0, c1, c2, c3, c4⟩ := h1.cells
    have hi' : (s.i : Int) < (L.length : Int) := by omega
    have HN := Lib.hid (show nxB s L isName = !reservedL L[s.i].text by
      obtain ⟨hb, hq⟩ := nxB.yes hx
      unfold nxB
      rw [hb]
      rw [dropK_at hi] at hq ⊢
      show (!false && isName L[s.i].key) = _
      rw [isName_of, show isKT 1 [] L[s.i].key = true from hq]
      rfl)
    generalize L[s.i] = X at a0 a1 a2 a3 a4 a5 HN
    have HX := Lib.hid hx
    obtain ⟨rv, hrv⟩ : ∃ rv, rv = reservedL X.text := ⟨_, rfl⟩
    have HRv : Hid (∀ m : Nat, Calls Tryz.prog 105 #[.string ⟨X.text.toArray⟩] (W.drewN m) fun x w' => x = .returned (.bool rv) ∧ ∃ p, w' = W.drewN p) := Lib.hid (fun m => (qreserved_any X.text _).mono fun x w' hh => ⟨by rw [hrv]; exact hh.1, m, hh.2.symm⟩)
    rw [← hrv] at HN
    clear hx hi h1 h2 hat g1 g2 hSb hrv
    cases rv
    all_goals
      go_enter Tryz.func86, Tryz.ntmps86
      go_wp2_with fail
      go_quiet (first | exact qnext_quiet HR.out 1 [] true HX.out _ | exact HRv.out _)
      go_wp2_with fail
      go_ret
      refine ⟨?_, Still.drewN _ _, HR.out.still (Still.drewN _ _)⟩
      first
        | exact .inl ⟨HN.out, rfl⟩
        | exact .inr ⟨HN.out, rfl⟩
end
section
open Go Go.RowKit Go.Shelf

theorem Rq.inc {n b e : Nat} {W : World} {L : List Wd} {s : Qs} (h : Rq n W b L e s) : W.cell? ⟨b, 1, none⟩ = some (.int .i64 s.i) ∧ W.frozen? ⟨b, 1, none⟩ = false ∧ W.cell? ⟨b, 3, none⟩ = some (.bool s.bad) ∧ (s.i : Int) ≤ 100000 := by
  obtain ⟨v, h1, h2⟩ := h.row
  obtain ⟨c0, c1, c2, c3, c4⟩ := h1.cells
  exact ⟨c1, frozen_of_row _ b 1 _ _ h1, c3, by have := h.le; have := h.len; omega⟩
def tqT (_ : Nat → Prop) (_ : World) (v : Value) (a : TmL) : Prop := v = .agg #[.int .i64 a.kind, .string ⟨a.name.toArray⟩, .int .i64 a.val.1, .int .i64 a.val.2.1, .string a.val.2.2]
section
variable {L : List Wd} {e : Nat} {s s' : Qs}
/-- A token that two tests take alike. -/
theorem Aft.tok {q q' : Kt → Bool} {t : Kt} (h : Aft (tok1 q) L e s t s') (hq : s.bad = false → nxt q (keys (L.drop s.i)) = nxt q' (keys (L.drop s.i))) : Aft (tok1 q') L e s t s' := h.congr fun hb => tok1_eq (hq hb)
theorem nxB.imp {q q' : Kt → Bool} (h : nxB s L q = true) (hq : ∀ t, q t = true → q' t = true) : nxt q (keys (L.drop s.i)) = nxt q' (keys (L.drop s.i)) := by
  have h2 := (nxB.yes h).2
  rw [h2]
  cases hk : keys (L.drop s.i) with
  | nil => rw [hk] at h2; cases h2
  | cons t r => rw [hk] at h2; exact (hq t h2).symm
theorem nxt_same {q q' : Kt → Bool} {l : List Kt} (h : ∀ t ∈ l.head?, q t = q' t) : nxt q l = nxt q' l := by
  cases l with
  | nil => rfl
  | cons t r => exact h t rfl
theorem nxt_no {q : Kt → Bool} {l : List Kt} (h : nxt q l = false) : ∀ t ∈ l.head?, q t = false := by
  cases l with
  | nil => intro t ht; cases ht
  | cons t r => intro u hu; cases hu; exact h
end
set_option maxRecDepth 100000 in
set_option maxHeartbeats 1000000 in
theorem qtakeName_any {n b e : Nat} {W : World} {L : List Wd} {s : Qs} (h : Rq n W b L e s) :
    Calls Tryz.prog 51 #[rdq b] W (QEnd nameR sqT n b e L s W) := by
  have HR := Lib.hid h
  clear h
  go_enter Tryz.func51, Tryz.ntmps51
  go_wp2_with fail
  refine (qname_any HR.out).mono ?_
  rintro y w1 ⟨⟨hx, rfl⟩ | ⟨hx, rfl⟩, hs, hr⟩
  · have HS := Lib.hid (And.intro hs hr)
    have HX := Lib.hid hx
    clear hs hr hx
    go_wp2_with fail
    refine (qtake_any HS.out.2 1 []).mono ?_
    rintro y w2 ⟨ht, t, s', v, ha, rfl, ⟨p, rfl⟩, hr⟩
    have HE := Lib.hid (And.intro ht (And.intro ha hr))
    have F1 := wf1
    unfold wordV
    clear ht ha hr
    go_wp2_with fail
    go_ret
    obtain ⟨ht, ha, hr⟩ := HE.out
    refine ⟨(HS.out.1.turned _).trans ht fun _ _ e => e, t.2.1, s', _, (ha.tok fun _ => (nxB.imp HX.out fun t ht => ?_).symm).map (fun t => t.2.1), rfl, rfl, hr⟩
    rw [isName_of] at ht
    simp only [Bool.and_eq_true] at ht
    exact ht.1
  · have HS := Lib.hid (And.intro hs hr)
    have HX := Lib.hid hx
    clear hs hr hx
    go_wp2_with fail
    refine (qfault_any HS.out.2).mono ?_
    rintro y w2 ⟨rfl, ht, hr⟩
    have HE := Lib.hid (And.intro ht hr)
    clear ht hr
    go_wp2_with fail
    go_ret
    exact ⟨(HS.out.1.turned _).trans HE.out.1 fun _ _ e => e, [], _, _, (Aft.unstep (q := isName) HR.out.le HX.out ((0, [], zeroL) : Kt)).map (fun t => t.2.1), rfl, rfl, HE.out.2⟩
set_option maxRecDepth 100000 in
set_option maxHeartbeats 1000000 in
theorem qkind_any {n b e : Nat} {W : World} {L : List Wd} {s : Qs} (h : Rq n W b L e s) :
    Calls Tryz.prog 53 #[rdq b] W (QEnd kindR iqT n b e L s W) := by
  have HR := Lib.hid h
  clear h
  go_enter Tryz.func53, Tryz.ntmps53
  go_wp2_with fail
  refine (qnext_any HR.out 1 [105, 110, 116]).mono ?_
  rintro y w1 ⟨⟨hx, rfl⟩ | ⟨hx, rfl⟩, hs, hr⟩
  · obtain ⟨c1, f1, -, hl⟩ := hr.inc
    have hi := nxB.lt hx
    have HS := Lib.hid (And.intro hs (hr.step hi))
    have HA := Lib.hid (Aft.step (e := e) hx hi)
    have HX := Lib.hid hx
    clear hs hr hx
    go_wp2_with fail
    go_ret
    obtain ⟨hs, hr⟩ := HS.out
    have hq : isKT 1 [105, 110, 116] = isW wInt := isKT_w rfl
    have h1 : isW wInt L[s.i].key = true := by
      have := (nxB.yes HX.out).2
      rw [dropK_at hi, hq] at this
      exact this
    refine ⟨(hs.turned _).trans (Turned.set w1 b 1 _) fun _ _ e => e, 1, _, _, ((HA.out.tok (q' := isType) fun _ => nxB.imp HX.out fun t ht => ?_).map (fun t => if isW wInt t = true then (1 : Int) else 2)).ans fun _ _ => ?_, rfl, rfl, hr⟩
    · rw [hq] at ht
      unfold isType
      rw [ht, Bool.true_or]
    · show (if isW wInt L[s.i].key = true then (1 : Int) else 2) = 1
      rw [if_pos h1]
  · have HS := Lib.hid (And.intro hs hr)
    have HX := Lib.hid hx
    clear hs hr hx
    go_wp2_with fail
    refine (qtake_any HS.out.2 1 [115, 121, 109]).mono ?_
    rintro y w2 ⟨ht, t, s', v, ha, rfl, hv, hr⟩
    have HE := Lib.hid (And.intro ht (And.intro ha hr))
    clear ht ha hr hv
    go_wp2_with fail
    go_ret
    obtain ⟨ht, ha, hr⟩ := HE.out
    have hq : isKT 1 [105, 110, 116] = isW wInt := isKT_w rfl
    have hq2 : isKT 1 [115, 121, 109] = isW wSym := isKT_w rfl
    have hX := HX.out
    rw [hq] at hX
    rw [hq2] at ha
    refine ⟨(HS.out.1.turned _).trans ht fun _ _ e => e, 2, s', _, ((ha.tok (q' := isType) fun hb => nxt_same fun t ht => ?_).map (fun t => if isW wInt t = true then (1 : Int) else 2)).ans fun hb hb' => ?_, rfl, rfl, hr⟩
    · unfold isType
      rw [nxt_no (nxB.no hX hb) t ht, Bool.false_or]
    · have h1 := tok1_ok (ha.ok hb hb')
      rw [if_neg]
      unfold isW at h1 ⊢
      simp only [Bool.and_eq_true, beq_iff_eq] at h1 ⊢
      rintro ⟨-, h2⟩
      rw [h1.2] at h2
      exact absurd h2 (by decide)
/-- The marks that compare. -/
def opsQ : List (List UInt8) := [[61], [33, 61], [60], [60, 61], [62], [62, 61]]
theorem opNo_at {t : Kt} : ∀ {k : Nat} (hk : k < opsQ.length), isM opsQ[k] t = true → opNo t = ((k : Int) + 1) := by
  intro k hk h
  unfold isM at h
  simp only [Bool.and_eq_true, beq_iff_eq] at h
  have hk6 : k < 6 := hk
  unfold opNo isM
  rw [h.1, h.2]
  rcases (show k = 0 ∨ k = 1 ∨ k = 2 ∨ k = 3 ∨ k = 4 ∨ k = 5 by omega) with rfl | rfl | rfl | rfl | rfl | rfl <;> rfl
theorem opNo_none {t : Kt} (h : ∀ (k : Nat) (hk : k < opsQ.length), isM opsQ[k] t = false) : opNo t = 0 := by
  unfold opNo
  rw [if_neg (by have := h 0 (by decide); simpa [opsQ] using this), if_neg (by have := h 1 (by decide); simpa [opsQ] using this), if_neg (by have := h 2 (by decide); simpa [opsQ] using this), if_neg (by have := h 3 (by decide); simpa [opsQ] using this), if_neg (by have := h 4 (by decide); simpa [opsQ] using this), if_neg (by have := h 5 (by decide); simpa [opsQ] using this)]
abbrev opsO : Obj := .cells #[.string ⟨#[61]⟩, .string ⟨#[33, 61]⟩, .string ⟨#[60]⟩, .string ⟨#[60, 61]⟩, .string ⟨#[62]⟩, .string ⟨#[62, 61]⟩] 9
set_option maxRecDepth 100000 in
set_option maxHeartbeats 1000000 in
theorem qop_any {n b e : Nat} {W : World} {L : List Wd} {s : Qs} (h : Rq n W b L e s) :
    Calls Tryz.prog 88 #[rdq b] W (QEnd opR iqT n b e L s W) := by
  have HR := Lib.hid h
  have hlt := h.lt
  clear h
  go_enter Tryz.func88, Tryz.ntmps88
  go_wp2_with fail
  go_loopw [4] (fun i wr => ∃ k : Nat, k ≤ 6 ∧ i = .int .i64 k ∧ Hid (Still (W.alloc opsO) wr ∧ ∀ (j : Nat) (hj : j < opsQ.length), j < k → nxB s L (isM opsQ[j]) = false)) (fun i _ => 6 - (intOf i).toNat)
  case atStart => exact ⟨0, Nat.zero_le _, rfl, Lib.hid ⟨Still.refl _, fun j _ h => absurd h (Nat.not_lt_zero _)⟩⟩
  case round =>
    obtain ⟨k, hk, rfl, HJ⟩ := hrel
    have h0 : (0 : Int) ≤ (k : Int) := by omega
    by_cases hlt6 : k < 6
    · have hlt' : (k : Int) < (6 : Int) := by omega
      have hk6 : k < opsQ.length := hlt6
      have hrow : wr.heap[W.heap.size]? = some opsO := (heap_of_still HJ.out.1 _).trans (heap_alloc_new W opsO)
      have hx : wr.cell? ⟨W.heap.size, k, none⟩ = some (.string ⟨opsQ[k].toArray⟩) := by
        rw [cell_of_row wr _ k _ _ (0, 0) hrow]
        rcases (show k = 0 ∨ k = 1 ∨ k = 2 ∨ k = 3 ∨ k = 4 ∨ k = 5 by omega) with rfl | rfl | rfl | rfl | rfl | rfl <;> rfl
      have hM := Lib.hid (show (opsQ[k] == []) = false by rcases (show k = 0 ∨ k = 1 ∨ k = 2 ∨ k = 3 ∨ k = 4 ∨ k = 5 by omega) with rfl | rfl | rfl | rfl | rfl | rfl <;> rfl)
      have HOp : Hid (∀ t, isM opsQ[k] t = true → opNo t = ((k : Int) + 1)) := Lib.hid (fun t ht => opNo_at hk6 ht)
      have HPrev : Hid (∀ T, T = opsQ[k] → nxB s L (isM T) = false → ∀ (j : Nat) (hj : j < opsQ.length), j < k + 1 → nxB s L (isM opsQ[j]) = false) := Lib.hid (fun T hT hf j hj hjk => by
        rcases Nat.lt_or_ge j k with h | h
        · exact HJ.out.2 j hj h
        · obtain rfl : j = k := by omega
          rw [← hT]; exact hf)
      obtain ⟨T, hT⟩ : ∃ T, T = opsQ[k] := ⟨_, rfl⟩
      have HT := Lib.hid hT
      rw [← hT] at hx hM HOp
      clear hrow hT
      go_wp2_with fail
      refine (qnext_any ((HR.out.alloc opsO).still HJ.out.1) 6 T).mono ?_
      rw [isKT_m hM.out]
      rintro y w1 ⟨⟨hx, rfl⟩ | ⟨hx, rfl⟩, hs, hr⟩
      · obtain ⟨c1, f1, -, hl⟩ := hr.inc
        have hi := nxB.lt hx
        have HS := Lib.hid (And.intro hs (hr.step hi))
        have HA := Lib.hid (Aft.step (e := e) hx hi)
        have HX := Lib.hid hx
        clear hs hr hx
        go_wp2_with fail
        go_ret
        obtain ⟨hs, hr⟩ := HS.out
        have h1 : isM T L[s.i].key = true := by
          have := (nxB.yes HX.out).2
          rw [dropK_at hi] at this
          exact this
        refine ⟨((Turned.alloc _ W opsO).trans ((HJ.out.1.trans hs).turned _) fun _ _ e => e).trans (Turned.set w1 b 1 _) fun _ _ e => e, (k : Int) + 1, _, _, ((HA.out.tok (q' := isOp) fun _ => nxB.imp HX.out fun t ht => ?_).map opNo).ans fun _ _ => HOp.out _ h1, rfl, rfl, hr⟩
        unfold isOp
        rw [HOp.out t ht]
        simp
        omega
      · have HS := Lib.hid (And.intro (HJ.out.1.trans hs) (HPrev.out T HT.out hx))
        clear hs hr hx
        go_wp2_with fail
        go_roundw
        case rel => exact ⟨k + 1, by omega, by simp, Lib.hid HS.out⟩
        case measure => simp [intOf]; omega
    · obtain rfl : k = 6 := by omega
      have HN := Lib.hid (show nxB s L isOp = false by
        cases hb : s.bad with
        | true => unfold nxB; rw [hb]; rfl
        | false =>
          have h : nxt isOp (keys (L.drop s.i)) = false := by
            cases hk : keys (L.drop s.i) with
            | nil => rfl
            | cons t r =>
              have h2 : opNo t = 0 := opNo_none fun j hj => by
                have h3 := nxB.no (HJ.out.2 j hj (by simpa [opsQ] using hj)) hb
                rw [hk] at h3
                exact h3
              show isOp t = false
              unfold isOp
              rw [h2]
              rfl
          unfold nxB
          rw [h, Bool.and_false])
      go_wp2_with fail
      refine (qfault_any ((HR.out.alloc opsO).still HJ.out.1)).mono ?_
      rintro y w2 ⟨rfl, ht, hr⟩
      have HE := Lib.hid (And.intro ht hr)
      clear ht hr
      go_wp2_with fail
      go_ret
      exact ⟨((Turned.alloc _ W opsO).trans (HJ.out.1.turned _) fun _ _ e => e).trans HE.out.1 fun _ _ e => e, 0, _, _, ((Aft.unstep (q := isOp) HR.out.le HN.out ((0, [], zeroL) : Kt)).map opNo), rfl, rfl, HE.out.2⟩
end
section
open Go Go.RowKit Go.Shelf

theorem wf2 (a b c d x y : Value) (W : World) : (Instr.field 107 (.agg #[a, b, c, d, x, y]) 2).run Tryz.prog W = .ok (.agg #[c, d, x]) W := by kernel_rfl
abbrev zTq : Obj := .cells #[.int .i64 0, .string ⟨#[]⟩, .int .i64 0, .int .i64 0, .string ⟨#[]⟩] 84
theorem isKT_eq {k : Int} {t : Kt} (h : isKT k [] t = true) : t.1 = k := by unfold isKT at h; simpa using h
set_option maxRecDepth 100000 in
set_option maxHeartbeats 4000000 in
theorem qterm_any {n b e : Nat} {W : World} {L : List Wd} {s : Qs} (h : Rq n W b L e s) :
    Calls Tryz.prog 69 #[rdq b] W (QEnd termR tqT n b e L s W) := by
  have HR := Lib.hid h
  have hlt := h.lt
  have hnW := h.below_
  have hle := h.le
  have hne : W.heap.size ≠ b := by omega
  have F1 := wf1
  have F2 := wf2
  clear h
  go_enter Tryz.func69, Tryz.ntmps69
  go_wp2_with fail
  refine (qnext_any (HR.out.alloc zTq) 2 []).mono ?_
  rintro y w2 ⟨⟨hx, rfl⟩ | ⟨hx, rfl⟩, hs, hr⟩
  · have HS2 := Lib.hid (And.intro hs hr)
    have HX2 := Lib.hid hx
    clear hs hr hx
    have HS := HS2
    go_wp2_with fail
    refine (qtake_any HS.out.2 2 []).mono ?_
    rintro y w5 ⟨ht, t, s', v, ha, rfl, ⟨p, rfl⟩, hr⟩
    have q1 : w5.heap[W.heap.size]? = some zTq := (ht.block _ (by rw [HS.out.1.2]; simp) hne).trans ((heap_of_still HS.out.1 _).trans (heap_alloc_new W zTq))
    obtain ⟨⟨d0, d1, d2, d3, d4⟩, k0, k1, k2, k3, k4⟩ := cells5 q1
    have HQ := Lib.hid q1
    have HT : Hid (Only W.heap.size b W w5) := Lib.hid ((((Only.refl b W).alloc zTq).on (HS.out.1.turned _)).on ht)
    have HE := Lib.hid (And.intro ha hr)
    unfold wordV
    clear q1 ht ha hr
    go_wp2_with fail
    refine bodyPost_ret (results_cell_row (fn := Tryz.f69) (by rfl) _ _ _ _ _ _ _ (by rfl) (row5_set HQ.out) Tryz.underlying84 (by rfl) (by kernel_rfl)) (by rfl) ?_
    obtain ⟨ha, hr⟩ := HE.out
    refine ⟨Only.turned ((((((HT.out).set (Nat.le_refl _) _ _).set (Nat.le_refl _) _ _).set (Nat.le_refl _) _ _).set (Nat.le_refl _) _ _).set (Nat.le_refl _) _ _), ⟨1, t.2.1, zeroL⟩, s', _, ?_, rfl, rfl, (((((hr).set hnW _ _).set hnW _ _).set hnW _ _).set hnW _ _).set hnW _ _⟩
    refine ((ha.tok (q' := isTerm) fun _ => nxB.imp HX2.out fun t ht => ?_).map termOf).ans fun hb hb' => ?_
    · unfold isTerm
      rw [isKT_eq ht]
      rfl
    · unfold termOf
      rw [isKT_eq (tok1_ok (ha.ok hb hb'))]
      rfl
  · have HS2 := Lib.hid (And.intro hs hr)
    have HX2 := Lib.hid hx
    clear hs hr hx
    go_wp2_with fail
    refine (qnext_any HS2.out.2 4 []).mono ?_
    rintro y w4 ⟨⟨hx, rfl⟩ | ⟨hx, rfl⟩, hs, hr⟩
    · have HS4 := Lib.hid (And.intro (HS2.out.1.trans hs) hr)
      have HX4 := Lib.hid hx
      clear hs hr hx
      have HS := HS4
      go_wp2_with fail
      refine (qtake_any HS.out.2 4 []).mono ?_
      rintro y w5 ⟨ht, t, s', v, ha, rfl, ⟨p, rfl⟩, hr⟩
      have q1 : w5.heap[W.heap.size]? = some zTq := (ht.block _ (by rw [HS.out.1.2]; simp) hne).trans ((heap_of_still HS.out.1 _).trans (heap_alloc_new W zTq))
      obtain ⟨⟨d0, d1, d2, d3, d4⟩, k0, k1, k2, k3, k4⟩ := cells5 q1
      have HQ := Lib.hid q1
      have HT : Hid (Only W.heap.size b W w5) := Lib.hid ((((Only.refl b W).alloc zTq).on (HS.out.1.turned _)).on ht)
      have HE := Lib.hid (And.intro ha hr)
      unfold wordV
      clear q1 ht ha hr
      go_wp2_with fail
      refine bodyPost_ret (results_cell_row (fn := Tryz.f69) (by rfl) _ _ _ _ _ _ _ (by rfl) (row5_set HQ.out) Tryz.underlying84 (by rfl) (by kernel_rfl)) (by rfl) ?_
      obtain ⟨ha, hr⟩ := HE.out
      refine ⟨Only.turned ((((((HT.out).set (Nat.le_refl _) _ _).set (Nat.le_refl _) _ _).set (Nat.le_refl _) _ _).set (Nat.le_refl _) _ _).set (Nat.le_refl _) _ _), ⟨2, [], t.2.2⟩, s', _, ?_, rfl, rfl, (((((hr).set hnW _ _).set hnW _ _).set hnW _ _).set hnW _ _).set hnW _ _⟩
      refine ((ha.tok (q' := isTerm) fun _ => nxB.imp HX4.out fun t ht => ?_).map termOf).ans fun hb hb' => ?_
      · unfold isTerm
        rw [isKT_eq ht]
        rfl
      · unfold termOf
        rw [isKT_eq (tok1_ok (ha.ok hb hb'))]
        rfl
    · have HS4 := Lib.hid (And.intro (HS2.out.1.trans hs) hr)
      have HX4 := Lib.hid hx
      clear hs hr hx
      go_wp2_with fail
      refine (qnext_any HS4.out.2 5 []).mono ?_
      rintro y w5 ⟨⟨hx, rfl⟩ | ⟨hx, rfl⟩, hs, hr⟩
      · have HS5 := Lib.hid (And.intro (HS4.out.1.trans hs) hr)
        have HX5 := Lib.hid hx
        clear hs hr hx
        have HS := HS5
        go_wp2_with fail
        refine (qtake_any HS.out.2 5 []).mono ?_
        rintro y w5 ⟨ht, t, s', v, ha, rfl, ⟨p, rfl⟩, hr⟩
        have q1 : w5.heap[W.heap.size]? = some zTq := (ht.block _ (by rw [HS.out.1.2]; simp) hne).trans ((heap_of_still HS.out.1 _).trans (heap_alloc_new W zTq))
        obtain ⟨⟨d0, d1, d2, d3, d4⟩, k0, k1, k2, k3, k4⟩ := cells5 q1
        have HQ := Lib.hid q1
        have HT : Hid (Only W.heap.size b W w5) := Lib.hid ((((Only.refl b W).alloc zTq).on (HS.out.1.turned _)).on ht)
        have HE := Lib.hid (And.intro ha hr)
        unfold wordV
        clear q1 ht ha hr
        go_wp2_with fail
        refine bodyPost_ret (results_cell_row (fn := Tryz.f69) (by rfl) _ _ _ _ _ _ _ (by rfl) (row5_set HQ.out) Tryz.underlying84 (by rfl) (by kernel_rfl)) (by rfl) ?_
        obtain ⟨ha, hr⟩ := HE.out
        refine ⟨Only.turned ((((((HT.out).set (Nat.le_refl _) _ _).set (Nat.le_refl _) _ _).set (Nat.le_refl _) _ _).set (Nat.le_refl _) _ _).set (Nat.le_refl _) _ _), ⟨2, [], t.2.2⟩, s', _, ?_, rfl, rfl, (((((hr).set hnW _ _).set hnW _ _).set hnW _ _).set hnW _ _).set hnW _ _⟩
        refine ((ha.tok (q' := isTerm) fun _ => nxB.imp HX5.out fun t ht => ?_).map termOf).ans fun hb hb' => ?_
        · unfold isTerm
          rw [isKT_eq ht]
          rfl
        · unfold termOf
          rw [isKT_eq (tok1_ok (ha.ok hb hb'))]
          rfl
      · have HS5 := Lib.hid (And.intro (HS4.out.1.trans hs) hr)
        have HX5 := Lib.hid hx
        clear hs hr hx
        go_wp2_with fail
        have HS := HS5
        refine (qtake_any HS.out.2 3 []).mono ?_
        rintro y w5 ⟨ht, t, s', v, ha, rfl, ⟨p, rfl⟩, hr⟩
        have q1 : w5.heap[W.heap.size]? = some zTq := (ht.block _ (by rw [HS.out.1.2]; simp) hne).trans ((heap_of_still HS.out.1 _).trans (heap_alloc_new W zTq))
        obtain ⟨⟨d0, d1, d2, d3, d4⟩, k0, k1, k2, k3, k4⟩ := cells5 q1
        have HQ := Lib.hid q1
        have HT : Hid (Only W.heap.size b W w5) := Lib.hid ((((Only.refl b W).alloc zTq).on (HS.out.1.turned _)).on ht)
        have HE := Lib.hid (And.intro ha hr)
        unfold wordV
        clear q1 ht ha hr
        go_wp2_with fail
        refine bodyPost_ret (results_cell_row (fn := Tryz.f69) (by rfl) _ _ _ _ _ _ _ (by rfl) (row5_set HQ.out) Tryz.underlying84 (by rfl) (by kernel_rfl)) (by rfl) ?_
        obtain ⟨ha, hr⟩ := HE.out
        refine ⟨Only.turned ((((((HT.out).set (Nat.le_refl _) _ _).set (Nat.le_refl _) _ _).set (Nat.le_refl _) _ _).set (Nat.le_refl _) _ _).set (Nat.le_refl _) _ _), ⟨3, [], zeroL⟩, s', _, ?_, rfl, rfl, (((((hr).set hnW _ _).set hnW _ _).set hnW _ _).set hnW _ _).set hnW _ _⟩
        refine ((ha.tok (q' := isTerm) fun hb => nxt_same fun t ht => ?_).map termOf).ans fun hb hb' => ?_
        · have h2 := nxt_no (nxB.no HX2.out hb) t ht
          have h4 := nxt_no (nxB.no HX4.out hb) t ht
          have h5 := nxt_no (nxB.no HX5.out hb) t ht
          rw [isKT_k] at h2 h4 h5 ⊢
          unfold isK at h2 h4 h5 ⊢
          unfold isTerm
          rw [h2, h4, h5]
          rfl
        · unfold termOf
          rw [isKT_eq (tok1_ok (ha.ok hb hb'))]
          rfl
end
section
open Go Go.RowKit Go.Shelf

section
variable {α β : Type} {L : List Wd} {e : Nat} {s s1 s' : Qs}
theorem Aft.stay {p : Rd α} (hi : s.i ≤ L.length) (hb : s.bad = true) (a : α) : Aft p L e s a s :=
  ⟨Nat.le_refl _, hi, fun h => ⟨h, rfl⟩, fun h => (by rw [hb] at h; cases h), fun h => by rw [hb] at h; cases h⟩
theorem keys_tail (L : List Wd) (i : Nat) : (keys (L.drop i)).tail = keys (L.drop (i + 1)) := by
  rw [← List.tail_drop]
  cases L.drop i <;> rfl
/-- One more, a mark, and the others. -/
theorem Aft.sep_next {q : Kt → Bool} {p : Rd α} {a : α} {rest : List α} (hp : Eats p) (h : Aft p L e s a s1) (hs : s.bad = false) (hq : nxB s1 L q = true) (g : Aft (sepL q p) L e { s1 with i := s1.i + 1 } rest s') : Aft (sepL q p) L e s (a :: rest) s' := by
  obtain ⟨h1, h2⟩ := nxB.yes hq
  have e1 : sepL q p (keys (L.drop s.i)) = (sepL q p (keys (L.drop (s1.i + 1)))).bind fun bs x => .ok ([a] ++ bs) x := by
    rw [sep_first hp (h.ok hs h1)]
    unfold contS
    rw [if_pos h2, keys_tail]
  refine ⟨Nat.le_trans h.up (Nat.le_trans (Nat.le_succ _) g.up), g.le, fun h0 => (by rw [hs] at h0; cases h0), fun _ hs' => ?_, fun _ hs' => ?_⟩
  · rw [e1, g.ok h1 hs']
    rfl
  · obtain ⟨j, j1, j2, j3⟩ := g.no h1 hs'
    exact ⟨j, j1, by rw [e1, j2]; rfl, j3⟩
/-- The last one. -/
theorem Aft.sep_last {q : Kt → Bool} {p : Rd α} {a : α} (hp : Eats p) (h : Aft p L e s a s1) (hs : s.bad = false) (hq : nxB s1 L q = false) : Aft (sepL q p) L e s [a] s1 := by
  refine ⟨h.up, h.le, h.bad, fun _ hs' => ?_, fun _ hs' => ?_⟩
  · rw [sep_first hp (h.ok hs hs')]
    exact cont_end (nxB.no hq hs')
  · obtain ⟨j, j1, j2, j3⟩ := h.no hs hs'
    exact ⟨j, j1, sep_bad hp j2, j3⟩
end
/-- Where the reader stands, told of the world. -/
def atW (w : World) (b : Nat) : Nat := match w.cell? ⟨b, 1, none⟩ with | some (.int _ i) => i.toNat | _ => 0
theorem Rq.atW {n b e : Nat} {W : World} {L : List Wd} {s : Qs} (h : Rq n W b L e s) : atW W b = s.i := by
  unfold Go.Proofs.YtnbaemfkpfmheaaGreatDoor.atW
  rw [h.inc.1]
  simp
/-- What a loop keeps in memory: the row so far, in a field of a box; its blocks are those from B on. -/
structure LqB {α : Type} (Y : Lay α) (et : TypeId) (n b e : Nat) (L : List Wd) (W : World) (ba B : Nat) (t : TypeId) (fo : Value → Array Value) (ro : Obj) (w0 : World) (v : Value) (zs : List α) (s : Qs) (w : World) : Prop where
  own : RowOwn Y et B w v zs
  rd : Rq n w b L e s
  only : Only W.heap.size b W w
  box : w.heap[ba]? = some (.cells (fo v) t (0, 0))
  res : w.heap[W.heap.size]? = some ro
  mid : ∀ k, W.heap.size < k → k < B → k ≠ ba → w.heap[k]? = w0.heap[k]?
  lo : W.heap.size < ba
  loB : ba < B
  hi : B ≤ w.heap.size
  nW : n ≤ W.heap.size
section
variable {α : Type} {Y : Lay α} {et : TypeId} {n b e : Nat} {L : List Wd} {W : World} {ba B : Nat} {t : TypeId} {fo : Value → Array Value} {ro : Obj} {w0 : World} {v : Value} {zs : List α} {s s' : Qs} {w w' : World}
theorem LqB.lt (h : LqB Y et n b e L W ba B t fo ro w0 v zs s w) : b < W.heap.size := Nat.lt_of_lt_of_le h.rd.at_ h.nW
theorem LqB.hib (h : LqB Y et n b e L W ba B t fo ro w0 v zs s w) : ba < w.heap.size := Nat.lt_of_lt_of_le h.loB h.hi
theorem LqB.turn (h : LqB Y et n b e L W ba B t fo ro w0 v zs s w) (ht : Turned (fun k => k = b) w w') (hr : Rq n w' b L e s') : LqB Y et n b e L W ba B t fo ro w0 v zs s' w' := by
  have h1 := h.lt
  have h2 := h.lo
  have h3 := h.hi
  have h4 := h.loB
  exact ⟨h.own.turned ht fun k hB _ e => by omega, hr, h.only.on ht, (ht.block _ (by omega) (by omega)).trans h.box, (ht.block _ (by omega) (by omega)).trans h.res, fun k k1 k2 k3 => (ht.block k (by omega) (by omega)).trans (h.mid k k1 k2 k3), h2, h4, Nat.le_trans h3 ht.size, h.nW⟩
theorem LqB.still (h : LqB Y et n b e L W ba B t fo ro w0 v zs s w) (hs : Still w w') : LqB Y et n b e L W ba B t fo ro w0 v zs s w' := h.turn (hs.turned _) (h.rd.still hs)
theorem LqB.drew (h : LqB Y et n b e L W ba B t fo ro w0 v zs s w) : LqB Y et n b e L W ba B t fo ro w0 v zs s w.drew := h.turn (Turned.drew _ w 1) h.rd.drew
theorem LqB.inc (h : LqB Y et n b e L W ba B t fo ro w0 v zs s w) (hi : s.i < L.length) : LqB Y et n b e L W ba B t fo ro w0 v zs { s with i := s.i + 1 } (w.setCell ⟨b, 1, none⟩ (.int .i64 ((s.i : Int) + 1))) := h.turn (Turned.set w b 1 _) (h.rd.step hi)
/-- A box laid for one more. -/
theorem LqB.lit (h : LqB Y et n b e L W ba B t fo ro w0 v zs s w) (o : Obj) : RowOwn Y et B (w.alloc o) v zs := h.own.keep (by simp) fun k _ hk => Below.heap_alloc _ _ _ hk
/-- One more, put behind the others, and the row into its field. -/
theorem LqB.app {idx : Nat} {v4 : Value} {w4 : World} {a : α} {o : Obj} (h : LqB Y et n b e L W ba B t fo ro w0 v zs s w) (ho : RowOwn Y et B w4 v4 (zs ++ [a])) (hg : (w.alloc o).grownBy w4 v.ownBlock) (hf : (fo v).setIfInBounds idx v4 = fo v4) :
    LqB Y et n b e L W ba B t fo ro w0 v4 (zs ++ [a]) s (w4.setCell ⟨ba, idx, none⟩ v4) ∧ w4.heap[ba]? = some (.cells (fo v) t (0, 0)) := by
  have h1 := h.lt
  have h2 := h.lo
  have h3 := h.hi
  have h5 := h.loB
  have hlo : ∀ k, v.ownBlock = some k → B ≤ k := fun k e => (h.own.lt k e).1
  have htg := Turned.of_grown hg
  have hT : Turned (fun k => v.ownBlock = some k) w w4 := (Turned.alloc _ w o).trans htg fun _ _ e => e
  have hbx : w4.heap[ba]? = some (.cells (fo v) t (0, 0)) := (hT.block _ (by omega) fun e => by have := hlo _ e; omega).trans h.box
  have hbx2 : (w4.setCell ⟨ba, idx, none⟩ v4).heap[ba]? = some (.cells (fo v4) t (0, 0)) := by rw [← hf]; exact Go.heap_setCell_same w4 ba idx _ _ v4 hbx
  have hT2 : Turned (fun k => v.ownBlock = some k ∨ k = ba) w (w4.setCell ⟨ba, idx, none⟩ v4) := (hT.mono fun k _ e => .inl e).trans (Turned.set w4 ba idx v4) fun _ _ e => .inr e
  have hlow : ∀ k, (v.ownBlock = some k ∨ k = ba) → W.heap.size < k := fun k e => by
    rcases e with e | e
    · have := hlo k e; omega
    · omega
  refine ⟨⟨?_, h.rd.turned hT2 fun k e => by have := hlow k e; have := h.nW; omega, h.only.call hT2 fun k e => .inr (by have := hlow k e; omega), hbx2, (hT2.block _ (by omega) fun e => by have := hlow _ e; omega).trans h.res, fun k k1 k2 k3 => (hT2.block k (by omega) fun e => ?_).trans (h.mid k k1 k2 k3), h2, h5, Nat.le_trans h3 hT2.size, h.nW⟩, hbx⟩
  · exact ho.turned (Turned.set w4 ba idx v4) fun k hB _ e => by omega
  · rcases e with e | e
    · have := hlo k e; omega
    · exact k3 e
end
end
end Go.Proofs.YtnbaemfkpfmheaaGreatDoor

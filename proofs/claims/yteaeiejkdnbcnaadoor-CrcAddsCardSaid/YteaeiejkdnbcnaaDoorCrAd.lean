/-
  What the law CrcAdds needs: a row of byte slices that an argument brings; literals of one and of three parts.
-/
import Derived.Test.YteaeiejkdnbcnaaDoorCrH
namespace Go.Proofs.YteaeiejkdnbcnaaDoor
open Go Go.ChangeShapes Go.WideShapes Go.ChangeAt Go.RowKit Go.Deep

/-- A slice value reads as rows of bytes, below n₀. -/
def BytsIn (n₀ : Nat) (w : World) (v : Value) (L : List (List UInt8)) : Prop :=
  ∃ p cap, v = .slice p L.length cap ∧ L.length ≤ maxLen ∧ ∀ j (h : j < L.length), ∃ a s, p = some a ∧ a.block < n₀ ∧ w.cell? (a.add j) = some s ∧ ByC n₀ w s L[j]
theorem BytsIn.below {n₀ : Nat} {w w' : World} {v : Value} {L : List (List UInt8)} (h : BytsIn n₀ w v L) (hb : Below n₀ w w') : BytsIn n₀ w' v L := by
  obtain ⟨p, cap, rfl, hl, h⟩ := h
  refine ⟨p, cap, rfl, hl, fun j hj => ?_⟩
  obtain ⟨a, s, h1, h2, h3, h4⟩ := h j hj
  exact ⟨a, s, h1, h2, (hb.cell (p := a.add j) (by rw [add_block]; exact h2)).trans h3, h4.below hb⟩
theorem cellsSl : Tryd.prog.cellsOf 22 = 1 := by kernel_rfl
theorem open_byts {H : Type} {enc : TypeId × Value → H} {W : World} {base : Nat} {sp : Nat → Bool} {held : Bool} {r : Reach} {b0 : Nat} {v : Value} {d : DataW H} {p : List MemPlace}
    (hv : Value.okWide Tryd.prog W r b0 47 v) (h : DataW.Trod enc Tryd.prog W base sp held 47 v d p) : ∃ L : List (List UInt8), BytsIn W.heap.size W v L := by
  obtain ⟨a, len, cap, rfl⟩ := okWide_slice Tryd.underlying47 hv
  obtain ⟨fuel, hf⟩ := h
  have hf' : DataW.trod enc Tryd.prog W base sp held fuel 47 [.slice a len cap] = some (d, p) := hf
  rcases open_slice Tryd.underlying47 hf' with ⟨e, -⟩ | ⟨a', len', cap', m, n, D, Pl, e, -, hle, hcap, hm, -, hi⟩
  · simp at e
    obtain ⟨rfl, rfl, rfl⟩ := e
    exact ⟨[], none, 0, rfl, Nat.zero_le _, fun j hj => by simp at hj⟩
  · simp at e
    obtain ⟨rfl, rfl, rfl⟩ := e
    have hlm : len ≤ m := by rw [hm]; split <;> omega
    have hx : ∀ i, i < len → ∃ l : List UInt8, ∃ s, W.cell? (a'.add i) = some s ∧ ByC W.heap.size W s l := by
      intro i hil
      obtain ⟨cs', hc, ht⟩ := hi i (by omega)
      rw [cellsSl] at hc
      obtain ⟨_, hcl, hat⟩ := World.cells?_some hc
      match cs', hcl with
      | [c0], _ =>
        obtain ⟨l, hl⟩ := byt_of_trod ht
        have h0 := hat 0 (by omega)
        have e0 : (a'.add (i * 1)).add 0 = a'.add i := by unfold Addr.add; simp
        rw [e0] at h0
        exact ⟨l, c0, h0, hl⟩
    obtain ⟨L, rfl, hL⟩ := list_of _ hx
    refine ⟨L, some a', cap, rfl, Nat.le_trans hle hcap, fun j hj => ?_⟩
    obtain ⟨s, h1, h2⟩ := hL j hj
    have hb := World.block_lt_of_cell? W _ h1
    rw [add_block] at hb
    exact ⟨a', s, rfl, hb, h1, h2⟩

/-- A row of one part, laid in a new block. -/
theorem parts_one (w : World) (A n₀ : Nat) (p : Option Addr) (c : Nat) (l : List UInt8) (h : BytIn n₀ w (.slice p l.length c) l) (hn : n₀ ≤ A) (hA : A < w.heap.size) :
    Parts A (w.alloc (.cells #[.slice p l.length c] 22)) w.heap.size [l] := by
  have hs := size_one w (.cells #[.slice p l.length c] 22)
  have hb : Below w.heap.size w (w.alloc (.cells #[.slice p l.length c] 22)) := (Below.refl _ _).alloc (Nat.le_refl _) _
  refine ⟨by omega, by omega, fun j hj => ?_⟩
  match j, hj with
  | 0, _ =>
    refine ⟨p, c, cell_of_row _ _ 0 _ _ (0, 0) (heap_alloc_new w _), (h.below (hb.mono (by omega))).mono (by omega), fun hne a e => ?_⟩
    rcases h with ⟨e', rfl⟩ | ⟨a', c', e', hx⟩
    · exact absurd rfl hne
    · injection e' with e1
      have := (hx 0 (List.length_pos_iff.2 hne)).1
      rw [e] at e1
      injection e1 with e1
      subst e1
      omega
/-- A row of three parts, laid in a new block. -/
theorem parts_three (w : World) (A n₀ : Nat) (p q r : Option Addr) (c d e : Nat) (l m n : List UInt8) (h : BytIn n₀ w (.slice p l.length c) l) (h' : BytIn n₀ w (.slice q m.length d) m) (h'' : BytIn n₀ w (.slice r n.length e) n) (hn : n₀ ≤ A) (hA : A < w.heap.size) :
    Parts A (w.alloc (.cells #[.slice p l.length c, .slice q m.length d, .slice r n.length e] 22)) w.heap.size [l, m, n] := by
  have hs := size_one w (.cells #[.slice p l.length c, .slice q m.length d, .slice r n.length e] 22)
  have hb : Below w.heap.size w (w.alloc (.cells #[.slice p l.length c, .slice q m.length d, .slice r n.length e] 22)) := (Below.refl _ _).alloc (Nat.le_refl _) _
  have hblk := heap_alloc_new w (.cells #[.slice p l.length c, .slice q m.length d, .slice r n.length e] 22)
  have key : ∀ (p' : Option Addr) (c' : Nat) (l' : List UInt8), BytIn n₀ w (.slice p' l'.length c') l' → BytX A (w.alloc (.cells #[.slice p l.length c, .slice q m.length d, .slice r n.length e] 22)).heap.size (w.alloc (.cells #[.slice p l.length c, .slice q m.length d, .slice r n.length e] 22)) p' c' l' := by
    intro p' c' l' h
    refine ⟨(h.below (hb.mono (by omega))).mono (by simp; omega), fun hne a e => ?_⟩
    rcases h with ⟨e', rfl⟩ | ⟨a', c', e', hx⟩
    · exact absurd rfl hne
    · injection e' with e1
      have := (hx 0 (List.length_pos_iff.2 hne)).1
      rw [e] at e1
      injection e1 with e1
      subst e1
      omega
  refine ⟨by omega, by omega, fun j hj => ?_⟩
  match j, hj with
  | 0, _ => exact ⟨p, c, cell_of_row _ _ 0 _ _ (0, 0) hblk, key p c l h⟩
  | 1, _ => exact ⟨q, d, cell_of_row _ _ 1 _ _ (0, 0) hblk, key q d m h'⟩
  | 2, _ => exact ⟨r, e, cell_of_row _ _ 2 _ _ (0, 0) hblk, key r e n h''⟩
theorem OwnB.keepA {B A : Nat} {w w' : World} {v : Value} {l : List UInt8} (h : OwnB B w v l) (hk : KeepA A w w') (hA : A < B) : OwnB B w' v l := by
  refine ⟨h.1, ?_⟩
  rcases h.2 with hn | ⟨g, cap, cur, rfl, hB, hg, rest⟩
  · exact .inl hn
  · exact .inr ⟨g, cap, cur, rfl, hB, (hk.block g (Array.getElem?_eq_some_iff.1 hg).1 (fun e => by simp at e; omega)).trans hg, rest⟩
/-- All that was added in k rounds. -/
def addL (L : List (List UInt8)) (k : Nat) : List UInt8 := (L.take k).flatMap (·.take 200)
theorem addL_succ (L : List (List UInt8)) (k : Nat) (h : k < L.length) : addL L (k + 1) = addL L k ++ L[k].take 200 := by
  unfold addL
  rw [List.take_succ_eq_append_getElem h, List.flatMap_append]
  simp
theorem addL_len (L : List (List UInt8)) (k : Nat) : (addL L k).length ≤ 200 * k := by
  induction k with
  | zero => simp [addL]
  | succ k ih =>
    rcases Nat.lt_or_ge k L.length with h | h
    · rw [addL_succ L k h, List.length_append, List.length_take]; omega
    · have : addL L (k + 1) = addL L k := by
        unfold addL
        rw [List.take_of_length_le (by omega), List.take_of_length_le h]
      rw [this]; omega
/-- How a round of CrcAdds stands: what the law's own row holds, what the adder holds, the part at hand. -/
structure StN (w : World) (A : Nat) (W : World) (va : Value) (B C : List UInt8) (vt : Value) (t : List UInt8) : Prop where
  own_ : OwnB (A + 1) W va B
  add_ : AddAt W A true (sumL C) C.length
  below_ : Below w.heap.size w W
  part_ : BytIn w.heap.size W vt t
  le_ : w.heap.size ≤ A
theorem StN.alloc {w W : World} {A : Nat} {va vt : Value} {B C t : List UInt8} (h : StN w A W va B C vt t) (o : Obj) : StN w A (W.alloc o) va B C vt t :=
  ⟨h.own_.alloc o, h.add_.below ((Below.refl _ _).alloc (Nat.le_refl _) _), h.below_.alloc h.below_.size _, h.part_.below ((Below.refl _ _).alloc (h.below_.size) _), h.le_⟩
theorem StN.drew {w W : World} {A : Nat} {va vt : Value} {B C t : List UInt8} (h : StN w A W va B C vt t) : StN w A W.drew va B C vt t :=
  ⟨h.own_.below (Below.refl _ _).drew, h.add_, h.below_.drew, h.part_.below (Below.refl _ _).drew, h.le_⟩
theorem StN.added {w W wa : World} {A : Nat} {va vt : Value} {B C t : List UInt8} (h : StN w A W va B C vt t) {D : List UInt8} (hk : KeepA A W wa) (ha : AddAt wa A true (extL (sumL C) D) (C.length + D.length)) : StN w A wa va B (C ++ D) vt t := by
  rw [extL_sum, ← List.length_append] at ha
  exact ⟨h.own_.keepA hk (Nat.lt_succ_self A), ha, KeepA.below h.below_ hk h.le_ h.below_.size, h.part_.below (KeepA.below (Below.refl _ _) hk h.le_ h.below_.size), h.le_⟩
theorem StN.app {w W w' : World} {A : Nat} {va vt v' : Value} {B C t : List UInt8} (h : StN w A W va B C vt t) {B' : List UInt8} (ho : OwnB (A + 1) w' v' B') (hb : Below (A + 1) W w') : StN w A w' v' B' C vt t :=
  ⟨ho, (hb.block A (Nat.lt_succ_self A)).trans h.add_, h.below_.trans (hb.mono (by have := h.le_; omega)), h.part_.below (hb.mono (by have := h.le_; omega)), h.le_⟩
theorem StN.big {w W : World} {A : Nat} {va vt : Value} {B C t : List UInt8} (h : StN w A W va B C vt t) : A + 1 ≤ W.heap.size := h.add_.lt
end Go.Proofs.YteaeiejkdnbcnaaDoor

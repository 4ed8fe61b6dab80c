/-
  A drawn region in which loads are taken first that hold till a call has come up: behind it the cells may change. No program is named here.
  The laws' copies of a size: literals.
  The walk of the law PrintParts.
  For every input the law PrintParts returns true and leaves its arguments as they were.
  Conditions: those that the row and its tied card print; none of the proof's own.
-/
import Derived.Test.YtpemmgbopknopaaGreatDoorH02
import Derived.Deep.RegionHeld
import Derived.Test.YtpemmgbopknopaaGreatDoorH16
import Derived.Test.YtpemmgbopknopaaGreatDoorH15
import Derived.Test.YtpemmgbopknopaaGreatDoorH17
import Derived.Test.YtpemmgbopknopaaGreatDoorH13
import Derived.Test.YtpemmgbopknopaaGreatDoorTie
import Derived.Test.YtpemmgbopknopaaGreatDoorCards
namespace Go.Proofs.YtpemmgbopknopaaGreatDoor
section
open Go Go.RowKit Go.Shelf

section
variable {P : Program} {ops : Array Oper} {Q : Exit → Act → World → Prop} {md : Region.Mode} {S : World → Prop} {z : Nat}
/-- In whatever order; till number z has come up the condition is shown of each world. -/
def Till (P : Program) (md : Region.Mode) (ops : Array Oper) (Q : Exit → Act → World → Prop) (S : World → Prop) (z n : Nat) (l : Array Bool) (a : Act) (w : World) : Prop :=
  match n with
  | 0 => Region.ready md ops l = [] ∧ Q .normal a w
  | n + 1 => (Region.ready md ops l = [] → Q .normal a w) ∧ ∀ i ∈ Region.ready md ops l,
      wpOp P ops Q i (fun a' w' => ((l.setIfInBounds i true).getD z true = false → S w') ∧ Till P md ops Q S z n (l.setIfInBounds i true) a' w') a w
theorem Till.any : ∀ (n : Nat) (l : Array Bool) (a : Act) (w : World), Till P md ops Q S z n l a w → wpAny P md ops Q n l a w
  | 0, _, _, _, h => h
  | n + 1, _, _, _, h => ⟨h.1, fun i hi => wpOp_mono (fun a' w' h' => Till.any n _ a' w' h'.2) (h.2 i hi)⟩
/-- Number z waits for number i, by the others of C. -/
def waits (md : Region.Mode) (ops : Array Oper) (i : Nat) (C : List Nat) : Bool :=
  C.all fun c => match ops[c]? with
    | some o => o.after.any fun e => Region.binds md e && (e.on == i || C.contains e.on)
    | none => false
theorem waits.no {i j : Nat} {C : List Nat} {l : Array Bool} (hC : waits md ops i C = true) (hj : j ∈ Region.ready md ops l) (hi : l.getD i true = false) (hl : ∀ c ∈ C, l.getD c true = false) : j ∉ C := by
  intro hjC
  obtain ⟨-, o, ho, hall⟩ := mem_ready.1 hj
  have h := List.all_eq_true.1 hC j hjC
  rw [ho] at h
  obtain ⟨e, he, h⟩ := Array.any_eq_true'.1 h
  rw [Bool.and_eq_true, Bool.or_eq_true, beq_iff_eq] at h
  have h1 := hall e he h.1
  have key : l.getD e.on true = false := by
    rcases h.2 with h2 | h2
    · rw [h2]; exact hi
    · exact hl _ (by simpa using h2)
  rcases Nat.lt_or_ge e.on l.size with h' | h'
  · simp [h'] at h1 key; rw [key] at h1; cases h1
  · simp [Array.getElem?_eq_none h'] at h1
theorem Till.first {i : Nat} {oi : Oper} {v : Value} {C : List Nat} (hi : ops[i]? = some oi) (hsel : ∀ (j : Nat) (o : Oper) cs b, ops[j]? = some o → o.op ≠ .select cs b)
    (hQ : ∀ c a w, Q (.panic c) (a.put oi.dst v) w → Q (.panic c) a w) (hC : waits md ops i C = true) (hz : z ∈ C) (hiC : i ∉ C) :
    ∀ (n : Nat) (l : Array Bool) (a : Act) (w : World), (∀ j oj, ops[j]? = some oj → j ≠ i → l.getD j true = false → (∀ e ∈ oj.after, Region.binds md e = true → e.on ≠ i) → oi.apart ops oj = true) →
      (∀ c ∈ C, l.getD c true = false) → i ∈ Region.ready md ops l → YieldsIf P ops S oi v a → S w →
      Till P md ops Q S z n (l.setIfInBounds i true) (a.put oi.dst v) w → Till P md ops Q S z (n + 1) l a w := by
  intro n
  induction n with
  | zero =>
    intro l a w _ hl hr hy hS H
    refine ⟨fun h => (by rw [h] at hr; cases hr), fun j hj => ?_⟩
    by_cases hji : j = i
    · subst hji
      exact hy.wpOp hi hS ⟨fun _ => hS, H⟩
    · have := ready_mono hj hji
      rw [H.1] at this
      cases this
  | succ n ih =>
    intro l a w hfree hl hr hy hS H
    refine ⟨fun h => (by rw [h] at hr; cases hr), fun j hj => ?_⟩
    by_cases hji : j = i
    · subst hji
      exact hy.wpOp hi hS ⟨fun _ => hS, H⟩
    have hi0 := (mem_ready.1 hr).1
    have hjC := waits.no hC hj hi0 hl
    obtain ⟨hjun, oj, hoj, hall⟩ := mem_ready.1 hj
    have hnot : ∀ e ∈ oj.after, Region.binds md e = true → e.on ≠ i := fun e he hb heq => by
      have h1 := hall e he hb
      rw [heq] at h1
      rcases Nat.lt_or_ge i l.size with h' | h'
      · simp [h'] at hi0 h1; rw [hi0] at h1; cases h1
      · simp [Array.getElem?_eq_none h'] at h1
    have h2 := wpOp_putIf hoj (hfree j oj hoj hji hjun hnot) (fun cs b => hsel i oi cs b hi) (fun cs b => hsel j oj cs b hoj) hQ hy (H.2 j (ready_mono hj hji))
    have hl' : ∀ c ∈ C, (l.setIfInBounds j true).getD c true = false := fun c hc => by
      rw [getD_set_ne true (show j ≠ c from fun e => hjC (by rw [e]; exact hc))]
      exact hl c hc
    refine wpOp_mono (fun a' w' h3 => ?_) h2
    have hS' : S w' := h3.2.1 (by
      rw [getD_set_ne true (show j ≠ z from fun e => hjC (by rw [e]; exact hz)), getD_set_ne true (show i ≠ z from fun e => hiC (by rw [e]; exact hz))]
      exact hl z hz)
    refine ⟨fun _ => hS', ih (l.setIfInBounds j true) a' w' (fun k ok hk hki hun hno => hfree k ok hk hki ?_ hno) hl' (ready_mono hr (Ne.symm hji)) h3.1 hS' ?_⟩
    · by_cases hjk : j = k
      · subst hjk
        exact hjun
      · rw [getD_set_ne true hjk] at hun
        exact hun
    · rw [Array.setIfInBounds_comm _ _ hji]
      exact h3.2.2
/-- One operation that yields in every world that is held, taken first; the frame behind it laid out. -/
theorem Till.take (C : List Nat) (i d : Nat) {oi : Oper} {v : Value} {n : Nat} {l : Array Bool} {a a' : Act} {W : World} (hi : ops[i]? = some oi) (hd : oi.dst = some d)
    (hs : Region.noSelect ops = true) (hf : Region.free md ops l i = true) (hr : (Region.ready md ops l).contains i = true) (hC : (waits md ops i C && C.contains z && !C.contains i && C.all fun c => !l.getD c true) = true)
    (hQ : ∀ c a w, Q (.panic c) (a.put oi.dst v) w → Q (.panic c) a w) (hw : Region.wanted oi (yielded ops a.tmps) = true) (hy : ∀ w, S w → (execOp a.eval oi).run P w = .ok (.value v) w) (hS : S W)
    (ha : a.put (some d) v = a') (h : Till P md ops Q S z n (l.setIfInBounds i true) a' W) : Till P md ops Q S z (n + 1) l a W := by
  simp only [Bool.and_eq_true, Bool.not_eq_true'] at hC
  refine Till.first hi (Region.noSelect_spec hs) hQ hC.1.1.1 (by simpa using hC.1.1.2) (by simpa using hC.1.2) n l a W (Region.free_spec hi hf) (fun c hc => ?_) (by simpa using hr) (.inl ⟨hw, hy⟩) hS (by rw [hd, ha]; exact h)
  have := List.all_eq_true.1 hC.2 c hc
  simpa using this
/-- One that yields whatever the world. -/
theorem Till.firstY {i : Nat} {oi : Oper} {v : Value} (hi : ops[i]? = some oi) (hsel : ∀ (j : Nat) (o : Oper) cs b, ops[j]? = some o → o.op ≠ .select cs b)
    (hQ : ∀ c a w, Q (.panic c) (a.put oi.dst v) w → Q (.panic c) a w) (hiz : i ≠ z) :
    ∀ (n : Nat) (l : Array Bool) (a : Act) (w : World), (∀ j oj, ops[j]? = some oj → j ≠ i → l.getD j true = false → (∀ e ∈ oj.after, Region.binds md e = true → e.on ≠ i) → oi.apart ops oj = true) →
      i ∈ Region.ready md ops l → YieldsIf P ops (fun _ => True) oi v a → (l.getD z true = false → S w) →
      Till P md ops Q S z n (l.setIfInBounds i true) (a.put oi.dst v) w → Till P md ops Q S z (n + 1) l a w := by
  intro n
  induction n with
  | zero =>
    intro l a w _ hr hy hS H
    refine ⟨fun h => (by rw [h] at hr; cases hr), fun j hj => ?_⟩
    by_cases hji : j = i
    · subst hji
      exact hy.wpOp hi trivial ⟨fun h => hS (by rw [getD_set_ne true hiz] at h; exact h), H⟩
    · have := ready_mono hj hji
      rw [H.1] at this
      cases this
  | succ n ih =>
    intro l a w hfree hr hy hS H
    refine ⟨fun h => (by rw [h] at hr; cases hr), fun j hj => ?_⟩
    by_cases hji : j = i
    · subst hji
      exact hy.wpOp hi trivial ⟨fun h => hS (by rw [getD_set_ne true hiz] at h; exact h), H⟩
    have hi0 := (mem_ready.1 hr).1
    obtain ⟨hjun, oj, hoj, hall⟩ := mem_ready.1 hj
    have hnot : ∀ e ∈ oj.after, Region.binds md e = true → e.on ≠ i := fun e he hb heq => by
      have h1 := hall e he hb
      rw [heq] at h1
      rcases Nat.lt_or_ge i l.size with h' | h'
      · simp [h'] at hi0 h1; rw [hi0] at h1; cases h1
      · simp [Array.getElem?_eq_none h'] at h1
    have h2 := wpOp_putIf hoj (hfree j oj hoj hji hjun hnot) (fun cs b => hsel i oi cs b hi) (fun cs b => hsel j oj cs b hoj) hQ hy (H.2 j (ready_mono hj hji))
    refine wpOp_mono (fun a' w' h3 => ?_) h2
    have hS' : (l.setIfInBounds j true).getD z true = false → S w' := fun h => h3.2.1 (by
      rw [Array.setIfInBounds_comm _ _ (Ne.symm hji), getD_set_ne true hiz]
      exact h)
    refine ⟨hS', ih (l.setIfInBounds j true) a' w' (fun k ok hk hki hun hno => hfree k ok hk hki ?_ hno) (ready_mono hr (Ne.symm hji)) h3.1 hS' ?_⟩
    · by_cases hjk : j = k
      · subst hjk
        exact hjun
      · rw [getD_set_ne true hjk] at hun
        exact hun
    · rw [Array.setIfInBounds_comm _ _ hji]
      exact h3.2.2
theorem Till.takeY (i d : Nat) {oi : Oper} {v : Value} {n : Nat} {l : Array Bool} {a a' : Act} {W : World} (hi : ops[i]? = some oi) (hd : oi.dst = some d)
    (hs : Region.noSelect ops = true) (hf : Region.free md ops l i = true) (hr : (Region.ready md ops l).contains i = true) (hiz : i ≠ z)
    (hQ : ∀ c a w, Q (.panic c) (a.put oi.dst v) w → Q (.panic c) a w) (hw : Region.wanted oi (yielded ops a.tmps) = true) (hy : ∀ w, True → (execOp a.eval oi).run P w = .ok (.value v) w) (hS : l.getD z true = false → S W)
    (ha : a.put (some d) v = a') (h : Till P md ops Q S z n (l.setIfInBounds i true) a' W) : Till P md ops Q S z (n + 1) l a W :=
  Till.firstY hi (Region.noSelect_spec hs) hQ hiz n l a W (Region.free_spec hi hf) (by simpa using hr) (.inl ⟨hw, hy⟩) hS (by rw [hd, ha]; exact h)
/-- Only one may come up. -/
theorem Till.one (i : Nat) {o : Oper} {n : Nat} {l : Array Bool} {a : Act} {w : World} (hr : Region.ready md ops l = [i]) (ho : ops[i]? = some o)
    (h : ∀ K' : Act → World → Prop, Go.Shut (∀ a w, ((l.setIfInBounds i true).getD z true = false → S w) → Till P md ops Q S z n (l.setIfInBounds i true) a w → K' a w) → if Region.wanted o (yielded ops a.tmps) = true then Oper.wp P o a w K' Q else K' (a.put o.dst undef) w) :
    Till P md ops Q S z (n + 1) l a w := by
  refine ⟨fun h0 => (by rw [h0] at hr; cases hr), fun j hj => ?_⟩
  rw [hr, List.mem_singleton] at hj
  subst hj
  exact wpOp_step ho (fun K' hK => h K' (fun a w h1 h2 => hK a w ⟨h1, h2⟩))
theorem Till.done {l : Array Bool} {a : Act} {w : World} (hr : Region.ready md ops l = []) (h : Q .normal a w) : ∀ n, Till P md ops Q S z n l a w
  | 0 => ⟨hr, h⟩
  | _ + 1 => ⟨fun _ => h, by rw [hr]; simp⟩
theorem Till.list {n : Nat} {l l' : Array Bool} {a : Act} {W : World} (e : l = l') (h : Till P md ops Q S z n l' a W) : Till P md ops Q S z n l a W := e ▸ h
theorem Till.begin {id : Nat} {a : Act} {w : World} (hm : P.follows .mixedOrders = true) (h : Till P .any ops Q S z ops.size (Array.replicate ops.size false) a w.drew) : (Code.region id ops true).wp P Q a w :=
  wp_region_any hm (Till.any _ _ _ _ h)
end
end
section
open Go Go.RowKit Go.Shelf

def cutLi (l : LiL) : LiL := ⟨l.kind, cutA l.atom, l.op, cutT l.a, cutT l.b⟩
theorem drew_heap (w : World) : w.drew.heap = w.heap := rfl
set_option maxHeartbeats 1000000 in
theorem set_12 {A W : World} {b : Nat} {t : TypeId} {x0 x1 x2 x3 x4 x5 x6 x7 x8 x9 x10 x11 x12 x13 y1 y2 y4 y5 y6 y7 y8 y9 y10 y11 y12 y13 : Value} (h : A.heap[b]? = some (.cells #[x0, x1, x2, x3, x4, x5, x6, x7, x8, x9, x10, x11, x12, x13] t (0, 0)))
    (hW : (((((((((((((A.setCell ⟨b, 1, none⟩ y1).setCell ⟨b, 2, none⟩ y2).setCell ⟨b, 4, none⟩ y4).setCell ⟨b, 5, none⟩ y5).setCell ⟨b, 6, none⟩ y6).setCell ⟨b, 7, none⟩ y7).setCell ⟨b, 8, none⟩ y8).setCell ⟨b, 9, none⟩ y9).setCell ⟨b, 10, none⟩ y10).setCell ⟨b, 11, none⟩ y11).setCell ⟨b, 12, none⟩ y12).setCell ⟨b, 13, none⟩ y13)) = W) : W.heap[b]? = some (.cells #[x0, y1, y2, x3, y4, y5, y6, y7, y8, y9, y10, y11, y12, y13] t (0, 0)) ∧ (∀ k, k ≠ b → W.heap[k]? = A.heap[k]?) ∧ W.heap.size = A.heap.size := by
  subst hW
  have h1 : ((A.setCell ⟨b, 1, none⟩ y1)).heap[b]? = some (.cells #[x0, y1, x2, x3, x4, x5, x6, x7, x8, x9, x10, x11, x12, x13] t (0, 0)) := Go.heap_setCell_same _ b 1 _ _ y1 h
  have h2 : (((A.setCell ⟨b, 1, none⟩ y1).setCell ⟨b, 2, none⟩ y2)).heap[b]? = some (.cells #[x0, y1, y2, x3, x4, x5, x6, x7, x8, x9, x10, x11, x12, x13] t (0, 0)) := Go.heap_setCell_same _ b 2 _ _ y2 h1
  have h3 : ((((A.setCell ⟨b, 1, none⟩ y1).setCell ⟨b, 2, none⟩ y2).setCell ⟨b, 4, none⟩ y4)).heap[b]? = some (.cells #[x0, y1, y2, x3, y4, x5, x6, x7, x8, x9, x10, x11, x12, x13] t (0, 0)) := Go.heap_setCell_same _ b 4 _ _ y4 h2
  have h4 : (((((A.setCell ⟨b, 1, none⟩ y1).setCell ⟨b, 2, none⟩ y2).setCell ⟨b, 4, none⟩ y4).setCell ⟨b, 5, none⟩ y5)).heap[b]? = some (.cells #[x0, y1, y2, x3, y4, y5, x6, x7, x8, x9, x10, x11, x12, x13] t (0, 0)) := Go.heap_setCell_same _ b 5 _ _ y5 h3
  have h5 : ((((((A.setCell ⟨b, 1, none⟩ y1).setCell ⟨b, 2, none⟩ y2).setCell ⟨b, 4, none⟩ y4).setCell ⟨b, 5, none⟩ y5).setCell ⟨b, 6, none⟩ y6)).heap[b]? = some (.cells #[x0, y1, y2, x3, y4, y5, y6, x7, x8, x9, x10, x11, x12, x13] t (0, 0)) := Go.heap_setCell_same _ b 6 _ _ y6 h4
  have h6 : (((((((A.setCell ⟨b, 1, none⟩ y1).setCell ⟨b, 2, none⟩ y2).setCell ⟨b, 4, none⟩ y4).setCell ⟨b, 5, none⟩ y5).setCell ⟨b, 6, none⟩ y6).setCell ⟨b, 7, none⟩ y7)).heap[b]? = some (.cells #[x0, y1, y2, x3, y4, y5, y6, y7, x8, x9, x10, x11, x12, x13] t (0, 0)) := Go.heap_setCell_same _ b 7 _ _ y7 h5
  have h7 : ((((((((A.setCell ⟨b, 1, none⟩ y1).setCell ⟨b, 2, none⟩ y2).setCell ⟨b, 4, none⟩ y4).setCell ⟨b, 5, none⟩ y5).setCell ⟨b, 6, none⟩ y6).setCell ⟨b, 7, none⟩ y7).setCell ⟨b, 8, none⟩ y8)).heap[b]? = some (.cells #[x0, y1, y2, x3, y4, y5, y6, y7, y8, x9, x10, x11, x12, x13] t (0, 0)) := Go.heap_setCell_same _ b 8 _ _ y8 h6
  have h8 : (((((((((A.setCell ⟨b, 1, none⟩ y1).setCell ⟨b, 2, none⟩ y2).setCell ⟨b, 4, none⟩ y4).setCell ⟨b, 5, none⟩ y5).setCell ⟨b, 6, none⟩ y6).setCell ⟨b, 7, none⟩ y7).setCell ⟨b, 8, none⟩ y8).setCell ⟨b, 9, none⟩ y9)).heap[b]? = some (.cells #[x0, y1, y2, x3, y4, y5, y6, y7, y8, y9, x10, x11, x12, x13] t (0, 0)) := Go.heap_setCell_same _ b 9 _ _ y9 h7
  have h9 : ((((((((((A.setCell ⟨b, 1, none⟩ y1).setCell ⟨b, 2, none⟩ y2).setCell ⟨b, 4, none⟩ y4).setCell ⟨b, 5, none⟩ y5).setCell ⟨b, 6, none⟩ y6).setCell ⟨b, 7, none⟩ y7).setCell ⟨b, 8, none⟩ y8).setCell ⟨b, 9, none⟩ y9).setCell ⟨b, 10, none⟩ y10)).heap[b]? = some (.cells #[x0, y1, y2, x3, y4, y5, y6, y7, y8, y9, y10, x11, x12, x13] t (0, 0)) := Go.heap_setCell_same _ b 10 _ _ y10 h8
  have h10 : (((((((((((A.setCell ⟨b, 1, none⟩ y1).setCell ⟨b, 2, none⟩ y2).setCell ⟨b, 4, none⟩ y4).setCell ⟨b, 5, none⟩ y5).setCell ⟨b, 6, none⟩ y6).setCell ⟨b, 7, none⟩ y7).setCell ⟨b, 8, none⟩ y8).setCell ⟨b, 9, none⟩ y9).setCell ⟨b, 10, none⟩ y10).setCell ⟨b, 11, none⟩ y11)).heap[b]? = some (.cells #[x0, y1, y2, x3, y4, y5, y6, y7, y8, y9, y10, y11, x12, x13] t (0, 0)) := Go.heap_setCell_same _ b 11 _ _ y11 h9
  have h11 : ((((((((((((A.setCell ⟨b, 1, none⟩ y1).setCell ⟨b, 2, none⟩ y2).setCell ⟨b, 4, none⟩ y4).setCell ⟨b, 5, none⟩ y5).setCell ⟨b, 6, none⟩ y6).setCell ⟨b, 7, none⟩ y7).setCell ⟨b, 8, none⟩ y8).setCell ⟨b, 9, none⟩ y9).setCell ⟨b, 10, none⟩ y10).setCell ⟨b, 11, none⟩ y11).setCell ⟨b, 12, none⟩ y12)).heap[b]? = some (.cells #[x0, y1, y2, x3, y4, y5, y6, y7, y8, y9, y10, y11, y12, x13] t (0, 0)) := Go.heap_setCell_same _ b 12 _ _ y12 h10
  have h12 : (((((((((((((A.setCell ⟨b, 1, none⟩ y1).setCell ⟨b, 2, none⟩ y2).setCell ⟨b, 4, none⟩ y4).setCell ⟨b, 5, none⟩ y5).setCell ⟨b, 6, none⟩ y6).setCell ⟨b, 7, none⟩ y7).setCell ⟨b, 8, none⟩ y8).setCell ⟨b, 9, none⟩ y9).setCell ⟨b, 10, none⟩ y10).setCell ⟨b, 11, none⟩ y11).setCell ⟨b, 12, none⟩ y12).setCell ⟨b, 13, none⟩ y13)).heap[b]? = some (.cells #[x0, y1, y2, x3, y4, y5, y6, y7, y8, y9, y10, y11, y12, y13] t (0, 0)) := Go.heap_setCell_same _ b 13 _ _ y13 h11
  have o12 : ∀ k, k ≠ b → (((((((((((((A.setCell ⟨b, 1, none⟩ y1).setCell ⟨b, 2, none⟩ y2).setCell ⟨b, 4, none⟩ y4).setCell ⟨b, 5, none⟩ y5).setCell ⟨b, 6, none⟩ y6).setCell ⟨b, 7, none⟩ y7).setCell ⟨b, 8, none⟩ y8).setCell ⟨b, 9, none⟩ y9).setCell ⟨b, 10, none⟩ y10).setCell ⟨b, 11, none⟩ y11).setCell ⟨b, 12, none⟩ y12).setCell ⟨b, 13, none⟩ y13)).heap[k]? = A.heap[k]? := fun k hk => (heap_setCell_other _ ⟨b, 13, none⟩ k _ hk).trans ((heap_setCell_other _ ⟨b, 12, none⟩ k _ hk).trans ((heap_setCell_other _ ⟨b, 11, none⟩ k _ hk).trans ((heap_setCell_other _ ⟨b, 10, none⟩ k _ hk).trans ((heap_setCell_other _ ⟨b, 9, none⟩ k _ hk).trans ((heap_setCell_other _ ⟨b, 8, none⟩ k _ hk).trans ((heap_setCell_other _ ⟨b, 7, none⟩ k _ hk).trans ((heap_setCell_other _ ⟨b, 6, none⟩ k _ hk).trans ((heap_setCell_other _ ⟨b, 5, none⟩ k _ hk).trans ((heap_setCell_other _ ⟨b, 4, none⟩ k _ hk).trans ((heap_setCell_other _ ⟨b, 2, none⟩ k _ hk).trans ((heap_setCell_other _ ⟨b, 1, none⟩ k _ hk))))))))))))
  have s12 : (((((((((((((A.setCell ⟨b, 1, none⟩ y1).setCell ⟨b, 2, none⟩ y2).setCell ⟨b, 4, none⟩ y4).setCell ⟨b, 5, none⟩ y5).setCell ⟨b, 6, none⟩ y6).setCell ⟨b, 7, none⟩ y7).setCell ⟨b, 8, none⟩ y8).setCell ⟨b, 9, none⟩ y9).setCell ⟨b, 10, none⟩ y10).setCell ⟨b, 11, none⟩ y11).setCell ⟨b, 12, none⟩ y12).setCell ⟨b, 13, none⟩ y13)).heap.size = A.heap.size := by simp
  exact ⟨h12, o12, s12⟩
set_option maxHeartbeats 4000000 in
theorem below_12 {A W w : World} {n b : Nat} {y1 y2 y4 y5 y6 y7 y8 y9 y10 y11 y12 y13 : Value} (h : Below n w A) (hb : n ≤ b) (hW : (((((((((((((A.setCell ⟨b, 1, none⟩ y1).setCell ⟨b, 2, none⟩ y2).setCell ⟨b, 4, none⟩ y4).setCell ⟨b, 5, none⟩ y5).setCell ⟨b, 6, none⟩ y6).setCell ⟨b, 7, none⟩ y7).setCell ⟨b, 8, none⟩ y8).setCell ⟨b, 9, none⟩ y9).setCell ⟨b, 10, none⟩ y10).setCell ⟨b, 11, none⟩ y11).setCell ⟨b, 12, none⟩ y12).setCell ⟨b, 13, none⟩ y13)) = W) : Below n w W := by
  subst hW
  exact ((((((((((((h.setCell (p := ⟨b, 1, none⟩) hb _).setCell (p := ⟨b, 2, none⟩) hb _).setCell (p := ⟨b, 4, none⟩) hb _).setCell (p := ⟨b, 5, none⟩) hb _).setCell (p := ⟨b, 6, none⟩) hb _).setCell (p := ⟨b, 7, none⟩) hb _).setCell (p := ⟨b, 8, none⟩) hb _).setCell (p := ⟨b, 9, none⟩) hb _).setCell (p := ⟨b, 10, none⟩) hb _).setCell (p := ⟨b, 11, none⟩) hb _).setCell (p := ⟨b, 12, none⟩) hb _).setCell (p := ⟨b, 13, none⟩) hb _)
set_option maxRecDepth 100000 in
set_option maxHeartbeats 80000000 in
theorem lliteral_any (l : LiL) (u : Value) (S : Nat → Prop) (w : World) (h : RowIn tmY S w u l.atom.args) :
    Calls Tryz.prog 15 #[valLi l u] w fun e w' => (∃ v, e = .returned (valLi (cutLi l) v) ∧ RowIn tmY (fun k => w.heap.size ≤ k) w' v (cutLi l).atom.args) ∧ Below w.heap.size w w' := by
  have HA : Hid (∀ W, Below w.heap.size w W → Calls Tryz.prog 50 #[.agg #[.string ⟨l.atom.pred.toArray⟩, u]] W fun e w' => (∃ v, e = .returned (.agg #[.string ⟨(cutA l.atom).pred.toArray⟩, v]) ∧ RowIn tmY (fun k => W.heap.size ≤ k) w' v (cutA l.atom).args) ∧ Below W.heap.size W w') := Lib.hid (fun W hb => latom_any l.atom u S W (h.in_below hb))
  have HTa := Lib.hid (lterm_any l.a)
  have HTb := Lib.hid (lterm_any l.b)
  obtain ⟨p, c, rfl⟩ := h.shape
  clear h
  obtain ⟨k, at_, op, ta, tb⟩ := l
  unfold valLi cutLi
  simp only at HA HTa HTb ⊢
  obtain ⟨Z, hZ⟩ : ∃ Z, cutT ta = Z := ⟨_, rfl⟩
  obtain ⟨Z2, hZ2⟩ : ∃ Z, cutT tb = Z := ⟨_, rfl⟩
  rw [hZ] at HTa ⊢
  rw [hZ2] at HTb ⊢
  clear hZ hZ2
  obtain ⟨ka, na', ⟨a1, a2, a3⟩⟩ := ta
  obtain ⟨kb, nb', ⟨b1, b2, b3⟩⟩ := tb
  unfold valT at HTa HTb
  simp only at HTa HTb ⊢
  generalize (⟨na'.toArray⟩ : ByteArray) = na at *
  generalize (⟨nb'.toArray⟩ : ByteArray) = nb at *
  generalize (⟨at_.pred.toArray⟩ : ByteArray) = nm at *
  generalize (⟨(cutA at_).pred.toArray⟩ : ByteArray) = pr at *
  generalize at_.args.length = m at *
  generalize (cutA at_).args = T at *
  obtain ⟨w0, hw0⟩ : ∃ w0, (w.alloc (.cells #[.int .i64 k, .string nm, .slice p m c, .int .i64 op, .int .i64 ka, .string na, .int .i64 a1, .int .i64 a2, .string a3, .int .i64 kb, .string nb, .int .i64 b1, .int .i64 b2, .string b3] 49)).alloc (.cells #[.int .i64 0, .string ⟨#[]⟩, .slice none 0 0, .int .i64 0, .int .i64 0, .string ⟨#[]⟩, .int .i64 0, .int .i64 0, .string ⟨#[]⟩, .int .i64 0, .string ⟨#[]⟩, .int .i64 0, .int .i64 0, .string ⟨#[]⟩] 49) = w0 := ⟨_, rfl⟩
  have HB := Lib.hid (show Below w.heap.size w w0 by rw [← hw0]; exact below_box2 w _ _)
  have hx := two_newA w (.cells #[.int .i64 k, .string nm, .slice p m c, .int .i64 op, .int .i64 ka, .string na, .int .i64 a1, .int .i64 a2, .string a3, .int .i64 kb, .string nb, .int .i64 b1, .int .i64 b2, .string b3] 49) (.cells #[.int .i64 0, .string ⟨#[]⟩, .slice none 0 0, .int .i64 0, .int .i64 0, .string ⟨#[]⟩, .int .i64 0, .int .i64 0, .string ⟨#[]⟩, .int .i64 0, .string ⟨#[]⟩, .int .i64 0, .int .i64 0, .string ⟨#[]⟩] 49)
  rw [hw0] at hx
  have HX := Lib.hid hx
  have HW0 := Lib.hid hw0
  clear hw0
  go_enter Tryz.func15, Tryz.ntmps15
  go_wp2_with fail
  try rw [HW0.out]
  obtain ⟨⟨c0, c1, c2, c3, c4, c5, c6, c7, c8, c9, c10, c11, c12, c13⟩, cf0, cf1, cf2, cf3, cf4, cf5, cf6, cf7, cf8, cf9, cf10, cf11, cf12, cf13⟩ := cells14 hx.1
  have hz0 : w.heap.size + 1 < w0.heap.size := (Array.getElem?_eq_some_iff.1 hx.2).1
  clear hx
  have HS := Lib.hid ((Below.refl w0.heap.size w0).drew)
  refine Till.begin (S := fun X => Below w0.heap.size w0 X) (z := 8) (by kernel_rfl) ?_
  refine Till.takeY 0 3 (v := ?_) rfl rfl (by kernel_rfl) (by kernel_rfl) (by kernel_rfl) (by decide) (fun _ _ _ h => h) (by kernel_rfl) ?_ (fun _ => HS.out) (by simp only [put_norm]; exact rfl) ?_
  rotate_left
  · rintro X0 -
    go_simp; try (with_reducible rfl)
  refine Till.takeY 3 6 (v := ?_) rfl rfl (by kernel_rfl) (by kernel_rfl) (by kernel_rfl) (by decide) (fun _ _ _ h => h) (by kernel_rfl) ?_ (fun _ => HS.out) (by simp only [put_norm]; exact rfl) ?_
  rotate_left
  · rintro X0 -
    go_simp; try (with_reducible rfl)
  refine Till.takeY 6 9 (v := ?_) rfl rfl (by kernel_rfl) (by kernel_rfl) (by kernel_rfl) (by decide) (fun _ _ _ h => h) (by kernel_rfl) ?_ (fun _ => HS.out) (by simp only [put_norm]; exact rfl) ?_
  rotate_left
  · rintro X0 -
    go_simp; try (with_reducible rfl)
  refine Till.take [2, 5, 8] 1 4 (v := ?_) rfl rfl (by kernel_rfl) (by kernel_rfl) (by kernel_rfl) (by kernel_rfl) (fun _ _ _ h => h) (by kernel_rfl) ?_ HS.out (by simp only [put_norm]; exact rfl) ?_
  rotate_left
  · rintro X0 s0
    obtain ⟨⟨b0, b1, b2, b3, b4, b5, b6, b7, b8, b9, b10, b11, b12, b13⟩, -⟩ := cells14 ((s0.block _ (by omega)).trans HX.out.1)
    clear s0
    go_simp; try (with_reducible rfl)
  refine Till.take [5, 8] 4 7 (v := ?_) rfl rfl (by kernel_rfl) (by kernel_rfl) (by kernel_rfl) (by kernel_rfl) (fun _ _ _ h => h) (by kernel_rfl) ?_ HS.out (by simp only [put_norm]; exact rfl) ?_
  rotate_left
  · rintro X0 s0
    obtain ⟨⟨b0, b1, b2, b3, b4, b5, b6, b7, b8, b9, b10, b11, b12, b13⟩, -⟩ := cells14 ((s0.block _ (by omega)).trans HX.out.1)
    clear s0
    go_simp; try (with_reducible rfl)
  refine Till.take [8] 7 10 (v := ?_) rfl rfl (by kernel_rfl) (by kernel_rfl) (by kernel_rfl) (by kernel_rfl) (fun _ _ _ h => h) (by kernel_rfl) ?_ HS.out (by simp only [put_norm]; exact rfl) ?_
  rotate_left
  · rintro X0 s0
    obtain ⟨⟨b0, b1, b2, b3, b4, b5, b6, b7, b8, b9, b10, b11, b12, b13⟩, -⟩ := cells14 ((s0.block _ (by omega)).trans HX.out.1)
    clear s0
    go_simp; try (with_reducible rfl)
  clear c0 c1 c2 c3 c4 c5 c6 c7 c8 c9 c10 c11 c12 c13 cf0 cf1 cf2 cf3 cf4 cf5 cf6 cf7 cf8 cf9 cf10 cf11 cf12 cf13
  refine Till.one 2 (by kernel_rfl) rfl (fun K hK => ?_)
  go_simp
  go_at_call 50
  refine (HA.out _ HB.out.drew).mono ?_
  rintro y w1 ⟨⟨v, rfl, hv⟩, hb1⟩
  obtain ⟨pv, cv, rfl⟩ := hv.shape
  have HV := Lib.hid (show RowIn tmY (fun k => w0.heap.size ≤ k) w1 (.slice pv T.length cv) T from hv)
  have HB1 := Lib.hid hb1
  have hz1 : w0.heap.size ≤ w1.heap.size := hb1.size
  have HS1 := Lib.hid (show Below w0.heap.size w0 w1 from HS.out.trans hb1)
  clear hv hb1
  go_simp
  refine hK.out _ _ (fun _ => HS1.out) ?_
  clear hK K
  try simp only [put_norm]
  refine Till.takeY 9 12 (v := ?_) rfl rfl (by kernel_rfl) (by kernel_rfl) (by kernel_rfl) (by decide) (fun _ _ _ h => h) (by kernel_rfl) ?_ (fun _ => HS1.out) (by simp only [put_norm]; exact rfl) ?_
  rotate_left
  · rintro X0 -
    go_simp; try (with_reducible rfl)
  refine Till.one 5 (by kernel_rfl) rfl (fun K hK => ?_)
  go_simp
  go_at_call 14
  refine (HTa.out _).mono ?_
  rintro y w2 ⟨rfl, hb2⟩
  have HB2 := Lib.hid hb2
  have hz2 : w1.heap.size ≤ w2.heap.size := hb2.size
  have HS2 := Lib.hid (show Below w0.heap.size w0 w2 from HS1.out.trans (hb2.mono hz1))
  clear hb2 HTa
  go_simp
  refine hK.out _ _ (fun _ => HS2.out) ?_
  clear hK K
  try simp only [put_norm]
  refine Till.one 8 (by kernel_rfl) rfl (fun K hK => ?_)
  go_simp
  go_at_call 14
  refine (HTb.out _).mono ?_
  rintro y w3 ⟨rfl, hb3⟩
  have HB3 := Lib.hid hb3
  have hz3 : w2.heap.size ≤ w3.heap.size := hb3.size
  have HS3 := Lib.hid (show Below w0.heap.size w0 w3 from HS2.out.trans (hb3.mono (Nat.le_trans hz1 hz2)))
  have hx3 := (hb3.block w.heap.size (by omega)).trans ((HB2.out.block w.heap.size (by omega)).trans ((HB1.out.block w.heap.size (by simp; omega)).trans HX.out.1))
  have HX3 := Lib.hid hx3
  obtain ⟨⟨g0, g1, g2, g3, g4, g5, g6, g7, g8, g9, g10, g11, g12, g13⟩, gf0, gf1, gf2, gf3, gf4, gf5, gf6, gf7, gf8, gf9, gf10, gf11, gf12, gf13⟩ := cells14 hx3
  clear hb3 hx3 HTb
  go_simp
  refine hK.out _ _ (fun h => nomatch (show (true : Bool) = false from h)) ?_
  clear hK K
  try simp only [put_norm]
  refine Till.one 10 (by kernel_rfl) rfl (fun K hK => ?_)
  go_simp
  refine hK.out _ _ (fun h => nomatch (show (true : Bool) = false from h)) ?_
  clear hK K
  try simp only [put_norm]
  refine Till.takeY 11 13 (v := ?_) rfl rfl (by kernel_rfl) (by kernel_rfl) (by kernel_rfl) (by decide) (fun _ _ _ h => h) (by kernel_rfl) ?_ (fun h => nomatch (show (true : Bool) = false from h)) (by simp only [put_norm]; exact rfl) ?_
  rotate_left
  · rintro X0 -
    go_simp; try (with_reducible rfl)
  refine Till.one 12 (by kernel_rfl) rfl (fun K hK => ?_)
  go_simp
  refine hK.out _ _ (fun h => nomatch (show (true : Bool) = false from h)) ?_
  clear hK K
  try simp only [put_norm]
  refine Till.takeY 13 14 (v := ?_) rfl rfl (by kernel_rfl) (by kernel_rfl) (by kernel_rfl) (by decide) (fun _ _ _ h => h) (by kernel_rfl) ?_ (fun h => nomatch (show (true : Bool) = false from h)) (by simp only [put_norm]; exact rfl) ?_
  rotate_left
  · rintro X0 -
    go_simp; try (with_reducible rfl)
  refine Till.one 14 (by kernel_rfl) rfl (fun K hK => ?_)
  go_simp
  refine hK.out _ _ (fun h => nomatch (show (true : Bool) = false from h)) ?_
  clear hK K
  try simp only [put_norm]
  refine Till.done (by kernel_rfl) ?_ _
  generalize hW : World.setCell _ _ _ = W
  obtain ⟨y1, y2, y3⟩ := set_12 HX3.out hW
  have HBA := Lib.hid (show Below w.heap.size w w3 from HB.out.drew.trans ((HB1.out.mono HB.out.size).trans (((HB2.out.mono (Nat.le_trans HB.out.size hz1)).trans (HB3.out.mono (Nat.le_trans (Nat.le_trans HB.out.size hz1) hz2))))))
  have HBW := Lib.hid (below_12 (w := w) HBA.out (Nat.le_refl _) hW)
  have HY2 := Lib.hid ((y2 (w.heap.size + 1) (by omega)).trans ((HB3.out.block (w.heap.size + 1) (by omega)).trans ((HB2.out.block (w.heap.size + 1) (by omega)).trans ((HB1.out.block (w.heap.size + 1) (by simp; omega)).trans HX.out.2))))
  have HVW := Lib.hid (show RowIn tmY (fun k => w0.heap.size ≤ k) W (.slice pv T.length cv) T from HV.out.keep (by rw [y3]; omega) fun j hj hl => ⟨hj, (y2 j (by omega)).trans ((HB3.out.block j (by omega)).trans (HB2.out.block j (by omega)))⟩)
  have HY1 := Lib.hid (show W.heap[w.heap.size]? = some (.cells #[.int .i64 k, .string pr, .slice pv T.length cv, .int .i64 op, .int .i64 Z.kind, .string ⟨Z.name.toArray⟩, .int .i64 Z.val.1, .int .i64 Z.val.2.1, .string Z.val.2.2, .int .i64 Z2.kind, .string ⟨Z2.name.toArray⟩, .int .i64 Z2.val.1, .int .i64 Z2.val.2.1, .string Z2.val.2.2] 49 (0, 0)) from y1)
  clear hW y1 y2 y3 hz1 hz2 hz3 g0 g1 g2 g3 g4 g5 g6 g7 g8 g9 g10 g11 g12 g13 gf0 gf1 gf2 gf3 gf4 gf5 gf6 gf7 gf8 gf9 gf10 gf11 gf12 gf13
  obtain ⟨⟨n0, n1, n2, n3, n4, n5, n6, n7, n8, n9, n10, n11, n12, n13⟩, -⟩ := cells14 HY1.out
  obtain ⟨⟨m0, m1, m2, m3, m4, m5, m6, m7, m8, m9, m10, m11, m12, m13⟩, mf0, mf1, mf2, mf3, mf4, mf5, mf6, mf7, mf8, mf9, mf10, mf11, mf12, mf13⟩ := cells14 HY2.out
  go_wp2_with fail
  refine bodyPost_ret (results_cell_row (fn := Tryz.f15) (by rfl) _ _ _ _ _ _ _ (by rfl) (rowS14_set HY2.out) Tryz.underlying49 (by rfl) (by kernel_rfl)) (by rfl) ?_
  refine ⟨⟨_, rfl, ?_⟩, ?_⟩
  · exact HVW.out.keep (by simp) fun j hj _ => ⟨by omega, set14_off (show j ≠ w.heap.size + 1 by omega)⟩
  · exact ((((((((((((((HBW.out.setCell (p := ⟨w.heap.size + 1, 0, none⟩) (by simp) _).setCell (p := ⟨w.heap.size + 1, 1, none⟩) (by simp) _).setCell (p := ⟨w.heap.size + 1, 2, none⟩) (by simp) _).setCell (p := ⟨w.heap.size + 1, 3, none⟩) (by simp) _).setCell (p := ⟨w.heap.size + 1, 4, none⟩) (by simp) _).setCell (p := ⟨w.heap.size + 1, 5, none⟩) (by simp) _).setCell (p := ⟨w.heap.size + 1, 6, none⟩) (by simp) _).setCell (p := ⟨w.heap.size + 1, 7, none⟩) (by simp) _).setCell (p := ⟨w.heap.size + 1, 8, none⟩) (by simp) _).setCell (p := ⟨w.heap.size + 1, 9, none⟩) (by simp) _).setCell (p := ⟨w.heap.size + 1, 10, none⟩) (by simp) _).setCell (p := ⟨w.heap.size + 1, 11, none⟩) (by simp) _).setCell (p := ⟨w.heap.size + 1, 12, none⟩) (by simp) _).setCell (p := ⟨w.heap.size + 1, 13, none⟩) (by simp) _)
end
section
open Go Go.RowKit Go.Shelf

/-- The one answer: a text and a code. -/
def ansS (o : Option (List UInt8)) : ByteArray := ⟨(o.getD []).toArray⟩
def ansC (o : Option (List UInt8)) : Int := if o.isSome = true then 0 else 140
theorem say_ans {o : Option (List UInt8)} {w w' : World} {e : Ending} (h : SayP o w e w') : e = .returned (.tuple #[.string (ansS o), .int .i64 (ansC o)]) ∧ Below w.heap.size w w' := by
  obtain ⟨⟨s, rfl, rfl⟩ | ⟨rfl, rfl⟩, hb⟩ := h
  · exact ⟨by unfold ansS ansC; simp, hb⟩
  · exact ⟨by unfold ansS ansC; simp, hb⟩
theorem says_ans {M : Nat} {o : Option (List UInt8)} {w w' : World} {e : Ending} (h : SayS M o w e w') : e = .returned (.tuple #[.string (ansS o), .int .i64 (ansC o)]) ∧ Below w.heap.size w w' := by
  obtain ⟨⟨s, rfl, -, rfl⟩ | ⟨rfl, rfl⟩, hb⟩ := h
  · exact ⟨by unfold ansS ansC; simp, hb⟩
  · exact ⟨by unfold ansS ansC; simp, hb⟩
theorem bool_ans {b : Bool} {w w' : World} {e : Ending} (h : BoolE (b = true) w e w') : e = .returned (.bool b) ∧ Below w.heap.size w w' := by
  obtain ⟨⟨h1, rfl⟩ | ⟨h1, rfl⟩, hb⟩ := h
  · rw [h1]; exact ⟨rfl, hb⟩
  · rw [show b = false by simpa using h1]; exact ⟨rfl, hb⟩
theorem cutA_sm {a : AtL} (h : OkA a) : SmA (cutA a) := ⟨by simp only [cutA, List.length_take]; omega, by simp only [cutA, List.length_map, List.length_take]; omega, fun t ht => by
  simp only [cutA] at ht
  obtain ⟨x, hx, rfl⟩ := List.mem_map.1 ht
  exact cutT_sm (h x (List.mem_of_mem_take hx))⟩
theorem cutLi_sm {l : LiL} (h : OkLi l) : SmLi (cutLi l) := ⟨cutA_sm h.1, cutT_sm h.2.1, cutT_sm h.2.2⟩
/-- What stands while the law asks: the two copies. -/
structure PaS (w : World) (Z : TmL) (l2 : LiL) (v : Value) (W : World) : Prop where
  below : Below w.heap.size w W
  x0 : W.heap[w.heap.size]? = some (.cells #[.int .i64 Z.kind, .string ⟨Z.name.toArray⟩, .int .i64 Z.val.1, .int .i64 Z.val.2.1, .string Z.val.2.2] 42 (0, 0))
  x1 : W.heap[w.heap.size + 1]? = some (.cells #[.int .i64 l2.kind, .string ⟨l2.atom.pred.toArray⟩, v, .int .i64 l2.op, .int .i64 l2.a.kind, .string ⟨l2.a.name.toArray⟩, .int .i64 l2.a.val.1, .int .i64 l2.a.val.2.1, .string l2.a.val.2.2, .int .i64 l2.b.kind, .string ⟨l2.b.name.toArray⟩, .int .i64 l2.b.val.1, .int .i64 l2.b.val.2.1, .string l2.b.val.2.2] 49 (0, 0))
  row : RowIn tmY (fun _ => True) W v l2.atom.args
theorem PaS.on {w W W' : World} {Z : TmL} {l2 : LiL} {v : Value} (h : PaS w Z l2 v W) (hb : Below W.heap.size W W') : PaS w Z l2 v W' :=
  ⟨h.below.trans (hb.mono h.below.size), (hb.block _ (Array.getElem?_eq_some_iff.1 h.x0).1).trans h.x0, (hb.block _ (Array.getElem?_eq_some_iff.1 h.x1).1).trans h.x1, h.row.in_below hb⟩
set_option maxHeartbeats 4000000 in
theorem set_19 {A W : World} {b c : Nat} {t t' : TypeId} {x0 x1 x2 x3 x4 y0 y1 y2 y3 y4 u0 u1 u2 u3 u4 u5 u6 u7 u8 u9 u10 u11 u12 u13 z0 z1 z2 z3 z4 z5 z6 z7 z8 z9 z10 z11 z12 z13 : Value} (hbc : b ≠ c) (h : A.heap[b]? = some (.cells #[x0, x1, x2, x3, x4] t (0, 0))) (h' : A.heap[c]? = some (.cells #[u0, u1, u2, u3, u4, u5, u6, u7, u8, u9, u10, u11, u12, u13] t' (0, 0)))
    (hW : ((((((((((((((((((((A.setCell ⟨b, 0, none⟩ y0).setCell ⟨b, 1, none⟩ y1).setCell ⟨b, 2, none⟩ y2).setCell ⟨b, 3, none⟩ y3).setCell ⟨b, 4, none⟩ y4).setCell ⟨c, 0, none⟩ z0).setCell ⟨c, 1, none⟩ z1).setCell ⟨c, 2, none⟩ z2).setCell ⟨c, 3, none⟩ z3).setCell ⟨c, 4, none⟩ z4).setCell ⟨c, 5, none⟩ z5).setCell ⟨c, 6, none⟩ z6).setCell ⟨c, 7, none⟩ z7).setCell ⟨c, 8, none⟩ z8).setCell ⟨c, 9, none⟩ z9).setCell ⟨c, 10, none⟩ z10).setCell ⟨c, 11, none⟩ z11).setCell ⟨c, 12, none⟩ z12).setCell ⟨c, 13, none⟩ z13)) = W) : W.heap[b]? = some (.cells #[y0, y1, y2, y3, y4] t (0, 0)) ∧ W.heap[c]? = some (.cells #[z0, z1, z2, z3, z4, z5, z6, z7, z8, z9, z10, z11, z12, z13] t' (0, 0)) ∧ (∀ k, k ≠ b → k ≠ c → W.heap[k]? = A.heap[k]?) ∧ W.heap.size = A.heap.size := by
  subst hW
  have o5 : ∀ k, k ≠ b → ((((((A.setCell ⟨b, 0, none⟩ y0).setCell ⟨b, 1, none⟩ y1).setCell ⟨b, 2, none⟩ y2).setCell ⟨b, 3, none⟩ y3).setCell ⟨b, 4, none⟩ y4)).heap[k]? = A.heap[k]? := fun k hk => (heap_setCell_other _ ⟨b, 4, none⟩ k _ hk).trans ((heap_setCell_other _ ⟨b, 3, none⟩ k _ hk).trans ((heap_setCell_other _ ⟨b, 2, none⟩ k _ hk).trans ((heap_setCell_other _ ⟨b, 1, none⟩ k _ hk).trans ((heap_setCell_other _ ⟨b, 0, none⟩ k _ hk)))))
  have e1 := row5_set (u' := y0) (v' := y1) (x' := y2) (y' := y3) (z' := y4) h
  have e2 := rowS14_set (y0 := z0) (y1 := z1) (y2 := z2) (y3 := z3) (y4 := z4) (y5 := z5) (y6 := z6) (y7 := z7) (y8 := z8) (y9 := z9) (y10 := z10) (y11 := z11) (y12 := z12) (y13 := z13) ((o5 c (Ne.symm hbc)).trans h')
  have e3 := (set14_off (w1 := (((((A.setCell ⟨b, 0, none⟩ y0).setCell ⟨b, 1, none⟩ y1).setCell ⟨b, 2, none⟩ y2).setCell ⟨b, 3, none⟩ y3).setCell ⟨b, 4, none⟩ y4)) (y0 := z0) (y1 := z1) (y2 := z2) (y3 := z3) (y4 := z4) (y5 := z5) (y6 := z6) (y7 := z7) (y8 := z8) (y9 := z9) (y10 := z10) (y11 := z11) (y12 := z12) (y13 := z13) hbc).trans e1
  have e4 : ∀ k, k ≠ b → k ≠ c → ((((((((((((((((((((A.setCell ⟨b, 0, none⟩ y0).setCell ⟨b, 1, none⟩ y1).setCell ⟨b, 2, none⟩ y2).setCell ⟨b, 3, none⟩ y3).setCell ⟨b, 4, none⟩ y4).setCell ⟨c, 0, none⟩ z0).setCell ⟨c, 1, none⟩ z1).setCell ⟨c, 2, none⟩ z2).setCell ⟨c, 3, none⟩ z3).setCell ⟨c, 4, none⟩ z4).setCell ⟨c, 5, none⟩ z5).setCell ⟨c, 6, none⟩ z6).setCell ⟨c, 7, none⟩ z7).setCell ⟨c, 8, none⟩ z8).setCell ⟨c, 9, none⟩ z9).setCell ⟨c, 10, none⟩ z10).setCell ⟨c, 11, none⟩ z11).setCell ⟨c, 12, none⟩ z12).setCell ⟨c, 13, none⟩ z13)).heap[k]? = A.heap[k]? := fun k hk hk' => (set14_off hk').trans (o5 k hk)
  have e5 : ((((((((((((((((((((A.setCell ⟨b, 0, none⟩ y0).setCell ⟨b, 1, none⟩ y1).setCell ⟨b, 2, none⟩ y2).setCell ⟨b, 3, none⟩ y3).setCell ⟨b, 4, none⟩ y4).setCell ⟨c, 0, none⟩ z0).setCell ⟨c, 1, none⟩ z1).setCell ⟨c, 2, none⟩ z2).setCell ⟨c, 3, none⟩ z3).setCell ⟨c, 4, none⟩ z4).setCell ⟨c, 5, none⟩ z5).setCell ⟨c, 6, none⟩ z6).setCell ⟨c, 7, none⟩ z7).setCell ⟨c, 8, none⟩ z8).setCell ⟨c, 9, none⟩ z9).setCell ⟨c, 10, none⟩ z10).setCell ⟨c, 11, none⟩ z11).setCell ⟨c, 12, none⟩ z12).setCell ⟨c, 13, none⟩ z13)).heap.size = A.heap.size := by simp
  exact ⟨e3, e2, e4, e5⟩
set_option maxHeartbeats 4000000 in
theorem below_19 {A W w : World} {n b c : Nat} {y0 y1 y2 y3 y4 z0 z1 z2 z3 z4 z5 z6 z7 z8 z9 z10 z11 z12 z13 : Value} (h : Below n w A) (hb : n ≤ b) (hc : n ≤ c) (hW : ((((((((((((((((((((A.setCell ⟨b, 0, none⟩ y0).setCell ⟨b, 1, none⟩ y1).setCell ⟨b, 2, none⟩ y2).setCell ⟨b, 3, none⟩ y3).setCell ⟨b, 4, none⟩ y4).setCell ⟨c, 0, none⟩ z0).setCell ⟨c, 1, none⟩ z1).setCell ⟨c, 2, none⟩ z2).setCell ⟨c, 3, none⟩ z3).setCell ⟨c, 4, none⟩ z4).setCell ⟨c, 5, none⟩ z5).setCell ⟨c, 6, none⟩ z6).setCell ⟨c, 7, none⟩ z7).setCell ⟨c, 8, none⟩ z8).setCell ⟨c, 9, none⟩ z9).setCell ⟨c, 10, none⟩ z10).setCell ⟨c, 11, none⟩ z11).setCell ⟨c, 12, none⟩ z12).setCell ⟨c, 13, none⟩ z13)) = W) : Below n w W := by
  subst hW
  exact (((((((((((((((((((h.setCell (p := ⟨b, 0, none⟩) hb _).setCell (p := ⟨b, 1, none⟩) hb _).setCell (p := ⟨b, 2, none⟩) hb _).setCell (p := ⟨b, 3, none⟩) hb _).setCell (p := ⟨b, 4, none⟩) hb _).setCell (p := ⟨c, 0, none⟩) hc _).setCell (p := ⟨c, 1, none⟩) hc _).setCell (p := ⟨c, 2, none⟩) hc _).setCell (p := ⟨c, 3, none⟩) hc _).setCell (p := ⟨c, 4, none⟩) hc _).setCell (p := ⟨c, 5, none⟩) hc _).setCell (p := ⟨c, 6, none⟩) hc _).setCell (p := ⟨c, 7, none⟩) hc _).setCell (p := ⟨c, 8, none⟩) hc _).setCell (p := ⟨c, 9, none⟩) hc _).setCell (p := ⟨c, 10, none⟩) hc _).setCell (p := ⟨c, 11, none⟩) hc _).setCell (p := ⟨c, 12, none⟩) hc _).setCell (p := ⟨c, 13, none⟩) hc _)
set_option maxRecDepth 100000 in
set_option maxHeartbeats 80000000 in
theorem lprintParts (us0 : List Value) (t : TmL) (us1 : List Value) (l : LiL) (s : ByteArray) (w : World) (h0 : tmY.is (fun _ => True) w us0 t) (ok0 : I64 t.val.2.1) (h1 : liY.is (fun _ => True) w us1 l) (ok1 : OkLi l) (_ : s.size ≤ maxLen) (G : Glob w) :
    Calls Tryz.prog 4 #[.agg us0.toArray, .agg us1.toArray, .string s] w fun e w' => e = .returned (.bool true) ∧ Below w.heap.size w w' := by
  have h0' : us0 = cellT t := h0
  subst h0'
  obtain ⟨u, rfl, hu⟩ := h1
  have HSm := Lib.hid (And.intro (cutT_sm ok0) (cutLi_sm ok1))
  have HG := Lib.hid G
  have HLt := Lib.hid (lterm_any t)
  have HLl : Hid (∀ W, Below w.heap.size w W → Calls Tryz.prog 15 #[valLi l u] W fun e w' => (∃ v, e = .returned (valLi (cutLi l) v) ∧ RowIn tmY (fun k => W.heap.size ≤ k) w' v (cutLi l).atom.args) ∧ Below W.heap.size W w') := Lib.hid (fun W hb => lliteral_any l u _ W (hu.in_below hb))
  obtain ⟨p, c, rfl⟩ := hu.shape
  obtain ⟨Z, hZ⟩ : ∃ Z, cutT t = Z := ⟨_, rfl⟩
  obtain ⟨l2, hl2⟩ : ∃ l2, cutLi l = l2 := ⟨_, rfl⟩
  rw [hZ] at HLt HSm
  rw [hl2] at HLl HSm
  clear h0 ok0 ok1 G hu hZ hl2
  have HSc := Lib.hid (cutB_le s)
  have HN1 : Hid (∀ W, Below w.heap.size w W → Calls Tryz.prog 23 #[.string (cutB s)] W fun e w' => e = .returned (.bool (nameB (cutB s).data.toList)) ∧ Below W.heap.size W w') := Lib.hid (fun W hb => pName_any _ W HSc.out (HG.out.below hb))
  have HN2 : Hid (∀ W, Calls Tryz.prog 24 #[.string (cutB s)] W fun e w' => e = .returned (.bool (nameB (cutB s).data.toList)) ∧ Below W.heap.size W w') := Lib.hid (fun W => (rName_any _ W (by have := HSc.out; omega)).mono fun _ _ h => bool_ans h)
  have HV1 : Hid (∀ W, Below w.heap.size w W → Calls Tryz.prog 25 #[.string (cutB s)] W fun e w' => e = .returned (.bool (varB (cutB s).data.toList)) ∧ Below W.heap.size W w') := Lib.hid (fun W hb => pVar_any _ W HSc.out (HG.out.below hb))
  have HV2 : Hid (∀ W, Calls Tryz.prog 26 #[.string (cutB s)] W fun e w' => e = .returned (.bool (varB (cutB s).data.toList)) ∧ Below W.heap.size W w') := Lib.hid (fun W => (rVar_any _ W (by have := HSc.out; omega)).mono fun _ _ h => bool_ans h)
  generalize nameB (cutB s).data.toList = nb at *
  generalize varB (cutB s).data.toList = vb at *
  obtain ⟨k, nm', ⟨v1, v2, v3⟩⟩ := t
  obtain ⟨q, at_, op, ⟨ka, na', ⟨a1, a2, a3⟩⟩, ⟨kb, nb', ⟨b1, b2, b3⟩⟩⟩ := l
  unfold valT at HLt
  unfold valLi at HLl
  unfold cellT
  simp only at HLt HLl ⊢
  generalize (⟨nm'.toArray⟩ : ByteArray) = nm at *
  generalize (⟨na'.toArray⟩ : ByteArray) = na at *
  generalize (⟨nb'.toArray⟩ : ByteArray) = nb at *
  generalize (⟨at_.pred.toArray⟩ : ByteArray) = pd at *
  generalize at_.args.length = m at *
  obtain ⟨w0, hw0⟩ : ∃ w0, (w.alloc (.cells #[.int .i64 k, .string nm, .int .i64 v1, .int .i64 v2, .string v3] 42)).alloc (.cells #[.int .i64 q, .string pd, .slice p m c, .int .i64 op, .int .i64 ka, .string na, .int .i64 a1, .int .i64 a2, .string a3, .int .i64 kb, .string nb, .int .i64 b1, .int .i64 b2, .string b3] 49) = w0 := ⟨_, rfl⟩
  have HB := Lib.hid (show Below w.heap.size w w0 by rw [← hw0]; exact below_box2 w _ _)
  have hx := two_newA w (.cells #[.int .i64 k, .string nm, .int .i64 v1, .int .i64 v2, .string v3] 42) (.cells #[.int .i64 q, .string pd, .slice p m c, .int .i64 op, .int .i64 ka, .string na, .int .i64 a1, .int .i64 a2, .string a3, .int .i64 kb, .string nb, .int .i64 b1, .int .i64 b2, .string b3] 49)
  rw [hw0] at hx
  have HX := Lib.hid hx
  have HW0 := Lib.hid hw0
  clear hw0
  show Calls Tryz.prog 4 #[.agg #[.int .i64 k, .string nm, .int .i64 v1, .int .i64 v2, .string v3], .agg #[.int .i64 q, .string pd, .slice p m c, .int .i64 op, .int .i64 ka, .string na, .int .i64 a1, .int .i64 a2, .string a3, .int .i64 kb, .string nb, .int .i64 b1, .int .i64 b2, .string b3], .string s] w _
  go_enter Tryz.func4, Tryz.ntmps4
  go_wp2_with fail
  try rw [HW0.out]
  obtain ⟨⟨c0, c1, c2, c3, c4⟩, cf0, cf1, cf2, cf3, cf4⟩ := cells5 hx.1
  obtain ⟨⟨d0, d1, d2, d3, d4, d5, d6, d7, d8, d9, d10, d11, d12, d13⟩, df0, df1, df2, df3, df4, df5, df6, df7, df8, df9, df10, df11, df12, df13⟩ := cells14 hx.2
  have hz0 : w.heap.size + 1 < w0.heap.size := (Array.getElem?_eq_some_iff.1 hx.2).1
  clear hx
  have HS0 := Lib.hid ((Below.refl w0.heap.size w0).drew)
  refine Till.begin (S := fun X => Below w0.heap.size w0 X) (z := 5) (by kernel_rfl) ?_
  refine Till.take [1, 3, 5] 0 19 (v := ?_) rfl rfl (by kernel_rfl) (by kernel_rfl) (by kernel_rfl) (by kernel_rfl) (fun _ _ _ h => h) (by kernel_rfl) ?_ HS0.out (by simp only [put_norm]; exact rfl) ?_
  rotate_left
  · rintro X0 s0
    obtain ⟨⟨e0, e1, e2, e3, e4⟩, ef0, ef1, ef2, ef3, ef4⟩ := cells5 ((s0.block _ (by omega)).trans HX.out.1)
    clear s0
    go_simp; try (with_reducible rfl)
  refine Till.take [3, 5] 2 21 (v := ?_) rfl rfl (by kernel_rfl) (by kernel_rfl) (by kernel_rfl) (by kernel_rfl) (fun _ _ _ h => h) (by kernel_rfl) ?_ HS0.out (by simp only [put_norm]; exact rfl) ?_
  rotate_left
  · rintro X0 s0
    obtain ⟨⟨g0, g1, g2, g3, g4, g5, g6, g7, g8, g9, g10, g11, g12, g13⟩, gf0, gf1, gf2, gf3, gf4, gf5, gf6, gf7, gf8, gf9, gf10, gf11, gf12, gf13⟩ := cells14 ((s0.block _ (by omega)).trans HX.out.2)
    clear s0
    go_simp; try (with_reducible rfl)
  refine Till.takeY 4 23 (v := ?_) rfl rfl (by kernel_rfl) (by kernel_rfl) (by kernel_rfl) (by decide) (fun _ _ _ h => h) (by kernel_rfl) ?_ (fun _ => HS0.out) (by simp only [put_norm]; exact rfl) ?_
  rotate_left
  · rintro X0 -
    go_simp; try (with_reducible rfl)
  clear c0 c1 c2 c3 c4 cf0 cf1 cf2 cf3 cf4
  clear d0 d1 d2 d3 d4 d5 d6 d7 d8 d9 d10 d11 d12 d13 df0 df1 df2 df3 df4 df5 df6 df7 df8 df9 df10 df11 df12 df13
  refine Till.one 1 (by kernel_rfl) rfl (fun K hK => ?_)
  go_simp
  go_at_call 14
  refine (HLt.out _).mono ?_
  rintro y w1 ⟨rfl, hb1⟩
  have HB1 := Lib.hid (HB.out.drew.trans (hb1.mono HB.out.size))
  have HS1 := Lib.hid (show Below w0.heap.size w0 w1 from HS0.out.trans hb1)
  have HX1 := Lib.hid (And.intro ((hb1.block w.heap.size (by simp; omega)).trans HX.out.1) ((hb1.block (w.heap.size + 1) (by simp; omega)).trans HX.out.2))
  have hz1 : w.heap.size + 1 < w1.heap.size := (Array.getElem?_eq_some_iff.1 HX1.out.2).1
  clear hb1 HLt
  go_simp
  refine hK.out _ _ (fun _ => HS1.out) ?_
  clear hK K
  try simp only [put_norm]
  refine Till.one 3 (by kernel_rfl) rfl (fun K hK => ?_)
  go_simp
  go_at_call 15
  refine (HLl.out _ HB1.out).mono ?_
  rintro y w2 ⟨⟨v, rfl, hv⟩, hb2⟩
  obtain ⟨pv, cv, rfl⟩ := hv.shape
  have HV := Lib.hid hv
  have HB2 := Lib.hid (HB1.out.trans (hb2.mono HB1.out.size))
  have HS2 := Lib.hid (show Below w0.heap.size w0 w2 from HS1.out.trans (hb2.mono HS1.out.size))
  have HX2 := Lib.hid (And.intro ((hb2.block w.heap.size (by omega)).trans HX1.out.1) ((hb2.block (w.heap.size + 1) (by omega)).trans HX1.out.2))
  clear hv hb2 HLl
  go_simp
  refine hK.out _ _ (fun _ => HS2.out) ?_
  clear hK K
  try simp only [put_norm]
  refine Till.one 5 (by kernel_rfl) rfl (fun K hK => ?_)
  go_simp
  go_at_call 16
  refine (ltext_any _ _).mono ?_
  rintro y w3 ⟨rfl, rfl⟩
  go_simp
  refine hK.out _ _ (fun h => nomatch (show (true : Bool) = false from h)) ?_
  clear hK K
  try simp only [put_norm]
  obtain ⟨⟨i0, i1, i2, i3, i4⟩, if0, if1, if2, if3, if4⟩ := cells5 HX2.out.1
  obtain ⟨⟨j0, j1, j2, j3, j4, j5, j6, j7, j8, j9, j10, j11, j12, j13⟩, jf0, jf1, jf2, jf3, jf4, jf5, jf6, jf7, jf8, jf9, jf10, jf11, jf12, jf13⟩ := cells14 HX2.out.2
  refine Till.one 6 (by kernel_rfl) rfl (fun K hK => ?_)
  go_simp
  refine hK.out _ _ (fun h => nomatch (show (true : Bool) = false from h)) ?_
  clear hK K
  try simp only [put_norm]
  refine Till.one 7 (by kernel_rfl) rfl (fun K hK => ?_)
  go_simp
  refine hK.out _ _ (fun h => nomatch (show (true : Bool) = false from h)) ?_
  clear hK K
  try simp only [put_norm]
  refine Till.one 8 (by kernel_rfl) rfl (fun K hK => ?_)
  go_simp
  refine hK.out _ _ (fun h => nomatch (show (true : Bool) = false from h)) ?_
  clear hK K
  try simp only [put_norm]
  refine Till.done (by kernel_rfl) ?_ _
  generalize hW : World.setCell _ _ _ = W
  obtain ⟨y1, y2, y3, y4⟩ := set_19 (by omega) HX2.out.1 HX2.out.2 hW
  have hbw := below_19 (w := w) HB2.out (Nat.le_refl _) (by omega) hW
  have HS : Hid (PaS w Z l2 (.slice pv l2.atom.args.length cv) W) := Lib.hid ⟨hbw, y1, y2, HV.out.keep (by rw [y4]; exact Nat.le_refl _) fun j hj _ => ⟨trivial, y3 j (by omega) (by omega)⟩⟩
  clear hW y1 y2 y3 y4 hbw
  clear i0 i1 i2 i3 i4 if0 if1 if2 if3 if4
  clear j0 j1 j2 j3 j4 j5 j6 j7 j8 j9 j10 j11 j12 j13 jf0 jf1 jf2 jf3 jf4 jf5 jf6 jf7 jf8 jf9 jf10 jf11 jf12 jf13
  clear hz0 hz1 HV HX HX1 HX2 HB HB1 HB2 HW0 HS0 HS1 HS2
  obtain ⟨⟨c0, c1, c2, c3, c4⟩, -⟩ := cells5 HS.out.x0
  obtain ⟨⟨d0, d1, d2, d3, d4, d5, d6, d7, d8, d9, d10, d11, d12, d13⟩, -⟩ := cells14 HS.out.x1
  go_wp2_with fail
  refine ((pTerm_any Z _ HSm.out.1 (HG.out.below HS.out.below)).mono fun _ _ h => say_ans h).mono ?_
  rintro y w5 ⟨rfl, hb⟩
  replace HS := Lib.hid (HS.out.on hb)
  clear hb c0 c1 c2 c3 c4 d0 d1 d2 d3 d4 d5 d6 d7 d8 d9 d10 d11 d12 d13
  obtain ⟨⟨c0, c1, c2, c3, c4⟩, -⟩ := cells5 HS.out.x0
  obtain ⟨⟨d0, d1, d2, d3, d4, d5, d6, d7, d8, d9, d10, d11, d12, d13⟩, -⟩ := cells14 HS.out.x1
  go_wp2_with fail
  refine ((rterm_any Z _ HSm.out.1).mono fun _ _ h => says_ans h).mono ?_
  rintro y w6 ⟨rfl, hb⟩
  replace HS := Lib.hid (HS.out.on hb)
  clear hb c0 c1 c2 c3 c4 d0 d1 d2 d3 d4 d5 d6 d7 d8 d9 d10 d11 d12 d13
  obtain ⟨⟨c0, c1, c2, c3, c4⟩, -⟩ := cells5 HS.out.x0
  obtain ⟨⟨d0, d1, d2, d3, d4, d5, d6, d7, d8, d9, d10, d11, d12, d13⟩, -⟩ := cells14 HS.out.x1
  go_wp2_with fail
  refine ((pAtom_any l2.atom _ _ _ HS.out.row HSm.out.2.atom (HG.out.below HS.out.below)).mono fun _ _ h => say_ans h).mono ?_
  rintro y w7 ⟨rfl, hb⟩
  replace HS := Lib.hid (HS.out.on hb)
  clear hb c0 c1 c2 c3 c4 d0 d1 d2 d3 d4 d5 d6 d7 d8 d9 d10 d11 d12 d13
  obtain ⟨⟨c0, c1, c2, c3, c4⟩, -⟩ := cells5 HS.out.x0
  obtain ⟨⟨d0, d1, d2, d3, d4, d5, d6, d7, d8, d9, d10, d11, d12, d13⟩, -⟩ := cells14 HS.out.x1
  go_wp2_with fail
  refine ((ratom_any l2.atom _ _ _ HS.out.row HSm.out.2.atom).mono fun _ _ h => says_ans h).mono ?_
  rintro y w8 ⟨rfl, hb⟩
  replace HS := Lib.hid (HS.out.on hb)
  clear hb c0 c1 c2 c3 c4 d0 d1 d2 d3 d4 d5 d6 d7 d8 d9 d10 d11 d12 d13
  obtain ⟨⟨c0, c1, c2, c3, c4⟩, -⟩ := cells5 HS.out.x0
  obtain ⟨⟨d0, d1, d2, d3, d4, d5, d6, d7, d8, d9, d10, d11, d12, d13⟩, -⟩ := cells14 HS.out.x1
  go_wp2_with fail
  refine ((pLiteral_any l2 _ _ _ HS.out.row HSm.out.2 (HG.out.below HS.out.below)).mono fun _ _ h => say_ans h).mono ?_
  rintro y w9 ⟨rfl, hb⟩
  replace HS := Lib.hid (HS.out.on hb)
  clear hb c0 c1 c2 c3 c4 d0 d1 d2 d3 d4 d5 d6 d7 d8 d9 d10 d11 d12 d13
  obtain ⟨⟨c0, c1, c2, c3, c4⟩, -⟩ := cells5 HS.out.x0
  obtain ⟨⟨d0, d1, d2, d3, d4, d5, d6, d7, d8, d9, d10, d11, d12, d13⟩, -⟩ := cells14 HS.out.x1
  go_wp2_with fail
  refine ((rliteral_any l2 _ _ _ HS.out.row HSm.out.2).mono fun _ _ h => says_ans h).mono ?_
  rintro y w10 ⟨rfl, hb⟩
  replace HS := Lib.hid (HS.out.on hb)
  clear hb c0 c1 c2 c3 c4 d0 d1 d2 d3 d4 d5 d6 d7 d8 d9 d10 d11 d12 d13
  generalize ansS (termP Z) = r1
  generalize ansC (termP Z) = n1
  generalize ansS (atomP l2.atom) = r2
  generalize ansC (atomP l2.atom) = n2
  generalize ansS (litP l2) = r3
  generalize ansC (litP l2) = n3
  go_wp2_with fail
  refine (HN1.out _ HS.out.below).mono ?_
  rintro y w11 ⟨rfl, hb⟩
  have B1 := Lib.hid (HS.out.below.trans (hb.mono HS.out.below.size))
  clear hb HS
  go_wp2_with fail
  refine (HN2.out _).mono ?_
  rintro y w12 ⟨rfl, hb⟩
  have B2 := Lib.hid (B1.out.trans (hb.mono B1.out.size))
  clear hb
  go_wp2_with fail
  refine (HV1.out _ B2.out).mono ?_
  rintro y w13 ⟨rfl, hb⟩
  have B3 := Lib.hid (B2.out.trans (hb.mono B2.out.size))
  clear hb
  go_wp2_with fail
  refine (HV2.out _).mono ?_
  rintro y w14 ⟨rfl, hb⟩
  have B4 := Lib.hid (B3.out.trans (hb.mono B3.out.size))
  clear hb
  go_wp2_with fail
  refine (pawake_any _ (HG.out.below B4.out)).mono ?_
  rintro y w15 ⟨rfl, hb⟩
  have B5 := Lib.hid (B4.out.trans (hb.mono B4.out.size))
  clear hb
  go_wp2_with fail
  go_ret
  exact ⟨rfl, B5.out⟩
end
section
open Go Go.RowKit

open Go.ChangeShapes Go.WideShapes Go.ChangeAt
set_option maxRecDepth 100000 in
theorem lifted_lprintParts (os : Os) (started : os.Started) (H : Type) (enc : TypeId × Value → H) :
    ReturnsInHanded {} Tryz.checked os 4 .any (fun w args => (Rows.printPartsSpec.pre enc Tryz.prog Tryz.f4 [] false w args ∧ laidMetH Tryz.prog laid6 w) ∧ sizedMet enc Tryz.prog Tryz.f4 (OpenSpec.ofChange Rows.printPartsSpec) false w args)
      (Rows.printPartsSpec.post enc Tryz.prog Tryz.f4 false true false false) := by
  refine returnsInHanded_of_change_and (C := Tryz.checked) (X := fun w _ => laidMetH Tryz.prog laid6 w) (fun _ _ _ hh h => h.of_heap hh) own started (by kernel_rfl) Tryz.func4
    (ChangeSpec.witness_shaped (enc := enc) (C := Tryz.checked) (os := os) (X := fun w _ => laidMetH Tryz.prog laid6 w) false (World.doorLaid Tryz.prog 400 os) #[.agg #[.int .i64 0, .string ⟨#[]⟩, .int .i64 0, .int .i64 0, .string ⟨#[]⟩], .agg #[.int .i64 0, .string ⟨#[]⟩, .slice none 0 0, .int .i64 0, .int .i64 0, .string ⟨#[]⟩, .int .i64 0, .int .i64 0, .string ⟨#[]⟩, .int .i64 0, .string ⟨#[]⟩, .int .i64 0, .int .i64 0, .string ⟨#[]⟩], .string ⟨#[]⟩] 8 rfl (World.shaped_of_RefB (by kernel_rfl) (by kernel_rfl)) (by kernel_rfl) (by kernel_rfl) (by kernel_rfl) (door_met os _)) ?_
  intro W base args ds gs before hval0 hW _ _ hL _
  have hval : ∀ (j : Nat) t v, Tryz.f4.params[j]? = some t → args[j]? = some v → Value.okWide Tryz.prog W .any base t v := hval0
  have hW' := hW
  obtain ⟨p, q, hA0, hV, rfl, hfz, hnd⟩ := hW
  have hA : DataW.TrodAll enc Tryz.prog W 0 (fun _ => true) true Tryz.f4.params.toList args.toList ds p := hA0
  rw [Tryz.params4] at hA hval
  obtain ⟨v0, vs0, d0, ds0, p0, q0, hargs, rfl, rfl, h0, r0⟩ := trodAll_cons hA
  obtain ⟨v1, vs1, d1, ds1, p1, q1, rfl, rfl, rfl, h1, r1⟩ := trodAll_cons r0
  obtain ⟨v2, vs2, d2, ds2, p2, q2, rfl, rfl, rfl, h2, r2⟩ := trodAll_cons r1
  obtain ⟨rfl, rfl, rfl⟩ := trodAll_nil r2
  obtain rfl : args = #[v0, v1, v2] := by cases args; simp_all
  obtain ⟨rfl, rfl⟩ := trodVars_none hV
  have t0 := h0
  have lt0 : ∀ x ∈ p0, x.block < W.heap.size := by obtain ⟨m, hm⟩ := t0; exact DataW.trod_lt m _ _ _ hm
  have t1 := h1
  have lt1 : ∀ x ∈ p1, x.block < W.heap.size := by obtain ⟨m, hm⟩ := t1; exact DataW.trod_lt m _ _ _ hm
  have t2 := h2
  have lt2 : ∀ x ∈ p2, x.block < W.heap.size := by obtain ⟨m, hm⟩ := t2; exact DataW.trod_lt m _ _ _ hm
  obtain ⟨us0, a0, rfl, hs0, ok0⟩ := open_struct tmY (fun t : TmL => I64 t.val.2.1) Tryz.underlying42 (fun _ _ _ h => el_term h) (hval 0 42 v0 rfl rfl) h0
  obtain ⟨us1, a1, rfl, hs1, ok1⟩ := open_struct liY OkLi Tryz.underlying49 (fun _ _ _ h => tr_lit h) (hval 1 49 v1 rfl rfl) h1
  obtain ⟨s2v, rfl, -, -, iz2⟩ := ChangeMaps.open_string Tryz.underlying9 (hval 2 9 v2 rfl rfl) h2
  clear hA0 hval0
  refine (lprintParts us0 a0 us1 a1 s2v W hs0 ok0 hs1 ok1 iz2 (glob_of_laid hL)).mono fun e W' ⟨he, bel⟩ => ?_
  subst he
  exact ⟨_, rfl, _, _, _, [], _, [], hW', trodAll_mk1 (shut_bool Tryz.underlying4 _), (trodAll_cons_mk (Below.trod laidOut (by kernel_rfl) (of_decide_eq_true (by kernel_rfl)) t0 bel lt0) (trodAll_cons_mk (Below.trod laidOut (by kernel_rfl) (of_decide_eq_true (by kernel_rfl)) t1 bel lt1) (trodAll_cons_mk (Below.trod laidOut (by kernel_rfl) (of_decide_eq_true (by kernel_rfl)) t2 bel lt2) trodAll_mk0))), rfl, bel.frame _, fun h => by cases h⟩

theorem holds_lprintParts : Rows.PrintPartsSaid :=
  OpenClaim.holds_of_wide 4 Tryz.f4 rfl rfl rfl rfl rfl rfl rfl ⟨rfl, rfl, rfl, rfl, rfl⟩ rfl rfl rfl rfl rfl (by kernel_rfl) Tryz.func4 (by kernel_rfl)
    (of_decide_eq_true (by kernel_rfl)) (by unfold Func.isWrapper; rw [if_neg (of_decide_eq_false (by kernel_rfl))]; exact ⟨rfl, rfl⟩)
    (fun os started H enc _ => lifted_lprintParts os started H enc)

theorem card_lprintParts : Rows.PrintPartsCardSaid :=
  Claim7.holds_tied_plain_at .later [] Rows.printPartsCard.laidKinds true Rows.printPartsCard.stood.harness Rows.printPartsCard.stood.looks
    holds_lprintParts (fun _ h => by cases h) (by kernel_rfl) (fun _ h => by cases h) printParts_row_tie rfl ⟨rfl, rfl⟩ (by kernel_rfl) rfl
    (fun f fn hf hfn => by
      obtain rfl : f = 4 := Option.some.inj ((show Tryz.prog.funcNamed "pedigree/pedigreelaw14.PrintParts" = some 4 by kernel_rfl).symm.trans hf) |>.symm
      obtain rfl : fn = Tryz.f4 := (Option.some.inj (Tryz.func4.symm.trans hfn)).symm
      exact ⟨by kernel_rfl, fun j t ht => by
        rw [Tryz.params4] at ht
        have hm : t ∈ [42, 49, 9] := by simpa using Array.mem_of_getElem? ht
        have hall : ([42, 49, 9].all fun u => !Tryz.prog.wantsStandIn u) = true := by kernel_rfl
        exact (show Tryz.prog.wantsStandIn t = false by simpa using List.all_eq_true.1 hall t hm)⟩)
    (by kernel_rfl)
#print axioms card_lprintParts

end
end Go.Proofs.YtpemmgbopknopaaGreatDoor

/-
  The words of a text of any length; what a text says, as an answer.
-/
import Derived.Test.YtpemmgbopknopaaGreatDoorG06
import Derived.Test.YtpemmgbopknopaaGreatDoorLxH
import Derived.Defers
import Derived.Recover
import Derived.Laws.Pointers
import Derived.RegionTactic
import Derived.BigRegion
namespace Go.Proofs.YtpemmgbopknopaaGreatDoor
open Go Go.RowKit Go.Shelf

set_option maxRecDepth 100000 in
set_option maxHeartbeats 2000000 in
theorem words_all (s : ByteArray) (w : World) (G : Glob w) :
    Calls Tryz.prog 75 #[.string s] w fun e w' => (∃ v, e = .returned (.tuple #[v, .int .i64 ((wordsL s.data.toList).2.1 : Int), .int .i64 (wordsL s.data.toList).2.2]) ∧ OwnW w.heap.size w' v (wordsL s.data.toList).1) ∧ Below w.heap.size w w' := by
  by_cases hsh : s.size ≤ 1000000
  · exact words_any s w hsh G
  · have hl' : (65536 : Int) < (s.size : Int) := by omega
    have HE := Lib.hid (show wordsL s.data.toList = ([], 0, 2) by unfold wordsL; rw [if_pos (by rw [← Lib.size_eq]; omega)])
    rw [HE.out]
    clear G
    go_enter Tryz.func75, Tryz.ntmps75
    go_wp2_with fail
    refine bodyPost_ret (v := .tuple #[.slice none 0 0, .int .i64 0, .int .i64 2]) (by simp [results, Tryz.results75, go_sem]) rfl ⟨⟨_, rfl, OwnW.nil _ _⟩, ?_⟩
    exact ((Below.refl _ _).alloc (Nat.le_refl _) _).alloc (by simp) _ |>.alloc (by simp; omega) _
/-- How a text is answered: what it says, or where it doesn't, or that it is too long. -/
def SayEnd {α : Type} (p : Rd α) (T : (Nat → Prop) → World → Value → α → Prop) (z : Value) (s : ByteArray) (w : World) (x : Ending) (w' : World) : Prop :=
  Below w.heap.size w w' ∧
  ((s.size ≤ 65536 ∧ ∃ a v, sayOf valL p s.data.toList = .ok a ∧ x = .returned (.tuple #[v, .int .i64 0, .int .i64 0]) ∧ T (fun k => w.heap.size ≤ k) w' v a) ∨
   (s.size ≤ 65536 ∧ ∃ n : Nat, sayOf valL p s.data.toList = .bad n ∧ x = .returned (.tuple #[z, .int .i64 n, .int .i64 130])) ∨
   (s.size ≤ 65536 ∧ ∃ n : Nat, sayOf valL p s.data.toList = .lex n ∧ x = .returned (.tuple #[z, .int .i64 n, .int .i64 120])) ∨
   (65536 < s.size ∧ x = .returned (.tuple #[z, .int .i64 0, .int .i64 2])))
theorem say_end_lex {α : Type} {p : Rd α} {s : List UInt8} {n : Nat} (h : (lexS valL s 0).2 = some n) : sayOf valL p s = .lex n := sayOf_lex h
/-- The ways of the words of a text. -/
theorem words_ways (s : ByteArray) : (65536 < s.size ∧ wordsL s.data.toList = ([], 0, 2)) ∨ (s.size ≤ 65536 ∧ ∃ n, (lexS valL s.data.toList 0).2 = some n ∧ wordsL s.data.toList = ([], n, 120)) ∨ (s.size ≤ 65536 ∧ (lexS valL s.data.toList 0).2 = none ∧ wordsL s.data.toList = ((lexS valL s.data.toList 0).1, 0, 0)) := by
  unfold wordsL
  rw [← Lib.size_eq]
  by_cases h : 65536 < s.size
  · exact .inl ⟨h, by rw [if_pos h]⟩
  · right
    rw [if_neg h]
    cases e : (lexS valL s.data.toList 0).2 with
    | none => exact .inr ⟨by omega, rfl, rfl⟩
    | some n => exact .inl ⟨by omega, n, rfl, rfl⟩
theorem say_ok {α : Type} {p : Rd α} {s : List UInt8} {L L' : List Wd} {a : α} {e : Nat} (hn : (lexS valL s 0).2 = none) (hL : L = (lexS valL s 0).1) (h : p (keys L) = .ok a (keys L')) (hs : L' <:+ L) (he : e = s.length) : (L' = [] ∧ sayOf valL p s = .ok a) ∨ (L' ≠ [] ∧ sayOf valL p s = .bad (hereW e L')) := by
  subst hL
  cases L' with
  | nil => exact .inl ⟨rfl, sayOf_ok hn h⟩
  | cons w L' =>
    refine .inr ⟨by simp, ?_⟩
    rw [sayOf_more hn (t := w.key) (r := keys L') h, ← he]
    congr 1
    exact placeOf_suf e hs
theorem say_bad {α : Type} {p : Rd α} {s : List UInt8} {L L' : List Wd} {e : Nat} (hn : (lexS valL s 0).2 = none) (hL : L = (lexS valL s 0).1) (h : p (keys L) = .bad (keys L')) (hs : L' <:+ L) (he : e = s.length) : sayOf valL p s = .bad (hereW e L') := by
  subst hL
  rw [sayOf_bad hn h, ← he]
  congr 1
  exact placeOf_suf e hs
theorem three_at (W : World) (a b c : Obj) : (((W.alloc a).alloc b).alloc c).heap[W.heap.size]? = some a ∧ (((W.alloc a).alloc b).alloc c).heap[W.heap.size + 1]? = some b ∧ (((W.alloc a).alloc b).alloc c).heap[W.heap.size + 2]? = some c := by
  have h := two_new W a b
  refine ⟨(Below.heap_alloc _ _ _ (by simp; omega)).trans h.1, (Below.heap_alloc _ _ _ (by simp)).trans h.2, ?_⟩
  have := heap_alloc_new ((W.alloc a).alloc b) c
  rw [show ((W.alloc a).alloc b).heap.size = W.heap.size + 2 by simp] at this
  exact this
theorem name_c {P : Program} {f : Nat} {args : Array Value} {w : World} {Q : Ending → World → Prop} (h : ∀ X, X = w → Calls P f args X Q) : Calls P f args w Q := h w rfl
theorem finP_at {X : World} {B : Nat} {t t5 t6 : TypeId} {cs : Array Value} {a0 c0 : Value} (R4 : X.heap[B]? = some (.cells cs t (0, 0))) (R5 : X.heap[B + 1]? = some (.cells #[a0] t5 (0, 0))) (R6 : X.heap[B + 2]? = some (.cells #[c0] t6 (0, 0))) (m : Nat) :
    ((X.setCell ⟨B + 1, 0, none⟩ (.int .i64 m)).setCell ⟨B + 1 + 1, 0, none⟩ (.int .i64 130)).heap[B]? = some (.cells cs t (0, 0)) ∧ ((X.setCell ⟨B + 1, 0, none⟩ (.int .i64 m)).setCell ⟨B + 1 + 1, 0, none⟩ (.int .i64 130)).heap[B + 1]? = some (.cells #[.int .i64 m] t5 (0, 0)) ∧ ((X.setCell ⟨B + 1, 0, none⟩ (.int .i64 m)).setCell ⟨B + 1 + 1, 0, none⟩ (.int .i64 130)).heap[B + 1 + 1]? = some (.cells #[.int .i64 130] t6 (0, 0)) := by
  have R6a : X.heap[B + 1 + 1]? = some (.cells #[c0] t6 (0, 0)) := R6
  have g5 := heap_setCell_same X (B + 1) 0 _ _ (.int .i64 m) R5
  have g4 := (heap_setCell_other X ⟨B + 1, 0, none⟩ B (.int .i64 m) (by show B ≠ B + 1; omega)).trans R4
  have g6 := (heap_setCell_other X ⟨B + 1, 0, none⟩ (B + 1 + 1) (.int .i64 m) (by show B + 1 + 1 ≠ B + 1; omega)).trans R6a
  generalize X.setCell ⟨B + 1, 0, none⟩ (.int .i64 m) = Z at g4 g5 g6 ⊢
  exact ⟨(heap_setCell_other Z ⟨B + 1 + 1, 0, none⟩ B _ (by show B ≠ B + 1 + 1; omega)).trans g4, (heap_setCell_other Z ⟨B + 1 + 1, 0, none⟩ (B + 1) _ (by show B + 1 ≠ B + 1 + 1; omega)).trans g5, heap_setCell_same Z (B + 1 + 1) 0 _ _ _ g6⟩
theorem fin2_at {X : World} {B : Nat} {t t5 t6 : TypeId} {x0 x1 a0 c0 : Value} (R4 : X.heap[B]? = some (.cells #[x0, x1] t (0, 0))) (R5 : X.heap[B + 1]? = some (.cells #[a0] t5 (0, 0))) (R6 : X.heap[B + 2]? = some (.cells #[c0] t6 (0, 0))) (y0 y1 a c : Value) :
    ((((X.setCell ⟨B, 0, none⟩ y0).setCell ⟨B, 1, none⟩ y1).setCell ⟨B + 1, 0, none⟩ a).setCell ⟨B + 1 + 1, 0, none⟩ c).drew.heap[B]? = some (.cells #[y0, y1] t (0, 0)) ∧ ((((X.setCell ⟨B, 0, none⟩ y0).setCell ⟨B, 1, none⟩ y1).setCell ⟨B + 1, 0, none⟩ a).setCell ⟨B + 1 + 1, 0, none⟩ c).drew.heap[B + 1]? = some (.cells #[a] t5 (0, 0)) ∧ ((((X.setCell ⟨B, 0, none⟩ y0).setCell ⟨B, 1, none⟩ y1).setCell ⟨B + 1, 0, none⟩ a).setCell ⟨B + 1 + 1, 0, none⟩ c).drew.heap[B + 1 + 1]? = some (.cells #[c] t6 (0, 0)) := by
  have ho : ∀ k, k ≠ B → ((X.setCell ⟨B, 0, none⟩ y0).setCell ⟨B, 1, none⟩ y1).heap[k]? = X.heap[k]? := fun k h => (heap_setCell_other _ ⟨B, 1, none⟩ k _ h).trans (heap_setCell_other _ ⟨B, 0, none⟩ k _ h)
  have R6a : X.heap[B + 1 + 1]? = some (.cells #[c0] t6 (0, 0)) := R6
  have h5 := (ho (B + 1) (by omega)).trans R5
  have h6 := (ho (B + 1 + 1) (by omega)).trans R6a
  have h4 := row2_set (u' := y0) (v' := y1) R4
  generalize ((X.setCell ⟨B, 0, none⟩ y0).setCell ⟨B, 1, none⟩ y1) = Y at h4 h5 h6 ⊢
  have g5 := heap_setCell_same Y (B + 1) 0 _ _ a h5
  have g4 := (heap_setCell_other Y ⟨B + 1, 0, none⟩ B a (by show B ≠ B + 1; omega)).trans h4
  have g6 := (heap_setCell_other Y ⟨B + 1, 0, none⟩ (B + 1 + 1) a (by show B + 1 + 1 ≠ B + 1; omega)).trans h6
  generalize Y.setCell ⟨B + 1, 0, none⟩ a = Z at g4 g5 g6 ⊢
  exact ⟨(heap_setCell_other Z ⟨B + 1 + 1, 0, none⟩ B c (by show B ≠ B + 1 + 1; omega)).trans g4, (heap_setCell_other Z ⟨B + 1 + 1, 0, none⟩ (B + 1) c (by show B + 1 ≠ B + 1 + 1; omega)).trans g5, heap_setCell_same Z (B + 1 + 1) 0 _ _ c g6⟩
theorem fin2_below {w X : World} {B : Nat} (h : Below B w X) (y0 y1 a c : Value) : Below B w ((((X.setCell ⟨B, 0, none⟩ y0).setCell ⟨B, 1, none⟩ y1).setCell ⟨B + 1, 0, none⟩ a).setCell ⟨B + 1 + 1, 0, none⟩ c) := by
  refine Below.setCell (Below.setCell ?_ (by show B ≤ B + 1; omega) _) (by show B ≤ B + 1 + 1; omega) _
  iterate 2 refine Below.setCell ?_ (by exact Nat.le_refl _) _
  exact h
theorem fin3_at {X : World} {B : Nat} {t t5 t6 : TypeId} {x0 x1 x2 a0 c0 : Value} (R4 : X.heap[B]? = some (.cells #[x0, x1, x2] t (0, 0))) (R5 : X.heap[B + 1]? = some (.cells #[a0] t5 (0, 0))) (R6 : X.heap[B + 2]? = some (.cells #[c0] t6 (0, 0))) (y0 y1 y2 a c : Value) :
    (((((X.setCell ⟨B, 0, none⟩ y0).setCell ⟨B, 1, none⟩ y1).setCell ⟨B, 2, none⟩ y2).setCell ⟨B + 1, 0, none⟩ a).setCell ⟨B + 1 + 1, 0, none⟩ c).drew.heap[B]? = some (.cells #[y0, y1, y2] t (0, 0)) ∧ (((((X.setCell ⟨B, 0, none⟩ y0).setCell ⟨B, 1, none⟩ y1).setCell ⟨B, 2, none⟩ y2).setCell ⟨B + 1, 0, none⟩ a).setCell ⟨B + 1 + 1, 0, none⟩ c).drew.heap[B + 1]? = some (.cells #[a] t5 (0, 0)) ∧ (((((X.setCell ⟨B, 0, none⟩ y0).setCell ⟨B, 1, none⟩ y1).setCell ⟨B, 2, none⟩ y2).setCell ⟨B + 1, 0, none⟩ a).setCell ⟨B + 1 + 1, 0, none⟩ c).drew.heap[B + 1 + 1]? = some (.cells #[c] t6 (0, 0)) := by
  have ho : ∀ k, k ≠ B → (((X.setCell ⟨B, 0, none⟩ y0).setCell ⟨B, 1, none⟩ y1).setCell ⟨B, 2, none⟩ y2).heap[k]? = X.heap[k]? := fun k h => set3_off h
  have R6a : X.heap[B + 1 + 1]? = some (.cells #[c0] t6 (0, 0)) := R6
  have h5 := (ho (B + 1) (by omega)).trans R5
  have h6 := (ho (B + 1 + 1) (by omega)).trans R6a
  have h4 := rowS3_set (y0 := y0) (y1 := y1) (y2 := y2) R4
  generalize (((X.setCell ⟨B, 0, none⟩ y0).setCell ⟨B, 1, none⟩ y1).setCell ⟨B, 2, none⟩ y2) = Y at h4 h5 h6 ⊢
  have g5 := heap_setCell_same Y (B + 1) 0 _ _ a h5
  have g4 := (heap_setCell_other Y ⟨B + 1, 0, none⟩ B a (by show B ≠ B + 1; omega)).trans h4
  have g6 := (heap_setCell_other Y ⟨B + 1, 0, none⟩ (B + 1 + 1) a (by show B + 1 + 1 ≠ B + 1; omega)).trans h6
  generalize Y.setCell ⟨B + 1, 0, none⟩ a = Z at g4 g5 g6 ⊢
  exact ⟨(heap_setCell_other Z ⟨B + 1 + 1, 0, none⟩ B c (by show B ≠ B + 1 + 1; omega)).trans g4, (heap_setCell_other Z ⟨B + 1 + 1, 0, none⟩ (B + 1) c (by show B + 1 ≠ B + 1 + 1; omega)).trans g5, heap_setCell_same Z (B + 1 + 1) 0 _ _ c g6⟩
theorem fin3_below {w X : World} {B : Nat} (h : Below B w X) (y0 y1 y2 a c : Value) : Below B w (((((X.setCell ⟨B, 0, none⟩ y0).setCell ⟨B, 1, none⟩ y1).setCell ⟨B, 2, none⟩ y2).setCell ⟨B + 1, 0, none⟩ a).setCell ⟨B + 1 + 1, 0, none⟩ c) := by
  refine Below.setCell (Below.setCell ?_ (by show B ≤ B + 1; omega) _) (by show B ≤ B + 1 + 1; omega) _
  iterate 3 refine Below.setCell ?_ (by exact Nat.le_refl _) _
  exact h
end Go.Proofs.YtpemmgbopknopaaGreatDoor

/-
  Contracts of the laws' own 'cut', of value.Holds and of the document's Holds.
-/
import Derived.Test.YtehobjcdlaifdaaDoorVal
import Derived.Outline
namespace Go.Proofs.YtehobjcdlaifdaaDoor
open Go Go.RowKit

/-- At most 300 bytes are looked at. -/
def cutS (s : ByteArray) : ByteArray := if s.size ≤ 300 then s else s.extract 0 300
theorem cutS_le {s : ByteArray} (h : s.size ≤ 300) : cutS s = s := by unfold cutS; rw [if_pos h]
theorem cutS_gt {s : ByteArray} (h : 300 < s.size) : cutS s = s.extract 0 300 := by unfold cutS; rw [if_neg (by omega)]
theorem cutS_size (s : ByteArray) : (cutS s).size ≤ 300 := by
  unfold cutS
  split
  · assumption
  · rw [ByteArray.size_extract]; omega

set_option maxHeartbeats 400000 in
theorem cut_any (k n : Int) (s : ByteArray) (w : World) (hm : s.size ≤ maxLen) :
    Calls Tryd.prog 11 #[.agg #[.int .i64 k, .int .i64 n, .string s]] w fun e w' => e = .returned (.agg #[.int .i64 k, .int .i64 n, .string (cutS s)]) ∧
      (w.alloc (.cells #[.int .i64 k, .int .i64 n, .string (cutS s)] 24)).alloc (.cells #[.int .i64 k, .int .i64 n, .string (cutS s)] 24) = w' := by
  unfold maxLen at hm
  rcases Nat.lt_or_ge 300 s.size with h | h
  · have HC := Lib.hid (cutS_gt h)
    have h' : (300 : Int) < (s.size : Int) := by omega
    go_enter Tryd.func11, Tryd.ntmps11
    go_wp2
    rw [HC.out]
    exact bodyPost_ret (v := .agg #[.int .i64 k, .int .i64 n, .string (s.extract 0 300)]) (by simp [results, Tryd.results11, go_sem]) rfl ⟨rfl, rfl⟩
  · have HC := Lib.hid (cutS_le h)
    have h' : (s.size : Int) ≤ 300 := by omega
    go_enter Tryd.func11, Tryd.ntmps11
    go_wp2
    rw [HC.out]
    exact bodyPost_ret (v := .agg #[.int .i64 k, .int .i64 n, .string s]) (by simp [results, Tryd.results11, go_sem]) rfl ⟨rfl, rfl⟩

/-- Three cells of a block, known. -/
def Cells3 (w : World) (b : Nat) (x y z : Value) : Prop := w.cell? ⟨b, 0, none⟩ = some x ∧ w.cell? ⟨b, 1, none⟩ = some y ∧ w.cell? ⟨b, 2, none⟩ = some z
theorem Cells3.keep {w w1 : World} {b B : Nat} {x y z : Value} (h : Cells3 w b x y z) (hb : Below B w w1) (hB : b < B) : Cells3 w1 b x y z :=
  ⟨(hb.cell (p := ⟨b, 0, none⟩) hB).trans h.1, (hb.cell (p := ⟨b, 1, none⟩) hB).trans h.2.1, (hb.cell (p := ⟨b, 2, none⟩) hB).trans h.2.2⟩
theorem Cells3.new (w : World) (x y z : Value) (t : TypeId) : Cells3 (w.alloc (.cells #[x, y, z] t)) w.heap.size x y z := by
  refine ⟨?_, ?_, ?_⟩ <;> (rw [cell_of_row _ w.heap.size _ _ t (0, 0) (heap_alloc_new w _)]; rfl)
/-- What the cut of two arguments leaves: their boxes, cut. -/
structure Two (w wx : World) (k n : Int) (s : ByteArray) (k' n' : Int) (s' : ByteArray) : Prop where
  below : Below w.heap.size w wx
  size : w.heap.size + 1 < wx.heap.size
  fst : Cells3 wx w.heap.size (.int .i64 k) (.int .i64 n) (.string s)
  snd : Cells3 wx (w.heap.size + 1) (.int .i64 k') (.int .i64 n') (.string s')
theorem Two.on {w w1 w2 : World} {k n : Int} {s : ByteArray} {k' n' : Int} {s' : ByteArray} (h : Two w w1 k n s k' n' s') (hb : Below w1.heap.size w1 w2) : Two w w2 k n s k' n' s' := by
  have hz := h.size
  have hz2 := hb.size
  exact ⟨h.below.trans (hb.mono (by omega)), by omega, h.fst.keep hb (by omega), h.snd.keep hb (by omega)⟩
theorem Two.drew {w w1 : World} {k n : Int} {s : ByteArray} {k' n' : Int} {s' : ByteArray} (h : Two w w1 k n s k' n' s') : Two w w1.drew k n s k' n' s' := ⟨h.below.drew, h.size, h.fst, h.snd⟩
theorem Two.mk_ {w W : World} {k n : Int} {s : ByteArray} {k' n' : Int} {s' : ByteArray} {t : TypeId}
    (hb : Below (w.heap.size + 2) ((w.alloc (.cells #[.int .i64 k, .int .i64 n, .string s] t)).alloc (.cells #[.int .i64 k', .int .i64 n', .string s'] t)) W) : Two w W k n s k' n' s' := by
  have h1 := Cells3.new w (.int .i64 k) (.int .i64 n) (.string s) t
  have h2 := Cells3.new (w.alloc (.cells #[.int .i64 k, .int .i64 n, .string s] t)) (.int .i64 k') (.int .i64 n') (.string s') t
  have hz := hb.size
  simp at hz h2
  refine ⟨(((Below.refl _ _).alloc (Nat.le_refl _) _).alloc (by simp) _).trans (hb.mono (by omega)), by omega, ?_, ?_⟩
  · exact (h1.keep (B := w.heap.size + 1) ((Below.refl _ _).alloc (by simp) _) (by omega)).keep hb (by omega)
  · exact h2.keep hb (by omega)
/-- Whether a comparison holds, by how two values stand. -/
def holdB (op c : Int) : Bool := if op = 1 then c == 0 else if op = 2 then c != 0 else if op = 3 then decide (c < 0) else if op = 4 then decide (c ≤ 0) else if op = 5 then decide (0 < c) else if op = 6 then decide (0 ≤ c) else false
def holdE (op : Int) : Int := if op = 1 ∨ op = 2 ∨ op = 3 ∨ op = 4 ∨ op = 5 ∨ op = 6 then 0 else 1
theorem pair_eq {b b' : Bool} {x x' : Int} (h : b = b') (g : x = x') : Ending.returned (.tuple #[.bool b, .int .i64 x]) = .returned (.tuple #[.bool b', .int .i64 x']) := by rw [h, g]

theorem by_eq (c : Int) (h : (c == 0) = true) : c = 0 := by simpa using h
theorem by_ne (c : Int) (h : (c == 0) = false) : ¬ c = 0 := by simpa using h
theorem op_cases (op : Int) : op = 1 ∨ op = 2 ∨ op = 3 ∨ op = 4 ∨ op = 5 ∨ op = 6 ∨ ((op == 1) = false ∧ (op == 2) = false ∧ (op == 3) = false ∧ (op == 4) = false ∧ (op == 5) = false ∧ (op == 6) = false ∧ (∀ c, holdB op c = false) ∧ holdE op = 1) := by
  by_cases h1 : op = 1
  · exact .inl h1
  by_cases h2 : op = 2
  · exact .inr (.inl h2)
  by_cases h3 : op = 3
  · exact .inr (.inr (.inl h3))
  by_cases h4 : op = 4
  · exact .inr (.inr (.inr (.inl h4)))
  by_cases h5 : op = 5
  · exact .inr (.inr (.inr (.inr (.inl h5))))
  by_cases h6 : op = 6
  · exact .inr (.inr (.inr (.inr (.inr (.inl h6)))))
  exact .inr (.inr (.inr (.inr (.inr (.inr ⟨by simpa using h1, by simpa using h2, by simpa using h3, by simpa using h4, by simpa using h5, by simpa using h6, fun c => by simp [holdB, *], by simp [holdE, *]⟩)))))

set_option maxHeartbeats 400000 in
theorem holds_any (op k n : Int) (s : ByteArray) (k' n' : Int) (s' : ByteArray) (w : World) :
    Calls Tryd.prog 19 #[.int .i64 op, .agg #[.int .i64 k, .int .i64 n, .string s], .agg #[.int .i64 k', .int .i64 n', .string s']] w fun e w' =>
      e = .returned (.tuple #[.bool (holdB op (cmpV k n s k' n' s')), .int .i64 (holdE op)]) ∧ Below w.heap.size w w' := by
  obtain ⟨c, hcv⟩ : ∃ c, c = cmpV k n s k' n' s' := ⟨_, rfl⟩
  have hcmp := fun w => compare_any k n s k' n' s' w
  rw [← hcv] at hcmp ⊢
  have HC := Lib.hid hcmp
  clear hcmp hcv
  rcases op_cases op with rfl | rfl | rfl | rfl | rfl | rfl | ⟨n1, n2, n3, n4, n5, n6, hB, hE⟩
  case inr.inr.inr.inr.inr.inr =>
    have HB := Lib.hid (hB c)
    have HE := Lib.hid hE
    clear hB hE
    go_enter Tryd.func19, Tryd.ntmps19
    go_wp2_with (go_at_call 21; refine (HC.out _).mono ?_; rintro e w1 ⟨rfl, hb⟩)
    go_ret2
    exact ⟨pair_eq HB.out.symm HE.out.symm, (below_box2 w _ _).trans (hb.mono (by simp; omega))⟩
  all_goals
    go_enter Tryd.func19, Tryd.ntmps19
    go_wp2_with (go_at_call 21; refine (HC.out _).mono ?_; rintro e w1 ⟨rfl, hb⟩)
    all_goals
      go_ret2
      refine ⟨pair_eq ?_ ?_, (below_box2 w _ _).trans (hb.mono (by simp; omega))⟩
      · first
        | rfl
        | (have h := by_eq c (by assumption); subst h; rfl)
        | (have h := by_ne c (by assumption); simp [holdB]; omega)
        | (simp [holdB]; done)
      · first
        | rfl
        | (simp [holdE]; done)
set_option maxHeartbeats 400000 in
theorem rholds_any (op k n : Int) (s : ByteArray) (k' n' : Int) (s' : ByteArray) (w : World) :
    Calls Tryd.prog 20 #[.int .i64 op, .agg #[.int .i64 k, .int .i64 n, .string s], .agg #[.int .i64 k', .int .i64 n', .string s']] w fun e w' =>
      e = .returned (.tuple #[.bool (holdB op (cmpV k n s k' n' s')), .int .i64 (holdE op)]) ∧ Below w.heap.size w w' := by
  obtain ⟨c, hcv⟩ : ∃ c, c = cmpV k n s k' n' s' := ⟨_, rfl⟩
  have hcmp := fun w => ref_compare_any k n s k' n' s' w
  rw [← hcv] at hcmp ⊢
  have HC := Lib.hid hcmp
  clear hcmp hcv
  rcases op_cases op with rfl | rfl | rfl | rfl | rfl | rfl | ⟨n1, n2, n3, n4, n5, n6, hB, hE⟩
  case inr.inr.inr.inr.inr.inr =>
    have HB := Lib.hid (hB c)
    have HE := Lib.hid hE
    clear hB hE
    go_enter Tryd.func20, Tryd.ntmps20
    go_wp2_with (go_at_call 22; refine (HC.out _).mono ?_; rintro e w1 ⟨rfl, hb⟩)
    go_ret2
    exact ⟨pair_eq HB.out.symm HE.out.symm, (below_box2 w _ _).trans (hb.mono (by simp; omega))⟩
  all_goals
    go_enter Tryd.func20, Tryd.ntmps20
    go_wp2_with (go_at_call 22; refine (HC.out _).mono ?_; rintro e w1 ⟨rfl, hb⟩)
    all_goals
      go_ret2
      refine ⟨pair_eq ?_ ?_, (below_box2 w _ _).trans (hb.mono (by simp; omega))⟩
      · first
        | rfl
        | (have h := by_eq c (by assumption); subst h; rfl)
        | (have h := by_ne c (by assumption); simp [holdB]; omega)
        | (simp [holdB]; done)
      · first
        | rfl
        | (simp [holdE]; done)

end Go.Proofs.YtehobjcdlaifdaaDoor

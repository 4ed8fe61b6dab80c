/-
  Contracts of lex.meaning and lex.token.
-/
import Derived.Test.YtnbaemfkpfmheaaGreatDoorLxV
namespace Go.Proofs.YtnbaemfkpfmheaaGreatDoor
open Go Go.RowKit

theorem row3_set {w1 : World} {b : Nat} {t : TypeId} {x y z x' y' z' : Value} (h : w1.heap[b]? = some (.cells #[x, y, z] t (0, 0))) :
    (((w1.setCell ⟨b, 0, none⟩ x').setCell ⟨b, 1, none⟩ y').setCell ⟨b, 2, none⟩ z').heap[b]? = some (.cells #[x', y', z'] t (0, 0)) ∧
    ∀ o, ((((w1.setCell ⟨b, 0, none⟩ x').setCell ⟨b, 1, none⟩ y').setCell ⟨b, 2, none⟩ z').alloc o).heap[b]? = some (.cells #[x', y', z'] t (0, 0)) := by
  have h1 := Go.heap_setCell_same w1 b 0 _ _ x' h
  have h2 := Go.heap_setCell_same _ b 1 _ _ y' h1
  have h3 := Go.heap_setCell_same _ b 2 _ _ z' h2
  exact ⟨h3, fun o => (Below.heap_alloc _ _ _ (Array.getElem?_eq_some_iff.1 h3).1).trans h3⟩
/-- What meaning returns. -/
def MnAns (k : Int) (l : List UInt8) (v : VL) (b : Bool) : Prop := (meanL valL k l = some v ∧ b = true) ∨ (meanL valL k l = none ∧ b = false)
def MnEnd (k : Int) (l : List UInt8) (w : World) (e : Ending) (w' : World) : Prop := (∃ v b, MnAns k l v b ∧ e = .returned (.tuple #[valV v, .bool b])) ∧ Below w.heap.size w w'
theorem mean_12 {k : Int} {l : List UInt8} (h : k = 1 ∨ k = 2) : meanL valL k l = if l.length ≤ 64 then some zeroL else none := by unfold meanL; rw [if_pos h]
theorem mean_3 {l : List UInt8} : meanL valL 3 l = if l.length = 1 then some zeroL else none := by unfold meanL; rw [if_neg (by decide), if_pos rfl]
theorem mean_45 {k : Int} {l : List UInt8} (h : k = 4 ∨ k = 5) : meanL valL k l = valL l := by
  unfold meanL
  rw [if_neg (by omega), if_neg (by omega), if_pos h]
theorem mean_6 {l : List UInt8} : meanL valL 6 l = some zeroL := by unfold meanL; rw [if_neg (by decide), if_neg (by decide), if_neg (by decide), if_pos rfl]
theorem mean_0 {l : List UInt8} : meanL valL 0 l = none := by unfold meanL; rw [if_neg (by decide), if_neg (by decide), if_neg (by decide), if_neg (by decide)]
set_option maxHeartbeats 1000000 in
set_option maxRecDepth 100000 in
theorem mean_1y (s : ByteArray) (w : World) (hm : s.size ≤ 1000000) (h : s.size ≤ 64) :
    Calls Tryz.prog 108 #[.int .i64 1, .string s] w (MnEnd 1 s.data.toList w) := by
  have HA : Hid (MnAns 1 s.data.toList zeroL true) := Lib.hid (.inl ⟨by rw [mean_12 (by decide), if_pos (by rw [← Lib.size_eq]; exact h)], rfl⟩)
  have h' : (s.size : Int) ≤ 64 := by omega
  go_enter Tryz.func108, Tryz.ntmps108
  go_wp2_with fail
  refine bodyPost_ret (v := .tuple #[.agg #[.int .i64 0, .int .i64 0, .string ⟨#[]⟩], .bool true]) (by simp [results, Tryz.results108, go_sem]) rfl ⟨⟨zeroL, true, HA.out, rfl⟩, ?_⟩
  repeat (first | exact below_box _ _ | refine Below.setCell ?_ (by simp) _ | refine Below.drew ?_)
set_option maxHeartbeats 1000000 in
set_option maxRecDepth 100000 in
theorem mean_1n (s : ByteArray) (w : World) (hm : s.size ≤ 1000000) (h : ¬ s.size ≤ 64) :
    Calls Tryz.prog 108 #[.int .i64 1, .string s] w (MnEnd 1 s.data.toList w) := by
  have HA : Hid (MnAns 1 s.data.toList zeroL false) := Lib.hid (.inr ⟨by rw [mean_12 (by decide), if_neg (by rw [← Lib.size_eq]; exact h)], rfl⟩)
  have h' : ¬ (s.size : Int) ≤ 64 := by omega
  have h2 : (64 : Int) < (s.size : Int) := by omega
  go_enter Tryz.func108, Tryz.ntmps108
  go_wp2_with fail
  refine bodyPost_ret (v := .tuple #[.agg #[.int .i64 0, .int .i64 0, .string ⟨#[]⟩], .bool false]) (by simp [results, Tryz.results108, go_sem]) rfl ⟨⟨zeroL, false, HA.out, rfl⟩, ?_⟩
  repeat (first | exact below_box _ _ | refine Below.setCell ?_ (by simp) _ | refine Below.drew ?_)
set_option maxHeartbeats 1000000 in
set_option maxRecDepth 100000 in
theorem mean_2y (s : ByteArray) (w : World) (hm : s.size ≤ 1000000) (h : s.size ≤ 64) :
    Calls Tryz.prog 108 #[.int .i64 2, .string s] w (MnEnd 2 s.data.toList w) := by
  have HA : Hid (MnAns 2 s.data.toList zeroL true) := Lib.hid (.inl ⟨by rw [mean_12 (by decide), if_pos (by rw [← Lib.size_eq]; exact h)], rfl⟩)
  have h' : (s.size : Int) ≤ 64 := by omega
  go_enter Tryz.func108, Tryz.ntmps108
  go_wp2_with fail
  refine bodyPost_ret (v := .tuple #[.agg #[.int .i64 0, .int .i64 0, .string ⟨#[]⟩], .bool true]) (by simp [results, Tryz.results108, go_sem]) rfl ⟨⟨zeroL, true, HA.out, rfl⟩, ?_⟩
  repeat (first | exact below_box _ _ | refine Below.setCell ?_ (by simp) _ | refine Below.drew ?_)
set_option maxHeartbeats 1000000 in
set_option maxRecDepth 100000 in
theorem mean_2n (s : ByteArray) (w : World) (hm : s.size ≤ 1000000) (h : ¬ s.size ≤ 64) :
    Calls Tryz.prog 108 #[.int .i64 2, .string s] w (MnEnd 2 s.data.toList w) := by
  have HA : Hid (MnAns 2 s.data.toList zeroL false) := Lib.hid (.inr ⟨by rw [mean_12 (by decide), if_neg (by rw [← Lib.size_eq]; exact h)], rfl⟩)
  have h' : ¬ (s.size : Int) ≤ 64 := by omega
  have h2 : (64 : Int) < (s.size : Int) := by omega
  go_enter Tryz.func108, Tryz.ntmps108
  go_wp2_with fail
  refine bodyPost_ret (v := .tuple #[.agg #[.int .i64 0, .int .i64 0, .string ⟨#[]⟩], .bool false]) (by simp [results, Tryz.results108, go_sem]) rfl ⟨⟨zeroL, false, HA.out, rfl⟩, ?_⟩
  repeat (first | exact below_box _ _ | refine Below.setCell ?_ (by simp) _ | refine Below.drew ?_)
set_option maxHeartbeats 1000000 in
set_option maxRecDepth 100000 in
theorem mean_3y (s : ByteArray) (w : World) (h : s.size = 1) :
    Calls Tryz.prog 108 #[.int .i64 3, .string s] w (MnEnd 3 s.data.toList w) := by
  have HA : Hid (MnAns 3 s.data.toList zeroL true) := Lib.hid (.inl ⟨by rw [mean_3, if_pos (by rw [← Lib.size_eq]; exact h)], rfl⟩)
  have h' : (s.size : Int) = 1 := by omega
  clear h
  go_enter Tryz.func108, Tryz.ntmps108
  go_wp2_with fail
  refine bodyPost_ret (v := .tuple #[.agg #[.int .i64 0, .int .i64 0, .string ⟨#[]⟩], .bool true]) (by simp [results, Tryz.results108, go_sem]) rfl ⟨⟨zeroL, true, HA.out, rfl⟩, ?_⟩
  repeat (first | exact below_box _ _ | refine Below.setCell ?_ (by simp) _ | refine Below.drew ?_)
set_option maxHeartbeats 1000000 in
set_option maxRecDepth 100000 in
theorem mean_3n (s : ByteArray) (w : World) (h : ¬ s.size = 1) :
    Calls Tryz.prog 108 #[.int .i64 3, .string s] w (MnEnd 3 s.data.toList w) := by
  have HA : Hid (MnAns 3 s.data.toList zeroL false) := Lib.hid (.inr ⟨by rw [mean_3, if_neg (by rw [← Lib.size_eq]; exact h)], rfl⟩)
  have h' : ¬ (s.size : Int) = 1 := by omega
  have h2 : ((s.size : Int) == 1) = false := by simpa using h'
  go_enter Tryz.func108, Tryz.ntmps108
  go_wp2_with fail
  refine bodyPost_ret (v := .tuple #[.agg #[.int .i64 0, .int .i64 0, .string ⟨#[]⟩], .bool false]) (by simp [results, Tryz.results108, go_sem]) rfl ⟨⟨zeroL, false, HA.out, rfl⟩, ?_⟩
  repeat (first | exact below_box _ _ | refine Below.setCell ?_ (by simp) _ | refine Below.drew ?_)
set_option maxHeartbeats 1000000 in
set_option maxRecDepth 100000 in
theorem mean_6y (s : ByteArray) (w : World) :
    Calls Tryz.prog 108 #[.int .i64 6, .string s] w (MnEnd 6 s.data.toList w) := by
  have HA : Hid (MnAns 6 s.data.toList zeroL true) := Lib.hid (.inl ⟨mean_6, rfl⟩)
  go_enter Tryz.func108, Tryz.ntmps108
  go_wp2_with fail
  refine bodyPost_ret (v := .tuple #[.agg #[.int .i64 0, .int .i64 0, .string ⟨#[]⟩], .bool true]) (by simp [results, Tryz.results108, go_sem]) rfl ⟨⟨zeroL, true, HA.out, rfl⟩, ?_⟩
  repeat (first | exact below_box _ _ | refine Below.setCell ?_ (by simp) _ | refine Below.drew ?_)
set_option maxHeartbeats 1000000 in
set_option maxRecDepth 100000 in
theorem mean_0n (s : ByteArray) (w : World) :
    Calls Tryz.prog 108 #[.int .i64 0, .string s] w (MnEnd 0 s.data.toList w) := by
  have HA : Hid (MnAns 0 s.data.toList zeroL false) := Lib.hid (.inr ⟨mean_0, rfl⟩)
  go_enter Tryz.func108, Tryz.ntmps108
  go_wp2_with fail
  refine bodyPost_ret (v := .tuple #[.agg #[.int .i64 0, .int .i64 0, .string ⟨#[]⟩], .bool false]) (by simp [results, Tryz.results108, go_sem]) rfl ⟨⟨zeroL, false, HA.out, rfl⟩, ?_⟩
  repeat (first | exact below_box _ _ | refine Below.setCell ?_ (by simp) _ | refine Below.drew ?_)
set_option maxHeartbeats 1000000 in
set_option maxRecDepth 100000 in
theorem mean_4v (s : ByteArray) (w : World) (hm : s.size ≤ 1000000) (G : Glob w) :
    Calls Tryz.prog 108 #[.int .i64 4, .string s] w (MnEnd 4 s.data.toList w) := by
  have HR := Lib.hid (vread_any s (w.alloc (.cells #[.int .i64 0, .int .i64 0, .string ⟨#[]⟩] 82)) hm (G.below (below_box w _)))
  clear G
  go_enter Tryz.func108, Tryz.ntmps108
  go_wp2_with (go_at_call 115; refine HR.out.mono ?_; rintro e w1 ⟨⟨⟨k1, n1, S1⟩, g, ha, rfl⟩, hb⟩; have HA := Lib.hid ha; have HB := Lib.hid hb; clear ha; unfold valV; obtain ⟨hc, hf⟩ := bcell hb; have hz : w.heap.size < w1.heap.size := by have := hb.size; simp at this; omega)
  have hrow := (row3_set (x' := .int .i64 k1) (y' := .int .i64 n1) (z' := .string S1) ((HB.out.block _ (by simp)).trans (heap_alloc_new w _))).2 (.cells #[.int .i64 k1, .int .i64 n1, .string S1] 82)
  have q0 := cell_of_row _ _ 0 _ _ (0, 0) hrow
  have q1 := cell_of_row _ _ 1 _ _ (0, 0) hrow
  have q2 := cell_of_row _ _ 2 _ _ (0, 0) hrow
  refine bodyPost_ret (v := .tuple #[.agg #[.int .i64 k1, .int .i64 n1, .string S1], .bool (g == 0)]) (by simp [results, Tryz.results108, go_sem, q0, q1, q2]) rfl ⟨⟨(k1, n1, S1), _, ?_, rfl⟩, ?_⟩
  · rcases HA.out with ⟨h, rfl⟩ | ⟨h, rfl, -⟩
    · exact .inl ⟨(mean_45 (by decide)).trans h, rfl⟩
    · exact .inr ⟨(mean_45 (by decide)).trans h, rfl⟩
  · have hB := below_then HB.out
    repeat (first | exact hB | refine Below.setCell ?_ (by simp) _ | refine Below.drew ?_ | refine Below.alloc ?_ (by simp; omega) _)
set_option maxHeartbeats 1000000 in
set_option maxRecDepth 100000 in
theorem mean_5v (s : ByteArray) (w : World) (hm : s.size ≤ 1000000) (G : Glob w) :
    Calls Tryz.prog 108 #[.int .i64 5, .string s] w (MnEnd 5 s.data.toList w) := by
  have HR := Lib.hid (vread_any s (w.alloc (.cells #[.int .i64 0, .int .i64 0, .string ⟨#[]⟩] 82)) hm (G.below (below_box w _)))
  clear G
  go_enter Tryz.func108, Tryz.ntmps108
  go_wp2_with (go_at_call 115; refine HR.out.mono ?_; rintro e w1 ⟨⟨⟨k1, n1, S1⟩, g, ha, rfl⟩, hb⟩; have HA := Lib.hid ha; have HB := Lib.hid hb; clear ha; unfold valV; obtain ⟨hc, hf⟩ := bcell hb; have hz : w.heap.size < w1.heap.size := by have := hb.size; simp at this; omega)
  have hrow := (row3_set (x' := .int .i64 k1) (y' := .int .i64 n1) (z' := .string S1) ((HB.out.block _ (by simp)).trans (heap_alloc_new w _))).2 (.cells #[.int .i64 k1, .int .i64 n1, .string S1] 82)
  have q0 := cell_of_row _ _ 0 _ _ (0, 0) hrow
  have q1 := cell_of_row _ _ 1 _ _ (0, 0) hrow
  have q2 := cell_of_row _ _ 2 _ _ (0, 0) hrow
  refine bodyPost_ret (v := .tuple #[.agg #[.int .i64 k1, .int .i64 n1, .string S1], .bool (g == 0)]) (by simp [results, Tryz.results108, go_sem, q0, q1, q2]) rfl ⟨⟨(k1, n1, S1), _, ?_, rfl⟩, ?_⟩
  · rcases HA.out with ⟨h, rfl⟩ | ⟨h, rfl, -⟩
    · exact .inl ⟨(mean_45 (by decide)).trans h, rfl⟩
    · exact .inr ⟨(mean_45 (by decide)).trans h, rfl⟩
  · have hB := below_then HB.out
    repeat (first | exact hB | refine Below.setCell ?_ (by simp) _ | refine Below.drew ?_ | refine Below.alloc ?_ (by simp; omega) _)
/-- lex.meaning at any token's bytes. -/
theorem mean_any (k : Int) (s : ByteArray) (w : World) (hk : k = 0 ∨ k = 1 ∨ k = 2 ∨ k = 3 ∨ k = 4 ∨ k = 5 ∨ k = 6) (hm : s.size ≤ 1000000) (G : Glob w) :
    Calls Tryz.prog 108 #[.int .i64 k, .string s] w (MnEnd k s.data.toList w) := by
  rcases hk with rfl | rfl | rfl | rfl | rfl | rfl | rfl
  · exact mean_0n s w
  · by_cases h : s.size ≤ 64
    · exact mean_1y s w hm h
    · exact mean_1n s w hm h
  · by_cases h : s.size ≤ 64
    · exact mean_2y s w hm h
    · exact mean_2n s w hm h
  · by_cases h : s.size = 1
    · exact mean_3y s w h
    · exact mean_3n s w h
  · exact mean_4v s w hm G
  · exact mean_5v s w hm G
  · exact mean_6y s w
theorem shape_kind (c : UInt8) (r : List UInt8) : (shapeL c r).1 = 0 ∨ (shapeL c r).1 = 1 ∨ (shapeL c r).1 = 2 ∨ (shapeL c r).1 = 3 ∨ (shapeL c r).1 = 4 ∨ (shapeL c r).1 = 5 ∨ (shapeL c r).1 = 6 := by
  unfold shapeL
  repeat' split
  all_goals simp

/-- A token in memory's words. -/
def wordV (x : Wd) : Value := .agg #[.int .i64 x.kind, .string ⟨x.text.toArray⟩, .int .i64 x.val.1, .int .i64 x.val.2.1, .string x.val.2.2, .int .i64 x.pos]
/-- What token answers at a place: the valid token there, or none. -/
def TkAns (l : List UInt8) (p : Nat) (x : Wd) (b : Bool) : Prop :=
  x.pos = p ∧ ((∃ k n v, tokL valL l = some (k, n, v) ∧ x = ⟨k, l.take n, v, p⟩ ∧ b = true) ∨ (tokL valL l = none ∧ b = false))
theorem tk_of {c : UInt8} {r : List UInt8} {p : Nat} {v : VL} {b : Bool} (h : MnAns (shapeL c r).1 ((c :: r).take (shapeL c r).2) v b) : TkAns (c :: r) p ⟨(shapeL c r).1, (c :: r).take (shapeL c r).2, v, p⟩ b := by
  refine ⟨rfl, ?_⟩
  rcases h with ⟨h, rfl⟩ | ⟨h, rfl⟩
  · exact .inl ⟨_, _, v, by show (meanL valL (shapeL c r).1 ((c :: r).take (shapeL c r).2)).map _ = _; rw [h]; rfl, rfl, rfl⟩
  · exact .inr ⟨by show (meanL valL (shapeL c r).1 ((c :: r).take (shapeL c r).2)).map _ = _; rw [h]; rfl, rfl⟩
theorem cut_list (s : ByteArray) (p n : Nat) : s.extract p (p + n) = ⟨((s.data.toList.drop p).take n).toArray⟩ := by
  rw [← of_data (s.extract p (p + n)), Lib.extract_data]
  congr 2
  first
    | rw [List.drop_take, show p + n - p = n by omega]
    | rw [show p + n - p = n by omega]
theorem tail_list (s : ByteArray) (p : Nat) : (s.extract p s.size).data.toList = s.data.toList.drop p := by
  rw [Lib.extract_data, Lib.size_eq, ← List.drop_take, List.take_length]
theorem shape_l {s : ByteArray} {c : UInt8} {r : List UInt8} (h : s.data.toList = c :: r) (w : World) (hm : s.size ≤ 1000000) (G : Glob w) :
    Calls Tryz.prog 106 #[.string s] w fun e w' => e = .returned (.tuple #[.int .i64 (shapeL c r).1, .int .i64 ((shapeL c r).2 : Int)]) ∧ w = w' := by
  have hp : 0 < s.size := by rw [Lib.size_eq, h]; simp
  refine (shape_any s w hm hp G).mono ?_
  rintro e w' ⟨⟨K, N, hKN, rfl⟩, rfl⟩
  have e0 := lx_at s 0 hp
  rw [List.drop_zero, h] at e0
  obtain ⟨e1, e2⟩ := List.cons.inj e0
  have e3 : s.data.toList.drop 1 = r := by rw [h]; rfl
  rw [e3, ← e1] at hKN
  rw [hKN]
  exact ⟨rfl, rfl⟩
theorem row6_set {w1 : World} {b : Nat} {t : TypeId} {u v x y z q u' v' x' y' z' q' : Value} (h : w1.heap[b]? = some (.cells #[u, v, x, y, z, q] t (0, 0))) :
    ((((((w1.setCell ⟨b, 0, none⟩ u').setCell ⟨b, 1, none⟩ v').setCell ⟨b, 2, none⟩ x').setCell ⟨b, 3, none⟩ y').setCell ⟨b, 4, none⟩ z').setCell ⟨b, 5, none⟩ q').heap[b]? = some (.cells #[u', v', x', y', z', q'] t (0, 0)) := by
  have h1 := Go.heap_setCell_same w1 b 0 _ _ u' h
  have h2 := Go.heap_setCell_same _ b 1 _ _ v' h1
  have h3 := Go.heap_setCell_same _ b 2 _ _ x' h2
  have h4 := Go.heap_setCell_same _ b 3 _ _ y' h3
  have h5 := Go.heap_setCell_same _ b 4 _ _ z' h4
  exact Go.heap_setCell_same _ b 5 _ _ q' h5
set_option maxHeartbeats 2000000 in
set_option maxRecDepth 100000 in
theorem token_any (s : ByteArray) (p : Nat) (w : World) (hm : s.size ≤ 1000000) (hp : p < s.size) (G : Glob w) :
    Calls Tryz.prog 94 #[.string s, .int .i64 p] w fun e w' => (∃ x b, TkAns (s.data.toList.drop p) p x b ∧ e = .returned (.tuple #[wordV x, .bool b])) ∧ Below w.heap.size w w' := by
  have hlt' : (p : Int) < (s.size : Int) := by omega
  have hle' : (p : Int) ≤ (s.size : Int) := by omega
  have hz0 : (s.extract p s.size).size = s.size - p := by rw [ByteArray.size_extract]; omega
  obtain ⟨c, r, hcr⟩ : ∃ c r, s.data.toList.drop p = c :: r := ⟨_, _, lx_at s p hp⟩
  have HG := Lib.hid G
  have hS := shape_l (s := s.extract p s.size) ((tail_list s p).trans hcr) (w.alloc (.cells #[.int .i64 0, .string ⟨#[]⟩, .int .i64 0, .int .i64 0, .string ⟨#[]⟩, .int .i64 0] 107)) (by omega) (G.below (below_box w _))
  clear G
  have hl : r.length + 1 = s.size - p := by
    have := congrArg List.length hcr
    rw [List.length_drop, ← Lib.size_eq, List.length_cons] at this
    omega
  have hN := shape_le c r
  have hK := shape_kind c r
  have hTK : ∀ v b, _ → _ := fun v b => tk_of (c := c) (r := r) (p := p) (v := v) (b := b)
  have hT := cut_list s p (shapeL c r).2
  rw [hcr] at hT ⊢
  obtain ⟨K, hKK⟩ : ∃ K, K = (shapeL c r).1 := ⟨_, rfl⟩
  obtain ⟨N, hNN⟩ : ∃ N, N = (shapeL c r).2 := ⟨_, rfl⟩
  rw [← hKK, ← hNN] at hS hTK
  rw [← hKK] at hK
  rw [← hNN] at hN hT
  have HS := Lib.hid hS
  have HTK := Lib.hid hTK
  have HKd := Lib.hid hK
  obtain ⟨T, hTT⟩ : ∃ T, T = s.extract p (p + N) := ⟨_, rfl⟩
  have HTd := Lib.hid (show T.data.toList = (c :: r).take N by rw [hTT, hT])
  have hTs : T.size ≤ 1000000 := by rw [hTT, ByteArray.size_extract]; omega
  have HTs := Lib.hid hTs
  have hex : s.extract p (p + N) = T := hTT.symm
  have hb2 : ((p : Int) + (N : Int)) ≤ (s.size : Int) := by omega
  have hb3 : (0 : Int) ≤ (p : Int) + (N : Int) := by omega
  clear hcr hS hTK hK hKK hNN hT hTT hTs
  go_enter Tryz.func94, Tryz.ntmps94
  go_wp2_with (first
    | (go_at_call 106; refine HS.out.mono ?_; rintro e w1 ⟨rfl, rfl⟩)
    | (go_at_call 107; refine (sclone_any T _ HTs.out).mono ?_; rintro e w2 ⟨rfl, hb⟩; have HB := Lib.hid hb; obtain ⟨hc, hf⟩ := bcell hb; have hz : w.heap.size < w2.heap.size := by have := hb.size; simp at this; omega)
    | (go_at_call 108; refine (mean_any K T _ HKd.out HTs.out ((HG.out.below (below_box w _)).below HB.out)).mono ?_; rintro e w3 ⟨⟨⟨k1, n1, S1⟩, b, ha, rfl⟩, hb4⟩; have HA := Lib.hid ha; have HB4 := Lib.hid hb4; clear ha; unfold valV; obtain ⟨hc4, hf4⟩ := bcell hb4; have hz4 : w.heap.size < w3.heap.size := by have := hb4.size; omega))
  have h0 : w3.heap[w.heap.size]? = some (.cells #[.int .i64 0, .string ⟨#[]⟩, .int .i64 0, .int .i64 0, .string ⟨#[]⟩, .int .i64 0] 107 (0, 0)) := (HB4.out.block _ hz).trans ((HB.out.block _ (by simp)).trans (heap_alloc_new w _))
  have h1 := row6_set (u' := .int .i64 K) (v' := .string T) (x' := .int .i64 k1) (y' := .int .i64 n1) (z' := .string S1) (q' := .int .i64 p) h0
  have h2 := (Below.heap_alloc (w := _) (.cells #[.int .i64 k1, .int .i64 n1, .string S1] 82) _ (Array.getElem?_eq_some_iff.1 h1).1).trans h1
  have q0 := cell_of_row _ _ 0 _ _ (0, 0) h2
  have q1 := cell_of_row _ _ 1 _ _ (0, 0) h2
  have q2 := cell_of_row _ _ 2 _ _ (0, 0) h2
  have q3 := cell_of_row _ _ 3 _ _ (0, 0) h2
  have q4 := cell_of_row _ _ 4 _ _ (0, 0) h2
  have q5 := cell_of_row _ _ 5 _ _ (0, 0) h2
  refine bodyPost_ret (v := .tuple #[.agg #[.int .i64 K, .string T, .int .i64 k1, .int .i64 n1, .string S1, .int .i64 p], .bool b]) (by simp [results, Tryz.results94, go_sem, q0, q1, q2, q3, q4, q5]) rfl ⟨⟨⟨K, (c :: r).take N, (k1, n1, S1), p⟩, b, HTK.out _ _ (by rw [← HTd.out]; exact HA.out), ?_⟩, ?_⟩
  · unfold wordV
    simp only
    rw [← HTd.out, of_data]
  · have hB : Below w.heap.size w w3 := (below_then HB.out).trans (HB4.out.mono (by omega))
    refine Below.alloc ?_ (by simp; omega) _
    iterate 6 refine Below.setCell ?_ (by simp) _
    exact hB
end Go.Proofs.YtnbaemfkpfmheaaGreatDoor

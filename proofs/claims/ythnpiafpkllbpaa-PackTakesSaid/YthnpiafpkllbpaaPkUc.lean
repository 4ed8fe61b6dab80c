/-
  Contract of the document's own reading of a counted tuple.
-/
import Derived.Test.YthnpiafpkllbpaaPkUt
namespace Go.Proofs.Ythnpiafpkllbpaa
open Go Go.RowKit

/-- What the document's reading of a counted tuple answers. -/
def RCntEnd (l : List UInt8) (w : World) (e : Ending) (w' : World) : Prop :=
  Below w.heap.size w w' ∧ ((∃ (T : List V3) (n : Int) (r : List UInt8) (p : Option Addr) (cap : Nat), cntQ l = some ((T, n), r) ∧ e = .returned (.tuple #[.agg #[.slice p T.length cap, .int .i64 n], .int .i64 ((l.length : Int) - (r.length : Int)), .int .i64 0]) ∧ TupIn w'.heap.size w' (.slice p T.length cap) T) ∨ (cntQ l = none ∧ e = .returned (.tuple #[.agg #[.slice none 0 0, .int .i64 0], .int .i64 0, .int .i64 30])))
theorem cnt_some {l r : List UInt8} {T : List V3} {K : Nat} {n : Int} (h : tupQ l = some (T, l.drop K)) (hi : intQ (l.drop K) = some (n, r)) : cntQ l = some ((T, n), r) := by
  unfold cntQ
  rw [h]
  simp only
  rw [hi]
  rfl
theorem cnt_none1 {l : List UInt8} (h : tupQ l = none) : cntQ l = none := by unfold cntQ; rw [h]
theorem cnt_none2 {l : List UInt8} {T : List V3} {K : Nat} (h : tupQ l = some (T, l.drop K)) (hi : intQ (l.drop K) = none) : cntQ l = none := by
  unfold cntQ
  rw [h]
  simp only
  rw [hi]
  rfl
theorem tup_len {l r : List UInt8} {T : List V3} (h : tupQ l = some (T, r)) : T.length ≤ 8 := (tupQ_is h).2.1.1
set_option maxHeartbeats 2000000 in
set_option maxRecDepth 100000 in
theorem rtakeCounted_any (v : Value) (l : List UInt8) (w : World) (h : BytIn w.heap.size w v l) (hs : ∃ p cap, v = .slice p l.length cap ∧ l.length ≤ cap ∧ cap ≤ maxLen) (hl : l.length ≤ 3000) :
    Calls Try.prog 16 #[v] w (RCntEnd l w) := by
  obtain ⟨W0, hW0⟩ : ∃ W0, W0 = w.alloc (.cells #[.slice none 0 0, .int .i64 0] 46) := ⟨_, rfl⟩
  have HW : Hid (Below w.heap.size w W0) := Lib.hid (by rw [hW0]; exact (Below.refl _ _).alloc (Nat.le_refl _) _)
  have HZ : Hid (W0.heap.size = w.heap.size + 1) := Lib.hid (by rw [hW0]; simp)
  have hblk : W0.heap[w.heap.size]? = some (.cells #[.slice none 0 0, .int .i64 0] 46 (0, 0)) := by rw [hW0]; exact heap_alloc_new w _
  have HBK := Lib.hid hblk
  have HB := Lib.hid (h.below HW.out)
  have HT := Lib.hid (rtakeTuple_any v l W0 ((h.below HW.out).mono (by rw [HZ.out]; omega)) hs hl)
  have HL := Lib.hid hl
  obtain ⟨p, cap, rfl, s1, s2⟩ := hs
  unfold maxLen at s2
  have s2' : (cap : Int) ≤ 9223372036854775807 := by omega
  have h3l : (l.length : Int) ≤ 3000 := by omega
  have hlc : (l.length : Int) ≤ (cap : Int) := by omega
  clear h hl hblk
  go_enter Try.func16, Try.ntmps16
  go_wp2_with fail
  rw [← hW0]
  clear hW0
  refine HT.out.mono ?_
  rintro e w1 ⟨hb, ⟨T, K, vt, ho, hK, rfl, hv⟩ | ⟨ho, rfl⟩⟩
  rotate_left
  · have HO := Lib.hid (cnt_none1 ho)
    have hb1 := (hb.block w.heap.size (by rw [HZ.out]; omega)).trans HBK.out
    have HE := Lib.hid (HW.out.trans (hb.mono (by rw [HZ.out]; omega)))
    have c0 : w1.cell? ⟨w.heap.size, 0, none⟩ = some (.slice none 0 0) := cell_of_row w1 _ 0 _ _ (0, 0) hb1
    have c1 : w1.cell? ⟨w.heap.size, 1, none⟩ = some (.int .i64 0) := cell_of_row w1 _ 1 _ _ (0, 0) hb1
    have f0 : w1.frozen? ⟨w.heap.size, 0, none⟩ = false := frozen_of_row w1 _ 0 _ _ hb1
    have f1 : w1.frozen? ⟨w.heap.size, 1, none⟩ = false := frozen_of_row w1 _ 1 _ _ hb1
    have HB1 := Lib.hid hb1
    clear ho hb hb1
    go_wp2_with fail
    obtain ⟨s0, s1⟩ := cell2 w w1 _ _ (.slice none 0 0) (.int .i64 0) _ HB1.out
    exact bodyPost_ret (v := .tuple #[.agg #[.slice none 0 0, .int .i64 0], .int .i64 0, .int .i64 30]) (by simp [results, Try.results16, go_sem, s0, s1]) rfl ⟨HE.out.trans (below_sets2 _ _ _ _), .inr ⟨HO.out, rfl⟩⟩
  have HO := Lib.hid ho
  have hT8 := tup_len ho
  have HV := Lib.hid (hv.in_ (Nat.le_trans hT8 (by decide)))
  obtain ⟨pt, ct, rfl, -, -⟩ := hv.in_ (Nat.le_trans hT8 (by decide))
  have hb1 := (hb.block w.heap.size (by rw [HZ.out]; omega)).trans HBK.out
  have hwb : Below w.heap.size w w1 := HW.out.trans (hb.mono (by rw [HZ.out]; omega))
  have HE := Lib.hid hwb
  have HBR := Lib.hid (HB.out.below (hb.mono (by rw [HZ.out]; omega)))
  have HB1 := Lib.hid hb1
  have HVO : Hid (OwnR W0.heap.size w1 (.slice pt T.length ct) T) := Lib.hid hv
  have HVW : Hid (w.heap.size < W0.heap.size) := Lib.hid (by rw [HZ.out]; omega)
  have HT8 := Lib.hid hT8
  have hK0 : (0 : Int) ≤ (K : Int) := by omega
  have hK' : (K : Int) ≤ (l.length : Int) := by omega
  have hKc : (K : Int) ≤ (cap : Int) := by omega
  have HL3 : Hid ((l.drop K).length ≤ 3000) := Lib.hid (by have := HL.out; rw [List.length_drop]; omega)
  have HDL : Hid ((l.drop K).length = l.length - K) := Lib.hid (List.length_drop ..)
  have c0 : w1.cell? ⟨w.heap.size, 0, none⟩ = some (.slice none 0 0) := cell_of_row w1 _ 0 _ _ (0, 0) hb1
  have c1 : w1.cell? ⟨w.heap.size, 1, none⟩ = some (.int .i64 0) := cell_of_row w1 _ 1 _ _ (0, 0) hb1
  have f0 : w1.frozen? ⟨w.heap.size, 0, none⟩ = false := frozen_of_row w1 _ 0 _ _ hb1
  have f1 : w1.frozen? ⟨w.heap.size, 1, none⟩ = false := frozen_of_row w1 _ 1 _ _ hb1
  rcases p with _ | a
  · exfalso
    rcases HB.out with ⟨e, e2⟩ | ⟨a, c, e, -⟩
    · rw [e2] at ho; cases ho
    · cases e
  clear ho hv hb hb1 hwb
  by_cases hck : cap = K
  · have hKl : K = l.length := by omega
    have HE0 : Hid (l.drop K = []) := Lib.hid (List.drop_of_length_le (by omega))
    have HCALL := Lib.hid (rtakeInt_any (.slice (some a) (l.length - K) 0) (l.drop K) w.heap.size w1 (by rw [HE0.out, show l.length - K = 0 by omega]; exact nothing_in) HL3.out)
    clear hKl
    go_wp2_with fail
    refine HCALL.out.mono ?_
    rintro e w2 ⟨rfl, ⟨x, r, ho, rfl⟩ | ⟨ho, rfl⟩⟩
    · exfalso
      rw [HE0.out] at ho
      cases ho
    · have HN := Lib.hid (cnt_none2 HO.out ho)
      clear ho
      go_wp2_with fail
      obtain ⟨s0, s1⟩ := cell2 w w1 _ _ (.slice none 0 0) (.int .i64 0) _ HB1.out
      exact bodyPost_ret (v := .tuple #[.agg #[.slice none 0 0, .int .i64 0], .int .i64 0, .int .i64 30]) (by simp [results, Try.results16, go_sem, s0, s1]) rfl ⟨HE.out.trans (below_sets2 _ _ _ _), .inr ⟨HN.out, rfl⟩⟩
  · have hck' : (K : Int) < (cap : Int) := by omega
    have HCALL := Lib.hid (rtakeInt_any (.slice (some (a.add K)) (l.length - K) (cap - K)) (l.drop K) w.heap.size w1 (HBR.out.drop K hK) HL3.out)
    go_wp2_with fail
    refine HCALL.out.mono ?_
    rintro e w2 ⟨rfl, ⟨x, r, ho, rfl⟩ | ⟨ho, rfl⟩⟩
    · have HN := Lib.hid (cnt_some HO.out ho)
      have hlen := congrArg List.length (intQ_is ho).1
      rw [List.length_append] at hlen
      obtain ⟨D, hD⟩ : ∃ D, D = (intL x).length := ⟨_, rfl⟩
      rw [← hD] at hlen
      rw [show (((l.drop K).length : Nat) : Int) - (r.length : Int) = (D : Int) by omega]
      have HLN : Hid ((K : Int) + (D : Int) = (l.length : Int) - (r.length : Int)) := Lib.hid (by rw [HDL.out] at hlen; omega)
      have hD0 : (0 : Int) ≤ (D : Int) := by omega
      have hKD : (K : Int) + (D : Int) ≤ 3000 := by rw [HDL.out] at hlen; omega
      clear ho hlen hD
      go_wp2_with fail
      obtain ⟨s0, s1⟩ := cell2 w w1 _ _ (.slice pt T.length ct) (.int .i64 x) _ HB1.out
      refine bodyPost_ret (v := .tuple #[.agg #[.slice pt T.length ct, .int .i64 x], .int .i64 ((K : Int) + (D : Int)), .int .i64 0]) (by simp [results, Try.results16, go_sem, s0, s1]) rfl ⟨HE.out.trans (below_sets2 _ _ _ _), .inl ⟨T, x, r, pt, ct, HN.out, by rw [HLN.out], ?_⟩⟩
      exact ((HVO.out.set (a := ⟨w.heap.size, 0, none⟩) HVW.out _).set (a := ⟨w.heap.size, 1, none⟩) HVW.out _).in_ (Nat.le_trans HT8.out (by decide))
    · have HN := Lib.hid (cnt_none2 HO.out ho)
      clear ho
      go_wp2_with fail
      obtain ⟨s0, s1⟩ := cell2 w w1 _ _ (.slice none 0 0) (.int .i64 0) _ HB1.out
      exact bodyPost_ret (v := .tuple #[.agg #[.slice none 0 0, .int .i64 0], .int .i64 0, .int .i64 30]) (by simp [results, Try.results16, go_sem, s0, s1]) rfl ⟨HE.out.trans (below_sets2 _ _ _ _), .inr ⟨HN.out, rfl⟩⟩
end Go.Proofs.Ythnpiafpkllbpaa

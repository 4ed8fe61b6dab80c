/-
  Contract of slices.Concat at two rows of bytes; of crc.Seal and the document's Seal.
-/
import Derived.Test.YteaeiejkdnbcnaaDoorCrB
namespace Go.Proofs.YteaeiejkdnbcnaaDoor
open Go Go.RowKit

set_option maxHeartbeats 1000000 in
set_option maxRecDepth 100000 in
theorem grow_none (w : World) :
    Calls Tryd.prog 44 #[.slice none 0 0, .int .i64 0] w (EndB [] w) := by
  go_enter Tryd.func44, Tryd.ntmps44
  go_wp2_with fail
  go_ret
  exact ⟨_, rfl, OwnB.nil _ _, Below.refl _ _⟩
theorem grow_all (n : Nat) (w : World) (hn : n ≤ 100000000000000) :
    Calls Tryd.prog 44 #[.slice none 0 0, .int .i64 n] w (EndB [] w) := by
  rcases Nat.eq_zero_or_pos n with rfl | h
  · exact grow_none w
  · exact grow_any n w h hn
/-- Block b holds two slice values, which read as bytes. -/
def TwoB (w : World) (b : Nat) (l m : List UInt8) : Prop :=
  ∃ p c q d, b < w.heap.size ∧ w.cell? ⟨b, 0, none⟩ = some (.slice p l.length c) ∧ w.cell? ⟨b, 1, none⟩ = some (.slice q m.length d) ∧ BytIn w.heap.size w (.slice p l.length c) l ∧ BytIn w.heap.size w (.slice q m.length d) m
set_option maxHeartbeats 1000000 in
set_option maxRecDepth 100000 in
theorem concat_any (b : Nat) (l m : List UInt8) (w : World) (h : TwoB w b l m) (hl : l.length + m.length ≤ 100000000000000) :
    Calls Tryd.prog 38 #[.slice (some ⟨b, 0, none⟩) 2 2] w (EndB (l ++ m) w) := by
  obtain ⟨p, c, q, d, hb, h0, h1, hi, hj⟩ := h
  have HI := Lib.hid hi
  have HJ := Lib.hid hj
  have HB := Lib.hid hb
  have HLn := Lib.hid hl
  have hl1 : (l.length : Int) ≤ 100000000000000 := by omega
  have hl2 : (l.length : Int) + (m.length : Int) ≤ 100000000000000 := by omega
  have hl3 : (0 : Int) ≤ (l.length : Int) := by omega
  have hl4 : (0 : Int) ≤ (l.length : Int) + (m.length : Int) := by omega
  clear hi hj hl hb
  go_enter Tryd.func38, Tryd.ntmps38
  go_wp2_with fail
  refine wp_loop_rounds 3 ?_
  iterate 3 (rw [rounds_succ]; go_wp2_with fail)
  have ESum : Hid ((l.length : Int) + (m.length : Int) = ((l.length + m.length : Nat) : Int)) := Lib.hid (by omega)
  rw [ESum.out]
  refine (grow_all _ _ HLn.out).mono ?_
  rintro e w1 ⟨v1, rfl, ho1, hb1⟩
  have c0 : w1.cell? ⟨b, 0, none⟩ = some (.slice p l.length c) := (hb1.cell (p := ⟨b, 0, none⟩) HB.out).trans h0
  have HO1 := Lib.hid ho1
  have HB1 := Lib.hid hb1
  have HI1 := Lib.hid (HI.out.below hb1)
  clear ho1 hb1 h0
  go_wp2_with fail
  refine wp_loop_rounds 3 ?_
  rw [rounds_succ]
  go_wp2_with (at_builtin; refine wpList_app rfl (.tmp 31) (.tmp 32) rfl w.heap.size w.heap.size w _ _ [] l rfl rfl HO1.out HI1.out (by have := HLn.out; rw [List.length_nil]; omega) HB1.out (Nat.le_refl _) ?_; intro v2 w2 ho2 hb2)
  have c1 : w2.cell? ⟨b, 1, none⟩ = some (.slice q m.length d) := (hb2.cell (p := ⟨b, 1, none⟩) HB.out).trans h1
  have HO2 := Lib.hid ho2
  have HB2 := Lib.hid hb2
  have HJ2 := Lib.hid (HJ.out.below hb2)
  clear ho2 hb2 h1 c0
  rw [rounds_succ]
  go_wp2_with (at_builtin; refine wpList_app rfl (.tmp 31) (.tmp 32) rfl w.heap.size w.heap.size w _ _ l m rfl rfl HO2.out HJ2.out HLn.out HB2.out (Nat.le_refl _) ?_; intro v3 w3 ho3 hb3)
  have HO3 := Lib.hid ho3
  have HB3 := Lib.hid hb3
  clear ho3 hb3
  rw [rounds_succ]
  go_wp2_with fail
  go_ret
  exact ⟨_, rfl, HO3.out, HB3.out⟩
theorem TwoB.lit {w1 : World} {p : Option Addr} {c : Nat} {q : Option Addr} {d : Nat} {l m : List UInt8} (h1 : BytIn w1.heap.size w1 (.slice p l.length c) l) (h2 : BytIn w1.heap.size w1 (.slice q m.length d) m) :
    TwoB (w1.alloc (.cells #[.slice p l.length c, .slice q m.length d] 22)) w1.heap.size l m := by
  refine ⟨p, c, q, d, by simp, ?_, ?_, ?_, ?_⟩
  · rw [cell_of_row _ w1.heap.size 0 _ _ (0, 0) (heap_alloc_new w1 _)]; rfl
  · rw [cell_of_row _ w1.heap.size 1 _ _ (0, 0) (heap_alloc_new w1 _)]; rfl
  · exact (h1.below ((Below.refl _ _).alloc (Nat.le_refl _) _)).mono (by simp)
  · exact (h2.below ((Below.refl _ _).alloc (Nat.le_refl _) _)).mono (by simp)
/-- Sealed bytes. -/
def sealL (l : List UInt8) : List UInt8 := l ++ encL (sumL l)
theorem sealL_len (l : List UInt8) : (sealL l).length = l.length + 4 := by unfold sealL; rw [List.length_append, encL_len]
theorem EndB.up {l : List UInt8} {w W : World} {e : Ending} {w' : World} (hb : Below w.heap.size w W) (h : EndB l W e w') : EndB l w e w' := by
  obtain ⟨v, rfl, ho, hb'⟩ := h
  exact ⟨v, rfl, ho.mono hb.size, hb.trans (hb'.mono hb.size)⟩
set_option maxHeartbeats 1000000 in
set_option maxRecDepth 100000 in
theorem seal_any (v : Value) (l : List UInt8) (w : World) (h : BytIn w.heap.size w v l) (hl : l.length ≤ 90000000000000) (G : Glob w) :
    Calls Tryd.prog 15 #[v] w (EndB (sealL l) w) := by
  have HS := Lib.hid (sum_any v l w h (by omega) G)
  have H := Lib.hid h
  have HL := Lib.hid hl
  obtain ⟨p, c, rfl⟩ := h.shape
  clear h hl G
  go_enter Tryd.func15, Tryd.ntmps15
  go_wp2_with fail
  refine HS.out.mono ?_
  rintro e w' ⟨rfl, rfl⟩
  go_wp2_with fail
  refine (enc_any _ _).mono ?_
  rintro e w1 ⟨v1, rfl, ho1, hb1⟩
  obtain ⟨q, d, rfl⟩ := ho1.in_.shape
  have HT := Lib.hid (TwoB.lit (w1 := w1) (p := p) (c := c) (q := q) (d := d) ((H.out.below hb1).mono hb1.size) ho1.in_)
  have HB1 := Lib.hid (show Below w.heap.size w (w1.alloc (.cells #[.slice p l.length c, .slice q (encL (sumL l)).length d] 22)) from hb1.alloc hb1.size _)
  clear ho1 hb1
  go_wp2_with fail
  refine (concat_any _ l (encL (sumL l)) _ HT.out (by have := HL.out; rw [encL_len]; omega)).mono ?_
  intro e w2 he
  obtain ⟨v2, rfl, ho2, hb2⟩ := EndB.up HB1.out he
  have HO2 := Lib.hid ho2
  have HB2 := Lib.hid hb2
  clear ho2 hb2 he
  go_wp2_with fail
  go_ret
  exact ⟨_, rfl, HO2.out, HB2.out⟩
set_option maxHeartbeats 1000000 in
set_option maxRecDepth 100000 in
theorem rseal_any (v : Value) (l : List UInt8) (w : World) (h : BytIn w.heap.size w v l) (hl : l.length ≤ 90000000000000) :
    Calls Tryd.prog 16 #[v] w (EndB (sealL l) w) := by
  have H := Lib.hid h
  have HL := Lib.hid hl
  obtain ⟨p, c, rfl⟩ := h.shape
  clear h hl
  have HO : Hid (OwnB w.heap.size (w.alloc (.cells #[] 5)) (.slice (some ⟨w.heap.size, 0, none⟩) 0 0) []) := Lib.hid (OwnB.lit w.heap.size w #[] [] 0 (Nat.le_refl _) rfl (by decide) rfl)
  have HW : Hid (Below w.heap.size w (w.alloc (.cells #[] 5))) := Lib.hid ((Below.refl _ _).alloc (Nat.le_refl _) _)
  have HI := Lib.hid (H.out.below HW.out)
  go_enter Tryd.func16, Tryd.ntmps16
  go_wp2_with (at_builtin; refine wpList_app rfl (.tmp 3) (.tmp 4) rfl w.heap.size w.heap.size w _ _ [] l rfl rfl HO.out HI.out (by have := HL.out; rw [List.length_nil]; omega) HW.out (Nat.le_refl _) ?_; intro v' w1 ho hb)
  have HO1 := Lib.hid ho
  have HB1 := Lib.hid hb
  clear ho hb
  refine (rsum_any _ l _ ((H.out.below HB1.out).mono HB1.out.size) (by have := HL.out; omega)).mono ?_
  rintro e w' ⟨rfl, rfl⟩
  go_wp2_with fail
  refine (four_any _ _).mono ?_
  rintro e w2 ⟨v2, rfl, ho2, hb2⟩
  have HO2 := Lib.hid (HO1.out.below hb2)
  have HI2 := Lib.hid ho2.in_
  have HB2 := Lib.hid (HB1.out.trans (hb2.mono HB1.out.size))
  clear ho2 hb2
  go_wp2_with (at_builtin; refine wpList_app rfl (.tmp 5) (.tmp 8) rfl w.heap.size w2.heap.size w _ _ l (encL (sumL l)) rfl rfl HO2.out HI2.out (by have := HL.out; rw [encL_len]; omega) HB2.out (Nat.le_refl _) ?_; intro v3 w3 ho3 hb3)
  have HO3 := Lib.hid ho3
  have HB3 := Lib.hid hb3
  clear ho3 hb3
  go_wp2_with fail
  go_ret
  exact ⟨_, rfl, HO3.out, HB3.out⟩
end Go.Proofs.YteaeiejkdnbcnaaDoor

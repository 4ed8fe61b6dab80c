/-
  For every piece and bytes the law CrcFrames returns true and leaves its arguments as they were: the frame of the piece's first 3000 bytes, and the piece and the pieces that the first 3000 bytes begin with, are the document's.
  Conditions: those that the row prints (the size of memory that is read); the table crc.nibbles holds what its initialiser lays, which the card ties to the program's text; none of the proof's own.
-/
import Derived.Test.YteaeiejkdnbcnaaDoorCrSo
import Derived.Test.YteaeiejkdnbcnaaDoorCrTu
import Derived.Test.YteaeiejkdnbcnaaDoorTie
import Derived.Test.YteaeiejkdnbcnaaDoorCards
namespace Go.Proofs.YteaeiejkdnbcnaaDoor
open Go Go.RowKit

theorem scanL_len : ∀ (n : Nat) (l : List UInt8), l.length ≤ n → (scanL l).1.length ≤ l.length
  | n, l, hn => by
    by_cases h : (unfE l).1 = 0
    · have h1 := unfE_ok h
      rw [scanL_ok h]
      match n, hn with
      | 0, hn => omega
      | n + 1, hn =>
        have := scanL_len n (l.drop (unfE l).2.1) (by rw [List.length_drop]; omega)
        rw [List.length_drop] at this
        rw [List.length_cons]
        omega
    · rw [scanL_no h]
      simp
theorem cellsP_at : ∀ (Q : List (UInt8 × Value × List UInt8)) (j : Nat) (h : j < Q.length), (cellsP Q)[j * 2]? = some (.int .u8 (Q[j].1.toNat : Int)) ∧ (cellsP Q)[j * 2 + 1]? = some Q[j].2.1
  | [], _, h => by simp at h
  | q :: Q, 0, _ => ⟨rfl, rfl⟩
  | q :: Q, j + 1, h => by
    have e : cellsP (q :: Q) = .int .u8 (q.1.toNat : Int) :: q.2.1 :: cellsP Q := rfl
    have := cellsP_at Q j (by simpa using h)
    rw [e, show (j + 1) * 2 = j * 2 + 1 + 1 by omega]
    simpa using this
theorem OwnP.rowP {B : Nat} {w : World} {v : Value} {P : List (UInt8 × List UInt8)} (h : OwnP B w v P) (hB : B ≤ w.heap.size) (hP : P.length ≤ 1000000000000) : RowP w v P := by
  obtain ⟨Q, rfl, h2, h3⟩ := h
  rw [List.length_map] at hP
  have hb : ∀ q ∈ Q, (∃ p c, q.2.1 = .slice p q.2.2.length c) ∧ BytIn w.heap.size w q.2.1 q.2.2 := fun q hq => ⟨(h3 q hq).1, (h3 q hq).in_ hB⟩
  rcases Nat.eq_zero_or_pos Q.length with h0 | h0
  · obtain rfl := List.eq_nil_of_length_eq_zero h0
    rcases h2.2 with ⟨rfl, -⟩ | ⟨g, cap, cur, rfl, -⟩
    · exact ⟨[], _, _, rfl, rfl, by simp, .inl rfl, hb⟩
    · exact ⟨[], _, _, rfl, rfl, by simp, .inl rfl, hb⟩
  · obtain ⟨g, cap, rfl, -, hg⟩ := World.ownsRow.form h2 h0
    refine ⟨Q, _, _, rfl, rfl, hP, .inr ⟨g, 0, rfl, hg, fun j hj => ?_⟩, hb⟩
    have hadd : ∀ i, (⟨g, 0, none⟩ : Addr).add i = ⟨g, 0 + i, none⟩ := fun i => by unfold Addr.add; split <;> simp_all
    have k1 := World.ownsRow.cells h2 (g := g) rfl (j * 2) _ (cellsP_at Q j hj).1
    have k2 := World.ownsRow.cells h2 (g := g) rfl (j * 2 + 1) _ (cellsP_at Q j hj).2
    rw [hadd] at k1 k2
    exact ⟨k1, k2⟩
theorem rowP_one (w : World) (k : UInt8) (p : Option Addr) (c : Nat) (m : List UInt8) (h : BytIn w.heap.size w (.slice p m.length c) m) : RowP (w.alloc (.cells #[.int .u8 (k.toNat : Int), .slice p m.length c] 35)) (.slice (some ⟨w.heap.size, 0, none⟩) 1 1) [(k, m)] := by
  have hb := below_new w (.cells #[.int .u8 (k.toNat : Int), .slice p m.length c] 35)
  have hx := World.alloc_heap_new w (.cells #[.int .u8 (k.toNat : Int), .slice p m.length c] 35)
  refine ⟨[(k, .slice p m.length c, m)], _, _, rfl, rfl, by simp, .inr ⟨_, 0, rfl, by simp, fun j hj => ?_⟩, fun q hq => ?_⟩
  · obtain rfl : j = 0 := by simpa using hj
    exact ⟨cell_of_row _ w.heap.size 0 _ _ (0, 0) hx, cell_of_row _ w.heap.size 1 _ _ (0, 0) hx⟩
  · simp only [List.mem_singleton] at hq
    subst hq
    exact ⟨⟨_, _, rfl⟩, (h.below hb).mono (by simp)⟩
/-- Block N is a box with a piece. -/
def BoxQ (w : World) (N : Nat) (k : UInt8) (v : Value) : Prop := w.heap[N]? = some (.cells #[.int .u8 (k.toNat : Int), v] 35 (0, 0))
theorem BoxQ.facts {w : World} {N : Nat} {k : UInt8} {v : Value} (h : BoxQ w N k v) : (w.cell? ⟨N, 0, none⟩ = some (.int .u8 (k.toNat : Int)) ∧ w.cell? ⟨N, 1, none⟩ = some v) ∧ (w.frozen? ⟨N, 0, none⟩ = false ∧ w.frozen? ⟨N, 1, none⟩ = false) ∧ N < w.heap.size :=
  ⟨⟨cell_of_row w N 0 _ _ (0, 0) h, cell_of_row w N 1 _ _ (0, 0) h⟩, ⟨frozen_of_row w N 0 _ _ h, frozen_of_row w N 1 _ _ h⟩, (Array.getElem?_eq_some_iff.1 h).1⟩
theorem BoxQ.below {w w' : World} {N B : Nat} {k : UInt8} {v : Value} (h : BoxQ w N k v) (hb : Below B w w') (hB : N < B) : BoxQ w' N k v := (hb.block N hB).trans h
theorem BoxQ.set {w : World} {N : Nat} {k : UInt8} {v : Value} (h : BoxQ w N k v) (u : Value) : BoxQ ((w.setCell ⟨N, 0, none⟩ (.int .u8 (k.toNat : Int))).setCell ⟨N, 1, none⟩ u) N k u :=
  heap_setCell_same _ N 1 _ _ u (heap_setCell_same w N 0 _ _ (.int .u8 (k.toNat : Int)) h)
set_option maxHeartbeats 4000000 in
set_option maxRecDepth 100000 in
theorem frames_law (v : Value) (k : UInt8) (l : List UInt8) (v2 : Value) (l2 : List UInt8) (w : World) (hv : PcV w v k l) (hv2 : ByC w.heap.size w v2 l2) (HG0 : Glob w) :
    Calls Tryd.prog 5 #[v, v2] w fun e w' => e = .returned (.bool true) ∧ Below w.heap.size w w' := by
  have HG := Lib.hid HG0
  obtain ⟨s, rfl, hb⟩ := hv
  obtain ⟨p, c, hs, -⟩ := hb.2
  subst hs
  have H := Lib.hid hb
  have HB2' := Lib.hid hv2
  obtain ⟨p2, c2, hs2, -⟩ := hv2.2
  subst hs2
  clear HG0 hb hv2
  obtain ⟨N, hN⟩ : ∃ N, N = w.heap.size := ⟨_, rfl⟩
  obtain ⟨w0, hw0⟩ : ∃ w0, w0 = w.alloc (.cells #[.int .u8 (k.toNat : Int), .slice p l.length c] 35) := ⟨_, rfl⟩
  have HB0 := Lib.hid (show Below w.heap.size w w0 by rw [hw0]; exact (Below.refl _ _).alloc (Nat.le_refl _) _)
  have HX0 := Lib.hid (show BoxQ w0 N k (.slice p l.length c) by rw [hw0, hN]; exact heap_alloc_new w _)
  have HN := Lib.hid hN
  obtain ⟨⟨c0, c1⟩, -, hz⟩ := HX0.out.facts
  go_enter Tryd.func5, Tryd.ntmps5
  go_wp2_with fail
  rw [← hw0, ← hN]
  clear hw0 hN
  refine (piece_any k (.slice p l.length c) l w0 (H.out.below HB0.out) HB0.out.size).mono ?_
  rintro e w2 ⟨u, rfl, hu, hb2⟩
  obtain ⟨m, hm⟩ : ∃ m, m = l.take 3000 := ⟨_, rfl⟩
  have HL := Lib.hid (show m.length ≤ 3000 by rw [hm, List.length_take]; omega)
  rw [← hm] at hu
  obtain ⟨pu, cu, eu, -⟩ := hu.2
  subst eu
  have HB2 := Lib.hid (HB0.out.trans (hb2.mono HB0.out.size))
  have HX2 := Lib.hid (HX0.out.below hb2 hz)
  have HU2 := Lib.hid hu
  clear hu hb2 hm c0 c1 hz
  go_wp2_with fail
  refine (cut_any (n₀ := w.heap.size) (.slice p2 l2.length c2) l2 w2 (HB2'.out.below HB2.out)).mono ?_
  rintro e w2' ⟨v3, rfl, hv3, rfl⟩
  obtain ⟨z, hz⟩ : ∃ z, z = l2.take 3000 := ⟨_, rfl⟩
  have HLz := Lib.hid (show z.length ≤ 3000 by rw [hz, List.length_take]; omega)
  rw [← hz] at hv3
  have HZ2 := Lib.hid hv3
  obtain ⟨p3, c3, e3, -⟩ := hv3.2
  subst e3
  clear hz hv3
  obtain ⟨⟨c0, c1⟩, ⟨f0, f1⟩, hz2⟩ := HX2.out.facts
  have HX3 := Lib.hid (HX2.out.set (.slice pu m.length cu))
  obtain ⟨⟨d0, d1⟩, -, -⟩ := HX3.out.facts
  have HB3 := Lib.hid ((HB2.out.setCell (p := ⟨N, 0, none⟩) (Nat.le_of_eq HN.out.symm) (.int .u8 (k.toNat : Int))).setCell (p := ⟨N, 1, none⟩) (Nat.le_of_eq HN.out.symm) (.slice pu m.length cu))
  go_wp2_with fail
  obtain ⟨w3, hw3⟩ : ∃ w3, w3 = (w2.setCell ⟨N, 0, none⟩ (.int .u8 (k.toNat : Int))).setCell ⟨N, 1, none⟩ (.slice pu m.length cu) := ⟨_, rfl⟩
  have hbs := ((Below.refl w.heap.size w2).setCell (p := ⟨N, 0, none⟩) (Nat.le_of_eq HN.out.symm) (.int .u8 (k.toNat : Int))).setCell (p := ⟨N, 1, none⟩) (Nat.le_of_eq HN.out.symm) (.slice pu m.length cu)
  rw [← hw3] at hbs
  have HU3 := Lib.hid (HU2.out.below hbs)
  have HZ3 := Lib.hid (HZ2.out.below hbs)
  rw [← hw3] at HX3 HB3 d0 d1 ⊢
  clear hw3 c0 c1 f0 f1 hbs hz2 HX2 HU2 HZ2
  refine (frame_any k pu cu m w3 (HU3.out.1.mono HB3.out.size) (Nat.le_trans HL.out (by decide)) (HG.out.below HB3.out)).mono ?_
  rintro e w4 ⟨x1, rfl, ho, hb⟩
  have HF1 := Lib.hid ho.in_
  have HB4 := Lib.hid (HB3.out.trans (hb.mono HB3.out.size))
  have HX4 := Lib.hid (HX3.out.below hb HX3.out.facts.2.2)
  have HU4 := Lib.hid (HU3.out.below (hb.mono HB3.out.size))
  have HZ4 := Lib.hid (HZ3.out.below (hb.mono HB3.out.size))
  obtain ⟨q1, k1, e1⟩ := ho.in_.shape
  rw [e1] at HF1 ⊢
  clear ho hb d0 d1 HX3 HU3 HZ3 e1
  obtain ⟨⟨c0, c1⟩, -, -⟩ := HX4.out.facts
  go_wp2_with fail
  refine (rframe_any k pu cu m w4 (HU4.out.1.mono HB4.out.size) (Nat.le_trans HL.out (by decide))).mono ?_
  rintro e w5 ⟨x2, rfl, ho, hb⟩
  have HF2 := Lib.hid ho.in_
  have HF3 := Lib.hid ((HF1.out.below hb).mono hb.size)
  have HB5 := Lib.hid (HB4.out.trans (hb.mono HB4.out.size))
  have HZ5 := Lib.hid (HZ4.out.below (hb.mono HB4.out.size))
  obtain ⟨q2, k2, e2⟩ := ho.in_.shape
  rw [e2] at HF2 ⊢
  clear ho hb c0 c1 HX4 HU4 HZ4 HF1 e2
  obtain ⟨er, HEr⟩ : ∃ er, Hid (er = (unfE z).1) := ⟨_, Lib.hid rfl⟩
  obtain ⟨n, HNn⟩ : ∃ n, Hid (n = (unfE z).2.1) := ⟨_, Lib.hid rfl⟩
  obtain ⟨kd, HK⟩ : ∃ kd, Hid (kd = (unfE z).2.2.1) := ⟨_, Lib.hid rfl⟩
  obtain ⟨bm, HM⟩ : ∃ bm, Hid (bm = (unfE z).2.2.2) := ⟨_, Lib.hid rfl⟩
  go_wp2_with fail
  refine (unf_all _ z w5 (HZ5.out.mono HB5.out.size) (Nat.le_trans HLz.out (by decide)) (HG.out.below HB5.out)).mono ?_
  rintro e w6 ⟨y1, rfl, ho, hb⟩
  rw [← HEr.out, ← HNn.out, ← HK.out]
  rw [← HM.out] at ho
  obtain ⟨pb, cb, eb⟩ := ho.in_.shape
  subst eb
  have HO6 := Lib.hid ho
  have HB6 := Lib.hid (HB5.out.trans (hb.mono HB5.out.size))
  have HF6 := Lib.hid ((HF2.out.below hb).mono hb.size)
  have HF6' := Lib.hid ((HF3.out.below hb).mono hb.size)
  have HZ6 := Lib.hid (HZ5.out.below (hb.mono HB5.out.size))
  clear ho hb HZ5 HF2 HF3
  obtain ⟨w7, hw7⟩ : ∃ w7, w7 = w6.alloc (.cells #[.int .u8 (kd.toNat : Int), .slice pb bm.length cb] 35) := ⟨_, rfl⟩
  obtain ⟨M, hM⟩ : ∃ M, M = w6.heap.size := ⟨_, rfl⟩
  have hb := below_new w6 (.cells #[.int .u8 (kd.toNat : Int), .slice pb bm.length cb] 35)
  rw [← hw7] at hb
  have HX7 := Lib.hid (show BoxQ w7 M kd (.slice pb bm.length cb) by rw [hw7, hM]; exact heap_alloc_new w6 _)
  have HO7 := Lib.hid ((HO6.out.below hb).in_)
  have HB7 := Lib.hid (HB6.out.trans (hb.mono HB6.out.size))
  have HF7 := Lib.hid ((HF6.out.below hb).mono hb.size)
  have HF7' := Lib.hid ((HF6'.out.below hb).mono hb.size)
  have HZ7 := Lib.hid (HZ6.out.below (hb.mono HB6.out.size))
  clear hb HO6 HF6 HF6' HZ6
  go_wp2_with fail
  rw [← hw7, ← hM]
  clear hw7 hM
  refine (runf_all _ z w7 (HZ7.out.mono HB7.out.size) (Nat.le_trans HLz.out (by decide))).mono ?_
  rintro e w8 ⟨y2, rfl, ho, hb⟩
  rw [← HEr.out, ← HNn.out, ← HK.out]
  rw [← HM.out] at ho
  obtain ⟨pd, cd, eb⟩ := ho.in_.shape
  subst eb
  have HO8 := Lib.hid ho
  have HB8 := Lib.hid (HB7.out.trans (hb.mono HB7.out.size))
  have HF8 := Lib.hid ((HF7.out.below hb).mono hb.size)
  have HF8' := Lib.hid ((HF7'.out.below hb).mono hb.size)
  have HP8 := Lib.hid ((HO7.out.below hb).mono hb.size)
  have HX8 := Lib.hid (HX7.out.below hb HX7.out.facts.2.2)
  have HZ8 := Lib.hid (HZ7.out.below (hb.mono HB7.out.size))
  clear ho hb HZ7 HF7 HF7' HO7 HX7
  obtain ⟨w9, hw9⟩ : ∃ w9, w9 = w8.alloc (.cells #[.int .u8 (kd.toNat : Int), .slice pd bm.length cd] 35) := ⟨_, rfl⟩
  obtain ⟨M', hM'⟩ : ∃ M', M' = w8.heap.size := ⟨_, rfl⟩
  have hb := below_new w8 (.cells #[.int .u8 (kd.toNat : Int), .slice pd bm.length cd] 35)
  rw [← hw9] at hb
  have HY9 := Lib.hid (show BoxQ w9 M' kd (.slice pd bm.length cd) by rw [hw9, hM']; exact heap_alloc_new w8 _)
  have HO9 := Lib.hid ((HO8.out.below hb).in_)
  have HB9 := Lib.hid (HB8.out.trans (hb.mono HB8.out.size))
  have HF9 := Lib.hid ((HF8.out.below hb).mono hb.size)
  have HF9' := Lib.hid ((HF8'.out.below hb).mono hb.size)
  have HP9 := Lib.hid ((HP8.out.below hb).mono hb.size)
  have HX9 := Lib.hid (HX8.out.below hb HX8.out.facts.2.2)
  have HZ9 := Lib.hid (HZ8.out.below (hb.mono HB8.out.size))
  clear hb HO8 HF8 HF8' HZ8 HP8 HX8
  go_wp2_with fail
  rw [← hw9, ← hM']
  clear hw9 hM'
  refine (scan_any _ z w9 (HZ9.out.mono HB9.out.size) (Nat.le_trans HLz.out (by decide)) (HG.out.below HB9.out)).mono ?_
  rintro e w10 ⟨y3, rfl, ho, hb⟩
  have HS10 := Lib.hid ho
  have HB10 := Lib.hid (HB9.out.trans (hb.mono HB9.out.size))
  have HF10 := Lib.hid ((HF9.out.below hb).mono hb.size)
  have HF10' := Lib.hid ((HF9'.out.below hb).mono hb.size)
  have HP10 := Lib.hid ((HP9.out.below hb).mono hb.size)
  have HO10 := Lib.hid ((HO9.out.below hb).mono hb.size)
  have HX10 := Lib.hid (HX9.out.below hb HX9.out.facts.2.2)
  have HY10 := Lib.hid (HY9.out.below hb HY9.out.facts.2.2)
  have HZ10 := Lib.hid (HZ9.out.below (hb.mono HB9.out.size))
  have HT10 := Lib.hid hb.size
  clear ho hb HF9 HF9' HZ9 HP9 HO9 HX9 HY9
  obtain ⟨t, HTt⟩ : ∃ t, Hid (t = (scanL z).2) := ⟨_, Lib.hid rfl⟩
  rw [← HTt.out]
  go_wp2_with fail
  refine (rscan_any _ z w10 (HZ10.out.mono HB10.out.size) (Nat.le_trans HLz.out (by decide))).mono ?_
  rintro e w11 ⟨y4, rfl, ho, hb⟩
  have HR11 := Lib.hid ho
  have HS11 := Lib.hid (HS10.out.below hb HT10.out)
  have HT11 := Lib.hid hb.size
  have HB11 := Lib.hid (HB10.out.trans (hb.mono HB10.out.size))
  have HF11 := Lib.hid ((HF10.out.below hb).mono hb.size)
  have HF11' := Lib.hid ((HF10'.out.below hb).mono hb.size)
  have HP11 := Lib.hid ((HP10.out.below hb).mono hb.size)
  have HO11 := Lib.hid ((HO10.out.below hb).mono hb.size)
  have HX11 := Lib.hid (HX10.out.below hb HX10.out.facts.2.2)
  have HY11 := Lib.hid (HY10.out.below hb HY10.out.facts.2.2)
  clear ho hb HF10 HF10' HZ10 HP10 HO10 HX10 HY10 HS10
  rw [← HTt.out]
  have r1 := run_str w11 _ _ _ HF11.out
  have r2 := run_str w11 _ _ _ HF11'.out
  obtain ⟨⟨c0, c1⟩, -, hz1⟩ := HX11.out.facts
  obtain ⟨⟨d0, d1⟩, -, hz2⟩ := HY11.out.facts
  obtain ⟨fS, hfS⟩ : ∃ fS, fS = frameL k m := ⟨_, rfl⟩
  rw [← hfS] at r1 r2 ⊢
  clear hfS
  go_wp2_with fail
  obtain ⟨w12, hw12⟩ : ∃ w12, w12 = w11.alloc (.cells #[.int .u8 (kd.toNat : Int), .slice pb bm.length cb] 35) := ⟨_, rfl⟩
  obtain ⟨w13, hw13⟩ : ∃ w13, w13 = w12.alloc (.cells #[.int .u8 (kd.toNat : Int), .slice pd bm.length cd] 35) := ⟨_, rfl⟩
  have hb12 := below_new w11 (.cells #[.int .u8 (kd.toNat : Int), .slice pb bm.length cb] 35)
  have hb13 := below_new w12 (.cells #[.int .u8 (kd.toNat : Int), .slice pd bm.length cd] 35)
  have hr1 := rowP_one w11 kd pb cb bm HP11.out
  rw [← hw12] at hb12 hr1
  have hr2 := rowP_one w12 kd pd cd bm ((HO11.out.below hb12).mono hb12.size)
  rw [← hw13] at hb13 hr2
  have hs12 : w12.heap.size = w11.heap.size + 1 := by rw [hw12]; exact size_one _ _
  rw [hs12] at hr2
  have HB13 := Lib.hid (HB11.out.trans ((hb12.trans (hb13.mono hb12.size)).mono HB11.out.size))
  have HS13 := Lib.hid ((HS11.out.below hb12 (Nat.le_trans HT10.out HT11.out)).below hb13 (Nat.le_trans (Nat.le_trans HT10.out HT11.out) hb12.size))
  have HR13 := Lib.hid ((HR11.out.below hb12 HT11.out).below hb13 (Nat.le_trans HT11.out hb12.size))
  have HT13 := Lib.hid (Nat.le_trans HT11.out (Nat.le_trans hb12.size hb13.size))
  have HSm := Lib.hid (same_rows _ _ _ _ w13 (hr1.below hb13) hr2)
  rw [← hw12, ← hw13]
  clear hw12 hw13 hb12 hb13 hr1 hr2 hs12 c0 c1 d0 d1 r1 r2 hz1 hz2
  refine HSm.out.mono ?_
  rintro e w14 ⟨he, hb⟩
  rw [decide_eq_true rfl] at he
  subst he
  have hPl : (scanL z).1.length ≤ 1000000000000 := Nat.le_trans (scanL_len _ z (Nat.le_refl _)) (Nat.le_trans HLz.out (by decide))
  have HB14 := Lib.hid (HB13.out.trans (hb.mono HB13.out.size))
  have HR14 := Lib.hid ((HR13.out.below hb HT13.out).rowP (Nat.le_trans HT13.out hb.size) hPl)
  have HS14 := Lib.hid ((HS13.out.below hb (Nat.le_trans HT10.out HT13.out)).rowP (Nat.le_trans (Nat.le_trans HT10.out HT13.out) hb.size) hPl)
  clear hb HSm hPl
  go_wp2_with fail
  refine (same_rows _ _ _ _ w14 HS14.out HR14.out).mono ?_
  rintro e w15 ⟨he, hb⟩
  rw [decide_eq_true rfl] at he
  subst he
  have HB15 := Lib.hid (HB14.out.trans (hb.mono HB14.out.size))
  clear hb
  go_wp2_with fail
  refine (awake_true w15 (HG.out.below HB15.out)).mono ?_
  rintro e w16 ⟨rfl, hb⟩
  have HB16 := Lib.hid (HB15.out.trans (hb.mono HB15.out.size))
  clear hb
  go_wp2_with fail
  go_ret
  exact ⟨rfl, HB16.out⟩

open Go.ChangeShapes Go.WideShapes Go.ChangeAt
set_option maxRecDepth 100000 in
theorem lifted_frames_law (os : Os) (started : os.Started) (H : Type) (enc : TypeId × Value → H) :
    ReturnsInHanded {} Tryd.checked os 5 .any (fun w args => (Rows.crcFramesSpec.pre enc Tryd.prog Tryd.f5 [] false w args ∧ laidMetH Tryd.prog laid4 w) ∧ sizedMet enc Tryd.prog Tryd.f5 (OpenSpec.ofChange Rows.crcFramesSpec) false w args)
      (Rows.crcFramesSpec.post enc Tryd.prog Tryd.f5 false true false false) := by
  refine returnsInHanded_of_change_and (C := Tryd.checked) (X := fun w _ => laidMetH Tryd.prog laid4 w) (fun _ _ _ hh h => h.of_heap hh) own started (by kernel_rfl) Tryd.func5
    (ChangeSpec.witness_shaped (enc := enc) (C := Tryd.checked) (os := os) (X := fun w _ => laidMetH Tryd.prog laid4 w) false (World.doorLaid Tryd.prog 400 os) #[.agg #[.int .u8 0, .slice none 0 0], .slice none 0 0] 8 rfl (World.shaped_of_RefB (by kernel_rfl) (by kernel_rfl)) (by kernel_rfl) (by kernel_rfl) (by kernel_rfl) (door_met os _)) ?_
  intro W base args ds gs before hval0 hW _ _ hL _
  have hval : ∀ (j : Nat) t v, Tryd.f5.params[j]? = some t → args[j]? = some v → Value.okWide Tryd.prog W .any base t v := hval0
  have hW' := hW
  obtain ⟨p, q, hA0, hV, rfl, hfz, hnd⟩ := hW
  have hA : DataW.TrodAll enc Tryd.prog W 0 (fun _ => true) true Tryd.f5.params.toList args.toList ds p := hA0
  rw [Tryd.params5] at hA hval
  obtain ⟨v0, vs0, d0, ds0, p0, q0, hargs, rfl, rfl, h0, r0⟩ := trodAll_cons hA
  obtain ⟨v1, vs1, d1, ds1, p1, q1, rfl, rfl, rfl, h1, r1⟩ := trodAll_cons r0
  obtain ⟨rfl, rfl, rfl⟩ := trodAll_nil r1
  obtain rfl : args = #[v0, v1] := by cases args; simp_all
  obtain ⟨rfl, rfl⟩ := trodVars_none hV
  have t0 := h0
  have lt0 : ∀ x ∈ p0, x.block < W.heap.size := by obtain ⟨m, hm⟩ := t0; exact DataW.trod_lt m _ _ _ hm
  have t1 := h1
  have lt1 : ∀ x ∈ p1, x.block < W.heap.size := by obtain ⟨m, hm⟩ := t1; exact DataW.trod_lt m _ _ _ hm
  obtain ⟨k0, l0, a0⟩ := open_piece (hval 0 35 v0 rfl rfl) h0
  obtain ⟨l1, a1⟩ := open_byt (hval 1 22 v1 rfl rfl) h1
  clear hA0 hval0
  refine (frames_law v0 k0 l0 v1 l1 W a0 a1 (glob_of_laid hL)).mono fun e W' ⟨he, bel⟩ => ?_
  subst he
  exact ⟨_, rfl, _, _, _, [], _, [], hW', trodAll_mk1 (shut_bool Tryd.underlying4 _), (trodAll_cons_mk (Below.trod laidOut (by kernel_rfl) (of_decide_eq_true (by kernel_rfl)) t0 bel lt0) (trodAll_cons_mk (Below.trod laidOut (by kernel_rfl) (of_decide_eq_true (by kernel_rfl)) t1 bel lt1) trodAll_mk0)), rfl, bel.frame _, fun h => by cases h⟩

theorem holds_frames_law : Rows.CrcFramesSaid :=
  OpenClaim.holds_of_wide 5 Tryd.f5 rfl rfl rfl rfl rfl rfl rfl ⟨rfl, rfl, rfl, rfl, rfl⟩ rfl rfl rfl rfl rfl (by kernel_rfl) Tryd.func5 (by kernel_rfl)
    (of_decide_eq_true (by kernel_rfl)) (by unfold Func.isWrapper; rw [if_neg (of_decide_eq_false (by kernel_rfl))]; exact ⟨rfl, rfl⟩)
    (fun os started H enc _ => lifted_frames_law os started H enc)

theorem card_frames_law : Rows.CrcFramesCardSaid :=
  Claim7.holds_tied_plain_at .later [] Rows.crcFramesCard.laidKinds true Rows.crcFramesCard.stood.harness Rows.crcFramesCard.stood.looks
    holds_frames_law (fun _ h => by cases h) (by kernel_rfl) (fun _ h => by cases h) crcFrames_row_tie rfl ⟨rfl, rfl⟩ (by kernel_rfl) rfl
    (fun f fn hf hfn => by
      obtain rfl : f = 5 := Option.some.inj ((show Tryd.prog.funcNamed "pedigree/pedigreelaw04.CrcFrames" = some 5 by kernel_rfl).symm.trans hf) |>.symm
      obtain rfl : fn = Tryd.f5 := (Option.some.inj (Tryd.func5.symm.trans hfn)).symm
      exact ⟨by kernel_rfl, fun j t ht => by
        rw [Tryd.params5] at ht
        have hm : t ∈ [35, 22] := by simpa using Array.mem_of_getElem? ht
        have hall : ([35, 22].all fun u => !Tryd.prog.wantsStandIn u) = true := by kernel_rfl
        exact (show Tryd.prog.wantsStandIn t = false by simpa using List.all_eq_true.1 hall t hm)⟩)
    (by kernel_rfl)
#print axioms card_frames_law
end Go.Proofs.YteaeiejkdnbcnaaDoor

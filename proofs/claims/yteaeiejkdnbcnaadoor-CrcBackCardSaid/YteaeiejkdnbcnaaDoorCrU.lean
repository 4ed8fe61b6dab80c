/-
  Contract of crc.Unframe.
-/
import Derived.Test.YteaeiejkdnbcnaaDoorCrG
namespace Go.Proofs.YteaeiejkdnbcnaaDoor
open Go Go.RowKit

/-- What Unframe answers: an error's number, how many bytes, a kind, a body. -/
def unfE (l : List UInt8) : Int × Nat × UInt8 × List UInt8 :=
  if l.length < 9 then (41, 0, 0, [])
  else if openB (l.take 9) = false then (42, 0, 0, [])
  else if 1048576 < decN ((l.take 5).drop 1) then (42, 0, 0, [])
  else if l.length < 13 + decN ((l.take 5).drop 1) then (41, 0, 0, [])
  else if openB ((l.drop 9).take (4 + decN ((l.take 5).drop 1))) = false then (40, 0, 0, [])
  else (0, 13 + decN ((l.take 5).drop 1), l.getD 0 0, (l.drop 9).take (decN ((l.take 5).drop 1)))
def UnfEnd (l : List UInt8) (w : World) (e : Ending) (w' : World) : Prop :=
  ∃ v, e = .returned (.tuple #[.agg #[.int .u8 ((unfE l).2.2.1.toNat : Int), v], .int .i64 ((unfE l).2.1 : Nat), .int .i64 (unfE l).1]) ∧ OwnB w.heap.size w' v (unfE l).2.2.2 ∧ Below w.heap.size w w'
theorem UnfEnd.mk {l : List UInt8} {w w' : World} {v : Value} {r : Int} {n : Nat} {k : UInt8} {m : List UInt8} {e : Ending} (h : unfE l = (r, n, k, m)) (he : e = .returned (.tuple #[.agg #[.int .u8 (k.toNat : Int), v], .int .i64 (n : Nat), .int .i64 r])) (ho : OwnB w.heap.size w' v m) (hb : Below w.heap.size w w') : UnfEnd l w e w' :=
  ⟨v, by rw [h]; exact he, by rw [h]; exact ho, hb⟩
theorem ByC.take {n₀ : Nat} {w : World} {a : Addr} {c : Nat} {l : List UInt8} (h : BytIn n₀ w (.slice (some a) l.length c) l) (hl : l.length ≤ c) (hc : c ≤ maxLen) (n : Nat) (hn : n ≤ l.length) : ByC n₀ w (.slice (some a) n c) (l.take n) :=
  ⟨h.take n hn, some a, c, by rw [List.length_take, Nat.min_eq_left hn], by rw [List.length_take]; omega, hc⟩
/-- Block N is the cell of a result. -/
def PcAt (w : World) (N : Nat) : Prop := w.heap[N]? = some (.cells #[.int .u8 0, .slice none 0 0] 35 (0, 0))
theorem PcAt.facts {w : World} {N : Nat} (h : PcAt w N) : (w.cell? ⟨N, 0, none⟩ = some (.int .u8 0) ∧ w.cell? ⟨N, 1, none⟩ = some (.slice none 0 0)) ∧ (w.frozen? ⟨N, 0, none⟩ = false ∧ w.frozen? ⟨N, 1, none⟩ = false) ∧ N < w.heap.size :=
  ⟨⟨cell_of_row w N 0 _ _ (0, 0) h, cell_of_row w N 1 _ _ (0, 0) h⟩, ⟨frozen_of_row w N 0 _ _ h, frozen_of_row w N 1 _ _ h⟩, (Array.getElem?_eq_some_iff.1 h).1⟩
theorem PcAt.below {w w' : World} {N B : Nat} (h : PcAt w N) (hb : Below B w w') (hB : N < B) : PcAt w' N := (hb.block N hB).trans h
theorem OwnB.set {B : Nat} {w : World} {v : Value} {l : List UInt8} (h : OwnB B w v l) {N j : Nat} (hN : N < B) (u : Value) : OwnB B (w.setCell ⟨N, j, none⟩ u) v l := by
  refine ⟨h.1, ?_⟩
  rcases h.2 with hn | ⟨g, cap, cur, rfl, hB, hg, rest⟩
  · exact .inl hn
  · exact .inr ⟨g, cap, cur, rfl, hB, (heap_setCell_other w ⟨N, j, none⟩ g u (fun e => by simp at e; omega)).trans hg, rest⟩
/-- A result's cell, stored into. -/
theorem PcAt.set {w : World} {N : Nat} (h : PcAt w N) (k : Int) (v : Value) : (w.setCell ⟨N, 0, none⟩ (.int .u8 k)).cell? ⟨N, 0, none⟩ = some (.int .u8 k) ∧ ((w.setCell ⟨N, 0, none⟩ (.int .u8 k)).setCell ⟨N, 1, none⟩ v).cell? ⟨N, 1, none⟩ = some v :=
  have h1 := heap_setCell_same w N 0 _ _ (.int .u8 k) h
  have h2 := heap_setCell_same _ N 1 _ _ v h1
  ⟨cell_of_row _ N 0 _ _ (0, 0) h1, cell_of_row _ N 1 _ _ (0, 0) h2⟩
theorem openE_err {l : List UInt8} (h4 : 4 ≤ l.length) (h : openB l = false) : openE l = (40, []) := by unfold openE; rw [if_neg (by omega), h]; rfl
theorem openE_ok {l : List UInt8} (h4 : 4 ≤ l.length) (h : openB l = true) : openE l = (0, l.take (l.length - 4)) := by unfold openE; rw [if_neg (by omega), h]; rfl
set_option maxHeartbeats 1000000 in
set_option maxRecDepth 100000 in
theorem unf_short (v : Value) (l : List UInt8) (w : World) (h : ByC w.heap.size w v l) (h9 : l.length < 9) :
    Calls Tryd.prog 22 #[v] w (UnfEnd l w) := by
  obtain ⟨-, p, c, rfl, -, -⟩ := h
  have HE := Lib.hid (show unfE l = (41, 0, 0, []) by unfold unfE; rw [if_pos h9])
  have h9' : (l.length : Int) < 9 := by omega
  go_enter Tryd.func22, Tryd.ntmps22
  go_wp2_with fail
  refine bodyPost_ret (v := .tuple #[.agg #[.int .u8 0, .slice none 0 0], .int .i64 0, .int .i64 41]) (by simp [results, Tryd.results22, go_sem]) rfl ?_
  exact UnfEnd.mk HE.out rfl (OwnB.nil _ _) (by first | exact (Below.refl _ _).alloc (Nat.le_refl _) _ | exact ((((Below.refl _ _).alloc (Nat.le_refl _) _).setCell (Nat.le_refl _) _).setCell (Nat.le_refl _) _))
set_option maxHeartbeats 1000000 in
set_option maxRecDepth 100000 in
theorem unf_any (v : Value) (l : List UInt8) (w : World) (h : ByC w.heap.size w v l) (h9 : ¬ l.length < 9) (hl : l.length ≤ 90000000000000) (G : Glob w) :
    Calls Tryd.prog 22 #[v] w (UnfEnd l w) := by
  obtain ⟨hb, p, c, rfl, hlc, hcm⟩ := h
  obtain ⟨a, rfl⟩ : ∃ a, p = some a := by
    rcases hb with ⟨e, rfl⟩ | ⟨a, c', e, -⟩
    · simp at h9
    · injection e with e1; exact ⟨a, e1⟩
  obtain ⟨N, hN⟩ : ∃ N, N = w.heap.size := ⟨_, rfl⟩
  obtain ⟨wb, hwb⟩ : ∃ wb, wb = w.alloc (.cells #[.int .u8 0, .slice none 0 0] 35) := ⟨_, rfl⟩
  have HB := Lib.hid (show Below w.heap.size w wb by rw [hwb]; exact (Below.refl _ _).alloc (Nat.le_refl _) _)
  have HS := Lib.hid (show wb.heap.size = N + 1 by rw [hwb, hN]; simp)
  have HPc := Lib.hid (show PcAt wb N by rw [hwb, hN]; exact heap_alloc_new w _)
  have HI := Lib.hid (show BytIn (N + 1) wb (.slice (some a) l.length c) l from (hb.below HB.out).mono (by omega))
  have HG := Lib.hid (G.below HB.out)
  have HO9 := Lib.hid (open_any (.slice (some a) 9 c) (l.take 9) wb (by rw [HS.out]; exact ByC.take HI.out hlc hcm 9 (by omega)) (by rw [List.length_take]; omega) HG.out)
  unfold maxLen at hcm
  have g1 : (9 : Int) ≤ (l.length : Int) := by omega
  have g2 : (9 : Int) ≤ (c : Int) := by omega
  have g3 : (l.length : Int) ≤ 90000000000000 := by omega
  have g4 : (c : Int) ≤ 9223372036854775807 := by omega
  clear hb G
  go_enter Tryd.func22, Tryd.ntmps22
  go_wp2_with fail
  rw [← hwb, ← hN]
  have HN := Lib.hid hN
  clear hwb hN
  have hNw : N + 1 ≤ wb.heap.size := Nat.le_of_eq HS.out.symm
  have hl9 : (l.take 9).length = 9 := by rw [List.length_take]; omega
  cases ho9 : openB (l.take 9)
  · have HE := Lib.hid (show unfE l = (42, 0, 0, []) by unfold unfE; rw [if_neg h9, if_pos ho9])
    have e9 := openE_err (l := l.take 9) (by omega) ho9
    refine HO9.out.mono ?_
    rintro e w1 ⟨vh, rfl, hoh, hb1⟩
    rw [e9] at hoh ⊢
    clear e9 ho9 hl9
    have HP1 := Lib.hid (HPc.out.below hb1 (by omega))
    have HB1 := Lib.hid (HB.out.trans (hb1.mono HB.out.size))
    obtain ⟨⟨c0, c1⟩, ⟨f0, f1⟩, hz⟩ := HP1.out.facts
    obtain ⟨m0, m1⟩ := HP1.out.set 0 (.slice none 0 0)
    clear hoh hb1
    go_wp2_with fail
    refine bodyPost_ret (v := .tuple #[.agg #[.int .u8 0, .slice none 0 0], .int .i64 0, .int .i64 42]) (by simp [results, Tryd.results22, go_sem, m0, m1]) rfl ?_
    exact UnfEnd.mk HE.out rfl (OwnB.nil _ _) ((HB1.out.setCell (by simp; have := HN.out; omega) _).setCell (by simp; have := HN.out; omega) _)
  · have e9 := openE_ok (l := l.take 9) (by omega) ho9
    rw [hl9, List.take_take, show min (9 - 4) 9 = 5 by decide] at e9
    refine HO9.out.mono ?_
    rintro e w1 ⟨vh, rfl, hoh, hb1⟩
    rw [e9] at hoh ⊢
    clear e9
    obtain ⟨h5, hh5⟩ : ∃ h5, h5 = l.take 5 := ⟨_, rfl⟩
    rw [← hh5] at hoh
    have hl5 : h5.length = 5 := by rw [hh5, List.length_take]; omega
    obtain ⟨hbh, p5, c5, hv5, hc5, hm5⟩ := hoh.byC
    rw [hl5] at hv5 hc5
    subst hv5
    obtain ⟨a5, rfl⟩ : ∃ a5, p5 = some a5 := by
      rcases hbh with ⟨e, rfl⟩ | ⟨a5, c', e, -⟩
      · simp at hl5
      · injection e with e1; exact ⟨a5, e1⟩
    rw [← hl5] at hbh
    have hd5 := hbh.drop 1 (c5 - 1)
    rw [hl5] at hbh hd5
    obtain ⟨m, hm⟩ : ∃ m, m = decN (h5.drop 1) := ⟨_, rfl⟩
    have hmlt := decN_lt (h5.drop 1)
    rw [← hm] at hmlt
    have hm' : m = decN ((l.take 5).drop 1) := by rw [hm, hh5]
    have HD := Lib.hid (dec_any _ (h5.drop 1) w1 hd5 (by rw [List.length_drop]; omega) (by rw [List.length_drop]; omega))
    rw [← hm] at HD
    have HP1 := Lib.hid (HPc.out.below hb1 (by omega))
    have HB1 := Lib.hid (HB.out.trans (hb1.mono HB.out.size))
    have HI1 := Lib.hid ((HI.out.below (hb1.mono hNw)).mono (Nat.le_trans hNw hb1.size))
    have HG1 := Lib.hid (HG.out.below hb1)
    have HH5 := Lib.hid hbh
    have HHh := Lib.hid hh5
    obtain ⟨k0, hk0⟩ : ∃ k0, k0 = l.getD 0 0 := ⟨_, rfl⟩
    have ck : w1.cell? a5 = some (.int .u8 (k0.toNat : Int)) := by
      rcases hbh with ⟨e, -⟩ | ⟨a', c', e, hx⟩
      · simp at e
      · injection e with e1
        injection e1 with e1
        subst e1
        have h0 := (hx 0 (by omega)).2
        have e0 : a5.add 0 = a5 := by unfold Addr.add; simp
        rw [e0] at h0
        rw [h0, hk0]
        congr 2
        simp only [hh5, List.getElem_take]
        rw [List.getD_eq_getElem?_getD, List.getElem?_eq_getElem (by omega), Option.getD_some]
    obtain ⟨⟨c0, c1⟩, ⟨f0, f1⟩, hz⟩ := HP1.out.facts
    unfold maxLen at hm5
    have q1 : (1 : Int) ≤ (c5 : Int) := by omega
    have q2 : ¬ c5 = 1 := by omega
    have q3 : (5 : Int) ≤ (c5 : Int) := by omega
    have q4 : (c5 : Int) ≤ 9223372036854775807 := by omega
    have q5 : (m : Int) < 4294967296 := by omega
    have q6 : (0 : Int) ≤ (m : Int) := by omega
    have hz1 := hb1.size
    have HU := Lib.hid (show unfE l = if 1048576 < m then (42, 0, 0, []) else if l.length < 13 + m then (41, 0, 0, []) else if openB ((l.drop 9).take (4 + m)) = false then (40, 0, 0, []) else (0, 13 + m, k0, (l.drop 9).take m) by
      unfold unfE
      rw [if_neg h9, if_neg (by rw [ho9]; simp), ← hm', ← hk0])
    clear hoh hb1 hbh hd5 hm hl5 hh5 hmlt ho9 hl9 c0 c1 f0 f1 hm' hk0
    go_wp2_with fail
    refine HD.out.mono ?_
    rintro e w' ⟨rfl, rfl⟩
    obtain ⟨M, hM⟩ : ∃ M : Int, M = (m : Int) := ⟨_, rfl⟩
    rw [← hM] at q5 q6 ⊢
    have HM := Lib.hid hM
    by_cases hbig : 1048576 < m
    · have HE := Lib.hid (show unfE l = (42, 0, 0, []) by rw [HU.out, if_pos hbig])
      have hbig' : (1048576 : Int) < M := by omega
      obtain ⟨⟨c0, c1⟩, ⟨f0, f1⟩, hz⟩ := HP1.out.facts
      obtain ⟨m0, m1⟩ := HP1.out.set 0 (.slice none 0 0)
      clear hM
      go_wp2_with fail
      refine bodyPost_ret (v := .tuple #[.agg #[.int .u8 0, .slice none 0 0], .int .i64 0, .int .i64 42]) (by simp [results, Tryd.results22, go_sem, m0, m1]) rfl ?_
      exact UnfEnd.mk HE.out rfl (OwnB.nil _ _) ((HB1.out.setCell (by simp; have := HN.out; omega) _).setCell (by simp; have := HN.out; omega) _)
    have hbig' : M ≤ 1048576 := by omega
    by_cases hsh : l.length < 13 + m
    · have HE := Lib.hid (show unfE l = (41, 0, 0, []) by rw [HU.out, if_neg hbig, if_pos hsh])
      have hsh' : (l.length : Int) < 9 + M + 4 := by omega
      clear hM
      obtain ⟨⟨c0, c1⟩, ⟨f0, f1⟩, hz⟩ := HP1.out.facts
      obtain ⟨m0, m1⟩ := HP1.out.set 0 (.slice none 0 0)
      go_wp2_with fail
      refine bodyPost_ret (v := .tuple #[.agg #[.int .u8 0, .slice none 0 0], .int .i64 0, .int .i64 41]) (by simp [results, Tryd.results22, go_sem, m0, m1]) rfl ?_
      exact UnfEnd.mk HE.out rfl (OwnB.nil _ _) ((HB1.out.setCell (by simp; have := HN.out; omega) _).setCell (by simp; have := HN.out; omega) _)
    · have hsh' : 9 + M + 4 ≤ (l.length : Int) := by omega
      have hn1 : (9 : Int) + M + 4 ≤ (c : Int) := by omega
      have hn2 : (9 : Int) ≤ 9 + M + 4 := by omega
      have hn4 : (9 + M + 4).toNat = 13 + m := by omega
      clear hM
      have hn3 : ¬ c = 9 := by omega
      obtain ⟨D, hD⟩ : ∃ D, D = (l.drop 9).take (4 + m) := ⟨_, rfl⟩
      have hDl : D.length = 4 + m := by rw [hD, List.length_take, List.length_drop]; omega
      have hDb : ByC w1.heap.size w1 (.slice (some ⟨a.block, a.off + 9, none⟩) (13 + m - 9) (c - 9)) D := by
        have h1 := HI1.out.drop 9 (c - 9)
        have e9 : a.add 9 = ⟨a.block, a.off + 9, none⟩ := by unfold Addr.add; simp
        rw [e9, ← List.length_drop] at h1
        have h2 := ByC.take h1 (by rw [List.length_drop]; omega) (by unfold maxLen; omega) (4 + m) (by rw [List.length_drop]; omega)
        rw [← hD] at h2
        rw [show 13 + m - 9 = 4 + m by omega]
        exact h2
      have HOD := Lib.hid (open_any _ D w1 hDb (by omega) HG1.out)
      have hDt : D.take (D.length - 4) = (l.drop 9).take m := by rw [hDl, hD, List.take_take, show min (4 + m - 4) (4 + m) = m by omega]
      clear hDb
      go_wp2_with fail
      refine HOD.out.mono ?_
      rintro e w2 ⟨vb, rfl, hob, hb2⟩
      have HP2 := Lib.hid (HP1.out.below hb2 hz)
      have HB2 := Lib.hid (HB1.out.trans (hb2.mono HB1.out.size))
      have ck2 : w2.cell? a5 = some (.int .u8 (k0.toNat : Int)) := by
        rw [← ck]
        exact hb2.cell (World.block_lt_of_cell? w1 _ ck)
      have hz3 := hb2.size
      obtain ⟨⟨c0, c1⟩, ⟨f0, f1⟩, hz⟩ := HP2.out.facts
      cases hoD : openB D
      · have HE := Lib.hid (show unfE l = (40, 0, 0, []) by rw [HU.out, if_neg hbig, if_neg hsh, ← hD, if_pos hoD])
        rw [openE_err (by omega) hoD] at hob ⊢
        obtain ⟨m0, m1⟩ := HP2.out.set 0 (.slice none 0 0)
        clear hob hb2 hoD hD hDl hDt ck ck2
        go_wp2_with fail
        refine bodyPost_ret (v := .tuple #[.agg #[.int .u8 0, .slice none 0 0], .int .i64 0, .int .i64 40]) (by simp [results, Tryd.results22, go_sem, m0, m1]) rfl ?_
        exact UnfEnd.mk HE.out rfl (OwnB.nil _ _) ((HB2.out.setCell (by simp; have := HN.out; omega) _).setCell (by simp; have := HN.out; omega) _)
      · have HE := Lib.hid (show unfE l = (0, 13 + m, k0, (l.drop 9).take m) by rw [HU.out, if_neg hbig, if_neg hsh, ← hD, if_neg (by rw [hoD]; simp)])
        rw [openE_ok (by omega) hoD] at hob ⊢
        rw [hDt] at hob
        obtain ⟨pb, cb, rfl⟩ := hob.in_.shape
        obtain ⟨nb, hnb⟩ : ∃ nb, nb = ((l.drop 9).take m).length := ⟨_, rfl⟩
        rw [← hnb] at hob ⊢
        clear hnb
        obtain ⟨m0, m1⟩ := HP2.out.set (k0.toNat : Int) (.slice pb nb cb)
        have HOB := Lib.hid hob
        have hMr : (9 : Int) + M + 4 = ((13 + m : Nat) : Int) := by have := HM.out; omega
        have HMr := Lib.hid hMr
        have hBl := Lib.hid hb2
        clear hob hb2 hoD hD hDl hDt ck hMr
        go_wp2_with fail
        refine bodyPost_ret (v := .tuple #[.agg #[.int .u8 (k0.toNat : Int), .slice pb nb cb], .int .i64 (9 + M + 4), .int .i64 0]) (by simp [results, Tryd.results22, go_sem, m0, m1]) rfl ?_
        refine UnfEnd.mk (v := .slice pb nb cb) HE.out (by rw [HMr.out]) ?_ ((HB2.out.setCell (by simp; have := HN.out; omega) _).setCell (by simp; have := HN.out; omega) _)
        exact ((HOB.out.set (Nat.lt_of_succ_le (Nat.le_trans hNw hz1)) _).set (Nat.lt_of_succ_le (Nat.le_trans hNw hz1)) _).mono (by have := HB1.out.size; omega)
end Go.Proofs.YteaeiejkdnbcnaaDoor

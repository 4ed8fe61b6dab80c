/-
  The laws' copies of a size: declarations whose types lie where they lay at first.
  The laws' copies of a size: programs.
  The document's print: the lines of a program.
  The document's print: programs.
  The walk of the law PrintPrograms.
  For every input the law PrintPrograms returns true and leaves its arguments as they were.
  Conditions: those that the row and its tied card print; none of the proof's own.
-/
import Derived.Test.YtlbofeidiclhgaaGreatDoorJ15
import Derived.Test.YtlbofeidiclhgaaGreatDoorJ17
import Derived.Test.YtlbofeidiclhgaaGreatDoorJ11
import Derived.Test.YtlbofeidiclhgaaGreatDoorJ14
import Derived.Test.YtlbofeidiclhgaaGreatDoorJ16
import Derived.Test.YtlbofeidiclhgaaGreatDoorTie
import Derived.Test.YtlbofeidiclhgaaGreatDoorCards
namespace Go.Proofs.YtlbofeidiclhgaaGreatDoor
section
open Go Go.RowKit Go.Shelf

/-- Declarations whose types are read in a world that stands. -/
def dfY (wO : World) : Lay DeL where
  sz := 3
  is := fun _ _ us d => ∃ u, us = [.string ⟨d.name.toArray⟩, .bool d.base, u] ∧ RowIn tyY (fun _ => True) wO u d.types
  len := fun h => by obtain ⟨u, rfl, -⟩ := h; rfl
  one := fun h x hx => by
    obtain ⟨u, rfl, h⟩ := h
    simp only [List.mem_cons, List.not_mem_nil, or_false] at hx
    rcases hx with rfl | rfl | rfl
    · rfl
    · rfl
    · exact rowIn_one h
  keep := fun h _ _ => h
theorem dfY.row {wO W : World} {S : Nat → Prop} {v : Value} {L : List DeL} (h : RowIn (dfY wO) S W v L) (hb : Below wO.heap.size wO W) : RowIn deY (fun _ => True) W v L := by
  obtain ⟨p, c, rfl, h1, h2, h⟩ := h
  refine ⟨p, c, rfl, h1, h2, ?_⟩
  rcases h with h | ⟨b, off, rfl, -, hl, h⟩
  · exact .inl h
  · refine .inr ⟨b, off, rfl, trivial, hl, fun j hj => ?_⟩
    obtain ⟨us, ⟨u, rfl, hu⟩, hc⟩ := h j hj
    exact ⟨_, ⟨u, rfl, hu.in_below hb⟩, hc⟩
theorem dfY.of {wO : World} {S : Nat → Prop} {v : Value} {L : List DeL} (h : RowIn deY S wO v L) : RowIn (dfY wO) S wO v L := by
  obtain ⟨p, c, rfl, h1, h2, h⟩ := h
  refine ⟨p, c, rfl, h1, h2, ?_⟩
  rcases h with h | ⟨b, off, rfl, hS, hl, h⟩
  · exact .inl h
  · refine .inr ⟨b, off, rfl, hS, hl, fun j hj => ?_⟩
    obtain ⟨us, ⟨u, rfl, hu⟩, hc⟩ := h j hj
    exact ⟨_, ⟨u, rfl, hu.keep (Nat.le_refl _) fun _ _ _ => ⟨trivial, rfl⟩⟩, hc⟩
set_option maxRecDepth 100000 in
set_option maxHeartbeats 8000000 in
theorem ldeclw_any (d : DeL) (u : Value) (S : Nat → Prop) (wO w : World) (h : RowIn tyY S wO u d.types) :
    Calls Tryz.prog 8 #[.agg #[.string ⟨d.name.toArray⟩, .bool d.base, u]] w fun e w' => (∃ v, e = .returned (.agg #[.string ⟨(cutD d).name.toArray⟩, .bool (cutD d).base, v]) ∧ RowIn tyY S wO v (cutD d).types) ∧ Below w.heap.size w w' := by
  have HI := Lib.hid h
  obtain ⟨p, c, rfl⟩ := h.shape
  have hn2 := len_le h
  obtain ⟨p0, c0, e0, hc1, hc2, -⟩ := h
  injection e0 with e1 e2 e3
  subst e1 e3
  clear e2
  rw [show (⟨(cutD d).name.toArray⟩ : ByteArray) = cutB ⟨d.name.toArray⟩ from (cutB_list d.name).symm]
  generalize (⟨d.name.toArray⟩ : ByteArray) = nm at *
  obtain ⟨L, hL⟩ : ∃ L, L = d.types := ⟨_, rfl⟩
  rw [show (cutD d).types = L.take 12 by rw [hL]; rfl, show (cutD d).base = d.base from rfl]
  rw [← hL] at HI hn2 hc1 ⊢
  generalize d.base = bs at *
  obtain ⟨n, hn⟩ : ∃ n, n = L.length := ⟨_, rfl⟩
  have HNn := Lib.hid hn
  rw [← hn] at HI hn2 hc1 ⊢
  clear hL hn d
  have hn3 : (n : Int) ≤ 9223372036854775807 := by omega
  obtain ⟨w0, hw0⟩ : ∃ w0, (w.alloc (.cells #[.string nm, .bool bs, .slice p n c] 30)).alloc (.cells #[.string ⟨#[]⟩, .bool false, .slice none 0 0] 30) = w0 := ⟨_, rfl⟩
  have HB := Lib.hid (show Below w.heap.size w w0 by rw [← hw0]; exact below_box2 w _ _)
  have hx := two_newA w (.cells #[.string nm, .bool bs, .slice p n c] 30) (.cells #[.string ⟨#[]⟩, .bool false, .slice none 0 0] 30)
  rw [hw0] at hx
  have HX := Lib.hid hx
  have HW0 := Lib.hid hw0
  clear hw0 hx
  go_enter Tryz.func8, Tryz.ntmps8
  go_wp2_with fail
  try rw [HW0.out]
  refine (ltext_any _ _).mono ?_
  rintro y w1 ⟨rfl, rfl⟩
  obtain ⟨⟨d0, d1, d2⟩, g0, g1, g2⟩ := cells3 HX.out.1
  obtain ⟨⟨b0, b1, b2⟩, k0, k1, k2⟩ := cells3 HX.out.2
  obtain ⟨wA, hwA⟩ : ∃ wA, w0.setCell ⟨w.heap.size, 0, none⟩ (.string (cutB nm)) = wA := ⟨_, rfl⟩
  have HA0 := Lib.hid (show wA.heap[w.heap.size]? = some (.cells #[.string (cutB nm), .bool bs, .slice p n c] 30 (0, 0)) by rw [← hwA]; exact Go.heap_setCell_same _ w.heap.size 0 _ _ _ HX.out.1)
  have HA1 := Lib.hid (show wA.heap[w.heap.size + 1]? = some (.cells #[.string ⟨#[]⟩, .bool false, .slice none 0 0] 30 (0, 0)) by rw [← hwA]; exact (heap_setCell_other _ ⟨w.heap.size, 0, none⟩ _ _ (by simp)).trans HX.out.2)
  have HBA := Lib.hid (show Below w.heap.size w wA by rw [← hwA]; exact HB.out.setCell (p := ⟨w.heap.size, 0, none⟩) (Nat.le_refl _) _)
  obtain ⟨⟨i0, i1, i2⟩, if0, if1, if2⟩ := cells3 HA0.out
  obtain ⟨⟨j0, j1, j2⟩, jf0, jf1, jf2⟩ := cells3 HA1.out
  have HWA := Lib.hid hwA
  clear hwA
  by_cases hgo : 12 < n
  · have hgt : (12 : Int) < (n : Int) := by omega
    have hle12 : (12 : Int) ≤ (n : Int) := by omega
    have hle12' : (12 : Int) ≤ (c : Int) := by omega
    have hcn : 12 ≤ c := by omega
    have HF : Hid (RowIn tyY S wO (.slice p 12 c) (L.take 12)) := Lib.hid (HI.out.cut (by have := HNn.out; omega))
    go_wp2_with fail
    have hr2 := (heap_setCell_other (w0.setCell ⟨w.heap.size, 0, none⟩ (.string (cutB nm))) ⟨w.heap.size, 2, none⟩ (w.heap.size + 1) (.slice p 12 c) (show w.heap.size + 1 ≠ w.heap.size by omega)).trans ((heap_setCell_other w0 ⟨w.heap.size, 0, none⟩ (w.heap.size + 1) (.string (cutB nm)) (show w.heap.size + 1 ≠ w.heap.size by omega)).trans HX.out.2)
    refine bodyPost_ret (results_cell_row (fn := Tryz.f8) (by rfl) _ _ _ _ _ _ _ (by rfl) (rowS3_set hr2) Tryz.underlying30 (by rfl) (by kernel_rfl)) (by rfl) ?_
    have hbf := (((((HB.out.setCell (p := ⟨w.heap.size, 0, none⟩) (Nat.le_refl _) (.string (cutB nm))).setCell (p := ⟨w.heap.size, 2, none⟩) (Nat.le_refl _) (.slice p 12 c)).setCell (p := ⟨w.heap.size + 1, 0, none⟩) (by simp) (.string (cutB nm))).setCell (p := ⟨w.heap.size + 1, 1, none⟩) (by simp) (.bool bs)).setCell (p := ⟨w.heap.size + 1, 2, none⟩) (by simp) (.slice p 12 c))
    exact ⟨⟨_, rfl, HF.out⟩, hbf⟩
  · have hgt : ¬ (12 : Int) < (n : Int) := by omega
    have HF : Hid (RowIn tyY S wO (.slice p n c) (L.take 12)) := Lib.hid (by rw [List.take_of_length_le (by have := HNn.out; omega)]; exact HI.out)
    go_wp2_with fail
    have hr2 := (heap_setCell_other w0 ⟨w.heap.size, 0, none⟩ (w.heap.size + 1) (.string (cutB nm)) (show w.heap.size + 1 ≠ w.heap.size by omega)).trans HX.out.2
    refine bodyPost_ret (results_cell_row (fn := Tryz.f8) (by rfl) _ _ _ _ _ _ _ (by rfl) (rowS3_set hr2) Tryz.underlying30 (by rfl) (by kernel_rfl)) (by rfl) ?_
    have hbf := ((((HB.out.setCell (p := ⟨w.heap.size, 0, none⟩) (Nat.le_refl _) (.string (cutB nm))).setCell (p := ⟨w.heap.size + 1, 0, none⟩) (by simp) (.string (cutB nm))).setCell (p := ⟨w.heap.size + 1, 1, none⟩) (by simp) (.bool bs)).setCell (p := ⟨w.heap.size + 1, 2, none⟩) (by simp) (.slice p n c))
    exact ⟨⟨_, rfl, HF.out⟩, hbf⟩
end
section
open Go Go.RowKit Go.Shelf

def cutP (p : PrL) : PrL := ⟨(p.decls.take 12).map cutD, (p.ons.take 8).map cutO, (p.rules.take 12).map cutR⟩
set_option maxRecDepth 100000 in
set_option maxHeartbeats 80000000 in
theorem lprog_any (p : PrL) (u v x : Value) (wO w : World) (h1 : RowIn (dfY wO) (fun _ => True) w u p.decls) (h2 : RowIn onY (fun _ => True) w v p.ons) (h3 : RowIn ruY (fun _ => True) w x p.rules) :
    Calls Tryz.prog 17 #[.agg #[u, v, x]] w fun e w' => (∃ a b c, e = .returned (.agg #[a, b, c]) ∧ RowIn (dfY wO) (fun k => w.heap.size ≤ k) w' a (cutP p).decls ∧ RowIn onY (fun k => w.heap.size ≤ k) w' b (cutP p).ons ∧ RowIn ruY (fun k => w.heap.size ≤ k) w' c (cutP p).rules) ∧ Below w.heap.size w w' := by
  have HI1 := Lib.hid h1
  have HI2 := Lib.hid h2
  have HI3 := Lib.hid h3
  have hm1 := len_le h1
  have hm2 := len_le h2
  have hm3 := len_le h3
  obtain ⟨q1, k1, rfl⟩ := h1.shape
  obtain ⟨q2, k2, rfl⟩ := h2.shape
  obtain ⟨q3, k3, rfl⟩ := h3.shape
  obtain ⟨L1, hL1⟩ : ∃ L, L = p.decls := ⟨_, rfl⟩
  obtain ⟨L2, hL2⟩ : ∃ L, L = p.ons := ⟨_, rfl⟩
  obtain ⟨L3, hL3⟩ : ∃ L, L = p.rules := ⟨_, rfl⟩
  rw [show (cutP p).decls = (L1.take 12).map cutD by rw [hL1]; rfl, show (cutP p).ons = (L2.take 8).map cutO by rw [hL2]; rfl, show (cutP p).rules = (L3.take 12).map cutR by rw [hL3]; rfl]
  rw [← hL1] at HI1 hm1 ⊢
  rw [← hL2] at HI2 hm2 ⊢
  rw [← hL3] at HI3 hm3 ⊢
  obtain ⟨n1, hn1⟩ : ∃ n, n = L1.length := ⟨_, rfl⟩
  obtain ⟨n2, hn2⟩ : ∃ n, n = L2.length := ⟨_, rfl⟩
  obtain ⟨n3, hn3⟩ : ∃ n, n = L3.length := ⟨_, rfl⟩
  have HN1 := Lib.hid hn1
  have HN2 := Lib.hid hn2
  have HN3 := Lib.hid hn3
  rw [← hn1] at HI1 hm1 ⊢
  rw [← hn2] at HI2 hm2 ⊢
  rw [← hn3] at HI3 hm3 ⊢
  have hi1 : (n1 : Int) ≤ 9223372036854775807 := by omega
  have hi2 : (n2 : Int) ≤ 9223372036854775807 := by omega
  have hi3 : (n3 : Int) ≤ 9223372036854775807 := by omega
  clear h1 h2 h3 hm1 hm2 hm3 hL1 hL2 hL3 hn1 hn2 hn3 p
  obtain ⟨w0, hw0⟩ : ∃ w0, ((w.alloc (.cells #[.slice q1 n1 k1, .slice q2 n2 k2, .slice q3 n3 k3] 49)).alloc (.cells #[.slice none 0 0, .slice none 0 0, .slice none 0 0] 49)).alloc (.cells #[.slice none 0 0, .slice none 0 0, .slice none 0 0] 49) = w0 := ⟨_, rfl⟩
  have hs0 : w0.heap.size = w.heap.size + 3 := by rw [← hw0]; simp
  have HBS1 := Lib.hid (show Below w.heap.size w w0 by rw [← hw0]; exact below_box3 w _ _ _)
  have hx := three_new w (.cells #[.slice q1 n1 k1, .slice q2 n2 k2, .slice q3 n3 k3] 49) (.cells #[.slice none 0 0, .slice none 0 0, .slice none 0 0] 49) (.cells #[.slice none 0 0, .slice none 0 0, .slice none 0 0] 49)
  rw [hw0] at hx
  have HX1 := Lib.hid (And.intro hx.1 hx.2.1)
  have HS1 : Hid (CpR (dfY wO) 30 w.heap.size w0.heap.size (w.heap.size + 2) w0 (fun y => .cells #[y, .slice none 0 0, .slice none 0 0] 49) ((L1.take 0).map cutD) (.slice none 0 0) w0) := Lib.hid (CpR.zero (by omega) (by omega) hx.2.2)
  have HW0 := Lib.hid hw0
  clear hw0 hx
  go_enter Tryz.func17, Tryz.ntmps17
  go_wp2_with fail
  rw [HW0.out]
  go_loopw [4] (fun i wr => ∃ (k : Nat) (v' : Value), k ≤ n1 ∧ k ≤ 12 ∧ i = .int .i64 k ∧ Hid (CpR (dfY wO) 30 w.heap.size w0.heap.size (w.heap.size + 2) w0 (fun y => .cells #[y, .slice none 0 0, .slice none 0 0] 49) ((L1.take k).map cutD) v' wr)) (fun i _ => n1 - (intOf i).toNat)
  case atStart => exact ⟨0, _, Nat.zero_le _, Nat.zero_le _, rfl, HS1⟩
  case round =>
    obtain ⟨k, v', hk, hkm, rfl, HJ⟩ := hrel
    have h0 : (0 : Int) ≤ (k : Int) := by omega
    have HX0 := Lib.hid ((HJ.out.frame w.heap.size (by omega) (by omega)).trans HX1.out.1)
    obtain ⟨⟨c0, c1, c2⟩, f0, f1, f2⟩ := cells3 HX0.out
    by_cases hgo : k < n1 ∧ k < 12
    · obtain ⟨⟨d0, d1, d2⟩, g0, g1, g2⟩ := cells3 HJ.out.x
      have hlt' : (k : Int) < (n1 : Int) := by omega
      have hlm : (k : Int) < 12 := by omega
      have hkn : k < L1.length := by rw [← HN1.out]; exact hgo.1
      have HStep := Lib.hid (take_map_succ (f := cutD) hkn)
      obtain ⟨b, off, c1', us, e1, hbl, hu, hc⟩ := row_at HI1.out hkn
      injection e1 with e1 hq1 hq2
      subst e1
      clear hq1 hq2
      obtain ⟨X, hX⟩ : ∃ X, X = L1[k] := ⟨_, rfl⟩
      rw [← hX] at hu HStep
      clear hX
      obtain ⟨u', rfl, hu'⟩ := hu
      have HBr := Lib.hid (show Below w.heap.size w wr from HBS1.out.trans HJ.out.below)
      have HLt : Hid (∀ W, Below wr.heap.size wr W → Calls Tryz.prog 8 #[.agg #[.string ⟨X.name.toArray⟩, .bool X.base, u']] W fun e w' => (∃ v, e = .returned (.agg #[.string ⟨(cutD X).name.toArray⟩, .bool (cutD X).base, v]) ∧ RowIn tyY (fun _ => True) wO v (cutD X).types) ∧ Below W.heap.size W w') := Lib.hid (fun W hb => ldeclw_any X u' _ wO W hu')
      obtain ⟨pu, cu, rfl⟩ := hu'.shape
      have hbw : ∀ o, wr.cell? ⟨b, o, none⟩ = w.cell? ⟨b, o, none⟩ := fun o => HBr.out.cell (p := ⟨b, o, none⟩) hbl
      have a0 : wr.cell? ⟨b, off + k * 3, none⟩ = some (.string ⟨X.name.toArray⟩) := (hbw _).trans (hc 0 _ rfl)
      have a1 : wr.cell? ⟨b, off + k * 3 + 1, none⟩ = some (.bool X.base) := (hbw _).trans (hc 1 _ rfl)
      have a2 : wr.cell? ⟨b, off + k * 3 + 2, none⟩ = some (.slice pu X.types.length cu) := (hbw _).trans (hc 2 _ rfl)
      have HEl := Lib.hid (And.intro (show b < wr.heap.size from Nat.lt_of_lt_of_le hbl HBr.out.size) (And.intro a0 (And.intro a1 a2)))
      obtain ⟨Z, hZ⟩ : ∃ Z, Z = cutD X := ⟨_, rfl⟩
      rw [← hZ] at HLt HStep
      clear hZ hc hbw hbl hu' hgo
      obtain ⟨Tk, hT⟩ : ∃ Tk, Tk = (L1.take k).map cutD := ⟨_, rfl⟩
      have HTl := Lib.hid (show Tk.length ≤ 1000000 by rw [hT, List.length_map, List.length_take]; omega)
      rw [← hT] at HJ HStep
      clear hT
      obtain ⟨p', c'', rfl⟩ := HJ.out.shape
      go_wp2_with fail
      have HS := Lib.hid ((Below.refl wr.heap.size wr).drew)
      refine Till.begin (S := fun X => Below wr.heap.size wr X) (z := 9) (by kernel_rfl) ?_
      refine Till.takeY 0 18 (v := ?_) rfl rfl (by kernel_rfl) (by kernel_rfl) (by kernel_rfl) (by decide) (fun _ _ _ h => h) (by kernel_rfl) ?_ (fun _ => HS.out) (by first | (simp only [put_norm]; exact rfl) | exact rfl) ?_
      rotate_left
      · rintro X0 -
        go_simp; try (with_reducible rfl)
      refine Till.takeY 2 20 (v := ?_) rfl rfl (by kernel_rfl) (by kernel_rfl) (by kernel_rfl) (by decide) (fun _ _ _ h => h) (by kernel_rfl) ?_ (fun _ => HS.out) (by first | (simp only [put_norm]; exact rfl) | exact rfl) ?_
      rotate_left
      · rintro X0 -
        go_simp; try (with_reducible rfl)
      refine Till.takeY 4 22 (v := ?_) rfl rfl (by kernel_rfl) (by kernel_rfl) (by kernel_rfl) (by decide) (fun _ _ _ h => h) (by kernel_rfl) ?_ (fun _ => HS.out) (by first | (simp only [put_norm]; exact rfl) | exact rfl) ?_
      rotate_left
      · rintro X0 -
        go_simp; try (with_reducible rfl)
      refine Till.take [9] 1 19 (v := ?_) rfl rfl (by kernel_rfl) (by kernel_rfl) (by kernel_rfl) (by kernel_rfl) (fun _ _ _ h => h) (by kernel_rfl) ?_ HS.out (by first | (simp only [put_norm]; exact rfl) | exact rfl) ?_
      rotate_left
      · rintro X0 s0
        obtain ⟨⟨x0, x1, x2⟩, -⟩ := cells3 ((s0.block (w.heap.size + 2) (by have := HJ.out.lt; have := HJ.out.size; omega)).trans HJ.out.x)
        clear s0
        go_simp; try (with_reducible rfl)
      refine Till.take [5, 6, 7, 8, 9] 3 21 (v := ?_) rfl rfl (by kernel_rfl) (by kernel_rfl) (by kernel_rfl) (by kernel_rfl) (fun _ _ _ h => h) (by kernel_rfl) ?_ HS.out (by first | (simp only [put_norm]; exact rfl) | exact rfl) ?_
      rotate_left
      · rintro X0 s0
        obtain ⟨⟨x0, x1, x2⟩, -⟩ := cells3 ((s0.block w.heap.size (by have := HJ.out.lt; have := HJ.out.size; omega)).trans HX0.out)
        clear s0
        go_simp; try (with_reducible rfl)
      refine Till.takeY 5 23 (v := ?_) rfl rfl (by kernel_rfl) (by kernel_rfl) (by kernel_rfl) (by decide) (fun _ _ _ h => h) (by kernel_rfl) ?_ (fun _ => HS.out) (by first | (simp only [put_norm]; exact rfl) | exact rfl) ?_
      rotate_left
      · rintro X0 -
        go_simp; try (with_reducible rfl)
      refine Till.take [7, 8, 9] 6 24 (v := ?_) rfl rfl (by kernel_rfl) (by kernel_rfl) (by kernel_rfl) (by kernel_rfl) (fun _ _ _ h => h) (by kernel_rfl) ?_ HS.out (by first | (simp only [put_norm]; exact rfl) | exact rfl) ?_
      rotate_left
      · rintro X0 s0
        have y0 := (s0.cell (p := ⟨b, off + k * 3, none⟩) HEl.out.1).trans HEl.out.2.1; have y1 := (s0.cell (p := ⟨b, off + k * 3 + 1, none⟩) HEl.out.1).trans HEl.out.2.2.1; have y2 := (s0.cell (p := ⟨b, off + k * 3 + 2, none⟩) HEl.out.1).trans HEl.out.2.2.2
        clear s0
        go_simp; try (with_reducible rfl)
      refine Till.one 7 (by kernel_rfl) rfl (fun K hK => ?_)
      go_simp
      go_at_call 8
      refine (HLt.out _ HS.out).mono ?_
      rintro y w3 ⟨⟨v3, rfl, hv3⟩, hb3⟩
      obtain ⟨p3, c3, rfl⟩ := hv3.shape
      have HS3 := Lib.hid (show Below wr.heap.size wr w3 from HS.out.trans hb3)
      have HJ3 := Lib.hid (HJ.out.on HS3.out)
      have HIs : Hid ((dfY wO).is (fun k => w0.heap.size ≤ k ∧ (Value.slice p' Tk.length c'').ownBlock ≠ some k) (w3.alloc (.cells #[.string ⟨Z.name.toArray⟩, .bool Z.base, .slice p3 Z.types.length c3] 30)) [.string ⟨Z.name.toArray⟩, .bool Z.base, .slice p3 Z.types.length c3] Z) := Lib.hid ⟨_, rfl, hv3⟩
      clear hb3 hv3
      go_simp
      refine hK.out _ _ (fun _ => HS3.out) ?_
      clear hK K
      try simp only [put_norm]
      refine Till.one 8 (by kernel_rfl) rfl (fun K hK => ?_)
      go_simp
      have HL3 := Lib.hid (HJ3.out.lit (.cells #[.string ⟨Z.name.toArray⟩, .bool Z.base, .slice p3 Z.types.length c3] 30))
      have HS4 := Lib.hid (HS3.out.alloc HS3.out.size (.cells #[.string ⟨Z.name.toArray⟩, .bool Z.base, .slice p3 Z.types.length c3] 30))
      refine hK.out _ _ (fun _ => HS4.out) ?_
      clear hK K
      try simp only [put_norm]
      refine Till.one 9 (by kernel_rfl) rfl (fun K hK => ?_)
      refine step_appY (dfY wO) rfl (.tmp 19) (.tmp 26) 45 30 rfl w0.heap.size (.agg #[.string ⟨#[]⟩, .bool false, .slice none 0 0]) 48 Tryz.underlying45 Tryz.infoDe rfl (show 0 < 3 by decide) (by decide) _ Tk Z [.string ⟨Z.name.toArray⟩, .bool Z.base, .slice p3 Z.types.length c3] w3.heap.size 1 rfl rfl HL3.out.own HIs.out (lit_rowcells w3 [.string ⟨Z.name.toArray⟩, .bool Z.base, .slice p3 Z.types.length c3] _) HTl.out HL3.out.size ?_
      intro v4 w4 ho hg hv4
      obtain ⟨p4, n4, c4, rfl, hn4⟩ := rowOwn_shape ho
      have HA4 := Lib.hid (HL3.out.app ho hg)
      obtain ⟨⟨j0, j1, j2⟩, jf0, jf1, jf2⟩ := cells3 HA4.out.x
      clear ho hg hv4 hn4
      refine hK.out _ _ (fun h => nomatch (show (true : Bool) = false from h)) ?_
      clear hK K
      try simp only [put_norm]
      refine Till.takeY 10 28 (v := ?_) rfl rfl (by kernel_rfl) (by kernel_rfl) (by kernel_rfl) (by decide) (fun _ _ _ h => h) (by kernel_rfl) ?_ (fun h => nomatch (show (true : Bool) = false from h)) (by first | (simp only [put_norm]; exact rfl) | exact rfl) ?_
      rotate_left
      · rintro X0 -
        go_simp; try (with_reducible rfl)
      refine Till.one 11 (by kernel_rfl) rfl (fun K hK => ?_)
      go_simp
      refine hK.out _ _ (fun h => nomatch (show (true : Bool) = false from h)) ?_
      clear hK K
      try simp only [put_norm]
      refine Till.done (by kernel_rfl) ?_ _
      go_wp2_with fail
      go_roundw
      case rel =>
        refine ⟨k + 1, .slice p4 n4 c4, by omega, by omega, by go_num, Lib.hid ?_⟩
        rw [HStep.out]
        exact CpB.put HA4.out rfl rfl
      case measure => simp [intOf]; omega
    · have HT := Lib.hid (take_end (f := cutD) HN1.out hk hkm hgo)
      have hcase : ((k : Int) < (n1 : Int) ∧ ¬ (k : Int) < 12) ∨ ¬ (k : Int) < (n1 : Int) := by omega
      have hsz1 : w0.heap.size ≤ wr.heap.size := HJ.out.size
      have HX2 := Lib.hid (And.intro HX0.out ((HJ.out.frame (w.heap.size + 1) (by omega) (by omega)).trans HX1.out.2))
      have HBS2 := Lib.hid (show Below w.heap.size w wr from HBS1.out.trans HJ.out.below)
      have HP1 : Hid (RowIn (dfY wO) (fun j => w0.heap.size ≤ j) wr v' ((L1.take 12).map cutD)) := Lib.hid (by rw [← HT.out]; exact HJ.out.own.in_)
      obtain ⟨pv1, vn1, cv1, rfl, -⟩ := rowOwn_shape HJ.out.own
      have HS2 : Hid (CpR onY 34 w.heap.size wr.heap.size (w.heap.size + 2) wr (fun y => .cells #[.slice pv1 vn1 cv1, y, .slice none 0 0] 49) ((L2.take 0).map cutO) (.slice none 0 0) wr) := Lib.hid (CpR.zero (by omega) (by omega) HJ.out.x)
      clear HT hgo hk hkm
      rcases hcase with ⟨hlt', hlm⟩ | hlt'
      all_goals
        clear HJ
        go_wp2_with fail
        clear c0 c1 c2 f0 f1 f2 HX0
        generalize wr = wA at *
        go_loopw [5] (fun i wr => ∃ (k : Nat) (v' : Value), k ≤ n2 ∧ k ≤ 8 ∧ i = .int .i64 k ∧ Hid (CpR onY 34 w.heap.size wA.heap.size (w.heap.size + 2) wA (fun y => .cells #[.slice pv1 vn1 cv1, y, .slice none 0 0] 49) ((L2.take k).map cutO) v' wr)) (fun i _ => n2 - (intOf i).toNat)
        case atStart => exact ⟨0, _, Nat.zero_le _, Nat.zero_le _, rfl, HS2⟩
        case round =>
          clear hlt'
          obtain ⟨k, v', hk, hkm, rfl, HJ⟩ := hrel
          have h0 : (0 : Int) ≤ (k : Int) := by omega
          have HX0 := Lib.hid ((HJ.out.frame w.heap.size (by omega) (by omega)).trans HX2.out.1)
          obtain ⟨⟨c0, c1, c2⟩, f0, f1, f2⟩ := cells3 HX0.out
          by_cases hgo : k < n2 ∧ k < 8
          · obtain ⟨⟨d0, d1, d2⟩, g0, g1, g2⟩ := cells3 HJ.out.x
            have hlt' : (k : Int) < (n2 : Int) := by omega
            have hlm : (k : Int) < 8 := by omega
            have hkn : k < L2.length := by rw [← HN2.out]; exact hgo.1
            have HStep := Lib.hid (take_map_succ (f := cutO) hkn)
            obtain ⟨b, off, c1', us, e1, hbl, hu, hc⟩ := row_at HI2.out hkn
            injection e1 with e1 hq1 hq2
            subst e1
            clear hq1 hq2
            obtain ⟨X, hX⟩ : ∃ X, X = L2[k] := ⟨_, rfl⟩
            rw [← hX] at hu HStep
            clear hX
            obtain ⟨u', v'', rfl, hu', hv'⟩ := hu
            have HBr := Lib.hid (show Below w.heap.size w wr from HBS2.out.trans HJ.out.below)
            have HLt : Hid (∀ W, Below wr.heap.size wr W → Calls Tryz.prog 9 #[.agg #[.string ⟨X.event.toArray⟩, u', v'']] W fun e w' => (∃ v y, e = .returned (.agg #[.string ⟨(cutO X).event.toArray⟩, v, y]) ∧ RowIn paY (fun k => W.heap.size ≤ k) w' v (cutO X).params ∧ RowIn acY (fun k => W.heap.size ≤ k) w' y (cutO X).acts) ∧ Below W.heap.size W w') := Lib.hid (fun W hb => lon_any X u' v'' _ W ((hu'.in_below HBr.out).in_below hb) ((hv'.in_below HBr.out).in_below hb))
            obtain ⟨pu, cu, rfl⟩ := hu'.shape
            obtain ⟨qu, du, rfl⟩ := hv'.shape
            have hbw : ∀ o, wr.cell? ⟨b, o, none⟩ = w.cell? ⟨b, o, none⟩ := fun o => HBr.out.cell (p := ⟨b, o, none⟩) hbl
            have a0 : wr.cell? ⟨b, off + k * 3, none⟩ = some (.string ⟨X.event.toArray⟩) := (hbw _).trans (hc 0 _ rfl)
            have a1 : wr.cell? ⟨b, off + k * 3 + 1, none⟩ = some (.slice pu X.params.length cu) := (hbw _).trans (hc 1 _ rfl)
            have a2 : wr.cell? ⟨b, off + k * 3 + 2, none⟩ = some (.slice qu X.acts.length du) := (hbw _).trans (hc 2 _ rfl)
            have HEl := Lib.hid (And.intro (show b < wr.heap.size from Nat.lt_of_lt_of_le hbl HBr.out.size) (And.intro a0 (And.intro a1 a2)))
            obtain ⟨Z, hZ⟩ : ∃ Z, Z = cutO X := ⟨_, rfl⟩
            rw [← hZ] at HLt HStep
            clear hZ hc hbw hbl hu' hv' hgo
            obtain ⟨Tk, hT⟩ : ∃ Tk, Tk = (L2.take k).map cutO := ⟨_, rfl⟩
            have HTl := Lib.hid (show Tk.length ≤ 1000000 by rw [hT, List.length_map, List.length_take]; omega)
            rw [← hT] at HJ HStep
            clear hT
            obtain ⟨p', c'', rfl⟩ := HJ.out.shape
            go_wp2_with fail
            have HS := Lib.hid ((Below.refl wr.heap.size wr).drew)
            refine Till.begin (S := fun X => Below wr.heap.size wr X) (z := 9) (by kernel_rfl) ?_
            refine Till.takeY 0 40 (v := ?_) rfl rfl (by kernel_rfl) (by kernel_rfl) (by kernel_rfl) (by decide) (fun _ _ _ h => h) (by kernel_rfl) ?_ (fun _ => HS.out) (by first | (simp only [put_norm]; exact rfl) | exact rfl) ?_
            rotate_left
            · rintro X0 -
              go_simp; try (with_reducible rfl)
            refine Till.takeY 2 42 (v := ?_) rfl rfl (by kernel_rfl) (by kernel_rfl) (by kernel_rfl) (by decide) (fun _ _ _ h => h) (by kernel_rfl) ?_ (fun _ => HS.out) (by first | (simp only [put_norm]; exact rfl) | exact rfl) ?_
            rotate_left
            · rintro X0 -
              go_simp; try (with_reducible rfl)
            refine Till.takeY 4 44 (v := ?_) rfl rfl (by kernel_rfl) (by kernel_rfl) (by kernel_rfl) (by decide) (fun _ _ _ h => h) (by kernel_rfl) ?_ (fun _ => HS.out) (by first | (simp only [put_norm]; exact rfl) | exact rfl) ?_
            rotate_left
            · rintro X0 -
              go_simp; try (with_reducible rfl)
            refine Till.take [9] 1 41 (v := ?_) rfl rfl (by kernel_rfl) (by kernel_rfl) (by kernel_rfl) (by kernel_rfl) (fun _ _ _ h => h) (by kernel_rfl) ?_ HS.out (by first | (simp only [put_norm]; exact rfl) | exact rfl) ?_
            rotate_left
            · rintro X0 s0
              obtain ⟨⟨x0, x1, x2⟩, -⟩ := cells3 ((s0.block (w.heap.size + 2) (by have := HJ.out.lt; have := HJ.out.size; omega)).trans HJ.out.x)
              clear s0
              go_simp; try (with_reducible rfl)
            refine Till.take [5, 6, 7, 8, 9] 3 43 (v := ?_) rfl rfl (by kernel_rfl) (by kernel_rfl) (by kernel_rfl) (by kernel_rfl) (fun _ _ _ h => h) (by kernel_rfl) ?_ HS.out (by first | (simp only [put_norm]; exact rfl) | exact rfl) ?_
            rotate_left
            · rintro X0 s0
              obtain ⟨⟨x0, x1, x2⟩, -⟩ := cells3 ((s0.block w.heap.size (by have := HJ.out.lt; have := HJ.out.size; omega)).trans HX0.out)
              clear s0
              go_simp; try (with_reducible rfl)
            refine Till.takeY 5 45 (v := ?_) rfl rfl (by kernel_rfl) (by kernel_rfl) (by kernel_rfl) (by decide) (fun _ _ _ h => h) (by kernel_rfl) ?_ (fun _ => HS.out) (by first | (simp only [put_norm]; exact rfl) | exact rfl) ?_
            rotate_left
            · rintro X0 -
              go_simp; try (with_reducible rfl)
            refine Till.take [7, 8, 9] 6 46 (v := ?_) rfl rfl (by kernel_rfl) (by kernel_rfl) (by kernel_rfl) (by kernel_rfl) (fun _ _ _ h => h) (by kernel_rfl) ?_ HS.out (by first | (simp only [put_norm]; exact rfl) | exact rfl) ?_
            rotate_left
            · rintro X0 s0
              have y0 := (s0.cell (p := ⟨b, off + k * 3, none⟩) HEl.out.1).trans HEl.out.2.1; have y1 := (s0.cell (p := ⟨b, off + k * 3 + 1, none⟩) HEl.out.1).trans HEl.out.2.2.1; have y2 := (s0.cell (p := ⟨b, off + k * 3 + 2, none⟩) HEl.out.1).trans HEl.out.2.2.2
              clear s0
              go_simp; try (with_reducible rfl)
            refine Till.one 7 (by kernel_rfl) rfl (fun K hK => ?_)
            go_simp
            go_at_call 9
            refine (HLt.out _ HS.out).mono ?_
            rintro y w3 ⟨⟨v3, u3, rfl, hv3, hu3⟩, hb3⟩
            obtain ⟨p3, c3, rfl⟩ := hv3.shape
            obtain ⟨q3, d3, rfl⟩ := hu3.shape
            have HS3 := Lib.hid (show Below wr.heap.size wr w3 from HS.out.trans hb3)
            have HJ3 := Lib.hid (HJ.out.on HS3.out)
            have HIs : Hid (onY.is (fun k => wA.heap.size ≤ k ∧ (Value.slice p' Tk.length c'').ownBlock ≠ some k) (w3.alloc (.cells #[.string ⟨Z.event.toArray⟩, .slice p3 Z.params.length c3, .slice q3 Z.acts.length d3] 34)) [.string ⟨Z.event.toArray⟩, .slice p3 Z.params.length c3, .slice q3 Z.acts.length d3] Z) := Lib.hid ⟨_, _, rfl, hv3.keep (by simp) fun k hk hl => ⟨⟨Nat.le_trans HJ.out.size (by simpa using hk), fun e => by have h1 := (HJ.out.own.lt k e).2; simp at hk; omega⟩, Below.heap_alloc _ _ _ hl⟩, hu3.keep (by simp) fun k hk hl => ⟨⟨Nat.le_trans HJ.out.size (by simpa using hk), fun e => by have h1 := (HJ.out.own.lt k e).2; simp at hk; omega⟩, Below.heap_alloc _ _ _ hl⟩⟩
            clear hb3 hv3 hu3
            go_simp
            refine hK.out _ _ (fun _ => HS3.out) ?_
            clear hK K
            try simp only [put_norm]
            refine Till.one 8 (by kernel_rfl) rfl (fun K hK => ?_)
            go_simp
            have HL3 := Lib.hid (HJ3.out.lit (.cells #[.string ⟨Z.event.toArray⟩, .slice p3 Z.params.length c3, .slice q3 Z.acts.length d3] 34))
            have HS4 := Lib.hid (HS3.out.alloc HS3.out.size (.cells #[.string ⟨Z.event.toArray⟩, .slice p3 Z.params.length c3, .slice q3 Z.acts.length d3] 34))
            refine hK.out _ _ (fun _ => HS4.out) ?_
            clear hK K
            try simp only [put_norm]
            refine Till.one 9 (by kernel_rfl) rfl (fun K hK => ?_)
            refine step_appY onY rfl (.tmp 41) (.tmp 48) 46 34 rfl wA.heap.size (.agg #[.string ⟨#[]⟩, .slice none 0 0, .slice none 0 0]) 64 Tryz.underlying46 Tryz.infoOn rfl (show 0 < 3 by decide) (by decide) _ Tk Z [.string ⟨Z.event.toArray⟩, .slice p3 Z.params.length c3, .slice q3 Z.acts.length d3] w3.heap.size 1 rfl rfl HL3.out.own HIs.out (lit_rowcells w3 [.string ⟨Z.event.toArray⟩, .slice p3 Z.params.length c3, .slice q3 Z.acts.length d3] _) HTl.out HL3.out.size ?_
            intro v4 w4 ho hg hv4
            obtain ⟨p4, n4, c4, rfl, hn4⟩ := rowOwn_shape ho
            have HA4 := Lib.hid (HL3.out.app ho hg)
            obtain ⟨⟨j0, j1, j2⟩, jf0, jf1, jf2⟩ := cells3 HA4.out.x
            clear ho hg hv4 hn4
            refine hK.out _ _ (fun h => nomatch (show (true : Bool) = false from h)) ?_
            clear hK K
            try simp only [put_norm]
            refine Till.takeY 10 50 (v := ?_) rfl rfl (by kernel_rfl) (by kernel_rfl) (by kernel_rfl) (by decide) (fun _ _ _ h => h) (by kernel_rfl) ?_ (fun h => nomatch (show (true : Bool) = false from h)) (by first | (simp only [put_norm]; exact rfl) | exact rfl) ?_
            rotate_left
            · rintro X0 -
              go_simp; try (with_reducible rfl)
            refine Till.one 11 (by kernel_rfl) rfl (fun K hK => ?_)
            go_simp
            refine hK.out _ _ (fun h => nomatch (show (true : Bool) = false from h)) ?_
            clear hK K
            try simp only [put_norm]
            refine Till.done (by kernel_rfl) ?_ _
            go_wp2_with fail
            go_roundw
            case rel =>
              refine ⟨k + 1, .slice p4 n4 c4, by omega, by omega, by go_num, Lib.hid ?_⟩
              rw [HStep.out]
              exact CpB.put HA4.out rfl rfl
            case measure => simp [intOf]; omega
          · have HT := Lib.hid (take_end (f := cutO) HN2.out hk hkm hgo)
            have hcase : ((k : Int) < (n2 : Int) ∧ ¬ (k : Int) < 8) ∨ ¬ (k : Int) < (n2 : Int) := by omega
            have hsz2 : wA.heap.size ≤ wr.heap.size := HJ.out.size
            have HX3 := Lib.hid (And.intro HX0.out ((HJ.out.frame (w.heap.size + 1) (by omega) (by omega)).trans HX2.out.2))
            have HBS3 := Lib.hid (show Below w.heap.size w wr from HBS2.out.trans HJ.out.below)
            have HP2 : Hid (RowIn onY (fun j => wA.heap.size ≤ j) wr v' ((L2.take 8).map cutO)) := Lib.hid (by rw [← HT.out]; exact HJ.out.own.in_)
            obtain ⟨pv2, vn2, cv2, rfl, -⟩ := rowOwn_shape HJ.out.own
            replace HP1 := Lib.hid (HP1.out.keep (S' := fun j => w0.heap.size ≤ j) HJ.out.below.size fun j hj hl => ⟨by omega, HJ.out.frame j hl (by omega)⟩)
            have HS3 : Hid (CpR ruY 27 w.heap.size wr.heap.size (w.heap.size + 2) wr (fun y => .cells #[.slice pv1 vn1 cv1, .slice pv2 vn2 cv2, y] 49) ((L3.take 0).map cutR) (.slice none 0 0) wr) := Lib.hid (CpR.zero (by omega) (by omega) HJ.out.x)
            clear HT hgo hk hkm
            rcases hcase with ⟨hlt', hlm⟩ | hlt'
            all_goals
              clear HJ
              go_wp2_with fail
              clear c0 c1 c2 f0 f1 f2 HX0
              generalize wr = wB at *
              go_loopw [6] (fun i wr => ∃ (k : Nat) (v' : Value), k ≤ n3 ∧ k ≤ 12 ∧ i = .int .i64 k ∧ Hid (CpR ruY 27 w.heap.size wB.heap.size (w.heap.size + 2) wB (fun y => .cells #[.slice pv1 vn1 cv1, .slice pv2 vn2 cv2, y] 49) ((L3.take k).map cutR) v' wr)) (fun i _ => n3 - (intOf i).toNat)
              case atStart => exact ⟨0, _, Nat.zero_le _, Nat.zero_le _, rfl, HS3⟩
              case round =>
                clear hlt'
                obtain ⟨k, v', hk, hkm, rfl, HJ⟩ := hrel
                have h0 : (0 : Int) ≤ (k : Int) := by omega
                have HX0 := Lib.hid ((HJ.out.frame w.heap.size (by omega) (by omega)).trans HX3.out.1)
                obtain ⟨⟨c0, c1, c2⟩, f0, f1, f2⟩ := cells3 HX0.out
                by_cases hgo : k < n3 ∧ k < 12
                · obtain ⟨⟨d0, d1, d2⟩, g0, g1, g2⟩ := cells3 HJ.out.x
                  have hlt' : (k : Int) < (n3 : Int) := by omega
                  have hlm : (k : Int) < 12 := by omega
                  have hkn : k < L3.length := by rw [← HN3.out]; exact hgo.1
                  have HStep := Lib.hid (take_map_succ (f := cutR) hkn)
                  obtain ⟨b, off, c1', us, e1, hbl, hu, hc⟩ := row_at HI3.out hkn
                  injection e1 with e1 hq1 hq2
                  subst e1
                  clear hq1 hq2
                  obtain ⟨X, hX⟩ : ∃ X, X = L3[k] := ⟨_, rfl⟩
                  rw [← hX] at hu HStep
                  clear hX
                  obtain ⟨u', v'', rfl, hu', hv'⟩ := hu
                  have HBr := Lib.hid (show Below w.heap.size w wr from HBS3.out.trans HJ.out.below)
                  have HLt : Hid (∀ W, Below wr.heap.size wr W → Calls Tryz.prog 7 #[.agg #[.string ⟨X.head.pred.toArray⟩, u', v'']] W fun e w' => (∃ v y, e = .returned (.agg #[.string ⟨(cutR X).head.pred.toArray⟩, v, y]) ∧ RowIn tmY (fun k => W.heap.size ≤ k) w' v (cutR X).head.args ∧ RowIn liY (fun k => W.heap.size ≤ k) w' y (cutR X).body) ∧ Below W.heap.size W w') := Lib.hid (fun W hb => lrule_any X u' v'' _ W ((hu'.in_below HBr.out).in_below hb) ((hv'.in_below HBr.out).in_below hb))
                  obtain ⟨pu, cu, rfl⟩ := hu'.shape
                  obtain ⟨qu, du, rfl⟩ := hv'.shape
                  have hbw : ∀ o, wr.cell? ⟨b, o, none⟩ = w.cell? ⟨b, o, none⟩ := fun o => HBr.out.cell (p := ⟨b, o, none⟩) hbl
                  have a0 : wr.cell? ⟨b, off + k * 3, none⟩ = some (.string ⟨X.head.pred.toArray⟩) := (hbw _).trans (hc 0 _ rfl)
                  have a1 : wr.cell? ⟨b, off + k * 3 + 1, none⟩ = some (.slice pu X.head.args.length cu) := (hbw _).trans (hc 1 _ rfl)
                  have a2 : wr.cell? ⟨b, off + k * 3 + 2, none⟩ = some (.slice qu X.body.length du) := (hbw _).trans (hc 2 _ rfl)
                  have HEl := Lib.hid (And.intro (show b < wr.heap.size from Nat.lt_of_lt_of_le hbl HBr.out.size) (And.intro a0 (And.intro a1 a2)))
                  obtain ⟨Z, hZ⟩ : ∃ Z, Z = cutR X := ⟨_, rfl⟩
                  rw [← hZ] at HLt HStep
                  clear hZ hc hbw hbl hu' hv' hgo
                  obtain ⟨Tk, hT⟩ : ∃ Tk, Tk = (L3.take k).map cutR := ⟨_, rfl⟩
                  have HTl := Lib.hid (show Tk.length ≤ 1000000 by rw [hT, List.length_map, List.length_take]; omega)
                  rw [← hT] at HJ HStep
                  clear hT
                  obtain ⟨p', c'', rfl⟩ := HJ.out.shape
                  go_wp2_with fail
                  have HS := Lib.hid ((Below.refl wr.heap.size wr).drew)
                  refine Till.begin (S := fun X => Below wr.heap.size wr X) (z := 9) (by kernel_rfl) ?_
                  refine Till.takeY 0 62 (v := ?_) rfl rfl (by kernel_rfl) (by kernel_rfl) (by kernel_rfl) (by decide) (fun _ _ _ h => h) (by kernel_rfl) ?_ (fun _ => HS.out) (by first | (simp only [put_norm]; exact rfl) | exact rfl) ?_
                  rotate_left
                  · rintro X0 -
                    go_simp; try (with_reducible rfl)
                  refine Till.takeY 2 64 (v := ?_) rfl rfl (by kernel_rfl) (by kernel_rfl) (by kernel_rfl) (by decide) (fun _ _ _ h => h) (by kernel_rfl) ?_ (fun _ => HS.out) (by first | (simp only [put_norm]; exact rfl) | exact rfl) ?_
                  rotate_left
                  · rintro X0 -
                    go_simp; try (with_reducible rfl)
                  refine Till.takeY 4 66 (v := ?_) rfl rfl (by kernel_rfl) (by kernel_rfl) (by kernel_rfl) (by decide) (fun _ _ _ h => h) (by kernel_rfl) ?_ (fun _ => HS.out) (by first | (simp only [put_norm]; exact rfl) | exact rfl) ?_
                  rotate_left
                  · rintro X0 -
                    go_simp; try (with_reducible rfl)
                  refine Till.take [9] 1 63 (v := ?_) rfl rfl (by kernel_rfl) (by kernel_rfl) (by kernel_rfl) (by kernel_rfl) (fun _ _ _ h => h) (by kernel_rfl) ?_ HS.out (by first | (simp only [put_norm]; exact rfl) | exact rfl) ?_
                  rotate_left
                  · rintro X0 s0
                    obtain ⟨⟨x0, x1, x2⟩, -⟩ := cells3 ((s0.block (w.heap.size + 2) (by have := HJ.out.lt; have := HJ.out.size; omega)).trans HJ.out.x)
                    clear s0
                    go_simp; try (with_reducible rfl)
                  refine Till.take [5, 6, 7, 8, 9] 3 65 (v := ?_) rfl rfl (by kernel_rfl) (by kernel_rfl) (by kernel_rfl) (by kernel_rfl) (fun _ _ _ h => h) (by kernel_rfl) ?_ HS.out (by first | (simp only [put_norm]; exact rfl) | exact rfl) ?_
                  rotate_left
                  · rintro X0 s0
                    obtain ⟨⟨x0, x1, x2⟩, -⟩ := cells3 ((s0.block w.heap.size (by have := HJ.out.lt; have := HJ.out.size; omega)).trans HX0.out)
                    clear s0
                    go_simp; try (with_reducible rfl)
                  refine Till.takeY 5 67 (v := ?_) rfl rfl (by kernel_rfl) (by kernel_rfl) (by kernel_rfl) (by decide) (fun _ _ _ h => h) (by kernel_rfl) ?_ (fun _ => HS.out) (by first | (simp only [put_norm]; exact rfl) | exact rfl) ?_
                  rotate_left
                  · rintro X0 -
                    go_simp; try (with_reducible rfl)
                  refine Till.take [7, 8, 9] 6 68 (v := ?_) rfl rfl (by kernel_rfl) (by kernel_rfl) (by kernel_rfl) (by kernel_rfl) (fun _ _ _ h => h) (by kernel_rfl) ?_ HS.out (by first | (simp only [put_norm]; exact rfl) | exact rfl) ?_
                  rotate_left
                  · rintro X0 s0
                    have y0 := (s0.cell (p := ⟨b, off + k * 3, none⟩) HEl.out.1).trans HEl.out.2.1; have y1 := (s0.cell (p := ⟨b, off + k * 3 + 1, none⟩) HEl.out.1).trans HEl.out.2.2.1; have y2 := (s0.cell (p := ⟨b, off + k * 3 + 2, none⟩) HEl.out.1).trans HEl.out.2.2.2
                    clear s0
                    go_simp; try (with_reducible rfl)
                  refine Till.one 7 (by kernel_rfl) rfl (fun K hK => ?_)
                  go_simp
                  go_at_call 7
                  refine (HLt.out _ HS.out).mono ?_
                  rintro y w3 ⟨⟨v3, u3, rfl, hv3, hu3⟩, hb3⟩
                  obtain ⟨p3, c3, rfl⟩ := hv3.shape
                  obtain ⟨q3, d3, rfl⟩ := hu3.shape
                  have HS3 := Lib.hid (show Below wr.heap.size wr w3 from HS.out.trans hb3)
                  have HJ3 := Lib.hid (HJ.out.on HS3.out)
                  have HIs : Hid (ruY.is (fun k => wB.heap.size ≤ k ∧ (Value.slice p' Tk.length c'').ownBlock ≠ some k) (w3.alloc (.cells #[.string ⟨Z.head.pred.toArray⟩, .slice p3 Z.head.args.length c3, .slice q3 Z.body.length d3] 27)) [.string ⟨Z.head.pred.toArray⟩, .slice p3 Z.head.args.length c3, .slice q3 Z.body.length d3] Z) := Lib.hid ⟨_, _, rfl, hv3.keep (by simp) fun k hk hl => ⟨⟨Nat.le_trans HJ.out.size (by simpa using hk), fun e => by have h1 := (HJ.out.own.lt k e).2; simp at hk; omega⟩, Below.heap_alloc _ _ _ hl⟩, hu3.keep (by simp) fun k hk hl => ⟨⟨Nat.le_trans HJ.out.size (by simpa using hk), fun e => by have h1 := (HJ.out.own.lt k e).2; simp at hk; omega⟩, Below.heap_alloc _ _ _ hl⟩⟩
                  clear hb3 hv3 hu3
                  go_simp
                  refine hK.out _ _ (fun _ => HS3.out) ?_
                  clear hK K
                  try simp only [put_norm]
                  refine Till.one 8 (by kernel_rfl) rfl (fun K hK => ?_)
                  go_simp
                  have HL3 := Lib.hid (HJ3.out.lit (.cells #[.string ⟨Z.head.pred.toArray⟩, .slice p3 Z.head.args.length c3, .slice q3 Z.body.length d3] 27))
                  have HS4 := Lib.hid (HS3.out.alloc HS3.out.size (.cells #[.string ⟨Z.head.pred.toArray⟩, .slice p3 Z.head.args.length c3, .slice q3 Z.body.length d3] 27))
                  refine hK.out _ _ (fun _ => HS4.out) ?_
                  clear hK K
                  try simp only [put_norm]
                  refine Till.one 9 (by kernel_rfl) rfl (fun K hK => ?_)
                  refine step_appY ruY rfl (.tmp 63) (.tmp 70) 47 27 rfl wB.heap.size (.agg #[.string ⟨#[]⟩, .slice none 0 0, .slice none 0 0]) 64 Tryz.underlying47 Tryz.infoRu rfl (show 0 < 3 by decide) (by decide) _ Tk Z [.string ⟨Z.head.pred.toArray⟩, .slice p3 Z.head.args.length c3, .slice q3 Z.body.length d3] w3.heap.size 1 rfl rfl HL3.out.own HIs.out (lit_rowcells w3 [.string ⟨Z.head.pred.toArray⟩, .slice p3 Z.head.args.length c3, .slice q3 Z.body.length d3] _) HTl.out HL3.out.size ?_
                  intro v4 w4 ho hg hv4
                  obtain ⟨p4, n4, c4, rfl, hn4⟩ := rowOwn_shape ho
                  have HA4 := Lib.hid (HL3.out.app ho hg)
                  obtain ⟨⟨j0, j1, j2⟩, jf0, jf1, jf2⟩ := cells3 HA4.out.x
                  clear ho hg hv4 hn4
                  refine hK.out _ _ (fun h => nomatch (show (true : Bool) = false from h)) ?_
                  clear hK K
                  try simp only [put_norm]
                  refine Till.takeY 10 72 (v := ?_) rfl rfl (by kernel_rfl) (by kernel_rfl) (by kernel_rfl) (by decide) (fun _ _ _ h => h) (by kernel_rfl) ?_ (fun h => nomatch (show (true : Bool) = false from h)) (by first | (simp only [put_norm]; exact rfl) | exact rfl) ?_
                  rotate_left
                  · rintro X0 -
                    go_simp; try (with_reducible rfl)
                  refine Till.one 11 (by kernel_rfl) rfl (fun K hK => ?_)
                  go_simp
                  refine hK.out _ _ (fun h => nomatch (show (true : Bool) = false from h)) ?_
                  clear hK K
                  try simp only [put_norm]
                  refine Till.done (by kernel_rfl) ?_ _
                  go_wp2_with fail
                  go_roundw
                  case rel =>
                    refine ⟨k + 1, .slice p4 n4 c4, by omega, by omega, by go_num, Lib.hid ?_⟩
                    rw [HStep.out]
                    exact CpB.put HA4.out rfl rfl
                  case measure => simp [intOf]; omega
                · have HT := Lib.hid (take_end (f := cutR) HN3.out hk hkm hgo)
                  have hcase : ((k : Int) < (n3 : Int) ∧ ¬ (k : Int) < 12) ∨ ¬ (k : Int) < (n3 : Int) := by omega
                  have hsz3 : wB.heap.size ≤ wr.heap.size := HJ.out.size
                  have HX4 := Lib.hid (And.intro HX0.out ((HJ.out.frame (w.heap.size + 1) (by omega) (by omega)).trans HX3.out.2))
                  have HBS4 := Lib.hid (show Below w.heap.size w wr from HBS3.out.trans HJ.out.below)
                  have HP3 : Hid (RowIn ruY (fun j => wB.heap.size ≤ j) wr v' ((L3.take 12).map cutR)) := Lib.hid (by rw [← HT.out]; exact HJ.out.own.in_)
                  obtain ⟨pv3, vn3, cv3, rfl, -⟩ := rowOwn_shape HJ.out.own
                  replace HP1 := Lib.hid (HP1.out.keep (S' := fun j => w0.heap.size ≤ j) HJ.out.below.size fun j hj hl => ⟨by omega, HJ.out.frame j hl (by omega)⟩)
                  replace HP2 := Lib.hid (HP2.out.keep (S' := fun j => w0.heap.size ≤ j) HJ.out.below.size fun j hj hl => ⟨by omega, HJ.out.frame j hl (by omega)⟩)
                  have HR := Lib.hid (rowS3_set (y0 := .slice pv1 vn1 cv1) (y1 := .slice pv2 vn2 cv2) (y2 := .slice pv3 vn3 cv3) HX4.out.2)
                  obtain ⟨⟨e0, e1, e2⟩, k0, k1, k2⟩ := cells3 HX4.out.2
                  obtain ⟨⟨d0, d1, d2⟩, g0, g1, g2⟩ := cells3 HJ.out.x
                  have HF : Hid (∀ W, W = ((wr.setCell ⟨w.heap.size + 1, 0, none⟩ (.slice pv1 vn1 cv1)).setCell ⟨w.heap.size + 1, 1, none⟩ (.slice pv2 vn2 cv2)).setCell ⟨w.heap.size + 1, 2, none⟩ (.slice pv3 vn3 cv3) → RowIn (dfY wO) (fun j => w.heap.size ≤ j) W (.slice pv1 vn1 cv1) ((L1.take 12).map cutD) ∧ RowIn onY (fun j => w.heap.size ≤ j) W (.slice pv2 vn2 cv2) ((L2.take 8).map cutO) ∧ RowIn ruY (fun j => w.heap.size ≤ j) W (.slice pv3 vn3 cv3) ((L3.take 12).map cutR) ∧ Below w.heap.size w W) := Lib.hid (by
                    rintro W rfl
                    have off : ∀ j, j ≠ w.heap.size + 1 → (((wr.setCell ⟨w.heap.size + 1, 0, none⟩ (.slice pv1 vn1 cv1)).setCell ⟨w.heap.size + 1, 1, none⟩ (.slice pv2 vn2 cv2)).setCell ⟨w.heap.size + 1, 2, none⟩ (.slice pv3 vn3 cv3)).heap[j]? = wr.heap[j]? := fun j hj => (heap_setCell_other _ ⟨w.heap.size + 1, 2, none⟩ j _ hj).trans ((heap_setCell_other _ ⟨w.heap.size + 1, 1, none⟩ j _ hj).trans (heap_setCell_other _ ⟨w.heap.size + 1, 0, none⟩ j _ hj))
                    exact ⟨HP1.out.keep (by simp) fun j hj _ => ⟨by omega, off j (by omega)⟩, HP2.out.keep (by simp) fun j hj _ => ⟨by omega, off j (by omega)⟩, HP3.out.keep (by simp) fun j hj _ => ⟨by omega, off j (by omega)⟩, (((HBS4.out.setCell (p := ⟨w.heap.size + 1, 0, none⟩) (by simp) _).setCell (p := ⟨w.heap.size + 1, 1, none⟩) (by simp) _).setCell (p := ⟨w.heap.size + 1, 2, none⟩) (by simp) _)⟩)
                  rcases hcase with ⟨hlt', hlm⟩ | hlt'
                  all_goals
                    go_wp2_with fail
                    refine bodyPost_ret (results_cell_row (fn := Tryz.f17) (by rfl) _ _ _ _ _ _ _ (by rfl) HR.out Tryz.underlying49 (by rfl) (by kernel_rfl)) (by rfl) ?_
                    obtain ⟨F1, F2, F3, F4⟩ := HF.out _ rfl
                    exact ⟨⟨_, _, _, rfl, by rw [← List.map_take]; exact F1, by rw [← List.map_take]; exact F2, by rw [← List.map_take]; exact F3⟩, F4⟩
end
section
open Go Go.RowKit Go.Shelf

noncomputable def clP : DeL ⊕ (OnL ⊕ RuL) → Option (List UInt8)
  | .inl d => declP d
  | .inr (.inl o) => onP o
  | .inr (.inr r) => ruleP r
def allC (p : PrL) : List (DeL ⊕ (OnL ⊕ RuL)) := p.decls.map .inl ++ (p.ons.map (fun o => .inr (.inl o)) ++ p.rules.map (fun r => .inr (.inr r)))
theorem joinS_flat : ∀ ts : List (List UInt8), joinS [] ts = ts.flatten
  | [] => rfl
  | t :: ts => by
    rw [joinS, List.flatten_cons]
    by_cases h : ts = []
    · rw [if_pos h, h]; rfl
    · rw [if_neg h, joinS_flat ts]; rfl
theorem allO_append : ∀ a b : List (Option (List UInt8)), allO (a ++ b) = match allO a, allO b with | some x, some y => some (x ++ y) | _, _ => none
  | [], b => by cases h : allO b <;> simp [allO, h]
  | none :: a, b => by simp [allO]
  | some x :: a, b => by
    rw [List.cons_append]
    simp only [allO, allO_append a b]
    cases allO a <;> cases allO b <;> rfl
theorem allO_lines {α : Type} (P : α → Option (List UInt8)) : ∀ L : List α, allO (L.map (lineP P)) = (allO (L.map P)).map (List.map (· ++ [10]))
  | [] => rfl
  | x :: L => by
    simp only [List.map_cons]
    have h : lineP P x = (P x).map (· ++ [10]) := rfl
    rw [h]
    cases P x with
    | none => rfl
    | some t =>
      simp only [Option.map_some, allO, allO_lines P L]
      cases allO (L.map P) <;> rfl
/-- Texts, a line each. -/
def flatL (ts : List (List UInt8)) : List UInt8 := (ts.map (· ++ [10])).flatten
theorem linesP_flat {α : Type} (P : α → Option (List UInt8)) (L : List α) : linesP P L = (allO (L.map P)).map flatL := by
  unfold linesP rowP
  rw [allO_lines]
  cases allO (L.map P) with
  | none => rfl
  | some ts => simp [joinS_flat, flatL]
theorem progP_all (p : PrL) : progP p = (allO ((allC p).map clP)).map flatL := by
  unfold progP allC
  rw [linesP_flat, linesP_flat, linesP_flat, List.map_append, List.map_append, allO_append, allO_append, List.map_map, List.map_map, List.map_map]
  rw [show (clP ∘ Sum.inl) = declP from rfl, show (clP ∘ fun o => Sum.inr (Sum.inl o)) = onP from rfl, show (clP ∘ fun r => Sum.inr (Sum.inr r)) = ruleP from rfl]
  cases allO (p.decls.map declP) <;> cases allO (p.ons.map onP) <;> cases allO (p.rules.map ruleP) <;> simp [two, flatL]
/-- How the lines of a program are answered. -/
def LinesE (C : List (DeL ⊕ (OnL ⊕ RuL))) (w : World) (e : Ending) (w' : World) : Prop :=
  ((∃ ts y, allO (C.map clP) = some ts ∧ (∀ t ∈ ts, t.length ≤ 135000) ∧ e = .returned (.tuple #[y, .int .i64 0]) ∧ RowIn stY (fun _ => True) w' y ts) ∨ (allO (C.map clP) = none ∧ e = .returned (.tuple #[.slice none 0 0, .int .i64 140]))) ∧ Below w.heap.size w w'
set_option maxRecDepth 100000 in
set_option maxHeartbeats 16000000 in
theorem rlines_any (p : PrL) (u v x : Value) (S : Nat → Prop) (w : World) (h1 : RowIn deY S w u p.decls) (h2 : RowIn onY S w v p.ons) (h3 : RowIn ruY S w x p.rules) (hs : SmP p) : Calls Tryz.prog 42 #[.agg #[u, v, x]] w (LinesE (allC p) w) := by
  have HT1 : Hid (∀ (X : DeL) (u' : Value) (W : World), X ∈ p.decls → RowIn tyY S W u' X.types → Calls Tryz.prog 13 #[.agg #[.string ⟨X.name.toArray⟩, .bool X.base, u']] W (SayS 400 (declP X) W)) := Lib.hid (fun X u' W hm hr => rdecl_any X u' S W hr (hs.ds X hm))
  have HT2 : Hid (∀ (X : OnL) (u' v' : Value) (W : World), X ∈ p.ons → RowIn paY S W u' X.params → RowIn acY S W v' X.acts → Calls Tryz.prog 15 #[.agg #[.string ⟨X.event.toArray⟩, u', v']] W (SayS 130000 (onP X) W)) := Lib.hid (fun X u' v' W hm hr hq => ron_any X u' v' S W hr hq (hs.os X hm))
  have HT3 : Hid (∀ (X : RuL) (u' v' : Value) (W : World), X ∈ p.rules → RowIn tmY S W u' X.head.args → RowIn liY S W v' X.body → Calls Tryz.prog 11 #[.agg #[.string ⟨X.head.pred.toArray⟩, u', v']] W (SayS 135000 (ruleP X) W)) := Lib.hid (fun X u' v' W hm hr hq => rrule_any X u' v' S W hr hq (hs.rs X hm))
  have HI1 := Lib.hid h1
  have HI2 := Lib.hid h2
  have HI3 := Lib.hid h3
  obtain ⟨q1, k1, rfl⟩ := h1.shape
  obtain ⟨q2, k2, rfl⟩ := h2.shape
  obtain ⟨q3, k3, rfl⟩ := h3.shape
  obtain ⟨L1, hL1⟩ : ∃ L, L = p.decls := ⟨_, rfl⟩
  obtain ⟨L2, hL2⟩ : ∃ L, L = p.ons := ⟨_, rfl⟩
  obtain ⟨L3, hL3⟩ : ∃ L, L = p.rules := ⟨_, rfl⟩
  obtain ⟨n1, hn1⟩ : ∃ n, n = L1.length := ⟨_, rfl⟩
  obtain ⟨n2, hn2⟩ : ∃ n, n = L2.length := ⟨_, rfl⟩
  obtain ⟨n3, hn3⟩ : ∃ n, n = L3.length := ⟨_, rfl⟩
  obtain ⟨C, hC⟩ : ∃ C, C = allC p := ⟨_, rfl⟩
  have hC' : C = L1.map .inl ++ (L2.map (fun o => .inr (.inl o)) ++ L3.map (fun r => .inr (.inr r))) := by rw [hC, hL1, hL2, hL3]; rfl
  have HC1 : Hid (∀ k (h : k < L1.length), ∃ h' : k < C.length, C[k] = .inl L1[k]) := Lib.hid (fun k h => by subst hC'; exact ⟨by simp; omega, by simp [h]⟩)
  have HC2 : Hid (∀ k (h : k < L2.length), ∃ h' : n1 + k < C.length, C[n1 + k] = .inr (.inl L2[k])) := Lib.hid (fun k h => by subst hC' hn1; exact ⟨by simp; omega, by simp [h]⟩)
  have HC3 : Hid (∀ k (h : k < L3.length), ∃ h' : n1 + n2 + k < C.length, C[n1 + n2 + k] = .inr (.inr L3[k])) := Lib.hid (fun k h => by subst hC' hn1 hn2; exact ⟨by simp; omega, by simp [List.getElem_append, show ¬ L1.length + L2.length + k < L1.length by omega, show L1.length + L2.length + k - L1.length = L2.length + k by omega]⟩)
  have HCl : Hid (C.length = n1 + n2 + n3) := Lib.hid (by rw [hC', hn1, hn2, hn3]; simp; omega)
  have HN1 := Lib.hid hn1
  have HN2 := Lib.hid hn2
  have HN3 := Lib.hid hn3
  have hf1 : n1 ≤ 7000 := by rw [hn1, hL1]; exact hs.dfew
  have hf2 : n2 ≤ 8 := by rw [hn2, hL2]; exact hs.ofew
  have hf3 : n3 ≤ 12 := by rw [hn3, hL3]; exact hs.rfew
  rw [← hC]
  rw [← hL1] at HI1 HT1 ⊢
  rw [← hL2] at HI2 HT2 ⊢
  rw [← hL3] at HI3 HT3 ⊢
  rw [← hn1] at HI1 ⊢
  rw [← hn2] at HI2 ⊢
  rw [← hn3] at HI3 ⊢
  clear h1 h2 h3 hs hL1 hL2 hL3 hn1 hn2 hn3 hC hC' p
  obtain ⟨w0, hw0⟩ : ∃ w0, w.alloc (.cells #[.slice q1 n1 k1, .slice q2 n2 k2, .slice q3 n3 k3] 49) = w0 := ⟨_, rfl⟩
  have HX := Lib.hid (show w0.heap[w.heap.size]? = some (.cells #[.slice q1 n1 k1, .slice q2 n2 k2, .slice q3 n3 k3] 49 (0, 0)) by rw [← hw0]; exact heap_alloc_new w _)
  have HB0 := Lib.hid (show Below w.heap.size w w0 by rw [← hw0]; exact below_box w _)
  have HS1 : Hid (RtS clP 135000 C w0 0 [] (.slice none 0 0) w0) := Lib.hid (RtS.zero w0)
  have HW0 := Lib.hid hw0
  clear hw0
  go_enter Tryz.func42, Tryz.ntmps42
  go_wp2_with fail
  try rw [HW0.out]
  go_loopw [4, 5] (fun v i wr => ∃ (k : Nat) (ts : List (List UInt8)), k ≤ n1 ∧ i = .int .i64 k ∧ Hid (RtS clP 135000 C w0 (k) ts v wr)) (fun _ i _ => n1 - (intOf i).toNat)
  case atStart => exact ⟨0, _, Nat.zero_le _, rfl, HS1⟩
  case round =>
    obtain ⟨k, ts, hk, rfl, HJ⟩ := hrel
    have h0 : (0 : Int) ≤ (k : Int) := by omega
    have hxr := (HJ.out.below.block w.heap.size (Array.getElem?_eq_some_iff.1 HX.out).1).trans HX.out
    obtain ⟨⟨d0, d1, d2⟩, df0, df1, df2⟩ := cells3 hxr
    clear hxr
    by_cases hlt : k < n1
    · have hlt' : (k : Int) < (n1 : Int) := by omega
      have hkn : k < L1.length := by rw [← HN1.out]; exact hlt
      obtain ⟨b, off, c1, us, e1, hbl, hu, hc⟩ := row_at HI1.out hkn
      injection e1 with e1 hq1 hq2
      subst e1
      clear hq1 hq2
      have hmem : L1[k] ∈ L1 := List.getElem_mem hkn
      obtain ⟨hkC, hCk⟩ := HC1.out k hkn
      obtain ⟨X, hX⟩ : ∃ X, X = L1[k] := ⟨_, rfl⟩
      rw [← hX] at hu hmem hCk
      clear hX
      have HCk := Lib.hid hCk
      clear hCk
      obtain ⟨u', rfl, hu'⟩ := hu
      have HCa := Lib.hid (HT1.out X u' wr hmem ((hu'.in_below HB0.out).in_below HJ.out.below))
      obtain ⟨pu, cu, rfl⟩ := hu'.shape
      have hbw : ∀ o, wr.cell? ⟨b, o, none⟩ = w.cell? ⟨b, o, none⟩ := fun o => (HJ.out.below.cell (p := ⟨b, o, none⟩) (Nat.lt_of_lt_of_le hbl HB0.out.size)).trans (HB0.out.cell (p := ⟨b, o, none⟩) hbl)
      have a0 : wr.cell? ⟨b, off + k * 3, none⟩ = some (.string ⟨X.name.toArray⟩) := (hbw _).trans (hc 0 _ rfl)
      have a1 : wr.cell? ⟨b, off + k * 3 + 1, none⟩ = some (.bool X.base) := (hbw _).trans (hc 1 _ rfl)
      have a2 : wr.cell? ⟨b, off + k * 3 + 2, none⟩ = some (.slice pu X.types.length cu) := (hbw _).trans (hc 2 _ rfl)
      clear hmem hc hbw hbl hu'
      go_wp2_with fail
      refine HCa.out.mono ?_
      intro y w3 hy
      rcases hy.cases_ with ⟨r, g1, g2, rfl, g3⟩ | ⟨g1, rfl, g3⟩
      · have HJ3 := Lib.hid (HJ.out.on g3)
        have HOw := Lib.hid (HJ3.out.lit r)
        have HRp : Hid (clP C[k] = some r.data.toList) := Lib.hid (by rw [HCk.out]; exact g1)
        have HRs := Lib.hid (show r.size ≤ 135000 by omega)
        have htl : ts.length ≤ 1000000 := by rw [row_len HJ.out.all_ (by omega)]; omega
        have hsz : w0.heap.size ≤ (w3.alloc (.cells #[.string r] 9)).heap.size := by have := HJ3.out.below.size; simp; omega
        clear hy g1 g2 g3 a0 a1 a2 d0 d1 d2 df0 df1 df2
        go_wp2_with (at_builtin; refine wpList_appY stY rfl (.tmp 33) (.tmp 35) 85 9 rfl w0.heap.size (.string ⟨#[]⟩) 16 Tryz.underlying85 Tryz.infoStg rfl (by decide) (by decide) u4 ts r.data.toList [.string r] w3.heap.size 1 rfl rfl HOw.out (st_is _ _ _ r) (lit_rowcells w3 [.string r] _) htl hsz ?_; intro v2 w4 ho hg hv2; have HNx := Lib.hid (HJ3.out.next hkC HRp.out HRs.out ho hg); clear ho hg hv2)
        go_roundw
        case rel => exact ⟨k + 1, ts ++ [r.data.toList], by omega, by go_num, HNx⟩
        case measure => simp [intOf]; omega
      · have HE := Lib.hid (HB0.out.trans ((HJ.out.on g3).below.mono HB0.out.size))
        have HRn : Hid (allO (C.map clP) = none) := Lib.hid (allO_bad _ (List.mem_map.2 ⟨C[k], List.getElem_mem hkC, by rw [HCk.out]; exact g1⟩))
        clear hy g1 g3 a0 a1 a2 d0 d1 d2 df0 df1 df2
        go_wp2_with fail
        go_ret2
        exact ⟨.inr ⟨HRn.out, rfl⟩, HE.out⟩
    · have hge : ¬ (k : Int) < (n1 : Int) := by omega
      obtain rfl : n1 = k := by omega
      have HS2 : Hid (RtS clP 135000 C w0 (n1 + 0) ts u4 wr) := HJ
      clear HJ
      go_wp2_with fail
      clear d0 d1 d2 df0 df1 df2 hlt hk hge
      generalize hgw : wr = wA1 at *
      clear hgw
      go_loopw [4, 8] (fun v i wr => ∃ (k : Nat) (ts : List (List UInt8)), k ≤ n2 ∧ i = .int .i64 k ∧ Hid (RtS clP 135000 C w0 (n1 + k) ts v wr)) (fun _ i _ => n2 - (intOf i).toNat)
      case atStart => exact ⟨0, _, Nat.zero_le _, rfl, HS2⟩
      case round =>
        obtain ⟨k, ts, hk, rfl, HJ⟩ := hrel
        have h0 : (0 : Int) ≤ (k : Int) := by omega
        have hxr := (HJ.out.below.block w.heap.size (Array.getElem?_eq_some_iff.1 HX.out).1).trans HX.out
        obtain ⟨⟨d0, d1, d2⟩, df0, df1, df2⟩ := cells3 hxr
        clear hxr
        by_cases hlt : k < n2
        · have hlt' : (k : Int) < (n2 : Int) := by omega
          have hkn : k < L2.length := by rw [← HN2.out]; exact hlt
          obtain ⟨b, off, c1, us, e1, hbl, hu, hc⟩ := row_at HI2.out hkn
          injection e1 with e1 hq1 hq2
          subst e1
          clear hq1 hq2
          have hmem : L2[k] ∈ L2 := List.getElem_mem hkn
          obtain ⟨hkC, hCk⟩ := HC2.out k hkn
          obtain ⟨X, hX⟩ : ∃ X, X = L2[k] := ⟨_, rfl⟩
          rw [← hX] at hu hmem hCk
          clear hX
          have HCk := Lib.hid hCk
          clear hCk
          obtain ⟨u', v', rfl, hu', hv'⟩ := hu
          have HCa := Lib.hid (HT2.out X u' v' wr hmem ((hu'.in_below HB0.out).in_below HJ.out.below) ((hv'.in_below HB0.out).in_below HJ.out.below))
          obtain ⟨pu, cu, rfl⟩ := hu'.shape
          obtain ⟨qu, du, rfl⟩ := hv'.shape
          have hbw : ∀ o, wr.cell? ⟨b, o, none⟩ = w.cell? ⟨b, o, none⟩ := fun o => (HJ.out.below.cell (p := ⟨b, o, none⟩) (Nat.lt_of_lt_of_le hbl HB0.out.size)).trans (HB0.out.cell (p := ⟨b, o, none⟩) hbl)
          have a0 : wr.cell? ⟨b, off + k * 3, none⟩ = some (.string ⟨X.event.toArray⟩) := (hbw _).trans (hc 0 _ rfl)
          have a1 : wr.cell? ⟨b, off + k * 3 + 1, none⟩ = some (.slice pu X.params.length cu) := (hbw _).trans (hc 1 _ rfl)
          have a2 : wr.cell? ⟨b, off + k * 3 + 2, none⟩ = some (.slice qu X.acts.length du) := (hbw _).trans (hc 2 _ rfl)
          clear hmem hc hbw hbl hu' hv'
          go_wp2_with fail
          refine HCa.out.mono ?_
          intro y w3 hy
          rcases hy.cases_ with ⟨r, g1, g2, rfl, g3⟩ | ⟨g1, rfl, g3⟩
          · have HJ3 := Lib.hid (HJ.out.on g3)
            have HOw := Lib.hid (HJ3.out.lit r)
            have HRp : Hid (clP C[n1 + k] = some r.data.toList) := Lib.hid (by rw [HCk.out]; exact g1)
            have HRs := Lib.hid (show r.size ≤ 135000 by omega)
            have htl : ts.length ≤ 1000000 := by rw [row_len HJ.out.all_ (by omega)]; omega
            have hsz : w0.heap.size ≤ (w3.alloc (.cells #[.string r] 9)).heap.size := by have := HJ3.out.below.size; simp; omega
            clear hy g1 g2 g3 a0 a1 a2 d0 d1 d2 df0 df1 df2
            go_wp2_with (at_builtin; refine wpList_appY stY rfl (.tmp 56) (.tmp 58) 85 9 rfl w0.heap.size (.string ⟨#[]⟩) 16 Tryz.underlying85 Tryz.infoStg rfl (by decide) (by decide) u4 ts r.data.toList [.string r] w3.heap.size 1 rfl rfl HOw.out (st_is _ _ _ r) (lit_rowcells w3 [.string r] _) htl hsz ?_; intro v2 w4 ho hg hv2; have HNx := Lib.hid (HJ3.out.next hkC HRp.out HRs.out ho hg); clear ho hg hv2)
            go_roundw
            case rel => exact ⟨k + 1, ts ++ [r.data.toList], by omega, by go_num, HNx⟩
            case measure => simp [intOf]; omega
          · have HE := Lib.hid (HB0.out.trans ((HJ.out.on g3).below.mono HB0.out.size))
            have HRn : Hid (allO (C.map clP) = none) := Lib.hid (allO_bad _ (List.mem_map.2 ⟨C[n1 + k], List.getElem_mem hkC, by rw [HCk.out]; exact g1⟩))
            clear hy g1 g3 a0 a1 a2 d0 d1 d2 df0 df1 df2
            go_wp2_with fail
            go_ret2
            exact ⟨.inr ⟨HRn.out, rfl⟩, HE.out⟩
        · have hge : ¬ (k : Int) < (n2 : Int) := by omega
          obtain rfl : n2 = k := by omega
          have HS3 : Hid (RtS clP 135000 C w0 (n1 + n2 + 0) ts u4 wr) := HJ
          clear HJ
          go_wp2_with fail
          clear d0 d1 d2 df0 df1 df2 hlt hk hge
          generalize hgw : wr = wA2 at *
          clear hgw
          go_loopw [4, 11] (fun v i wr => ∃ (k : Nat) (ts : List (List UInt8)), k ≤ n3 ∧ i = .int .i64 k ∧ Hid (RtS clP 135000 C w0 (n1 + n2 + k) ts v wr)) (fun _ i _ => n3 - (intOf i).toNat)
          case atStart => exact ⟨0, _, Nat.zero_le _, rfl, HS3⟩
          case round =>
            obtain ⟨k, ts, hk, rfl, HJ⟩ := hrel
            have h0 : (0 : Int) ≤ (k : Int) := by omega
            have hxr := (HJ.out.below.block w.heap.size (Array.getElem?_eq_some_iff.1 HX.out).1).trans HX.out
            obtain ⟨⟨d0, d1, d2⟩, df0, df1, df2⟩ := cells3 hxr
            clear hxr
            by_cases hlt : k < n3
            · have hlt' : (k : Int) < (n3 : Int) := by omega
              have hkn : k < L3.length := by rw [← HN3.out]; exact hlt
              obtain ⟨b, off, c1, us, e1, hbl, hu, hc⟩ := row_at HI3.out hkn
              injection e1 with e1 hq1 hq2
              subst e1
              clear hq1 hq2
              have hmem : L3[k] ∈ L3 := List.getElem_mem hkn
              obtain ⟨hkC, hCk⟩ := HC3.out k hkn
              obtain ⟨X, hX⟩ : ∃ X, X = L3[k] := ⟨_, rfl⟩
              rw [← hX] at hu hmem hCk
              clear hX
              have HCk := Lib.hid hCk
              clear hCk
              obtain ⟨u', v', rfl, hu', hv'⟩ := hu
              have HCa := Lib.hid (HT3.out X u' v' wr hmem ((hu'.in_below HB0.out).in_below HJ.out.below) ((hv'.in_below HB0.out).in_below HJ.out.below))
              obtain ⟨pu, cu, rfl⟩ := hu'.shape
              obtain ⟨qu, du, rfl⟩ := hv'.shape
              have hbw : ∀ o, wr.cell? ⟨b, o, none⟩ = w.cell? ⟨b, o, none⟩ := fun o => (HJ.out.below.cell (p := ⟨b, o, none⟩) (Nat.lt_of_lt_of_le hbl HB0.out.size)).trans (HB0.out.cell (p := ⟨b, o, none⟩) hbl)
              have a0 : wr.cell? ⟨b, off + k * 3, none⟩ = some (.string ⟨X.head.pred.toArray⟩) := (hbw _).trans (hc 0 _ rfl)
              have a1 : wr.cell? ⟨b, off + k * 3 + 1, none⟩ = some (.slice pu X.head.args.length cu) := (hbw _).trans (hc 1 _ rfl)
              have a2 : wr.cell? ⟨b, off + k * 3 + 2, none⟩ = some (.slice qu X.body.length du) := (hbw _).trans (hc 2 _ rfl)
              clear hmem hc hbw hbl hu' hv'
              go_wp2_with fail
              refine HCa.out.mono ?_
              intro y w3 hy
              rcases hy.cases_ with ⟨r, g1, g2, rfl, g3⟩ | ⟨g1, rfl, g3⟩
              · have HJ3 := Lib.hid (HJ.out.on g3)
                have HOw := Lib.hid (HJ3.out.lit r)
                have HRp : Hid (clP C[n1 + n2 + k] = some r.data.toList) := Lib.hid (by rw [HCk.out]; exact g1)
                have HRs := Lib.hid (show r.size ≤ 135000 by omega)
                have htl : ts.length ≤ 1000000 := by rw [row_len HJ.out.all_ (by omega)]; omega
                have hsz : w0.heap.size ≤ (w3.alloc (.cells #[.string r] 9)).heap.size := by have := HJ3.out.below.size; simp; omega
                clear hy g1 g2 g3 a0 a1 a2 d0 d1 d2 df0 df1 df2
                go_wp2_with (at_builtin; refine wpList_appY stY rfl (.tmp 79) (.tmp 81) 85 9 rfl w0.heap.size (.string ⟨#[]⟩) 16 Tryz.underlying85 Tryz.infoStg rfl (by decide) (by decide) u4 ts r.data.toList [.string r] w3.heap.size 1 rfl rfl HOw.out (st_is _ _ _ r) (lit_rowcells w3 [.string r] _) htl hsz ?_; intro v2 w4 ho hg hv2; have HNx := Lib.hid (HJ3.out.next hkC HRp.out HRs.out ho hg); clear ho hg hv2)
                go_roundw
                case rel => exact ⟨k + 1, ts ++ [r.data.toList], by omega, by go_num, HNx⟩
                case measure => simp [intOf]; omega
              · have HE := Lib.hid (HB0.out.trans ((HJ.out.on g3).below.mono HB0.out.size))
                have HRn : Hid (allO (C.map clP) = none) := Lib.hid (allO_bad _ (List.mem_map.2 ⟨C[n1 + n2 + k], List.getElem_mem hkC, by rw [HCk.out]; exact g1⟩))
                clear hy g1 g3 a0 a1 a2 d0 d1 d2 df0 df1 df2
                go_wp2_with fail
                go_ret2
                exact ⟨.inr ⟨HRn.out, rfl⟩, HE.out⟩
            · have hge : ¬ (k : Int) < (n3 : Int) := by omega
              obtain rfl : n3 = k := by omega
              have HR : Hid (allO (C.map clP) = some ts) := Lib.hid (by have h1 := HJ.out.all_; rwa [List.take_of_length_le (by rw [HCl.out]; exact Nat.le_refl _)] at h1)
              have HE := Lib.hid (And.intro HJ.out.short (And.intro HJ.out.own.in_ (HB0.out.trans (HJ.out.below.mono HB0.out.size))))
              clear HJ
              go_wp2_with fail
              go_ret2
              exact ⟨.inl ⟨ts, _, HR.out, HE.out.1, rfl, HE.out.2.1.keep (Nat.le_refl _) fun _ _ _ => ⟨trivial, rfl⟩⟩, HE.out.2.2⟩
end
section
open Go Go.RowKit Go.Shelf

theorem flatL_step (ts : List (List UInt8)) (k : Nat) (h : k < ts.length) : flatL (ts.take (k + 1)) = flatL (ts.take k) ++ ts[k] ++ [10] := by
  unfold flatL
  rw [List.take_succ_eq_append_getElem h, List.map_append, List.flatten_append, List.map_singleton, List.flatten_singleton, List.append_assoc]
theorem flatL_len (M : Nat) : ∀ ts : List (List UInt8), (∀ t ∈ ts, t.length ≤ M) → (flatL ts).length ≤ ts.length * (M + 1)
  | [], _ => by simp [flatL]
  | t :: ts, h => by
    have h1 := flatL_len M ts fun x hx => h x (List.mem_cons_of_mem _ hx)
    have h2 := h t List.mem_cons_self
    have h3 : (flatL (t :: ts)).length = t.length + 1 + (flatL ts).length := by simp [flatL]; omega
    rw [h3, List.length_cons, Nat.succ_mul]
    omega
theorem flatL_take (ts : List (List UInt8)) (k : Nat) : (flatL (ts.take k)).length ≤ (flatL ts).length := by
  have h : flatL ts = flatL (ts.take k) ++ flatL (ts.drop k) := by
    unfold flatL
    rw [← List.flatten_append, ← List.map_append, List.take_append_drop]
  rw [h, List.length_append]
  omega
set_option maxRecDepth 100000 in
set_option maxHeartbeats 8000000 in
theorem rprogram_any (p : PrL) (u v x : Value) (S : Nat → Prop) (w : World) (h1 : RowIn deY S w u p.decls) (h2 : RowIn onY S w v p.ons) (h3 : RowIn ruY S w x p.rules) (hs : SmP p) (hd : p.decls.length ≤ 12) : Calls Tryz.prog 19 #[.agg #[u, v, x]] w (SayL (progP p) w) := by
  obtain ⟨i0, hi, hz0, hz1, hz2⟩ := info_parts Tryz.infoByte
  have HLi : Hid (∀ W, Below w.heap.size w W → Calls Tryz.prog 42 #[.agg #[u, v, x]] W (LinesE (allC p) W)) := Lib.hid (fun W hb => rlines_any p u v x S W (h1.in_below hb) (h2.in_below hb) (h3.in_below hb) hs)
  have HC : Hid ((allC p).length ≤ 32) := Lib.hid (by have h4 := hs.ofew; have h5 := hs.rfew; simp [allC]; omega)
  have HO := Lib.hid (progP_all p)
  obtain ⟨q1, k1, rfl⟩ := h1.shape
  obtain ⟨q2, k2, rfl⟩ := h2.shape
  obtain ⟨q3, k3, rfl⟩ := h3.shape
  generalize progP p = o at *
  generalize allC p = C at *
  generalize p.decls.length = n1 at *
  generalize p.ons.length = n2 at *
  generalize p.rules.length = n3 at *
  clear h1 h2 h3 hs hd
  have HB := Lib.hid (below_box w (.cells #[.slice q1 n1 k1, .slice q2 n2 k2, .slice q3 n3 k3] 49))
  go_enter Tryz.func19, Tryz.ntmps19
  go_wp2_with fail
  refine (HLi.out _ HB.out).mono ?_
  rintro y w0 ⟨⟨ts, r, g1, g2, rfl, g3⟩ | ⟨g1, rfl⟩, hb⟩
  rotate_left
  · have HE := Lib.hid (And.intro g1 (HB.out.trans (hb.mono HB.out.size)))
    clear g1 hb
    go_wp2_with fail
    go_ret2
    exact ⟨.inr (.inr ⟨by rw [HO.out, HE.out.1]; rfl, rfl⟩), HE.out.2⟩
  have HB0 := Lib.hid (HB.out.trans (hb.mono HB.out.size))
  have HT := Lib.hid (show o = some (flatL ts) by rw [HO.out, g1]; rfl)
  have htl : ts.length ≤ 32 := by have h4 := allO_len _ _ g1; rw [List.length_map] at h4; have := HC.out; omega
  have hfl : (flatL ts).length ≤ 32 * 135001 := Nat.le_trans (flatL_len 135000 ts g2) (Nat.mul_le_mul_right _ htl)
  have HI := Lib.hid g3
  obtain ⟨pr, cr, rfl⟩ := g3.shape
  obtain ⟨n, hn⟩ : ∃ n, n = ts.length := ⟨_, rfl⟩
  have HN := Lib.hid hn
  have hn32 : n ≤ 32 := by omega
  have hn32' : (n : Int) ≤ 32 := by omega
  rw [← hn] at HI ⊢
  clear g1 g2 g3 hb hn htl HLi HC
  have HFl := Lib.hid hfl
  go_wp2_with fail
  go_loopw [6, 7] (fun v i wr => ∃ k : Nat, k ≤ n ∧ i = .int .i64 k ∧ wr.ownsRow w0.heap.size 5 1 v (flatL (ts.take k)).length (Lib.byteCells (flatL (ts.take k))) ∧ Hid (Below w0.heap.size w0 wr)) (fun _ i _ => n - (intOf i).toNat)
  case atStart => exact ⟨0, Nat.zero_le _, rfl, World.ownsRow_nil _ _ _ _, Lib.hid (Below.refl _ _)⟩
  case round =>
    obtain ⟨k, hk, rfl, hown, HBr⟩ := hrel
    have h0' : (0 : Int) ≤ (k : Int) := by omega
    by_cases hlt : k < n
    · have hlt' : (k : Int) < (n : Int) := by omega
      have hkn : k < ts.length := by rw [← HN.out]; exact hlt
      obtain ⟨b, off, c1, us, e1, hbl, hu, hc⟩ := row_at HI.out hkn
      injection e1 with e1 hq1 hq2
      subst e1
      clear hq1 hq2
      obtain ⟨T, hT⟩ : ∃ T, T = ts[k] := ⟨_, rfl⟩
      have hu : us = [.string ⟨ts[k].toArray⟩] := hu
      rw [← hT] at hu
      subst hu
      have a1 : w0.cell? ⟨b, off + k, none⟩ = some (.string ⟨T.toArray⟩) := by have := hc 0 _ rfl; simpa [stY] using this
      replace a1 := (HBr.out.cell (p := ⟨b, off + k, none⟩) hbl).trans a1
      have HJ := flatL_step ts k hkn
      have hle2 := flatL_take ts (k + 1)
      rw [HJ] at hle2
      rw [← hT] at HJ hle2
      rw [List.length_append, List.length_append, List.length_singleton] at hle2
      obtain ⟨J, hJ⟩ : ∃ J, J = flatL (ts.take k) := ⟨_, rfl⟩
      rw [← hJ] at hown HJ hle2
      have HOw := Lib.hid hown
      have hTs : (⟨T.toArray⟩ : ByteArray).size = T.length := by rw [Lib.size_eq]
      have hbs := HBr.out.size
      have HQ := Lib.hid HJ
      have hmax : J.length + T.length + 1 ≤ 4320032 := by omega
      clear hc hT hJ hown HJ hle2 hfl
      obtain ⟨p1, n1', c2, rfl⟩ := bu_slice (by rw [bytes_len]; exact HOw.out)
      go_wp2_with (at_builtin; refine Lib.wpList_append_own_string _ rfl (.tmp 22) (.tmp 26) 95 9 rfl w0.heap.size 5 i0 Tryz.underlying95 Tryz.underlying9 hi hz0 hz1 hz2 _ _ _ rfl HOw.out ⟨T.toArray⟩ rfl ?c3 ?c4 ?c5 ?_)
      case c3 => unfold maxLen; omega
      case c4 => omega
      case c5 => omega
      intro v' w2 hown' hgrow _
      have HB2 := Lib.hid (HBr.out.grown hgrow (by omega) (fun k hk => (HOw.out.lt k hk).1))
      have HO2 := Lib.hid (show w2.ownsRow w0.heap.size 5 1 v' (J ++ T).length (Lib.byteCells (J ++ T)) by rw [bytes_app, List.length_append, ← str_cells T, ← hTs]; exact hown')
      obtain ⟨p2, n2', c2', rfl⟩ := bu_slice (by rw [bytes_len]; exact HO2.out)
      have hJl : (J ++ T).length = J.length + T.length := by simp
      have hbs2 := HB2.out.size
      clear hown' hgrow a1
      go_wp2_with (at_builtin; refine wpList_append_own _ rfl _ _ 95 rfl w0.heap.size 5 i0 (.int .u8 0) 1 1 Tryz.underlying95 hi hz0 hz1 hz2 rfl (by decide) _ _ _ rfl (HO2.out.alloc _) ⟨w2.heap.size, 0, none⟩ 1 1 [.int .u8 10] rfl rfl ?c1 ?c2 ?c3 ?c4 ?c5 ?_)
      case c1 =>
        intro j u hj
        match j, hj with
        | 0, hj => simp at hj; subst hj; simp [Addr.add]
      case c2 => intro u hu; simp at hu; subst hu; rfl
      case c3 => unfold maxLen; omega
      case c4 => omega
      case c5 => simp; omega
      intro v'' w3 hown'' hgrow' _
      have HB3 := Lib.hid ((HB2.out.alloc hbs2 _).grown hgrow' (by simp; omega) (fun k hk => (HO2.out.lt k hk).1))
      have HO3 := Lib.hid (show w3.ownsRow w0.heap.size 5 1 v'' (flatL (ts.take (k + 1))).length (Lib.byteCells (flatL (ts.take (k + 1)))) by rw [HQ.out, bytes_app, List.length_append, hJl]; exact hown'')
      obtain ⟨p3, n3', c3', rfl⟩ := bu_slice (by rw [bytes_len]; exact HO3.out)
      clear hown'' hgrow'
      go_wp2_with fail
      go_roundw
      case rel => exact ⟨k + 1, by omega, by go_num, HO3.out, HB3⟩
      case measure => simp [intOf]; omega
    · have hge : ¬ (k : Int) < (n : Int) := by omega
      have hP := HN.out
      rw [List.take_of_length_le (by omega)] at hown
      obtain ⟨P0, hP0⟩ : ∃ P0, P0 = flatL ts := ⟨_, rfl⟩
      rw [← hP0] at hown hfl HT HFl
      have hsz : (⟨P0.toArray⟩ : ByteArray).size = P0.length := str_len P0
      have HSz := Lib.hid hsz
      have HBf := Lib.hid (HB0.out.trans (HBr.out.mono HB0.out.size))
      have hP32 : (P0.length : Int) ≤ 4320032 := by omega
      clear hP hP0 hsz
      by_cases hl : 65536 < P0.length
      · have hl' : (65536 : Int) < (P0.length : Int) := by omega
        have HLn := Lib.hid hl
        obtain ⟨p1, n1', c2, rfl, hn1⟩ : ∃ p n' c, u6 = .slice p n' c ∧ n' = P0.length := by
          rcases hown.2 with ⟨rfl, hnil⟩ | ⟨g, cap, cur, rfl, -, -, -, -, -, -⟩
          · exact ⟨none, 0, 0, rfl, by omega⟩
          · exact ⟨_, _, _, rfl, rfl⟩
        rw [← hn1] at hl' hP32
        clear hown hl
        go_wp2_with fail
        go_ret2
        exact ⟨.inr (.inl ⟨⟨P0.toArray⟩, HT.out, by rw [HSz.out]; exact HLn.out, rfl⟩), HBf.out⟩
      · have hl' : ¬ (65536 : Int) < (P0.length : Int) := by omega
        have HLn := Lib.hid (show P0.length ≤ 65536 by omega)
        rcases hown.2 with ⟨rfl, hnil⟩ | ⟨g, cap, cur, rfl, -, -, -, -, -, -⟩
        · have ha : P0 = [] := List.eq_nil_of_length_eq_zero hnil
          have hcv := Lib.run_convert_nil_bytes (P := Tryz.prog) wr 95 9 5 0 Tryz.underlying95 Tryz.underlying5 Tryz.underlying9
          have HA := Lib.hid ha
          clear hown hnil ha
          go_wp2_with fail
          go_ret2
          exact ⟨.inl ⟨⟨#[]⟩, by rw [HT.out, HA.out], by decide, rfl⟩, HBf.out⟩
        · have hcv := run_convert_bytes_back (P := Tryz.prog) wr 95 9 5 ⟨g, 0, none⟩ cap P0 Tryz.underlying95 Tryz.underlying5 Tryz.underlying9 (fun j hj => hown.cells (g := g) rfl j _ (by simp [Lib.byteCells, hj]))
          clear hown
          go_wp2_with fail
          go_ret2
          exact ⟨.inl ⟨⟨P0.toArray⟩, HT.out, by rw [HSz.out]; exact HLn.out, rfl⟩, HBf.out⟩
end
section
open Go Go.RowKit Go.Shelf

/-- The one answer: a text and a code. -/
def lineS (o : Option (List UInt8)) : ByteArray := match o with | some s => if s.length ≤ 65536 then ⟨s.toArray⟩ else ⟨#[]⟩ | none => ⟨#[]⟩
def lineN (o : Option (List UInt8)) : Int := match o with | some s => if s.length ≤ 65536 then 0 else 2 | none => 140
theorem line_ans {o : Option (List UInt8)} {w w' : World} {e : Ending} (h : SayL o w e w') : e = .returned (.tuple #[.string (lineS o), .int .i64 (lineN o)]) ∧ Below w.heap.size w w' := by
  obtain ⟨⟨s, rfl, h1, rfl⟩ | ⟨s, rfl, h1, rfl⟩ | ⟨rfl, rfl⟩, hb⟩ := h
  · have h2 : s.data.toList.length ≤ 65536 := by rw [← Lib.size_eq]; exact h1
    exact ⟨by unfold lineS lineN; simp only [if_pos h2], hb⟩
  · have h2 : ¬ s.data.toList.length ≤ 65536 := by rw [← Lib.size_eq]; omega
    exact ⟨by unfold lineS lineN; simp only [if_neg h2], hb⟩
  · exact ⟨rfl, hb⟩
theorem cutA_sm {a : AtL} (h : OkA a) : SmA (cutA a) := ⟨by simp only [cutA, List.length_take]; omega, by simp only [cutA, List.length_map, List.length_take]; omega, fun t ht => by
  simp only [cutA] at ht
  obtain ⟨x, hx, rfl⟩ := List.mem_map.1 ht
  exact cutT_sm (h x (List.mem_of_mem_take hx))⟩
theorem cutLi_sm {l : LiL} (h : OkLi l) : SmLi (cutLi l) := ⟨cutA_sm h.1, cutT_sm h.2.1, cutT_sm h.2.2⟩
theorem cutR_sm {r : RuL} (h : OkR r) : SmR (cutR r) := ⟨cutA_sm h.1, by simp only [cutR, List.length_map, List.length_take]; omega, fun l hl => by
  simp only [cutR] at hl
  obtain ⟨x, hx, rfl⟩ := List.mem_map.1 hl
  exact cutLi_sm (h.2 x (List.mem_of_mem_take hx))⟩
theorem cutD_sm (d : DeL) : SmD (cutD d) := ⟨by simp only [cutD, List.length_take]; omega, by simp only [cutD, List.length_take]; omega⟩
theorem cutO_sm {o : OnL} (h : OkO o) : SmO (cutO o) := ⟨by simp only [cutO, List.length_take]; omega, by simp only [cutO, List.length_map, List.length_take]; omega, fun p hp => by
  simp only [cutO] at hp
  obtain ⟨x, -, rfl⟩ := List.mem_map.1 hp
  simp only [cutPa, List.length_take]; omega, by simp only [cutO, List.length_map, List.length_take]; omega, fun a ha => by
  simp only [cutO] at ha
  obtain ⟨x, hx, rfl⟩ := List.mem_map.1 ha
  exact cutA_sm (h x (List.mem_of_mem_take hx))⟩
theorem cutP_sm {p : PrL} (h : OkP p) : SmP (cutP p) := ⟨by simp only [cutP, List.length_map, List.length_take]; omega, fun X hX => by
  simp only [cutP] at hX
  obtain ⟨x, -, rfl⟩ := List.mem_map.1 hX
  exact cutD_sm x, by simp only [cutP, List.length_map, List.length_take]; omega, fun X hX => by
  simp only [cutP] at hX
  obtain ⟨x, hx, rfl⟩ := List.mem_map.1 hX
  exact cutO_sm (h.1 x (List.mem_of_mem_take hx)), by simp only [cutP, List.length_map, List.length_take]; omega, fun X hX => by
  simp only [cutP] at hX
  obtain ⟨x, hx, rfl⟩ := List.mem_map.1 hX
  exact cutR_sm (h.2 x (List.mem_of_mem_take hx))⟩
theorem cutP_few (p : PrL) : (cutP p).decls.length ≤ 12 := by simp only [cutP, List.length_map, List.length_take]; omega
/-- What stands while the law asks: the copy. -/
structure PgS (w : World) (p : PrL) (va vb vc : Value) (W : World) : Prop where
  below : Below w.heap.size w W
  x0 : W.heap[w.heap.size]? = some (.cells #[va, vb, vc] 49 (0, 0))
  ra : RowIn deY (fun _ => True) W va p.decls
  rb : RowIn onY (fun _ => True) W vb p.ons
  rc : RowIn ruY (fun _ => True) W vc p.rules
theorem PgS.on {w W W' : World} {p : PrL} {va vb vc : Value} (h : PgS w p va vb vc W) (hb : Below W.heap.size W W') : PgS w p va vb vc W' :=
  ⟨h.below.trans (hb.mono h.below.size), (hb.block _ (Array.getElem?_eq_some_iff.1 h.x0).1).trans h.x0, h.ra.in_below hb, h.rb.in_below hb, h.rc.in_below hb⟩
set_option maxRecDepth 100000 in
set_option maxHeartbeats 8000000 in
theorem lprintPrograms (us0 : List Value) (p : PrL) (w : World) (h0 : prY.is (fun _ => True) w us0 p) (ok0 : OkP p) (G : Glob w) :
    Calls Tryz.prog 4 #[.agg us0.toArray] w fun e w' => e = .returned (.bool true) ∧ Below w.heap.size w w' := by
  obtain ⟨ua, ub, uc, rfl, ha, hb, hc⟩ := h0
  have HSm := Lib.hid (And.intro (cutP_sm ok0) (cutP_few p))
  have HG := Lib.hid G
  have HL0 := Lib.hid (fun W (h : Below w.heap.size w W) => lprog_any p ua ub uc w W ((dfY.of ha).in_below h) (hb.in_below h) (hc.in_below h))
  obtain ⟨p0, k0, rfl⟩ := ha.shape
  obtain ⟨p1, k1, rfl⟩ := hb.shape
  obtain ⟨p2, k2, rfl⟩ := hc.shape
  obtain ⟨q, hq⟩ : ∃ q, cutP p = q := ⟨_, rfl⟩
  rw [hq] at HL0 HSm
  clear ok0 G ha hb hc hq
  generalize p.decls.length = m0 at *
  generalize p.ons.length = m1 at *
  generalize p.rules.length = m2 at *
  clear p
  obtain ⟨w0, hw0⟩ : ∃ w0, w.alloc (.cells #[.slice p0 m0 k0, .slice p1 m1 k1, .slice p2 m2 k2] 49) = w0 := ⟨_, rfl⟩
  have HB := Lib.hid (show Below w.heap.size w w0 by rw [← hw0]; exact below_box w _)
  have HX := Lib.hid (show w0.heap[w.heap.size]? = some (.cells #[.slice p0 m0 k0, .slice p1 m1 k1, .slice p2 m2 k2] 49 (0, 0)) by rw [← hw0]; exact heap_alloc_new w _)
  have hz0 : w.heap.size < w0.heap.size := (Array.getElem?_eq_some_iff.1 HX.out).1
  have HW0 := Lib.hid hw0
  clear hw0
  show Calls Tryz.prog 4 #[.agg #[.slice p0 m0 k0, .slice p1 m1 k1, .slice p2 m2 k2]] w _
  go_enter Tryz.func4, Tryz.ntmps4
  go_wp2_with fail
  try rw [HW0.out]
  refine (HL0.out _ HB.out).mono ?_
  rintro y w1 ⟨⟨va, vb, vc, rfl, ha, hb, hc⟩, hb1⟩
  have HX1 := Lib.hid ((hb1.block w.heap.size hz0).trans HX.out)
  obtain ⟨⟨c0, c1, c2⟩, f0, f1, f2⟩ := cells3 HX1.out
  have HS : Hid (∀ W, W = ((w1.setCell ⟨w.heap.size, 0, none⟩ va).setCell ⟨w.heap.size, 1, none⟩ vb).setCell ⟨w.heap.size, 2, none⟩ vc → PgS w q va vb vc W) := Lib.hid (by
    rintro W rfl
    have hbw := ((((HB.out.trans (hb1.mono HB.out.size)).setCell (p := ⟨w.heap.size, 0, none⟩) (Nat.le_refl _) va).setCell (p := ⟨w.heap.size, 1, none⟩) (Nat.le_refl _) vb).setCell (p := ⟨w.heap.size, 2, none⟩) (Nat.le_refl _) vc)
    have off : ∀ j, j ≠ w.heap.size → (((w1.setCell ⟨w.heap.size, 0, none⟩ va).setCell ⟨w.heap.size, 1, none⟩ vb).setCell ⟨w.heap.size, 2, none⟩ vc).heap[j]? = w1.heap[j]? := fun j hj => (heap_setCell_other _ ⟨w.heap.size, 2, none⟩ j _ hj).trans ((heap_setCell_other _ ⟨w.heap.size, 1, none⟩ j _ hj).trans (heap_setCell_other _ ⟨w.heap.size, 0, none⟩ j _ hj))
    exact ⟨hbw, rowS3_set (y0 := va) (y1 := vb) (y2 := vc) HX1.out, dfY.row (ha.keep (S' := fun _ => True) (by simp) fun j hj _ => ⟨trivial, off j (by omega)⟩) hbw, hb.keep (by simp) fun j hj _ => ⟨trivial, off j (by omega)⟩, hc.keep (by simp) fun j hj _ => ⟨trivial, off j (by omega)⟩⟩)
  obtain ⟨pa, ca, rfl⟩ := ha.shape
  obtain ⟨pb, cb, rfl⟩ := hb.shape
  obtain ⟨pc, cc, rfl⟩ := hc.shape
  clear hb1 ha hb hc
  obtain ⟨W, hW⟩ : ∃ W, W = ((w1.setCell ⟨w.heap.size, 0, none⟩ (.slice pa q.decls.length ca)).setCell ⟨w.heap.size, 1, none⟩ (.slice pb q.ons.length cb)).setCell ⟨w.heap.size, 2, none⟩ (.slice pc q.rules.length cc) := ⟨_, rfl⟩
  have HSW := Lib.hid (HS.out W hW)
  have HW := Lib.hid hW
  obtain ⟨⟨d0, d1, d2⟩, -⟩ := cells3 HSW.out.x0
  clear hW
  go_wp2_with fail
  rw [← HW.out]
  clear HW HS HX HX1 HB HW0 hz0 c0 c1 c2 f0 f1 f2 HL0
  refine ((pProgram_any q _ _ _ _ _ HSW.out.ra HSW.out.rb HSW.out.rc HSm.out.1 (HG.out.below HSW.out.below)).mono fun _ _ h => line_ans h).mono ?_
  rintro y w5 ⟨rfl, hb⟩
  have HS5 := Lib.hid (HSW.out.on hb)
  clear hb d0 d1 d2
  obtain ⟨⟨d0, d1, d2⟩, -⟩ := cells3 HS5.out.x0
  go_wp2_with fail
  refine ((rprogram_any q _ _ _ _ _ HS5.out.ra HS5.out.rb HS5.out.rc HSm.out.1 HSm.out.2).mono fun _ _ h => line_ans h).mono ?_
  rintro y w6 ⟨rfl, hb⟩
  have B4 := Lib.hid (HS5.out.on hb).below
  clear hb d0 d1 d2
  generalize lineS (progP q) = r1
  generalize lineN (progP q) = n1
  go_wp2_with fail
  refine (pawake_any _ (HG.out.below B4.out)).mono ?_
  rintro y w15 ⟨rfl, hb⟩
  have B5 := Lib.hid (B4.out.trans (hb.mono B4.out.size))
  clear hb
  go_wp2_with fail
  go_ret
  exact ⟨rfl, B5.out⟩
end
section
open Go Go.RowKit

open Go.ChangeShapes Go.WideShapes Go.ChangeAt
set_option maxRecDepth 100000 in
theorem lifted_lprintPrograms (os : Os) (started : os.Started) (H : Type) (enc : TypeId × Value → H) :
    ReturnsInHanded {} Tryz.checked os 4 .any (fun w args => (Rows.printProgramsSpec.pre enc Tryz.prog Tryz.f4 [] false w args ∧ laidMetH Tryz.prog laid6 w) ∧ sizedMet enc Tryz.prog Tryz.f4 (OpenSpec.ofChange Rows.printProgramsSpec) false w args)
      (Rows.printProgramsSpec.post enc Tryz.prog Tryz.f4 false true false false) := by
  refine returnsInHanded_of_change_and (C := Tryz.checked) (X := fun w _ => laidMetH Tryz.prog laid6 w) (fun _ _ _ hh h => h.of_heap hh) own started (by kernel_rfl) Tryz.func4
    (ChangeSpec.witness_shaped (enc := enc) (C := Tryz.checked) (os := os) (X := fun w _ => laidMetH Tryz.prog laid6 w) false (World.doorLaid Tryz.prog 400 os) #[.agg #[.slice none 0 0, .slice none 0 0, .slice none 0 0]] 8 rfl (World.shaped_of_RefB (by kernel_rfl) (by kernel_rfl)) (by kernel_rfl) (by kernel_rfl) (by kernel_rfl) (door_met os _)) ?_
  intro W base args ds gs before hval0 hW _ _ hL _
  have hval : ∀ (j : Nat) t v, Tryz.f4.params[j]? = some t → args[j]? = some v → Value.okWide Tryz.prog W .any base t v := hval0
  have hW' := hW
  obtain ⟨p, q, hA0, hV, rfl, hfz, hnd⟩ := hW
  have hA : DataW.TrodAll enc Tryz.prog W 0 (fun _ => true) true Tryz.f4.params.toList args.toList ds p := hA0
  rw [Tryz.params4] at hA hval
  obtain ⟨v0, vs0, d0, ds0, p0, q0, hargs, rfl, rfl, h0, r0⟩ := trodAll_cons hA
  obtain ⟨rfl, rfl, rfl⟩ := trodAll_nil r0
  obtain rfl : args = #[v0] := by cases args; simp_all
  obtain ⟨rfl, rfl⟩ := trodVars_none hV
  have t0 := h0
  have lt0 : ∀ x ∈ p0, x.block < W.heap.size := by obtain ⟨m, hm⟩ := t0; exact DataW.trod_lt m _ _ _ hm
  obtain ⟨us0, a0, rfl, hs0, ok0⟩ := open_struct prY OkP Tryz.underlying49 (fun _ _ _ h => tr_prog h) (hval 0 49 v0 rfl rfl) h0
  clear hA0 hval0
  refine (lprintPrograms us0 a0 W hs0 ok0 (glob_of_laid hL)).mono fun e W' ⟨he, bel⟩ => ?_
  subst he
  exact ⟨_, rfl, _, _, _, [], _, [], hW', trodAll_mk1 (shut_bool Tryz.underlying4 _), (trodAll_cons_mk (Below.trod laidOut (by kernel_rfl) (of_decide_eq_true (by kernel_rfl)) t0 bel lt0) trodAll_mk0), rfl, bel.frame _, fun h => by cases h⟩

theorem holds_lprintPrograms : Rows.PrintProgramsSaid :=
  OpenClaim.holds_of_wide 4 Tryz.f4 rfl rfl rfl rfl rfl rfl rfl ⟨rfl, rfl, rfl, rfl, rfl⟩ rfl rfl rfl rfl rfl (by kernel_rfl) Tryz.func4 (by kernel_rfl)
    (of_decide_eq_true (by kernel_rfl)) (by unfold Func.isWrapper; rw [if_neg (of_decide_eq_false (by kernel_rfl))]; exact ⟨rfl, rfl⟩)
    (fun os started H enc _ => lifted_lprintPrograms os started H enc)

theorem card_lprintPrograms : Rows.PrintProgramsCardSaid :=
  Claim7.holds_tied_plain_at .later [] Rows.printProgramsCard.laidKinds true Rows.printProgramsCard.stood.harness Rows.printProgramsCard.stood.looks
    holds_lprintPrograms (fun _ h => by cases h) (by kernel_rfl) (fun _ h => by cases h) printPrograms_row_tie rfl ⟨rfl, rfl⟩ (by kernel_rfl) rfl
    (fun f fn hf hfn => by
      obtain rfl : f = 4 := Option.some.inj ((show Tryz.prog.funcNamed "pedigree/pedigreelaw14.PrintPrograms" = some 4 by kernel_rfl).symm.trans hf) |>.symm
      obtain rfl : fn = Tryz.f4 := (Option.some.inj (Tryz.func4.symm.trans hfn)).symm
      exact ⟨by kernel_rfl, fun j t ht => by
        rw [Tryz.params4] at ht
        have hm : t ∈ [49] := by simpa using Array.mem_of_getElem? ht
        have hall : ([49].all fun u => !Tryz.prog.wantsStandIn u) = true := by kernel_rfl
        exact (show Tryz.prog.wantsStandIn t = false by simpa using List.all_eq_true.1 hall t hm)⟩)
    (by kernel_rfl)
#print axioms card_lprintPrograms

end
end Go.Proofs.YtlbofeidiclhgaaGreatDoor

/-
  The laws' copies of a size: declarations whose types lie where they lay at first.
  The laws' copies of a size: programs.
  The laws' copies are of a size.
  The words of what print writes: each part's text adds its tokens ahead of whatever follows. No function is named here.
  The words of what print writes: values, marks, parts, programs. No function is named here.
  The words of a printed program.
-/
import Derived.Test.YtlbofeidiclhgaaGreatDoorK14
import Derived.Test.YtlbofeidiclhgaaGreatDoorK15
import Derived.Test.YtlbofeidiclhgaaGreatDoorK08
import Derived.Test.YtlbofeidiclhgaaGreatDoorK12
namespace Go.Proofs.YtlbofeidiclhgaaGreatDoor
section
open Go Go.RowKit Go.Shelf

/-- Declarations whose types are read in a world that stands. -/
def dfY (wO : World) : Lay DeL where
  sz := 3
  is := fun _ _ us d => ∃ u, us = [.string ⟨d.name.toArray⟩, .bool d.base, u] ∧ RowIn tyY (fun _ => True) wO u d.types
  len := fun h => by obtain ⟨u, rfl, -⟩ := h; rfl
  one := fun h x hx => by
    obtain ⟨u, rfl, h⟩ := h
    simp only [List.mem_cons, List.not_mem_nil, or_false] at hx
    rcases hx with rfl | rfl | rfl
    · rfl
    · rfl
    · exact rowIn_one h
  keep := fun h _ _ => h
theorem dfY.row {wO W : World} {S : Nat → Prop} {v : Value} {L : List DeL} (h : RowIn (dfY wO) S W v L) (hb : Below wO.heap.size wO W) : RowIn deY (fun _ => True) W v L := by
  obtain ⟨p, c, rfl, h1, h2, h⟩ := h
  refine ⟨p, c, rfl, h1, h2, ?_⟩
  rcases h with h | ⟨b, off, rfl, -, hl, h⟩
  · exact .inl h
  · refine .inr ⟨b, off, rfl, trivial, hl, fun j hj => ?_⟩
    obtain ⟨us, ⟨u, rfl, hu⟩, hc⟩ := h j hj
    exact ⟨_, ⟨u, rfl, hu.in_below hb⟩, hc⟩
theorem dfY.of {wO : World} {S : Nat → Prop} {v : Value} {L : List DeL} (h : RowIn deY S wO v L) : RowIn (dfY wO) S wO v L := by
  obtain ⟨p, c, rfl, h1, h2, h⟩ := h
  refine ⟨p, c, rfl, h1, h2, ?_⟩
  rcases h with h | ⟨b, off, rfl, hS, hl, h⟩
  · exact .inl h
  · refine .inr ⟨b, off, rfl, hS, hl, fun j hj => ?_⟩
    obtain ⟨us, ⟨u, rfl, hu⟩, hc⟩ := h j hj
    exact ⟨_, ⟨u, rfl, hu.keep (Nat.le_refl _) fun _ _ _ => ⟨trivial, rfl⟩⟩, hc⟩
set_option maxRecDepth 100000 in
set_option maxHeartbeats 8000000 in
theorem ldeclw_any (d : DeL) (u : Value) (S : Nat → Prop) (wO w : World) (h : RowIn tyY S wO u d.types) :
    Calls Tryz.prog 8 #[.agg #[.string ⟨d.name.toArray⟩, .bool d.base, u]] w fun e w' => (∃ v, e = .returned (.agg #[.string ⟨(cutD d).name.toArray⟩, .bool (cutD d).base, v]) ∧ RowIn tyY S wO v (cutD d).types) ∧ Below w.heap.size w w' := by
  have HI := Lib.hid h
  obtain ⟨p, c, rfl⟩ := h.shape
  have hn2 := len_le h
  obtain ⟨p0, c0, e0, hc1, hc2, -⟩ := h
  injection e0 with e1 e2 e3
  subst e1 e3
  clear e2
  rw [show (⟨(cutD d).name.toArray⟩ : ByteArray) = cutB ⟨d.name.toArray⟩ from (cutB_list d.name).symm]
  generalize (⟨d.name.toArray⟩ : ByteArray) = nm at *
  obtain ⟨L, hL⟩ : ∃ L, L = d.types := ⟨_, rfl⟩
  rw [show (cutD d).types = L.take 12 by rw [hL]; rfl, show (cutD d).base = d.base from rfl]
  rw [← hL] at HI hn2 hc1 ⊢
  generalize d.base = bs at *
  obtain ⟨n, hn⟩ : ∃ n, n = L.length := ⟨_, rfl⟩
  have HNn := Lib.hid hn
  rw [← hn] at HI hn2 hc1 ⊢
  clear hL hn d
  have hn3 : (n : Int) ≤ 9223372036854775807 := by omega
  obtain ⟨w0, hw0⟩ : ∃ w0, (w.alloc (.cells #[.string nm, .bool bs, .slice p n c] 30)).alloc (.cells #[.string ⟨#[]⟩, .bool false, .slice none 0 0] 30) = w0 := ⟨_, rfl⟩
  have HB := Lib.hid (show Below w.heap.size w w0 by rw [← hw0]; exact below_box2 w _ _)
  have hx := two_newA w (.cells #[.string nm, .bool bs, .slice p n c] 30) (.cells #[.string ⟨#[]⟩, .bool false, .slice none 0 0] 30)
  rw [hw0] at hx
  have HX := Lib.hid hx
  have HW0 := Lib.hid hw0
  clear hw0 hx
  go_enter Tryz.func8, Tryz.ntmps8
  go_wp2_with fail
  try rw [HW0.out]
  refine (ltext_any _ _).mono ?_
  rintro y w1 ⟨rfl, rfl⟩
  obtain ⟨⟨d0, d1, d2⟩, g0, g1, g2⟩ := cells3 HX.out.1
  obtain ⟨⟨b0, b1, b2⟩, k0, k1, k2⟩ := cells3 HX.out.2
  obtain ⟨wA, hwA⟩ : ∃ wA, w0.setCell ⟨w.heap.size, 0, none⟩ (.string (cutB nm)) = wA := ⟨_, rfl⟩
  have HA0 := Lib.hid (show wA.heap[w.heap.size]? = some (.cells #[.string (cutB nm), .bool bs, .slice p n c] 30 (0, 0)) by rw [← hwA]; exact Go.heap_setCell_same _ w.heap.size 0 _ _ _ HX.out.1)
  have HA1 := Lib.hid (show wA.heap[w.heap.size + 1]? = some (.cells #[.string ⟨#[]⟩, .bool false, .slice none 0 0] 30 (0, 0)) by rw [← hwA]; exact (heap_setCell_other _ ⟨w.heap.size, 0, none⟩ _ _ (by simp)).trans HX.out.2)
  have HBA := Lib.hid (show Below w.heap.size w wA by rw [← hwA]; exact HB.out.setCell (p := ⟨w.heap.size, 0, none⟩) (Nat.le_refl _) _)
  obtain ⟨⟨i0, i1, i2⟩, if0, if1, if2⟩ := cells3 HA0.out
  obtain ⟨⟨j0, j1, j2⟩, jf0, jf1, jf2⟩ := cells3 HA1.out
  have HWA := Lib.hid hwA
  clear hwA
  by_cases hgo : 12 < n
  · have hgt : (12 : Int) < (n : Int) := by omega
    have hle12 : (12 : Int) ≤ (n : Int) := by omega
    have hle12' : (12 : Int) ≤ (c : Int) := by omega
    have hcn : 12 ≤ c := by omega
    have HF : Hid (RowIn tyY S wO (.slice p 12 c) (L.take 12)) := Lib.hid (HI.out.cut (by have := HNn.out; omega))
    go_wp2_with fail
    have hr2 := (heap_setCell_other (w0.setCell ⟨w.heap.size, 0, none⟩ (.string (cutB nm))) ⟨w.heap.size, 2, none⟩ (w.heap.size + 1) (.slice p 12 c) (show w.heap.size + 1 ≠ w.heap.size by omega)).trans ((heap_setCell_other w0 ⟨w.heap.size, 0, none⟩ (w.heap.size + 1) (.string (cutB nm)) (show w.heap.size + 1 ≠ w.heap.size by omega)).trans HX.out.2)
    refine bodyPost_ret (results_cell_row (fn := Tryz.f8) (by rfl) _ _ _ _ _ _ _ (by rfl) (rowS3_set hr2) Tryz.underlying30 (by rfl) (by kernel_rfl)) (by rfl) ?_
    have hbf := (((((HB.out.setCell (p := ⟨w.heap.size, 0, none⟩) (Nat.le_refl _) (.string (cutB nm))).setCell (p := ⟨w.heap.size, 2, none⟩) (Nat.le_refl _) (.slice p 12 c)).setCell (p := ⟨w.heap.size + 1, 0, none⟩) (by simp) (.string (cutB nm))).setCell (p := ⟨w.heap.size + 1, 1, none⟩) (by simp) (.bool bs)).setCell (p := ⟨w.heap.size + 1, 2, none⟩) (by simp) (.slice p 12 c))
    exact ⟨⟨_, rfl, HF.out⟩, hbf⟩
  · have hgt : ¬ (12 : Int) < (n : Int) := by omega
    have HF : Hid (RowIn tyY S wO (.slice p n c) (L.take 12)) := Lib.hid (by rw [List.take_of_length_le (by have := HNn.out; omega)]; exact HI.out)
    go_wp2_with fail
    have hr2 := (heap_setCell_other w0 ⟨w.heap.size, 0, none⟩ (w.heap.size + 1) (.string (cutB nm)) (show w.heap.size + 1 ≠ w.heap.size by omega)).trans HX.out.2
    refine bodyPost_ret (results_cell_row (fn := Tryz.f8) (by rfl) _ _ _ _ _ _ _ (by rfl) (rowS3_set hr2) Tryz.underlying30 (by rfl) (by kernel_rfl)) (by rfl) ?_
    have hbf := ((((HB.out.setCell (p := ⟨w.heap.size, 0, none⟩) (Nat.le_refl _) (.string (cutB nm))).setCell (p := ⟨w.heap.size + 1, 0, none⟩) (by simp) (.string (cutB nm))).setCell (p := ⟨w.heap.size + 1, 1, none⟩) (by simp) (.bool bs)).setCell (p := ⟨w.heap.size + 1, 2, none⟩) (by simp) (.slice p n c))
    exact ⟨⟨_, rfl, HF.out⟩, hbf⟩
end
section
open Go Go.RowKit Go.Shelf

def cutP (p : PrL) : PrL := ⟨(p.decls.take 12).map cutD, (p.ons.take 8).map cutO, (p.rules.take 12).map cutR⟩
set_option maxRecDepth 100000 in
set_option maxHeartbeats 80000000 in
theorem lprog_any (p : PrL) (u v x : Value) (wO w : World) (h1 : RowIn (dfY wO) (fun _ => True) w u p.decls) (h2 : RowIn onY (fun _ => True) w v p.ons) (h3 : RowIn ruY (fun _ => True) w x p.rules) :
    Calls Tryz.prog 17 #[.agg #[u, v, x]] w fun e w' => (∃ a b c, e = .returned (.agg #[a, b, c]) ∧ RowIn (dfY wO) (fun k => w.heap.size ≤ k) w' a (cutP p).decls ∧ RowIn onY (fun k => w.heap.size ≤ k) w' b (cutP p).ons ∧ RowIn ruY (fun k => w.heap.size ≤ k) w' c (cutP p).rules) ∧ Below w.heap.size w w' := by
  have HI1 := Lib.hid h1
  have HI2 := Lib.hid h2
  have HI3 := Lib.hid h3
  have hm1 := len_le h1
  have hm2 := len_le h2
  have hm3 := len_le h3
  obtain ⟨q1, k1, rfl⟩ := h1.shape
  obtain ⟨q2, k2, rfl⟩ := h2.shape
  obtain ⟨q3, k3, rfl⟩ := h3.shape
  obtain ⟨L1, hL1⟩ : ∃ L, L = p.decls := ⟨_, rfl⟩
  obtain ⟨L2, hL2⟩ : ∃ L, L = p.ons := ⟨_, rfl⟩
  obtain ⟨L3, hL3⟩ : ∃ L, L = p.rules := ⟨_, rfl⟩
  rw [show (cutP p).decls = (L1.take 12).map cutD by rw [hL1]; rfl, show (cutP p).ons = (L2.take 8).map cutO by rw [hL2]; rfl, show (cutP p).rules = (L3.take 12).map cutR by rw [hL3]; rfl]
  rw [← hL1] at HI1 hm1 ⊢
  rw [← hL2] at HI2 hm2 ⊢
  rw [← hL3] at HI3 hm3 ⊢
  obtain ⟨n1, hn1⟩ : ∃ n, n = L1.length := ⟨_, rfl⟩
  obtain ⟨n2, hn2⟩ : ∃ n, n = L2.length := ⟨_, rfl⟩
  obtain ⟨n3, hn3⟩ : ∃ n, n = L3.length := ⟨_, rfl⟩
  have HN1 := Lib.hid hn1
  have HN2 := Lib.hid hn2
  have HN3 := Lib.hid hn3
  rw [← hn1] at HI1 hm1 ⊢
  rw [← hn2] at HI2 hm2 ⊢
  rw [← hn3] at HI3 hm3 ⊢
  have hi1 : (n1 : Int) ≤ 9223372036854775807 := by omega
  have hi2 : (n2 : Int) ≤ 9223372036854775807 := by omega
  have hi3 : (n3 : Int) ≤ 9223372036854775807 := by omega
  clear h1 h2 h3 hm1 hm2 hm3 hL1 hL2 hL3 hn1 hn2 hn3 p
  obtain ⟨w0, hw0⟩ : ∃ w0, ((w.alloc (.cells #[.slice q1 n1 k1, .slice q2 n2 k2, .slice q3 n3 k3] 49)).alloc (.cells #[.slice none 0 0, .slice none 0 0, .slice none 0 0] 49)).alloc (.cells #[.slice none 0 0, .slice none 0 0, .slice none 0 0] 49) = w0 := ⟨_, rfl⟩
  have hs0 : w0.heap.size = w.heap.size + 3 := by rw [← hw0]; simp
  have HBS1 := Lib.hid (show Below w.heap.size w w0 by rw [← hw0]; exact below_box3 w _ _ _)
  have hx := three_new w (.cells #[.slice q1 n1 k1, .slice q2 n2 k2, .slice q3 n3 k3] 49) (.cells #[.slice none 0 0, .slice none 0 0, .slice none 0 0] 49) (.cells #[.slice none 0 0, .slice none 0 0, .slice none 0 0] 49)
  rw [hw0] at hx
  have HX1 := Lib.hid (And.intro hx.1 hx.2.1)
  have HS1 : Hid (CpR (dfY wO) 30 w.heap.size w0.heap.size (w.heap.size + 2) w0 (fun y => .cells #[y, .slice none 0 0, .slice none 0 0] 49) ((L1.take 0).map cutD) (.slice none 0 0) w0) := Lib.hid (CpR.zero (by omega) (by omega) hx.2.2)
  have HW0 := Lib.hid hw0
  clear hw0 hx
  go_enter Tryz.func17, Tryz.ntmps17
  go_wp2_with fail
  rw [HW0.out]
  go_loopw [4] (fun i wr => ∃ (k : Nat) (v' : Value), k ≤ n1 ∧ k ≤ 12 ∧ i = .int .i64 k ∧ Hid (CpR (dfY wO) 30 w.heap.size w0.heap.size (w.heap.size + 2) w0 (fun y => .cells #[y, .slice none 0 0, .slice none 0 0] 49) ((L1.take k).map cutD) v' wr)) (fun i _ => n1 - (intOf i).toNat)
  case atStart => exact ⟨0, _, Nat.zero_le _, Nat.zero_le _, rfl, HS1⟩
  case round =>
    obtain ⟨k, v', hk, hkm, rfl, HJ⟩ := hrel
    have h0 : (0 : Int) ≤ (k : Int) := by omega
    have HX0 := Lib.hid ((HJ.out.frame w.heap.size (by omega) (by omega)).trans HX1.out.1)
    obtain ⟨⟨c0, c1, c2⟩, f0, f1, f2⟩ := cells3 HX0.out
    by_cases hgo : k < n1 ∧ k < 12
    · obtain ⟨⟨d0, d1, d2⟩, g0, g1, g2⟩ := cells3 HJ.out.x
      have hlt' : (k : Int) < (n1 : Int) := by omega
      have hlm : (k : Int) < 12 := by omega
      have hkn : k < L1.length := by rw [← HN1.out]; exact hgo.1
      have HStep := Lib.hid (take_map_succ (f := cutD) hkn)
      obtain ⟨b, off, c1', us, e1, hbl, hu, hc⟩ := row_at HI1.out hkn
      injection e1 with e1 hq1 hq2
      subst e1
      clear hq1 hq2
      obtain ⟨X, hX⟩ : ∃ X, X = L1[k] := ⟨_, rfl⟩
      rw [← hX] at hu HStep
      clear hX
      obtain ⟨u', rfl, hu'⟩ := hu
      have HBr := Lib.hid (show Below w.heap.size w wr from HBS1.out.trans HJ.out.below)
      have HLt : Hid (∀ W, Below wr.heap.size wr W → Calls Tryz.prog 8 #[.agg #[.string ⟨X.name.toArray⟩, .bool X.base, u']] W fun e w' => (∃ v, e = .returned (.agg #[.string ⟨(cutD X).name.toArray⟩, .bool (cutD X).base, v]) ∧ RowIn tyY (fun _ => True) wO v (cutD X).types) ∧ Below W.heap.size W w') := Lib.hid (fun W hb => ldeclw_any X u' _ wO W hu')
      obtain ⟨pu, cu, rfl⟩ := hu'.shape
      have hbw : ∀ o, wr.cell? ⟨b, o, none⟩ = w.cell? ⟨b, o, none⟩ := fun o => HBr.out.cell (p := ⟨b, o, none⟩) hbl
      have a0 : wr.cell? ⟨b, off + k * 3, none⟩ = some (.string ⟨X.name.toArray⟩) := (hbw _).trans (hc 0 _ rfl)
      have a1 : wr.cell? ⟨b, off + k * 3 + 1, none⟩ = some (.bool X.base) := (hbw _).trans (hc 1 _ rfl)
      have a2 : wr.cell? ⟨b, off + k * 3 + 2, none⟩ = some (.slice pu X.types.length cu) := (hbw _).trans (hc 2 _ rfl)
      have HEl := Lib.hid (And.intro (show b < wr.heap.size from Nat.lt_of_lt_of_le hbl HBr.out.size) (And.intro a0 (And.intro a1 a2)))
      obtain ⟨Z, hZ⟩ : ∃ Z, Z = cutD X := ⟨_, rfl⟩
      rw [← hZ] at HLt HStep
      clear hZ hc hbw hbl hu' hgo
      obtain ⟨Tk, hT⟩ : ∃ Tk, Tk = (L1.take k).map cutD := ⟨_, rfl⟩
      have HTl := Lib.hid (show Tk.length ≤ 1000000 by rw [hT, List.length_map, List.length_take]; omega)
      rw [← hT] at HJ HStep
      clear hT
      obtain ⟨p', c'', rfl⟩ := HJ.out.shape
      go_wp2_with fail
      have HS := Lib.hid ((Below.refl wr.heap.size wr).drew)
      refine Till.begin (S := fun X => Below wr.heap.size wr X) (z := 9) (by kernel_rfl) ?_
      refine Till.takeY 0 18 (v := ?_) rfl rfl (by kernel_rfl) (by kernel_rfl) (by kernel_rfl) (by decide) (fun _ _ _ h => h) (by kernel_rfl) ?_ (fun _ => HS.out) (by first | (simp only [put_norm]; exact rfl) | exact rfl) ?_
      rotate_left
      · rintro X0 -
        go_simp; try (with_reducible rfl)
      refine Till.takeY 2 20 (v := ?_) rfl rfl (by kernel_rfl) (by kernel_rfl) (by kernel_rfl) (by decide) (fun _ _ _ h => h) (by kernel_rfl) ?_ (fun _ => HS.out) (by first | (simp only [put_norm]; exact rfl) | exact rfl) ?_
      rotate_left
      · rintro X0 -
        go_simp; try (with_reducible rfl)
      refine Till.takeY 4 22 (v := ?_) rfl rfl (by kernel_rfl) (by kernel_rfl) (by kernel_rfl) (by decide) (fun _ _ _ h => h) (by kernel_rfl) ?_ (fun _ => HS.out) (by first | (simp only [put_norm]; exact rfl) | exact rfl) ?_
      rotate_left
      · rintro X0 -
        go_simp; try (with_reducible rfl)
      refine Till.take [9] 1 19 (v := ?_) rfl rfl (by kernel_rfl) (by kernel_rfl) (by kernel_rfl) (by kernel_rfl) (fun _ _ _ h => h) (by kernel_rfl) ?_ HS.out (by first | (simp only [put_norm]; exact rfl) | exact rfl) ?_
      rotate_left
      · rintro X0 s0
        obtain ⟨⟨x0, x1, x2⟩, -⟩ := cells3 ((s0.block (w.heap.size + 2) (by have := HJ.out.lt; have := HJ.out.size; omega)).trans HJ.out.x)
        clear s0
        go_simp; try (with_reducible rfl)
      refine Till.take [5, 6, 7, 8, 9] 3 21 (v := ?_) rfl rfl (by kernel_rfl) (by kernel_rfl) (by kernel_rfl) (by kernel_rfl) (fun _ _ _ h => h) (by kernel_rfl) ?_ HS.out (by first | (simp only [put_norm]; exact rfl) | exact rfl) ?_
      rotate_left
      · rintro X0 s0
        obtain ⟨⟨x0, x1, x2⟩, -⟩ := cells3 ((s0.block w.heap.size (by have := HJ.out.lt; have := HJ.out.size; omega)).trans HX0.out)
        clear s0
        go_simp; try (with_reducible rfl)
      refine Till.takeY 5 23 (v := ?_) rfl rfl (by kernel_rfl) (by kernel_rfl) (by kernel_rfl) (by decide) (fun _ _ _ h => h) (by kernel_rfl) ?_ (fun _ => HS.out) (by first | (simp only [put_norm]; exact rfl) | exact rfl) ?_
      rotate_left
      · rintro X0 -
        go_simp; try (with_reducible rfl)
      refine Till.take [7, 8, 9] 6 24 (v := ?_) rfl rfl (by kernel_rfl) (by kernel_rfl) (by kernel_rfl) (by kernel_rfl) (fun _ _ _ h => h) (by kernel_rfl) ?_ HS.out (by first | (simp only [put_norm]; exact rfl) | exact rfl) ?_
      rotate_left
      · rintro X0 s0
        have y0 := (s0.cell (p := ⟨b, off + k * 3, none⟩) HEl.out.1).trans HEl.out.2.1; have y1 := (s0.cell (p := ⟨b, off + k * 3 + 1, none⟩) HEl.out.1).trans HEl.out.2.2.1; have y2 := (s0.cell (p := ⟨b, off + k * 3 + 2, none⟩) HEl.out.1).trans HEl.out.2.2.2
        clear s0
        go_simp; try (with_reducible rfl)
      refine Till.one 7 (by kernel_rfl) rfl (fun K hK => ?_)
      go_simp
      go_at_call 8
      refine (HLt.out _ HS.out).mono ?_
      rintro y w3 ⟨⟨v3, rfl, hv3⟩, hb3⟩
      obtain ⟨p3, c3, rfl⟩ := hv3.shape
      have HS3 := Lib.hid (show Below wr.heap.size wr w3 from HS.out.trans hb3)
      have HJ3 := Lib.hid (HJ.out.on HS3.out)
      have HIs : Hid ((dfY wO).is (fun k => w0.heap.size ≤ k ∧ (Value.slice p' Tk.length c'').ownBlock ≠ some k) (w3.alloc (.cells #[.string ⟨Z.name.toArray⟩, .bool Z.base, .slice p3 Z.types.length c3] 30)) [.string ⟨Z.name.toArray⟩, .bool Z.base, .slice p3 Z.types.length c3] Z) := Lib.hid ⟨_, rfl, hv3⟩
      clear hb3 hv3
      go_simp
      refine hK.out _ _ (fun _ => HS3.out) ?_
      clear hK K
      try simp only [put_norm]
      refine Till.one 8 (by kernel_rfl) rfl (fun K hK => ?_)
      go_simp
      have HL3 := Lib.hid (HJ3.out.lit (.cells #[.string ⟨Z.name.toArray⟩, .bool Z.base, .slice p3 Z.types.length c3] 30))
      have HS4 := Lib.hid (HS3.out.alloc HS3.out.size (.cells #[.string ⟨Z.name.toArray⟩, .bool Z.base, .slice p3 Z.types.length c3] 30))
      refine hK.out _ _ (fun _ => HS4.out) ?_
      clear hK K
      try simp only [put_norm]
      refine Till.one 9 (by kernel_rfl) rfl (fun K hK => ?_)
      refine step_appY (dfY wO) rfl (.tmp 19) (.tmp 26) 45 30 rfl w0.heap.size (.agg #[.string ⟨#[]⟩, .bool false, .slice none 0 0]) 48 Tryz.underlying45 Tryz.infoDe rfl (show 0 < 3 by decide) (by decide) _ Tk Z [.string ⟨Z.name.toArray⟩, .bool Z.base, .slice p3 Z.types.length c3] w3.heap.size 1 rfl rfl HL3.out.own HIs.out (lit_rowcells w3 [.string ⟨Z.name.toArray⟩, .bool Z.base, .slice p3 Z.types.length c3] _) HTl.out HL3.out.size ?_
      intro v4 w4 ho hg hv4
      obtain ⟨p4, n4, c4, rfl, hn4⟩ := rowOwn_shape ho
      have HA4 := Lib.hid (HL3.out.app ho hg)
      obtain ⟨⟨j0, j1, j2⟩, jf0, jf1, jf2⟩ := cells3 HA4.out.x
      clear ho hg hv4 hn4
      refine hK.out _ _ (fun h => nomatch (show (true : Bool) = false from h)) ?_
      clear hK K
      try simp only [put_norm]
      refine Till.takeY 10 28 (v := ?_) rfl rfl (by kernel_rfl) (by kernel_rfl) (by kernel_rfl) (by decide) (fun _ _ _ h => h) (by kernel_rfl) ?_ (fun h => nomatch (show (true : Bool) = false from h)) (by first | (simp only [put_norm]; exact rfl) | exact rfl) ?_
      rotate_left
      · rintro X0 -
        go_simp; try (with_reducible rfl)
      refine Till.one 11 (by kernel_rfl) rfl (fun K hK => ?_)
      go_simp
      refine hK.out _ _ (fun h => nomatch (show (true : Bool) = false from h)) ?_
      clear hK K
      try simp only [put_norm]
      refine Till.done (by kernel_rfl) ?_ _
      go_wp2_with fail
      go_roundw
      case rel =>
        refine ⟨k + 1, .slice p4 n4 c4, by omega, by omega, by go_num, Lib.hid ?_⟩
        rw [HStep.out]
        exact CpB.put HA4.out rfl rfl
      case measure => simp [intOf]; omega
    · have HT := Lib.hid (take_end (f := cutD) HN1.out hk hkm hgo)
      have hcase : ((k : Int) < (n1 : Int) ∧ ¬ (k : Int) < 12) ∨ ¬ (k : Int) < (n1 : Int) := by omega
      have hsz1 : w0.heap.size ≤ wr.heap.size := HJ.out.size
      have HX2 := Lib.hid (And.intro HX0.out ((HJ.out.frame (w.heap.size + 1) (by omega) (by omega)).trans HX1.out.2))
      have HBS2 := Lib.hid (show Below w.heap.size w wr from HBS1.out.trans HJ.out.below)
      have HP1 : Hid (RowIn (dfY wO) (fun j => w0.heap.size ≤ j) wr v' ((L1.take 12).map cutD)) := Lib.hid (by rw [← HT.out]; exact HJ.out.own.in_)
      obtain ⟨pv1, vn1, cv1, rfl, -⟩ := rowOwn_shape HJ.out.own
      have HS2 : Hid (CpR onY 34 w.heap.size wr.heap.size (w.heap.size + 2) wr (fun y => .cells #[.slice pv1 vn1 cv1, y, .slice none 0 0] 49) ((L2.take 0).map cutO) (.slice none 0 0) wr) := Lib.hid (CpR.zero (by omega) (by omega) HJ.out.x)
      clear HT hgo hk hkm
      rcases hcase with ⟨hlt', hlm⟩ | hlt'
      all_goals
        clear HJ
        go_wp2_with fail
        clear c0 c1 c2 f0 f1 f2 HX0
        generalize wr = wA at *
        go_loopw [5] (fun i wr => ∃ (k : Nat) (v' : Value), k ≤ n2 ∧ k ≤ 8 ∧ i = .int .i64 k ∧ Hid (CpR onY 34 w.heap.size wA.heap.size (w.heap.size + 2) wA (fun y => .cells #[.slice pv1 vn1 cv1, y, .slice none 0 0] 49) ((L2.take k).map cutO) v' wr)) (fun i _ => n2 - (intOf i).toNat)
        case atStart => exact ⟨0, _, Nat.zero_le _, Nat.zero_le _, rfl, HS2⟩
        case round =>
          clear hlt'
          obtain ⟨k, v', hk, hkm, rfl, HJ⟩ := hrel
          have h0 : (0 : Int) ≤ (k : Int) := by omega
          have HX0 := Lib.hid ((HJ.out.frame w.heap.size (by omega) (by omega)).trans HX2.out.1)
          obtain ⟨⟨c0, c1, c2⟩, f0, f1, f2⟩ := cells3 HX0.out
          by_cases hgo : k < n2 ∧ k < 8
          · obtain ⟨⟨d0, d1, d2⟩, g0, g1, g2⟩ := cells3 HJ.out.x
            have hlt' : (k : Int) < (n2 : Int) := by omega
            have hlm : (k : Int) < 8 := by omega
            have hkn : k < L2.length := by rw [← HN2.out]; exact hgo.1
            have HStep := Lib.hid (take_map_succ (f := cutO) hkn)
            obtain ⟨b, off, c1', us, e1, hbl, hu, hc⟩ := row_at HI2.out hkn
            injection e1 with e1 hq1 hq2
            subst e1
            clear hq1 hq2
            obtain ⟨X, hX⟩ : ∃ X, X = L2[k] := ⟨_, rfl⟩
            rw [← hX] at hu HStep
            clear hX
            obtain ⟨u', v'', rfl, hu', hv'⟩ := hu
            have HBr := Lib.hid (show Below w.heap.size w wr from HBS2.out.trans HJ.out.below)
            have HLt : Hid (∀ W, Below wr.heap.size wr W → Calls Tryz.prog 9 #[.agg #[.string ⟨X.event.toArray⟩, u', v'']] W fun e w' => (∃ v y, e = .returned (.agg #[.string ⟨(cutO X).event.toArray⟩, v, y]) ∧ RowIn paY (fun k => W.heap.size ≤ k) w' v (cutO X).params ∧ RowIn acY (fun k => W.heap.size ≤ k) w' y (cutO X).acts) ∧ Below W.heap.size W w') := Lib.hid (fun W hb => lon_any X u' v'' _ W ((hu'.in_below HBr.out).in_below hb) ((hv'.in_below HBr.out).in_below hb))
            obtain ⟨pu, cu, rfl⟩ := hu'.shape
            obtain ⟨qu, du, rfl⟩ := hv'.shape
            have hbw : ∀ o, wr.cell? ⟨b, o, none⟩ = w.cell? ⟨b, o, none⟩ := fun o => HBr.out.cell (p := ⟨b, o, none⟩) hbl
            have a0 : wr.cell? ⟨b, off + k * 3, none⟩ = some (.string ⟨X.event.toArray⟩) := (hbw _).trans (hc 0 _ rfl)
            have a1 : wr.cell? ⟨b, off + k * 3 + 1, none⟩ = some (.slice pu X.params.length cu) := (hbw _).trans (hc 1 _ rfl)
            have a2 : wr.cell? ⟨b, off + k * 3 + 2, none⟩ = some (.slice qu X.acts.length du) := (hbw _).trans (hc 2 _ rfl)
            have HEl := Lib.hid (And.intro (show b < wr.heap.size from Nat.lt_of_lt_of_le hbl HBr.out.size) (And.intro a0 (And.intro a1 a2)))
            obtain ⟨Z, hZ⟩ : ∃ Z, Z = cutO X := ⟨_, rfl⟩
            rw [← hZ] at HLt HStep
            clear hZ hc hbw hbl hu' hv' hgo
            obtain ⟨Tk, hT⟩ : ∃ Tk, Tk = (L2.take k).map cutO := ⟨_, rfl⟩
            have HTl := Lib.hid (show Tk.length ≤ 1000000 by rw [hT, List.length_map, List.length_take]; omega)
            rw [← hT] at HJ HStep
            clear hT
            obtain ⟨p', c'', rfl⟩ := HJ.out.shape
            go_wp2_with fail
            have HS := Lib.hid ((Below.refl wr.heap.size wr).drew)
            refine Till.begin (S := fun X => Below wr.heap.size wr X) (z := 9) (by kernel_rfl) ?_
            refine Till.takeY 0 40 (v := ?_) rfl rfl (by kernel_rfl) (by kernel_rfl) (by kernel_rfl) (by decide) (fun _ _ _ h => h) (by kernel_rfl) ?_ (fun _ => HS.out) (by first | (simp only [put_norm]; exact rfl) | exact rfl) ?_
            rotate_left
            · rintro X0 -
              go_simp; try (with_reducible rfl)
            refine Till.takeY 2 42 (v := ?_) rfl rfl (by kernel_rfl) (by kernel_rfl) (by kernel_rfl) (by decide) (fun _ _ _ h => h) (by kernel_rfl) ?_ (fun _ => HS.out) (by first | (simp only [put_norm]; exact rfl) | exact rfl) ?_
            rotate_left
            · rintro X0 -
              go_simp; try (with_reducible rfl)
            refine Till.takeY 4 44 (v := ?_) rfl rfl (by kernel_rfl) (by kernel_rfl) (by kernel_rfl) (by decide) (fun _ _ _ h => h) (by kernel_rfl) ?_ (fun _ => HS.out) (by first | (simp only [put_norm]; exact rfl) | exact rfl) ?_
            rotate_left
            · rintro X0 -
              go_simp; try (with_reducible rfl)
            refine Till.take [9] 1 41 (v := ?_) rfl rfl (by kernel_rfl) (by kernel_rfl) (by kernel_rfl) (by kernel_rfl) (fun _ _ _ h => h) (by kernel_rfl) ?_ HS.out (by first | (simp only [put_norm]; exact rfl) | exact rfl) ?_
            rotate_left
            · rintro X0 s0
              obtain ⟨⟨x0, x1, x2⟩, -⟩ := cells3 ((s0.block (w.heap.size + 2) (by have := HJ.out.lt; have := HJ.out.size; omega)).trans HJ.out.x)
              clear s0
              go_simp; try (with_reducible rfl)
            refine Till.take [5, 6, 7, 8, 9] 3 43 (v := ?_) rfl rfl (by kernel_rfl) (by kernel_rfl) (by kernel_rfl) (by kernel_rfl) (fun _ _ _ h => h) (by kernel_rfl) ?_ HS.out (by first | (simp only [put_norm]; exact rfl) | exact rfl) ?_
            rotate_left
            · rintro X0 s0
              obtain ⟨⟨x0, x1, x2⟩, -⟩ := cells3 ((s0.block w.heap.size (by have := HJ.out.lt; have := HJ.out.size; omega)).trans HX0.out)
              clear s0
              go_simp; try (with_reducible rfl)
            refine Till.takeY 5 45 (v := ?_) rfl rfl (by kernel_rfl) (by kernel_rfl) (by kernel_rfl) (by decide) (fun _ _ _ h => h) (by kernel_rfl) ?_ (fun _ => HS.out) (by first | (simp only [put_norm]; exact rfl) | exact rfl) ?_
            rotate_left
            · rintro X0 -
              go_simp; try (with_reducible rfl)
            refine Till.take [7, 8, 9] 6 46 (v := ?_) rfl rfl (by kernel_rfl) (by kernel_rfl) (by kernel_rfl) (by kernel_rfl) (fun _ _ _ h => h) (by kernel_rfl) ?_ HS.out (by first | (simp only [put_norm]; exact rfl) | exact rfl) ?_
            rotate_left
            · rintro X0 s0
              have y0 := (s0.cell (p := ⟨b, off + k * 3, none⟩) HEl.out.1).trans HEl.out.2.1; have y1 := (s0.cell (p := ⟨b, off + k * 3 + 1, none⟩) HEl.out.1).trans HEl.out.2.2.1; have y2 := (s0.cell (p := ⟨b, off + k * 3 + 2, none⟩) HEl.out.1).trans HEl.out.2.2.2
              clear s0
              go_simp; try (with_reducible rfl)
            refine Till.one 7 (by kernel_rfl) rfl (fun K hK => ?_)
            go_simp
            go_at_call 9
            refine (HLt.out _ HS.out).mono ?_
            rintro y w3 ⟨⟨v3, u3, rfl, hv3, hu3⟩, hb3⟩
            obtain ⟨p3, c3, rfl⟩ := hv3.shape
            obtain ⟨q3, d3, rfl⟩ := hu3.shape
            have HS3 := Lib.hid (show Below wr.heap.size wr w3 from HS.out.trans hb3)
            have HJ3 := Lib.hid (HJ.out.on HS3.out)
            have HIs : Hid (onY.is (fun k => wA.heap.size ≤ k ∧ (Value.slice p' Tk.length c'').ownBlock ≠ some k) (w3.alloc (.cells #[.string ⟨Z.event.toArray⟩, .slice p3 Z.params.length c3, .slice q3 Z.acts.length d3] 34)) [.string ⟨Z.event.toArray⟩, .slice p3 Z.params.length c3, .slice q3 Z.acts.length d3] Z) := Lib.hid ⟨_, _, rfl, hv3.keep (by simp) fun k hk hl => ⟨⟨Nat.le_trans HJ.out.size (by simpa using hk), fun e => by have h1 := (HJ.out.own.lt k e).2; simp at hk; omega⟩, Below.heap_alloc _ _ _ hl⟩, hu3.keep (by simp) fun k hk hl => ⟨⟨Nat.le_trans HJ.out.size (by simpa using hk), fun e => by have h1 := (HJ.out.own.lt k e).2; simp at hk; omega⟩, Below.heap_alloc _ _ _ hl⟩⟩
            clear hb3 hv3 hu3
            go_simp
            refine hK.out _ _ (fun _ => HS3.out) ?_
            clear hK K
            try simp only [put_norm]
            refine Till.one 8 (by kernel_rfl) rfl (fun K hK => ?_)
            go_simp
            have HL3 := Lib.hid (HJ3.out.lit (.cells #[.string ⟨Z.event.toArray⟩, .slice p3 Z.params.length c3, .slice q3 Z.acts.length d3] 34))
            have HS4 := Lib.hid (HS3.out.alloc HS3.out.size (.cells #[.string ⟨Z.event.toArray⟩, .slice p3 Z.params.length c3, .slice q3 Z.acts.length d3] 34))
            refine hK.out _ _ (fun _ => HS4.out) ?_
            clear hK K
            try simp only [put_norm]
            refine Till.one 9 (by kernel_rfl) rfl (fun K hK => ?_)
            refine step_appY onY rfl (.tmp 41) (.tmp 48) 46 34 rfl wA.heap.size (.agg #[.string ⟨#[]⟩, .slice none 0 0, .slice none 0 0]) 64 Tryz.underlying46 Tryz.infoOn rfl (show 0 < 3 by decide) (by decide) _ Tk Z [.string ⟨Z.event.toArray⟩, .slice p3 Z.params.length c3, .slice q3 Z.acts.length d3] w3.heap.size 1 rfl rfl HL3.out.own HIs.out (lit_rowcells w3 [.string ⟨Z.event.toArray⟩, .slice p3 Z.params.length c3, .slice q3 Z.acts.length d3] _) HTl.out HL3.out.size ?_
            intro v4 w4 ho hg hv4
            obtain ⟨p4, n4, c4, rfl, hn4⟩ := rowOwn_shape ho
            have HA4 := Lib.hid (HL3.out.app ho hg)
            obtain ⟨⟨j0, j1, j2⟩, jf0, jf1, jf2⟩ := cells3 HA4.out.x
            clear ho hg hv4 hn4
            refine hK.out _ _ (fun h => nomatch (show (true : Bool) = false from h)) ?_
            clear hK K
            try simp only [put_norm]
            refine Till.takeY 10 50 (v := ?_) rfl rfl (by kernel_rfl) (by kernel_rfl) (by kernel_rfl) (by decide) (fun _ _ _ h => h) (by kernel_rfl) ?_ (fun h => nomatch (show (true : Bool) = false from h)) (by first | (simp only [put_norm]; exact rfl) | exact rfl) ?_
            rotate_left
            · rintro X0 -
              go_simp; try (with_reducible rfl)
            refine Till.one 11 (by kernel_rfl) rfl (fun K hK => ?_)
            go_simp
            refine hK.out _ _ (fun h => nomatch (show (true : Bool) = false from h)) ?_
            clear hK K
            try simp only [put_norm]
            refine Till.done (by kernel_rfl) ?_ _
            go_wp2_with fail
            go_roundw
            case rel =>
              refine ⟨k + 1, .slice p4 n4 c4, by omega, by omega, by go_num, Lib.hid ?_⟩
              rw [HStep.out]
              exact CpB.put HA4.out rfl rfl
            case measure => simp [intOf]; omega
          · have HT := Lib.hid (take_end (f := cutO) HN2.out hk hkm hgo)
            have hcase : ((k : Int) < (n2 : Int) ∧ ¬ (k : Int) < 8) ∨ ¬ (k : Int) < (n2 : Int) := by omega
            have hsz2 : wA.heap.size ≤ wr.heap.size := HJ.out.size
            have HX3 := Lib.hid (And.intro HX0.out ((HJ.out.frame (w.heap.size + 1) (by omega) (by omega)).trans HX2.out.2))
            have HBS3 := Lib.hid (show Below w.heap.size w wr from HBS2.out.trans HJ.out.below)
            have HP2 : Hid (RowIn onY (fun j => wA.heap.size ≤ j) wr v' ((L2.take 8).map cutO)) := Lib.hid (by rw [← HT.out]; exact HJ.out.own.in_)
            obtain ⟨pv2, vn2, cv2, rfl, -⟩ := rowOwn_shape HJ.out.own
            replace HP1 := Lib.hid (HP1.out.keep (S' := fun j => w0.heap.size ≤ j) HJ.out.below.size fun j hj hl => ⟨by omega, HJ.out.frame j hl (by omega)⟩)
            have HS3 : Hid (CpR ruY 27 w.heap.size wr.heap.size (w.heap.size + 2) wr (fun y => .cells #[.slice pv1 vn1 cv1, .slice pv2 vn2 cv2, y] 49) ((L3.take 0).map cutR) (.slice none 0 0) wr) := Lib.hid (CpR.zero (by omega) (by omega) HJ.out.x)
            clear HT hgo hk hkm
            rcases hcase with ⟨hlt', hlm⟩ | hlt'
            all_goals
              clear HJ
              go_wp2_with fail
              clear c0 c1 c2 f0 f1 f2 HX0
              generalize wr = wB at *
              go_loopw [6] (fun i wr => ∃ (k : Nat) (v' : Value), k ≤ n3 ∧ k ≤ 12 ∧ i = .int .i64 k ∧ Hid (CpR ruY 27 w.heap.size wB.heap.size (w.heap.size + 2) wB (fun y => .cells #[.slice pv1 vn1 cv1, .slice pv2 vn2 cv2, y] 49) ((L3.take k).map cutR) v' wr)) (fun i _ => n3 - (intOf i).toNat)
              case atStart => exact ⟨0, _, Nat.zero_le _, Nat.zero_le _, rfl, HS3⟩
              case round =>
                clear hlt'
                obtain ⟨k, v', hk, hkm, rfl, HJ⟩ := hrel
                have h0 : (0 : Int) ≤ (k : Int) := by omega
                have HX0 := Lib.hid ((HJ.out.frame w.heap.size (by omega) (by omega)).trans HX3.out.1)
                obtain ⟨⟨c0, c1, c2⟩, f0, f1, f2⟩ := cells3 HX0.out
                by_cases hgo : k < n3 ∧ k < 12
                · obtain ⟨⟨d0, d1, d2⟩, g0, g1, g2⟩ := cells3 HJ.out.x
                  have hlt' : (k : Int) < (n3 : Int) := by omega
                  have hlm : (k : Int) < 12 := by omega
                  have hkn : k < L3.length := by rw [← HN3.out]; exact hgo.1
                  have HStep := Lib.hid (take_map_succ (f := cutR) hkn)
                  obtain ⟨b, off, c1', us, e1, hbl, hu, hc⟩ := row_at HI3.out hkn
                  injection e1 with e1 hq1 hq2
                  subst e1
                  clear hq1 hq2
                  obtain ⟨X, hX⟩ : ∃ X, X = L3[k] := ⟨_, rfl⟩
                  rw [← hX] at hu HStep
                  clear hX
                  obtain ⟨u', v'', rfl, hu', hv'⟩ := hu
                  have HBr := Lib.hid (show Below w.heap.size w wr from HBS3.out.trans HJ.out.below)
                  have HLt : Hid (∀ W, Below wr.heap.size wr W → Calls Tryz.prog 7 #[.agg #[.string ⟨X.head.pred.toArray⟩, u', v'']] W fun e w' => (∃ v y, e = .returned (.agg #[.string ⟨(cutR X).head.pred.toArray⟩, v, y]) ∧ RowIn tmY (fun k => W.heap.size ≤ k) w' v (cutR X).head.args ∧ RowIn liY (fun k => W.heap.size ≤ k) w' y (cutR X).body) ∧ Below W.heap.size W w') := Lib.hid (fun W hb => lrule_any X u' v'' _ W ((hu'.in_below HBr.out).in_below hb) ((hv'.in_below HBr.out).in_below hb))
                  obtain ⟨pu, cu, rfl⟩ := hu'.shape
                  obtain ⟨qu, du, rfl⟩ := hv'.shape
                  have hbw : ∀ o, wr.cell? ⟨b, o, none⟩ = w.cell? ⟨b, o, none⟩ := fun o => HBr.out.cell (p := ⟨b, o, none⟩) hbl
                  have a0 : wr.cell? ⟨b, off + k * 3, none⟩ = some (.string ⟨X.head.pred.toArray⟩) := (hbw _).trans (hc 0 _ rfl)
                  have a1 : wr.cell? ⟨b, off + k * 3 + 1, none⟩ = some (.slice pu X.head.args.length cu) := (hbw _).trans (hc 1 _ rfl)
                  have a2 : wr.cell? ⟨b, off + k * 3 + 2, none⟩ = some (.slice qu X.body.length du) := (hbw _).trans (hc 2 _ rfl)
                  have HEl := Lib.hid (And.intro (show b < wr.heap.size from Nat.lt_of_lt_of_le hbl HBr.out.size) (And.intro a0 (And.intro a1 a2)))
                  obtain ⟨Z, hZ⟩ : ∃ Z, Z = cutR X := ⟨_, rfl⟩
                  rw [← hZ] at HLt HStep
                  clear hZ hc hbw hbl hu' hv' hgo
                  obtain ⟨Tk, hT⟩ : ∃ Tk, Tk = (L3.take k).map cutR := ⟨_, rfl⟩
                  have HTl := Lib.hid (show Tk.length ≤ 1000000 by rw [hT, List.length_map, List.length_take]; omega)
                  rw [← hT] at HJ HStep
                  clear hT
                  obtain ⟨p', c'', rfl⟩ := HJ.out.shape
                  go_wp2_with fail
                  have HS := Lib.hid ((Below.refl wr.heap.size wr).drew)
                  refine Till.begin (S := fun X => Below wr.heap.size wr X) (z := 9) (by kernel_rfl) ?_
                  refine Till.takeY 0 62 (v := ?_) rfl rfl (by kernel_rfl) (by kernel_rfl) (by kernel_rfl) (by decide) (fun _ _ _ h => h) (by kernel_rfl) ?_ (fun _ => HS.out) (by first | (simp only [put_norm]; exact rfl) | exact rfl) ?_
                  rotate_left
                  · rintro X0 -
                    go_simp; try (with_reducible rfl)
                  refine Till.takeY 2 64 (v := ?_) rfl rfl (by kernel_rfl) (by kernel_rfl) (by kernel_rfl) (by decide) (fun _ _ _ h => h) (by kernel_rfl) ?_ (fun _ => HS.out) (by first | (simp only [put_norm]; exact rfl) | exact rfl) ?_
                  rotate_left
                  · rintro X0 -
                    go_simp; try (with_reducible rfl)
                  refine Till.takeY 4 66 (v := ?_) rfl rfl (by kernel_rfl) (by kernel_rfl) (by kernel_rfl) (by decide) (fun _ _ _ h => h) (by kernel_rfl) ?_ (fun _ => HS.out) (by first | (simp only [put_norm]; exact rfl) | exact rfl) ?_
                  rotate_left
                  · rintro X0 -
                    go_simp; try (with_reducible rfl)
                  refine Till.take [9] 1 63 (v := ?_) rfl rfl (by kernel_rfl) (by kernel_rfl) (by kernel_rfl) (by kernel_rfl) (fun _ _ _ h => h) (by kernel_rfl) ?_ HS.out (by first | (simp only [put_norm]; exact rfl) | exact rfl) ?_
                  rotate_left
                  · rintro X0 s0
                    obtain ⟨⟨x0, x1, x2⟩, -⟩ := cells3 ((s0.block (w.heap.size + 2) (by have := HJ.out.lt; have := HJ.out.size; omega)).trans HJ.out.x)
                    clear s0
                    go_simp; try (with_reducible rfl)
                  refine Till.take [5, 6, 7, 8, 9] 3 65 (v := ?_) rfl rfl (by kernel_rfl) (by kernel_rfl) (by kernel_rfl) (by kernel_rfl) (fun _ _ _ h => h) (by kernel_rfl) ?_ HS.out (by first | (simp only [put_norm]; exact rfl) | exact rfl) ?_
                  rotate_left
                  · rintro X0 s0
                    obtain ⟨⟨x0, x1, x2⟩, -⟩ := cells3 ((s0.block w.heap.size (by have := HJ.out.lt; have := HJ.out.size; omega)).trans HX0.out)
                    clear s0
                    go_simp; try (with_reducible rfl)
                  refine Till.takeY 5 67 (v := ?_) rfl rfl (by kernel_rfl) (by kernel_rfl) (by kernel_rfl) (by decide) (fun _ _ _ h => h) (by kernel_rfl) ?_ (fun _ => HS.out) (by first | (simp only [put_norm]; exact rfl) | exact rfl) ?_
                  rotate_left
                  · rintro X0 -
                    go_simp; try (with_reducible rfl)
                  refine Till.take [7, 8, 9] 6 68 (v := ?_) rfl rfl (by kernel_rfl) (by kernel_rfl) (by kernel_rfl) (by kernel_rfl) (fun _ _ _ h => h) (by kernel_rfl) ?_ HS.out (by first | (simp only [put_norm]; exact rfl) | exact rfl) ?_
                  rotate_left
                  · rintro X0 s0
                    have y0 := (s0.cell (p := ⟨b, off + k * 3, none⟩) HEl.out.1).trans HEl.out.2.1; have y1 := (s0.cell (p := ⟨b, off + k * 3 + 1, none⟩) HEl.out.1).trans HEl.out.2.2.1; have y2 := (s0.cell (p := ⟨b, off + k * 3 + 2, none⟩) HEl.out.1).trans HEl.out.2.2.2
                    clear s0
                    go_simp; try (with_reducible rfl)
                  refine Till.one 7 (by kernel_rfl) rfl (fun K hK => ?_)
                  go_simp
                  go_at_call 7
                  refine (HLt.out _ HS.out).mono ?_
                  rintro y w3 ⟨⟨v3, u3, rfl, hv3, hu3⟩, hb3⟩
                  obtain ⟨p3, c3, rfl⟩ := hv3.shape
                  obtain ⟨q3, d3, rfl⟩ := hu3.shape
                  have HS3 := Lib.hid (show Below wr.heap.size wr w3 from HS.out.trans hb3)
                  have HJ3 := Lib.hid (HJ.out.on HS3.out)
                  have HIs : Hid (ruY.is (fun k => wB.heap.size ≤ k ∧ (Value.slice p' Tk.length c'').ownBlock ≠ some k) (w3.alloc (.cells #[.string ⟨Z.head.pred.toArray⟩, .slice p3 Z.head.args.length c3, .slice q3 Z.body.length d3] 27)) [.string ⟨Z.head.pred.toArray⟩, .slice p3 Z.head.args.length c3, .slice q3 Z.body.length d3] Z) := Lib.hid ⟨_, _, rfl, hv3.keep (by simp) fun k hk hl => ⟨⟨Nat.le_trans HJ.out.size (by simpa using hk), fun e => by have h1 := (HJ.out.own.lt k e).2; simp at hk; omega⟩, Below.heap_alloc _ _ _ hl⟩, hu3.keep (by simp) fun k hk hl => ⟨⟨Nat.le_trans HJ.out.size (by simpa using hk), fun e => by have h1 := (HJ.out.own.lt k e).2; simp at hk; omega⟩, Below.heap_alloc _ _ _ hl⟩⟩
                  clear hb3 hv3 hu3
                  go_simp
                  refine hK.out _ _ (fun _ => HS3.out) ?_
                  clear hK K
                  try simp only [put_norm]
                  refine Till.one 8 (by kernel_rfl) rfl (fun K hK => ?_)
                  go_simp
                  have HL3 := Lib.hid (HJ3.out.lit (.cells #[.string ⟨Z.head.pred.toArray⟩, .slice p3 Z.head.args.length c3, .slice q3 Z.body.length d3] 27))
                  have HS4 := Lib.hid (HS3.out.alloc HS3.out.size (.cells #[.string ⟨Z.head.pred.toArray⟩, .slice p3 Z.head.args.length c3, .slice q3 Z.body.length d3] 27))
                  refine hK.out _ _ (fun _ => HS4.out) ?_
                  clear hK K
                  try simp only [put_norm]
                  refine Till.one 9 (by kernel_rfl) rfl (fun K hK => ?_)
                  refine step_appY ruY rfl (.tmp 63) (.tmp 70) 47 27 rfl wB.heap.size (.agg #[.string ⟨#[]⟩, .slice none 0 0, .slice none 0 0]) 64 Tryz.underlying47 Tryz.infoRu rfl (show 0 < 3 by decide) (by decide) _ Tk Z [.string ⟨Z.head.pred.toArray⟩, .slice p3 Z.head.args.length c3, .slice q3 Z.body.length d3] w3.heap.size 1 rfl rfl HL3.out.own HIs.out (lit_rowcells w3 [.string ⟨Z.head.pred.toArray⟩, .slice p3 Z.head.args.length c3, .slice q3 Z.body.length d3] _) HTl.out HL3.out.size ?_
                  intro v4 w4 ho hg hv4
                  obtain ⟨p4, n4, c4, rfl, hn4⟩ := rowOwn_shape ho
                  have HA4 := Lib.hid (HL3.out.app ho hg)
                  obtain ⟨⟨j0, j1, j2⟩, jf0, jf1, jf2⟩ := cells3 HA4.out.x
                  clear ho hg hv4 hn4
                  refine hK.out _ _ (fun h => nomatch (show (true : Bool) = false from h)) ?_
                  clear hK K
                  try simp only [put_norm]
                  refine Till.takeY 10 72 (v := ?_) rfl rfl (by kernel_rfl) (by kernel_rfl) (by kernel_rfl) (by decide) (fun _ _ _ h => h) (by kernel_rfl) ?_ (fun h => nomatch (show (true : Bool) = false from h)) (by first | (simp only [put_norm]; exact rfl) | exact rfl) ?_
                  rotate_left
                  · rintro X0 -
                    go_simp; try (with_reducible rfl)
                  refine Till.one 11 (by kernel_rfl) rfl (fun K hK => ?_)
                  go_simp
                  refine hK.out _ _ (fun h => nomatch (show (true : Bool) = false from h)) ?_
                  clear hK K
                  try simp only [put_norm]
                  refine Till.done (by kernel_rfl) ?_ _
                  go_wp2_with fail
                  go_roundw
                  case rel =>
                    refine ⟨k + 1, .slice p4 n4 c4, by omega, by omega, by go_num, Lib.hid ?_⟩
                    rw [HStep.out]
                    exact CpB.put HA4.out rfl rfl
                  case measure => simp [intOf]; omega
                · have HT := Lib.hid (take_end (f := cutR) HN3.out hk hkm hgo)
                  have hcase : ((k : Int) < (n3 : Int) ∧ ¬ (k : Int) < 12) ∨ ¬ (k : Int) < (n3 : Int) := by omega
                  have hsz3 : wB.heap.size ≤ wr.heap.size := HJ.out.size
                  have HX4 := Lib.hid (And.intro HX0.out ((HJ.out.frame (w.heap.size + 1) (by omega) (by omega)).trans HX3.out.2))
                  have HBS4 := Lib.hid (show Below w.heap.size w wr from HBS3.out.trans HJ.out.below)
                  have HP3 : Hid (RowIn ruY (fun j => wB.heap.size ≤ j) wr v' ((L3.take 12).map cutR)) := Lib.hid (by rw [← HT.out]; exact HJ.out.own.in_)
                  obtain ⟨pv3, vn3, cv3, rfl, -⟩ := rowOwn_shape HJ.out.own
                  replace HP1 := Lib.hid (HP1.out.keep (S' := fun j => w0.heap.size ≤ j) HJ.out.below.size fun j hj hl => ⟨by omega, HJ.out.frame j hl (by omega)⟩)
                  replace HP2 := Lib.hid (HP2.out.keep (S' := fun j => w0.heap.size ≤ j) HJ.out.below.size fun j hj hl => ⟨by omega, HJ.out.frame j hl (by omega)⟩)
                  have HR := Lib.hid (rowS3_set (y0 := .slice pv1 vn1 cv1) (y1 := .slice pv2 vn2 cv2) (y2 := .slice pv3 vn3 cv3) HX4.out.2)
                  obtain ⟨⟨e0, e1, e2⟩, k0, k1, k2⟩ := cells3 HX4.out.2
                  obtain ⟨⟨d0, d1, d2⟩, g0, g1, g2⟩ := cells3 HJ.out.x
                  have HF : Hid (∀ W, W = ((wr.setCell ⟨w.heap.size + 1, 0, none⟩ (.slice pv1 vn1 cv1)).setCell ⟨w.heap.size + 1, 1, none⟩ (.slice pv2 vn2 cv2)).setCell ⟨w.heap.size + 1, 2, none⟩ (.slice pv3 vn3 cv3) → RowIn (dfY wO) (fun j => w.heap.size ≤ j) W (.slice pv1 vn1 cv1) ((L1.take 12).map cutD) ∧ RowIn onY (fun j => w.heap.size ≤ j) W (.slice pv2 vn2 cv2) ((L2.take 8).map cutO) ∧ RowIn ruY (fun j => w.heap.size ≤ j) W (.slice pv3 vn3 cv3) ((L3.take 12).map cutR) ∧ Below w.heap.size w W) := Lib.hid (by
                    rintro W rfl
                    have off : ∀ j, j ≠ w.heap.size + 1 → (((wr.setCell ⟨w.heap.size + 1, 0, none⟩ (.slice pv1 vn1 cv1)).setCell ⟨w.heap.size + 1, 1, none⟩ (.slice pv2 vn2 cv2)).setCell ⟨w.heap.size + 1, 2, none⟩ (.slice pv3 vn3 cv3)).heap[j]? = wr.heap[j]? := fun j hj => (heap_setCell_other _ ⟨w.heap.size + 1, 2, none⟩ j _ hj).trans ((heap_setCell_other _ ⟨w.heap.size + 1, 1, none⟩ j _ hj).trans (heap_setCell_other _ ⟨w.heap.size + 1, 0, none⟩ j _ hj))
                    exact ⟨HP1.out.keep (by simp) fun j hj _ => ⟨by omega, off j (by omega)⟩, HP2.out.keep (by simp) fun j hj _ => ⟨by omega, off j (by omega)⟩, HP3.out.keep (by simp) fun j hj _ => ⟨by omega, off j (by omega)⟩, (((HBS4.out.setCell (p := ⟨w.heap.size + 1, 0, none⟩) (by simp) _).setCell (p := ⟨w.heap.size + 1, 1, none⟩) (by simp) _).setCell (p := ⟨w.heap.size + 1, 2, none⟩) (by simp) _)⟩)
                  rcases hcase with ⟨hlt', hlm⟩ | hlt'
                  all_goals
                    go_wp2_with fail
                    refine bodyPost_ret (results_cell_row (fn := Tryz.f17) (by rfl) _ _ _ _ _ _ _ (by rfl) HR.out Tryz.underlying49 (by rfl) (by kernel_rfl)) (by rfl) ?_
                    obtain ⟨F1, F2, F3, F4⟩ := HF.out _ rfl
                    exact ⟨⟨_, _, _, rfl, by rw [← List.map_take]; exact F1, by rw [← List.map_take]; exact F2, by rw [← List.map_take]; exact F3⟩, F4⟩
end
section
open Go Go.RowKit Go.Shelf

theorem cutA_sm {a : AtL} (h : OkA a) : SmA (cutA a) := ⟨by simp only [cutA, List.length_take]; omega, by simp only [cutA, List.length_map, List.length_take]; omega, fun t ht => by
  simp only [cutA] at ht
  obtain ⟨x, hx, rfl⟩ := List.mem_map.1 ht
  exact cutT_sm (h x (List.mem_of_mem_take hx))⟩
theorem cutLi_sm {l : LiL} (h : OkLi l) : SmLi (cutLi l) := ⟨cutA_sm h.1, cutT_sm h.2.1, cutT_sm h.2.2⟩
theorem cutR_sm {r : RuL} (h : OkR r) : SmR (cutR r) := ⟨cutA_sm h.1, by simp only [cutR, List.length_map, List.length_take]; omega, fun l hl => by
  simp only [cutR] at hl
  obtain ⟨x, hx, rfl⟩ := List.mem_map.1 hl
  exact cutLi_sm (h.2 x (List.mem_of_mem_take hx))⟩
theorem cutD_sm (d : DeL) : SmD (cutD d) := ⟨by simp only [cutD, List.length_take]; omega, by simp only [cutD, List.length_take]; omega⟩
theorem cutO_sm {o : OnL} (h : OkO o) : SmO (cutO o) := ⟨by simp only [cutO, List.length_take]; omega, by simp only [cutO, List.length_map, List.length_take]; omega, fun p hp => by
  simp only [cutO] at hp
  obtain ⟨x, -, rfl⟩ := List.mem_map.1 hp
  simp only [cutPa, List.length_take]; omega, by simp only [cutO, List.length_map, List.length_take]; omega, fun a ha => by
  simp only [cutO] at ha
  obtain ⟨x, hx, rfl⟩ := List.mem_map.1 ha
  exact cutA_sm (h x (List.mem_of_mem_take hx))⟩
theorem cutP_sm {p : PrL} (h : OkP p) : SmP (cutP p) := ⟨by simp only [cutP, List.length_map, List.length_take]; omega, fun X hX => by
  simp only [cutP] at hX
  obtain ⟨x, -, rfl⟩ := List.mem_map.1 hX
  exact cutD_sm x, by simp only [cutP, List.length_map, List.length_take]; omega, fun X hX => by
  simp only [cutP] at hX
  obtain ⟨x, hx, rfl⟩ := List.mem_map.1 hX
  exact cutO_sm (h.1 x (List.mem_of_mem_take hx)), by simp only [cutP, List.length_map, List.length_take]; omega, fun X hX => by
  simp only [cutP] at hX
  obtain ⟨x, hx, rfl⟩ := List.mem_map.1 hX
  exact cutR_sm (h.2 x (List.mem_of_mem_take hx))⟩
theorem cutP_few (p : PrL) : (cutP p).decls.length ≤ 12 := by simp only [cutP, List.length_map, List.length_take]; omega
end
section
open Go Go.RowKit

/-- The tokens of a text, without their places. -/
def KyIs (s : List UInt8) (K : List Kt) : Prop := (lexS valL s 0).2 = none ∧ (lexS valL s 0).1.map Wd.key = K
theorem KyIs.one {s : List UInt8} {K K' : List Kt} (h : KyIs s K) (h' : KyIs s K') : K = K' := h.2.symm.trans h'.2
theorem KyIs.nil : KyIs [] [] := by
  unfold KyIs
  rw [lexS_end (by rfl)]
  exact ⟨rfl, rfl⟩
theorem KyIs.at_ {s : List UInt8} {K : List Kt} (h : KyIs s K) (p : Nat) : (lexS valL s p).2 = none ∧ (lexS valL s p).1.map Wd.key = K := by
  obtain ⟨a, b⟩ := lexS_shift s.length s 0 p (Nat.le_refl _) h.1
  exact ⟨a, b.trans h.2⟩
/-- Ahead of any text that C allows, a text adds these tokens. -/
def Lx (s : List UInt8) (T : List Kt) (C : List UInt8 → Prop) : Prop := ∀ t K, C t → KyIs t K → KyIs (s ++ t) (T ++ K)
def anyT (_ : List UInt8) : Prop := True
/-- No byte of a name stands next. -/
def nbT (t : List UInt8) : Prop := ∀ c, t.head? = some c → inB c = false
section
variable {s s' : List UInt8} {T T' : List Kt} {C C' : List UInt8 → Prop}
theorem Lx.nil : Lx [] [] C := fun _ _ _ h => h
theorem Lx.app (h : Lx s T C) (h' : Lx s' T' C') (hc : ∀ t, C' t → C (s' ++ t)) : Lx (s ++ s') (T ++ T') C' := fun t K hC hK => by
  rw [List.append_assoc, List.append_assoc]
  exact h _ _ (hc t hC) (h' t K hC hK)
theorem Lx.mono (h : Lx s T C) (hc : ∀ t, C' t → C t) : Lx s T C' := fun t K hC hK => h t K (hc t hC) hK
theorem Lx.all (h : Lx s T C) (hc : C []) : KyIs s T := by
  have := h [] [] hc KyIs.nil
  rwa [List.append_nil, List.append_nil] at this
theorem Lx.gap {c : UInt8} (hc : isBlank c = true) (hn : c ≠ 37) : Lx [c] [] anyT := fun t K _ hK => by
  have h1 : skC false [c] = [c].length := by
    rw [skC, if_neg hn]
    by_cases h10 : c = 10
    · rw [if_pos h10]; rfl
    · rw [if_neg h10, if_pos (by simp [hc])]; rfl
  have h2 : stC false [c] = false := by
    rw [stC, if_neg hn]
    split <;> rfl
  have e : lexS valL ([c] ++ t) 0 = lexS valL t (0 + [c].length) := by
    unfold lexS
    rw [skC_full_append _ _ _ h1, h2, List.drop_append, List.drop_eq_nil_of_le (by omega), Nat.add_sub_cancel_left]
    simp
  unfold KyIs
  rw [e]
  exact hK.at_ _
theorem Lx.tok {c : UInt8} {r : List UInt8} {k : Int} {v : VL} (hs : solid c) (ht : ∀ t, C t → tokL valL (c :: (r ++ t)) = some (k, r.length + 1, v)) : Lx (c :: r) [(k, c :: r, v)] C := fun t K hC hK => by
  have e := lexG_tok (ht t hC) 0
  have htk : (c :: (r ++ t)).take (r.length + 1) = c :: r := by rw [List.take_succ_cons, List.take_left' rfl]
  have hdr : (c :: (r ++ t)).drop (r.length + 1) = t := by rw [List.drop_succ_cons, List.drop_left' rfl]
  rw [htk, hdr] at e
  obtain ⟨a, b⟩ := hK.at_ (0 + (r.length + 1))
  unfold KyIs
  rw [List.cons_append, lexS_solid hs, e]
  exact ⟨a, by rw [List.map_cons, b]; rfl⟩
end
theorem nb_any {s : List UInt8} (h : ∀ t, nbT (s ++ t)) : ∀ t, anyT t → nbT (s ++ t) := fun t _ => h t
theorem nb_cons {c : UInt8} (h : inB c = false) (r : List UInt8) : nbT (c :: r) := fun d e => by
  simp only [List.head?_cons, Option.some.injEq] at e
  rw [← e]; exact h
theorem nb_nil : nbT [] := fun d e => by cases e
theorem tw_all {p : UInt8 → Bool} : ∀ {r : List UInt8}, (r.takeWhile p).length = r.length → r.takeWhile p = r
  | [], _ => rfl
  | c :: r, h => by
    by_cases hc : p c = true
    · rw [List.takeWhile_cons_of_pos hc] at h ⊢
      rw [tw_all (by simpa using h)]
    · rw [List.takeWhile_cons_of_neg hc] at h
      simp at h
theorem tw_more {p : UInt8 → Bool} {r t : List UInt8} (hr : r.takeWhile p = r) (ht : ∀ c, t.head? = some c → p c = false) : (r ++ t).takeWhile p = r := by
  have := tw_append (p := p) r t ht
  rwa [hr] at this
theorem nb_dig {t : List UInt8} (h : nbT t) : ∀ c, t.head? = some c → isDig c = false := fun c e => by
  have := h c e
  unfold inB at this
  unfold isDig
  have h0 : cls c = 0 := by simpa using this
  rw [h0]; rfl
theorem tok_eq {V : List UInt8 → Option VL} (c : UInt8) (r : List UInt8) : tokL V (c :: r) = (meanL V (shapeL c r).1 ((c :: r).take (shapeL c r).2)).map fun v => ((shapeL c r).1, (shapeL c r).2, v) := rfl
/-- Names, variables. -/
theorem Lx.word {c : UInt8} {r : List UInt8} {k : Int} (hk : (cls c = 1 ∧ k = 1) ∨ (cls c = 2 ∧ k = 2)) (hr : r.takeWhile inB = r) (hl : r.length + 1 ≤ 64) (hs : solid c) : Lx (c :: r) [(k, c :: r, zeroL)] nbT :=
  Lx.tok hs fun t ht => by
    have hsh : shapeL c (r ++ t) = (k, r.length + 1) := by
      unfold shapeL
      rw [tw_more hr ht]
      rcases hk with ⟨h1, rfl⟩ | ⟨h1, rfl⟩
      · rw [if_pos h1]
      · rw [if_neg (by omega), if_pos h1]
    rw [tok_eq, hsh]
    have htk : (c :: (r ++ t)).take (r.length + 1) = c :: r := by rw [List.take_succ_cons, List.take_left' rfl]
    show (meanL valL k ((c :: (r ++ t)).take (r.length + 1))).map _ = _
    rw [htk]
    unfold meanL
    rw [if_pos (by rcases hk with ⟨-, rfl⟩ | ⟨-, rfl⟩ <;> simp), if_pos (by simpa using hl)]
    rfl
theorem solid_of {c : UInt8} (h : cls c ≠ 0) : solid c := by
  refine ⟨fun e => h (by rw [e]; rfl), ?_⟩
  cases hb : isBlank c with
  | false => rfl
  | true =>
    exfalso
    unfold isBlank at hb
    simp only [Bool.or_eq_true, beq_iff_eq] at hb
    rcases hb with ((rfl | rfl) | rfl) | rfl <;> exact h rfl
theorem lexS_word {s : List UInt8} {k : Int} (h : kindL s = k) (hk : k ≠ 0) : ∃ c r v, s = c :: r ∧ solid c ∧ tokL valL (c :: r) = some (k, r.length + 1, v) := by
  unfold kindL at h
  split at h
  · rename_i w e
    split at h
    · rename_i hw
      rcases lexS_cases (V := valL) (l := s) (p := 0) (by rw [e]) with ⟨-, e1⟩ | ⟨c, r, k', n, v, e1, hs, ht, h1, h2, h3, e2, h4⟩
      · rw [e1] at e; cases e
      · rw [e] at e2
        injection e2 with e3 e4
        injection e3 with e5 e6
        have hl : w.text.length = n := by rw [e5]; simp; omega
        rw [hw] at hl
        have h0 : skC false s = 0 := by omega
        rw [h0] at e1
        have hn : n = r.length + 1 := by omega
        subst hn
        refine ⟨c, r, v, e1, hs, ?_⟩
        rw [ht]
        rw [e5] at h
        rw [← h]
    · exact absurd h.symm hk
  · exact absurd h.symm hk
theorem shape_word {c : UInt8} {r : List UInt8} {k : Int} (hk : k = 1 ∨ k = 2) (h : shapeL c r = (k, r.length + 1)) : ((cls c = 1 ∧ k = 1) ∨ (cls c = 2 ∧ k = 2)) ∧ r.takeWhile inB = r := by
  unfold shapeL at h
  split at h
  · rename_i h1
    injection h with e1 e2
    exact ⟨.inl ⟨h1, e1.symm⟩, tw_all (by omega)⟩
  · split at h
    · rename_i h1
      injection h with e1 e2
      exact ⟨.inr ⟨h1, e1.symm⟩, tw_all (by omega)⟩
    · exfalso
      have hb : ∀ x : Int × Nat, x = (k, r.length + 1) → x.1 = 1 ∨ x.1 = 2 := fun x e => by rw [e]; exact hk
      have := hb _ h
      revert this
      repeat' split
      all_goals simp
/-- What is a name or a variable alone is one ahead of what does not go on. -/
theorem Lx.kind {s : List UInt8} {k : Int} (h : kindL s = k) (hk : k = 1 ∨ k = 2) : Lx s [(k, s, zeroL)] nbT := by
  obtain ⟨c, r, v, rfl, hs, ht⟩ := lexS_word h (by omega)
  have htk : (c :: r).take (r.length + 1) = c :: r := List.take_of_length_le (by simp)
  have hsh : shapeL c r = (k, r.length + 1) := by
    rw [tok_eq] at ht
    cases hm : meanL valL (shapeL c r).1 ((c :: r).take (shapeL c r).2) with
    | none => rw [hm] at ht; cases ht
    | some x =>
      rw [hm] at ht
      simp only [Option.map_some, Option.some.injEq, Prod.mk.injEq] at ht
      exact Prod.ext ht.1 ht.2.1
  obtain ⟨h1, h2⟩ := shape_word hk hsh
  have hl : r.length + 1 ≤ 64 := by
    rw [tok_eq, hsh] at ht
    show r.length + 1 ≤ 64
    have ht' : (meanL valL k ((c :: r).take (r.length + 1))).map (fun v => (k, r.length + 1, v)) = some (k, r.length + 1, v) := ht
    rw [htk] at ht'
    unfold meanL at ht'
    rw [if_pos hk] at ht'
    by_cases h64 : (c :: r).length ≤ 64
    · simpa using h64
    · rw [if_neg h64] at ht'; cases ht'
  exact Lx.word h1 h2 hl hs
end
section
open Go Go.RowKit

theorem take_own {c : UInt8} {r t : List UInt8} : (c :: (r ++ t)).take (r.length + 1) = c :: r := by rw [List.take_succ_cons, List.take_left' rfl]
/-- Any token whose shape and meaning are told. -/
theorem Lx.shaped {c : UInt8} {r : List UInt8} {k : Int} {v : VL} {C : List UInt8 → Prop} (hs : solid c) (hsh : ∀ t, C t → shapeL c (r ++ t) = (k, r.length + 1)) (hm : meanL valL k (c :: r) = some v) : Lx (c :: r) [(k, c :: r, v)] C :=
  Lx.tok hs fun t ht => by
    rw [tok_eq, hsh t ht]
    show (meanL valL k ((c :: (r ++ t)).take (r.length + 1))).map _ = _
    rw [take_own, hm]
    rfl
/-- Marks that go on with nothing. -/
theorem Lx.mark {c : UInt8} (h : c = 40 ∨ c = 41 ∨ c = 44 ∨ c = 46 ∨ c = 43 ∨ c = 61) : Lx [c] [(6, [c], zeroL)] anyT := by
  refine Lx.shaped (r := []) ?_ (fun t _ => ?_) rfl
  · rcases h with rfl | rfl | rfl | rfl | rfl | rfl <;> exact ⟨by decide, by decide⟩
  · rcases h with rfl | rfl | rfl | rfl | rfl | rfl <;> rfl
theorem Lx.ne : Lx [33, 61] [(6, [33, 61], zeroL)] anyT := Lx.shaped (r := [61]) ⟨by decide, by decide⟩ (fun _ _ => rfl) rfl
theorem Lx.le : Lx [60, 61] [(6, [60, 61], zeroL)] anyT := Lx.shaped (r := [61]) ⟨by decide, by decide⟩ (fun _ _ => rfl) rfl
theorem Lx.ge : Lx [62, 61] [(6, [62, 61], zeroL)] anyT := Lx.shaped (r := [61]) ⟨by decide, by decide⟩ (fun _ _ => rfl) rfl
theorem Lx.if_ : Lx [58, 45] [(6, [58, 45], zeroL)] anyT := Lx.shaped (r := [45]) ⟨by decide, by decide⟩ (fun _ _ => rfl) rfl
/-- A blank stands next. -/
def blT (t : List UInt8) : Prop := t.head? = some 32
theorem Lx.lt : Lx [60] [(6, [60], zeroL)] blT := Lx.shaped (r := []) ⟨by decide, by decide⟩ (fun t ht => by
  have h : t.head? = some 32 := ht
  show shapeL 60 t = (6, 1)
  unfold shapeL
  rw [h]
  rfl) rfl
theorem Lx.gt : Lx [62] [(6, [62], zeroL)] blT := Lx.shaped (r := []) ⟨by decide, by decide⟩ (fun t ht => by
  have h : t.head? = some 32 := ht
  show shapeL 62 t = (6, 1)
  unfold shapeL
  rw [h]
  rfl) rfl
theorem Lx.colon : Lx [58] [(6, [58], zeroL)] blT := Lx.shaped (r := []) ⟨by decide, by decide⟩ (fun t ht => by
  have h : t.head? = some 32 := ht
  show shapeL 58 t = (6, 1)
  unfold shapeL
  rw [h]
  rfl) rfl
/-- No digit stands next. -/
def ndT (t : List UInt8) : Prop := ∀ c, t.head? = some c → isDig c = false
theorem Lx.minus : Lx [45] [(6, [45], zeroL)] ndT := Lx.shaped (r := []) ⟨by decide, by decide⟩ (fun t ht => by
  show shapeL 45 t = (6, 1)
  have h : t.takeWhile isDig = [] := tw_more (r := []) rfl ht
  unfold shapeL
  rw [h]
  rfl) rfl
theorem Lx.any_ : Lx [95] [(3, [95], zeroL)] nbT := Lx.shaped (r := []) ⟨by decide, by decide⟩ (fun t ht => by
  show shapeL 95 t = (3, 1)
  have h : t.takeWhile inB = [] := tw_more (r := []) rfl ht
  unfold shapeL
  rw [h]
  rfl) rfl

/-! Values -/
theorem dig_cls {c : UInt8} (h : 48 ≤ c.toNat ∧ c.toNat ≤ 57) : cls c = 4 := by unfold cls; rw [if_pos h]
theorem tw_every {p : UInt8 → Bool} : ∀ {r : List UInt8}, (∀ c ∈ r, p c = true) → r.takeWhile p = r
  | [], _ => rfl
  | c :: r, h => by
    rw [List.takeWhile_cons_of_pos (h c List.mem_cons_self), tw_every fun d hd => h d (List.mem_cons_of_mem _ hd)]
theorem dig_of {m : Nat} (h : m < 10) : isDig (UInt8.ofNat (48 + m)) = true := by
  have e : (UInt8.ofNat (48 + m)).toNat = 48 + m := by simp; omega
  unfold isDig
  rw [dig_cls (by rw [e]; omega)]
  rfl
theorem dec_dig (u : Nat) : ∀ c ∈ Lib.decDigits u, isDig c = true := by
  induction u using Nat.strongRecOn with
  | ind u ih =>
    intro c hc
    rw [Lib.decDigits] at hc
    split at hc
    · rename_i h
      rw [List.mem_singleton.1 hc]
      exact dig_of h
    · rename_i h
      rcases List.mem_append.1 hc with hc | hc
      · exact ih (u / 10) (by omega) c hc
      · rw [List.mem_singleton.1 hc]
        exact dig_of (by omega)
theorem dec_cons (u : Nat) : ∃ c r, Lib.decDigits u = c :: r ∧ isDig c = true ∧ r.takeWhile isDig = r := by
  have h := dec_dig u
  cases e : Lib.decDigits u with
  | nil =>
    exfalso
    rw [Lib.decDigits] at e
    split at e
    · cases e
    · simp at e
  | cons c r =>
    rw [e] at h
    exact ⟨c, r, rfl, h c List.mem_cons_self, tw_every fun d hd => h d (List.mem_cons_of_mem _ hd)⟩
theorem dig_four {c : UInt8} (h : isDig c = true) : cls c = 4 := by simpa [isDig] using h
theorem Lx.int {n : Int} {v : VL} (hv : valL (Lib.itoa n) = some v) : Lx (Lib.itoa n) [(4, Lib.itoa n, v)] nbT := by
  unfold Lib.itoa at hv ⊢
  by_cases hn : n < 0
  · rw [if_pos hn] at hv ⊢
    obtain ⟨c, r, e, h1, h2⟩ := dec_cons n.natAbs
    rw [e] at hv ⊢
    refine Lx.shaped (r := c :: r) ⟨by decide, by decide⟩ (fun t ht => ?_) ?_
    · have h3 : (c :: r ++ t).takeWhile isDig = c :: r := by
        rw [List.cons_append, List.takeWhile_cons_of_pos h1, tw_more h2 (nb_dig ht)]
      unfold shapeL
      rw [h3]
      rfl
    · unfold meanL
      rw [if_neg (by decide), if_neg (by decide), if_pos (.inl rfl)]
      exact hv
  · rw [if_neg hn] at hv ⊢
    obtain ⟨c, r, e, h1, h2⟩ := dec_cons n.toNat
    rw [e] at hv ⊢
    have h4 := dig_four h1
    refine Lx.shaped (r := r) (solid_of (by omega)) (fun t ht => ?_) ?_
    · unfold shapeL
      rw [if_neg (by omega), if_neg (by omega), if_neg (by omega), if_pos h4, tw_more h2 (nb_dig ht)]
    · unfold meanL
      rw [if_neg (by decide), if_neg (by decide), if_pos (.inl rfl)]
      exact hv
theorem quo_whole : ∀ (l t : List UInt8), quoEnd (l.flatMap oneB ++ 34 :: t) = some ((l.flatMap oneB).length + 1)
  | [], t => by
    show quoEnd (34 :: t) = some 1
    unfold quoEnd
    rw [if_pos rfl]
  | c :: l, t => by
    rw [List.flatMap_cons, List.append_assoc, quo_oneB, quo_whole l t, List.length_append]
    simp only [Option.map_some, Option.some.injEq]
    omega
theorem Lx.sym {l : List UInt8} {v : VL} (hv : valL (quoteL l) = some v) : Lx (quoteL l) [(5, quoteL l, v)] nbT := by
  have e : quoteL l = 34 :: (l.flatMap oneB ++ [34]) := rfl
  rw [e] at hv ⊢
  refine Lx.shaped ⟨by decide, by decide⟩ (fun t _ => ?_) ?_
  · have h1 : quoEnd (l.flatMap oneB ++ [34] ++ t) = some ((l.flatMap oneB).length + 1) := by rw [List.append_assoc]; exact quo_whole l t
    unfold shapeL
    rw [if_neg (by decide), if_neg (by decide), if_neg (by decide), if_neg (by decide), if_pos rfl, h1]
    simp
  · unfold meanL
    rw [if_neg (by decide), if_neg (by decide), if_pos (.inr rfl)]
    exact hv
theorem Lx.val {k n : Int} {S : ByteArray} (h1 : IsV k n S) (h2 : I64 n) : Lx (textL k n S) [(if k = 1 then 4 else 5, textL k n S, (k, n, S))] nbT := by
  have hv := valL_own h1 h2
  unfold textL at hv ⊢
  by_cases hk : k = 1
  · rw [if_pos hk] at hv ⊢
    rw [if_pos hk]
    exact Lx.int hv
  · rw [if_neg hk] at hv ⊢
    rw [if_neg hk]
    exact Lx.sym hv

/-! Parts -/
def cK (m : List UInt8) : Kt := (6, m, zeroL)
def wK (m : List UInt8) : Kt := (1, m, zeroL)
/-- Rows of tokens with a comma between any two. -/
def joinK : List (List Kt) → List Kt
  | [] => []
  | t :: ts => t ++ (if ts = [] then [] else cK [44] :: joinK ts)
def termK (t : TmL) : Kt := if t.kind = 1 then (2, t.name, zeroL) else if t.kind = 2 then (if t.val.1 = 1 then 4 else 5, textL t.val.1 t.val.2.1 t.val.2.2, t.val) else (3, [95], zeroL)
def namedK (s : List UInt8) (L : List (List Kt)) : List Kt := wK s :: cK [40] :: (joinK L ++ [cK [41]])
def atomK (a : AtL) : List Kt := namedK a.pred (a.args.map fun t => [termK t])
def opM (n : Int) : List UInt8 := (opP n).getD []
def litK (l : LiL) : List Kt := if l.kind = 2 then wK wNot :: atomK l.atom else if l.kind = 1 then atomK l.atom else [termK l.a, cK (opM l.op), termK l.b]
def tailK (m : List UInt8) (L : List (List Kt)) : List Kt := if L = [] then [] else cK m :: joinK L
def ruleK (r : RuL) : List Kt := atomK r.head ++ (tailK [58, 45] (r.body.map litK) ++ [cK [46]])
def typeK (n : Int) : Kt := wK ((typeP n).getD [])
def declK (d : DeL) : List Kt := wK (if d.base = true then wBase else wView) :: (namedK d.name (d.types.map fun n => [typeK n]) ++ [cK [46]])
def paramK (p : List UInt8 × Int) : List Kt := [(2, p.1, zeroL), typeK p.2]
def actK (a : ActL) : List Kt := cK (if a.plus = true then [43] else [45]) :: atomK a.atom
def onK (o : OnL) : List Kt := wK wOn :: (namedK o.event (o.params.map paramK) ++ (tailK [58] (o.acts.map actK) ++ [cK [46]]))
theorem nb_mark {c : UInt8} (h : c = 40 ∨ c = 41 ∨ c = 44 ∨ c = 46 ∨ c = 32 ∨ c = 10) (r : List UInt8) : nbT (c :: r) := nb_cons (by rcases h with rfl | rfl | rfl | rfl | rfl | rfl <;> decide) r
theorem Lx.blank : Lx [32] [] anyT := Lx.gap rfl (by decide)
theorem Lx.line : Lx [10] [] anyT := Lx.gap rfl (by decide)
theorem Lx.comma : Lx [44, 32] [cK [44]] anyT := (Lx.mark (.inr (.inr (.inl rfl)))).app Lx.blank fun _ _ => trivial
/-- A row of parts, with a comma and a blank between any two. -/
theorem Lx.join {α : Type} {P : α → Option (List UInt8)} {K : α → List Kt} : ∀ (L : List α) (s : List UInt8), (∀ x ∈ L, ∀ s, P x = some s → Lx s (K x) nbT) → rowP P [44, 32] L = some s → Lx s (joinK (L.map K)) nbT
  | [], s, _, h => by
    cases h
    exact Lx.nil
  | x :: L, s, hP, h => by
    unfold rowP at h
    rw [List.map_cons] at h
    cases hx : P x with
    | none => rw [hx] at h; simp [allO] at h
    | some a =>
      rw [hx] at h
      cases hL : allO (L.map P) with
      | none => simp [allO, hL] at h
      | some ts =>
        simp only [allO, hL, Option.map_some, Option.some.injEq] at h
        subst h
        have h1 := hP x List.mem_cons_self a hx
        have h2 := Lx.join L (joinS [44, 32] ts) (fun y hy => hP y (List.mem_cons_of_mem _ hy)) (by unfold rowP; rw [hL]; rfl)
        have hlen := allO_len _ _ hL
        rw [List.length_map] at hlen
        rw [joinS, List.map_cons, joinK]
        by_cases hts : ts = []
        · subst hts
          have : L = [] := List.eq_nil_of_length_eq_zero (by simpa using hlen.symm)
          subst this
          rw [if_pos rfl, List.map_nil, if_pos rfl, List.append_nil, List.append_nil]
          exact h1
        · have hLn : ¬ L.map K = [] := fun e => hts (by
            have : L = [] := by simpa using e
            rw [this] at hlen
            exact List.eq_nil_of_length_eq_zero (by simpa using hlen))
          rw [if_neg hts, if_neg hLn]
          exact h1.app (Lx.comma.app h2 fun _ _ => trivial) fun t _ => nb_mark (.inr (.inr (.inl rfl))) _
theorem Lx.name {s r : List UInt8} (h : nameP s = some r) : Lx r [wK s] nbT ∧ r = s ∧ nameB s = true := by
  unfold nameP at h
  by_cases hb : nameB s = true
  · rw [if_pos hb] at h
    cases h
    have hk : kindL s = 1 := by unfold nameB at hb; simp at hb; exact hb.1
    exact ⟨Lx.kind hk (.inl rfl), rfl, hb⟩
  · rw [if_neg hb] at h
    cases h
theorem two_some {a b : Option (List UInt8)} {f : List UInt8 → List UInt8 → List UInt8} {s : List UInt8} (h : two a b f = some s) : ∃ x y, a = some x ∧ b = some y ∧ s = f x y := by
  cases a with
  | none => cases h
  | some x =>
    cases b with
    | none => cases h
    | some y => cases h; exact ⟨x, y, rfl, rfl, rfl⟩
theorem Lx.term {t : TmL} {s : List UInt8} (hn : I64 t.val.2.1) (h : termP t = some s) : Lx s [termK t] nbT := by
  unfold termP at h
  unfold termK
  by_cases h1 : t.kind = 1
  · rw [if_pos h1] at h ⊢
    split at h
    · rename_i hc
      cases h
      have hk : kindL t.name = 2 := by have := hc.1; unfold varB at this; simpa using this
      exact Lx.kind hk (.inr rfl)
    · cases h
  · rw [if_neg h1] at h ⊢
    by_cases h2 : t.kind = 2
    · rw [if_pos h2] at h ⊢
      split at h
      · rename_i hc
        cases h
        exact Lx.val hc.1 hn
      · cases h
    · rw [if_neg h2] at h ⊢
      by_cases h3 : t.kind = 3
      · rw [if_pos h3] at h
        split at h
        · cases h; exact Lx.any_
        · cases h
      · rw [if_neg h3] at h; cases h
theorem Lx.named {α : Type} {P : α → Option (List UInt8)} {K : α → List Kt} {n : List UInt8} {L : List α} {s : List UInt8} (hP : ∀ x ∈ L, ∀ s, P x = some s → Lx s (K x) nbT) (h : namedP P n L = some s) : Lx s (namedK n (L.map K)) anyT := by
  obtain ⟨x, y, h1, h2, rfl⟩ := two_some h
  obtain ⟨hn, rfl, -⟩ := Lx.name h1
  have hr := Lx.join L y hP h2
  have e := (hn.app ((Lx.mark (.inl rfl)).app (hr.app (Lx.mark (.inr (.inl rfl))) fun t _ => nb_mark (.inr (.inl rfl)) _) fun _ _ => trivial) fun t _ => nb_mark (.inl rfl) _)
  have : x ++ [40] ++ y ++ [41] = x ++ ([40] ++ (y ++ [41])) := by simp
  rw [this]
  exact e
theorem Lx.atom {a : AtL} {s : List UInt8} (hn : ∀ t ∈ a.args, I64 t.val.2.1) (h : atomP a = some s) : Lx s (atomK a) anyT := Lx.named (K := fun t => [termK t]) (fun t ht _ hs => Lx.term (hn t ht) hs) h
theorem Lx.op {n : Int} {s : List UInt8} (h : opP n = some s) : Lx s [cK (opM n)] blT := by
  unfold opM
  rw [h]
  unfold opP at h
  revert h
  repeat' split
  all_goals intro h; cases h
  · exact (Lx.mark (.inr (.inr (.inr (.inr (.inr rfl)))))).mono fun _ _ => trivial
  · exact Lx.ne.mono fun _ _ => trivial
  · exact Lx.lt
  · exact Lx.le.mono fun _ _ => trivial
  · exact Lx.gt
  · exact Lx.ge.mono fun _ _ => trivial
theorem Lx.kw {c : UInt8} {r : List UInt8} (hc : cls c = 1) (hr : r.takeWhile inB = r) (hl : r.length + 1 ≤ 64) : Lx (c :: r ++ [32]) [wK (c :: r)] anyT :=
  (Lx.word (.inl ⟨hc, rfl⟩) hr hl (solid_of (by omega))).app Lx.blank fun t _ => nb_mark (.inr (.inr (.inr (.inr (.inl rfl))))) _
theorem Lx.lit {l : LiL} {s : List UInt8} (hn : ∀ t ∈ l.atom.args, I64 t.val.2.1) (ha : I64 l.a.val.2.1) (hb : I64 l.b.val.2.1) (h : litP l = some s) : Lx s (litK l) nbT := by
  unfold litP at h
  unfold litK
  by_cases h12 : l.kind = 1 ∨ l.kind = 2
  · rw [if_pos h12] at h
    split at h
    · cases hA : atomP l.atom with
      | none => rw [hA] at h; cases h
      | some x =>
        rw [hA] at h
        have hx := Lx.atom hn hA
        by_cases h2 : l.kind = 2
        · rw [if_pos h2] at h ⊢
          cases h
          exact ((Lx.kw (c := 110) (r := [111, 116]) rfl rfl (by decide)).app hx fun _ _ => trivial).mono fun _ _ => trivial
        · rw [if_neg h2] at h ⊢
          rw [if_pos (by omega)]
          cases h
          exact hx.mono fun _ _ => trivial
    · cases h
  · rw [if_neg h12] at h
    rw [if_neg (by omega), if_neg (by omega)]
    by_cases h3 : l.kind = 3
    · rw [if_pos h3] at h
      split at h
      · obtain ⟨z, y, hz, hy, rfl⟩ := two_some h
        obtain ⟨x, o, hx, ho, rfl⟩ := two_some hz
        have e1 := Lx.term ha hx
        have e2 := Lx.op ho
        have e3 := Lx.term hb hy
        have e := e1.app (Lx.blank.app (e2.app (Lx.blank.app e3 fun _ _ => trivial) fun _ _ => rfl) fun _ _ => trivial) fun t _ => nb_mark (.inr (.inr (.inr (.inr (.inl rfl))))) _
        have : x ++ [32] ++ o ++ [32] ++ y = x ++ ([32] ++ (o ++ ([32] ++ y))) := by simp
        rw [this]
        exact e
      · cases h
    · rw [if_neg h3] at h; cases h
theorem Lx.tail {α : Type} {P : α → Option (List UInt8)} {K : α → List Kt} {m : List UInt8} {k : List UInt8} {L : List α} {s : List UInt8} (hm : Lx m [cK k] anyT) (hP : ∀ x ∈ L, ∀ s, P x = some s → Lx s (K x) nbT) (h : tailP m P L = some s) : Lx s (tailK k (L.map K)) nbT := by
  unfold tailP at h
  unfold tailK
  by_cases hL : L.length = 0
  · rw [if_pos hL] at h
    cases h
    have : L = [] := List.eq_nil_of_length_eq_zero hL
    subst this
    exact Lx.nil
  · rw [if_neg hL] at h
    rw [if_neg (by intro e; apply hL; have : L = [] := by simpa using e
                   rw [this]; rfl)]
    cases hR : rowP P [44, 32] L with
    | none => rw [hR] at h; cases h
    | some y =>
      rw [hR] at h
      cases h
      exact hm.app (Lx.join L y hP hR) fun _ _ => trivial
/-- A part of a line that ends with a point. -/
theorem Lx.point {s : List UInt8} {T : List Kt} (h : Lx s T nbT) : Lx (s ++ [46]) (T ++ [cK [46]]) anyT := h.app (Lx.mark (.inr (.inr (.inr (.inl rfl))))) fun _ _ => nb_mark (.inr (.inr (.inr (.inl rfl)))) _
theorem tail_ends {α : Type} {P : α → Option (List UInt8)} {m : List UInt8} {L : List α} {y : List UInt8} (h : tailP m P L = some y) : y = [] ∨ ∃ r, y = m ++ r := by
  unfold tailP at h
  split at h
  · cases h; exact .inl rfl
  · cases hR : rowP P [44, 32] L with
    | none => rw [hR] at h; cases h
    | some z => rw [hR] at h; cases h; exact .inr ⟨z, rfl⟩
theorem Lx.rule {r : RuL} {s : List UInt8} (hh : ∀ t ∈ r.head.args, I64 t.val.2.1) (hb : ∀ l ∈ r.body, (∀ t ∈ l.atom.args, I64 t.val.2.1) ∧ I64 l.a.val.2.1 ∧ I64 l.b.val.2.1) (h : ruleP r = some s) : Lx s (ruleK r) anyT := by
  obtain ⟨x, y, hx, hy, rfl⟩ := two_some h
  have e1 := Lx.atom hh hx
  have e2 := Lx.tail (K := litK) (k := [58, 45]) (Lx.blank.app (Lx.if_.app Lx.blank fun _ _ => trivial) fun _ _ => trivial) (fun l hl s hs => Lx.lit (hb l hl).1 (hb l hl).2.1 (hb l hl).2.2 hs) hy
  rw [List.append_assoc]
  exact e1.app e2.point fun _ _ => trivial
theorem Lx.type {n : Int} {s : List UInt8} (h : typeP n = some s) : Lx s [typeK n] nbT := by
  unfold typeK
  rw [h]
  unfold typeP at h
  by_cases h1 : n = 1
  · rw [if_pos h1] at h; cases h
    exact Lx.word (c := 105) (r := [110, 116]) (.inl ⟨rfl, rfl⟩) rfl (by decide) (solid_of (by decide))
  · rw [if_neg h1] at h
    by_cases h2 : n = 2
    · rw [if_pos h2] at h; cases h
      exact Lx.word (c := 115) (r := [121, 109]) (.inl ⟨rfl, rfl⟩) rfl (by decide) (solid_of (by decide))
    · rw [if_neg h2] at h; cases h
theorem Lx.decl {d : DeL} {s : List UInt8} (h : declP d = some s) : Lx s (declK d) anyT := by
  unfold declP at h
  cases hN : namedP typeP d.name d.types with
  | none => rw [hN] at h; cases h
  | some x =>
    rw [hN] at h
    cases h
    have e1 := Lx.named (K := fun n => [typeK n]) (fun n _ s hs => Lx.type hs) hN
    have e2 := (e1.mono (C' := nbT) fun _ _ => trivial).point
    unfold declK
    cases d.base with
    | true => show Lx (wBase ++ [32] ++ x ++ [46]) _ _; rw [List.append_assoc]; exact (Lx.kw (c := 98) (r := [97, 115, 101]) rfl rfl (by decide)).app e2 fun _ _ => trivial
    | false => show Lx (wView ++ [32] ++ x ++ [46]) _ _; rw [List.append_assoc]; exact (Lx.kw (c := 118) (r := [105, 101, 119]) rfl rfl (by decide)).app e2 fun _ _ => trivial
theorem Lx.param {p : List UInt8 × Int} {s : List UInt8} (h : paramP p = some s) : Lx s (paramK p) nbT := by
  obtain ⟨x, y, hx, hy, rfl⟩ := two_some h
  unfold varP at hx
  by_cases hb : varB p.1 = true
  · rw [if_pos hb] at hx
    cases hx
    have hk : kindL p.1 = 2 := by unfold varB at hb; simpa using hb
    rw [List.append_assoc]
    exact (Lx.kind hk (.inr rfl)).app (Lx.blank.app (Lx.type hy) fun _ _ => trivial) fun t _ => nb_mark (.inr (.inr (.inr (.inr (.inl rfl))))) _
  · rw [if_neg hb] at hx; cases hx
theorem name_ahead {c : UInt8} {r : List UInt8} (h : nameB (c :: r) = true) : isDig c = false := by
  have hk : kindL (c :: r) = 1 := by unfold nameB at h; simp at h; exact h.1
  obtain ⟨c', r', v, e, hs, ht⟩ := lexS_word hk (by decide)
  injection e with e1 e2
  subst e1 e2
  have hsh : shapeL c r = (1, r.length + 1) := by
    rw [tok_eq] at ht
    cases hm : meanL valL (shapeL c r).1 ((c :: r).take (shapeL c r).2) with
    | none => rw [hm] at ht; cases ht
    | some x =>
      rw [hm] at ht
      simp only [Option.map_some, Option.some.injEq, Prod.mk.injEq] at ht
      exact Prod.ext ht.1 ht.2.1
  rcases (shape_word (.inl rfl) hsh).1 with ⟨h1, -⟩ | ⟨h1, h2⟩
  · unfold isDig; rw [h1]; rfl
  · cases h2
theorem Lx.act {a : ActL} {s : List UInt8} (hn : ∀ t ∈ a.atom.args, I64 t.val.2.1) (h : actP a = some s) : Lx s (actK a) nbT := by
  unfold actP at h
  cases hA : atomP a.atom with
  | none => rw [hA] at h; cases h
  | some x =>
    rw [hA] at h
    cases h
    have e := Lx.atom hn hA
    unfold actK
    cases a.plus with
    | true => exact ((Lx.mark (.inr (.inr (.inr (.inr (.inl rfl)))))).app e fun _ _ => trivial).mono fun _ _ => trivial
    | false =>
      refine (Lx.minus.app e fun t _ => ?_).mono fun _ _ => trivial
      obtain ⟨x', y', h1, h2, rfl⟩ := two_some hA
      obtain ⟨-, rfl, hb⟩ := Lx.name h1
      intro c hc
      have hk : kindL a.atom.pred = 1 := by unfold nameB at hb; simp at hb; exact hb.1
      obtain ⟨c', r', v, e', -, -⟩ := lexS_word hk (by decide)
      rw [e'] at hb hc
      simp only [List.cons_append, List.head?_cons, Option.some.injEq] at hc
      rw [← hc]
      exact name_ahead hb
theorem Lx.on {o : OnL} {s : List UInt8} (hn : ∀ a ∈ o.acts, ∀ t ∈ a.atom.args, I64 t.val.2.1) (h : onP o = some s) : Lx s (onK o) anyT := by
  obtain ⟨x, y, hx, hy, rfl⟩ := two_some h
  have e1 := Lx.named (K := paramK) (fun p _ s hs => Lx.param hs) hx
  have e2 := Lx.tail (K := actK) (k := [58]) (Lx.colon.app Lx.blank fun t _ => rfl) (fun a ha s hs => Lx.act (hn a ha) hs) hy
  have e := (Lx.kw (c := 111) (r := [110]) rfl rfl (by decide)).app (e1.app e2.point fun _ _ => trivial) fun _ _ => trivial
  have : wOn ++ [32] ++ x ++ y ++ [46] = wOn ++ [32] ++ (x ++ (y ++ [46])) := by simp
  rw [this]
  exact e
end
section
open Go Go.RowKit Go.Shelf

def clK : DeL ⊕ (OnL ⊕ RuL) → List Kt
  | .inl d => declK d
  | .inr (.inl o) => onK o
  | .inr (.inr r) => ruleK r
def progK (p : PrL) : List Kt := ((allC p).map clK).flatten
theorem lines_words : ∀ (C : List (DeL ⊕ (OnL ⊕ RuL))) (ts : List (List UInt8)), (∀ x ∈ C, ∀ s, clP x = some s → Lx s (clK x) anyT) → allO (C.map clP) = some ts → Lx (flatL ts) (C.map clK).flatten anyT
  | [], ts, _, h => by
    cases h
    exact Lx.nil
  | x :: C, ts, hP, h => by
    rw [List.map_cons] at h
    cases hx : clP x with
    | none => rw [hx] at h; simp [allO] at h
    | some a =>
      rw [hx] at h
      cases hL : allO (C.map clP) with
      | none => simp [allO, hL] at h
      | some us =>
        simp only [allO, hL, Option.map_some, Option.some.injEq] at h
        subst h
        have h1 := hP x List.mem_cons_self a hx
        have h2 := lines_words C us (fun y hy => hP y (List.mem_cons_of_mem _ hy)) hL
        have e : flatL (a :: us) = a ++ ([10] ++ flatL us) := by simp [flatL]
        rw [e, List.map_cons, List.flatten_cons]
        exact h1.app (Lx.line.app h2 fun _ _ => trivial) fun _ _ => trivial
theorem SmA.nums {a : AtL} (h : SmA a) : ∀ t ∈ a.args, I64 t.val.2.1 := fun t ht => (h.all_ t ht).int
theorem rule_words {r : RuL} (h : SmR r) {s : List UInt8} (hs : ruleP r = some s) : Lx s (ruleK r) anyT := Lx.rule h.head.nums (fun l hl => ⟨(h.all_ l hl).atom.nums, (h.all_ l hl).a.int, (h.all_ l hl).b.int⟩) hs
theorem on_words {o : OnL} (h : SmO o) {s : List UInt8} (hs : onP o = some s) : Lx s (onK o) anyT := Lx.on (fun a ha => (h.all_ a ha).nums) hs
theorem prog_words {p : PrL} (h : SmP p) {s : List UInt8} (hs : progP p = some s) : KyIs s (progK p) := by
  rw [progP_all] at hs
  cases hL : allO ((allC p).map clP) with
  | none => rw [hL] at hs; cases hs
  | some ts =>
    rw [hL] at hs
    cases hs
    refine (lines_words (allC p) ts (fun x hx s hs => ?_) hL).all trivial
    unfold allC at hx
    rcases List.mem_append.1 hx with hx | hx
    · obtain ⟨d, hd, rfl⟩ := List.mem_map.1 hx
      exact Lx.decl hs
    · rcases List.mem_append.1 hx with hx | hx
      · obtain ⟨o, ho, rfl⟩ := List.mem_map.1 hx
        exact on_words (h.os o ho) hs
      · obtain ⟨r, hr, rfl⟩ := List.mem_map.1 hx
        exact rule_words (h.rs r hr) hs
end
end Go.Proofs.YtlbofeidiclhgaaGreatDoor

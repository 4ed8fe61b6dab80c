/-
  The program's reader: term.
-/
import Derived.Test.YtmnbbbkikbcbjaaDoorG02
namespace Go.Proofs.YtmnbbbkikbcbjaaDoor
open Go Go.RowKit Go.Shelf

/-- A term as a value. -/
def tmT (_ : Nat → Prop) (_ : World) (v : Value) (a : TmL) : Prop := v = .agg (cellT a).toArray
theorem nxt_term {L : List Wd} : nxt isTerm (keys L) = (knd L == 2 || knd L == 4 || knd L == 5 || knd L == 3) := by cases L <;> rfl
abbrev zT : Obj := .cells #[.int .i64 0, .string ⟨#[]⟩, .int .i64 0, .int .i64 0, .string ⟨#[]⟩] 53
theorem row5_set {w1 : World} {b : Nat} {t : TypeId} {u v x y z u' v' x' y' z' : Value} (h : w1.heap[b]? = some (.cells #[u, v, x, y, z] t (0, 0))) :
    (((((w1.setCell ⟨b, 0, none⟩ u').setCell ⟨b, 1, none⟩ v').setCell ⟨b, 2, none⟩ x').setCell ⟨b, 3, none⟩ y').setCell ⟨b, 4, none⟩ z').heap[b]? = some (.cells #[u', v', x', y', z'] t (0, 0)) := by
  have h1 := Go.heap_setCell_same w1 b 0 _ _ u' h
  have h2 := Go.heap_setCell_same _ b 1 _ _ v' h1
  have h3 := Go.heap_setCell_same _ b 2 _ _ x' h2
  have h4 := Go.heap_setCell_same _ b 3 _ _ y' h3
  exact Go.heap_setCell_same _ b 4 _ _ z' h4
/-- Below N only block b has turned. -/
structure Only (N b : Nat) (A B : World) : Prop where
  le : N ≤ A.heap.size
  os : B.os = A.os
  tape : B.tape = A.tape
  output : B.output = A.output
  size : A.heap.size ≤ B.heap.size
  block : ∀ k, k < N → k ≠ b → B.heap[k]? = A.heap[k]?
theorem Only.refl (b : Nat) (A : World) : Only A.heap.size b A A := ⟨Nat.le_refl _, rfl, rfl, rfl, Nat.le_refl _, fun _ _ _ => rfl⟩
theorem Only.turned {b : Nat} {A B : World} (h : Only A.heap.size b A B) : Turned (fun k => k = b) A B := ⟨h.os, h.tape, h.output, h.size, h.block⟩
theorem Only.call {N b : Nat} {A B C : World} {Z : Nat → Prop} (h : Only N b A B) (g : Turned Z B C) (hZ : ∀ k, Z k → k = b ∨ N ≤ k) : Only N b A C :=
  ⟨h.le, g.os.trans h.os, g.tape.trans h.tape, g.output.trans h.output, Nat.le_trans h.size g.size, fun k hk hn => (g.block k (Nat.lt_of_lt_of_le hk (Nat.le_trans h.le h.size)) fun e => by rcases hZ k e with e | e; exact hn e; omega).trans (h.block k hk hn)⟩
theorem Only.on {N b : Nat} {A B C : World} (h : Only N b A B) (g : Turned (fun k => k = b) B C) : Only N b A C := h.call g fun _ e => .inl e
theorem Only.below {N b : Nat} {A B C : World} (h : Only N b A B) (g : Below B.heap.size B C) : Only N b A C := h.call (Turned.of_below (Y := fun _ => False) g) fun _ e => e.elim
theorem Only.alloc {N b : Nat} {A B : World} (h : Only N b A B) (o : Obj) : Only N b A (B.alloc o) := h.below ((Below.refl _ B).alloc (Nat.le_refl _) o)
theorem Only.drew {N b : Nat} {A B : World} (h : Only N b A B) : Only N b A B.drew := ⟨h.le, h.os, h.tape, h.output, h.size, h.block⟩
theorem Only.set {N b : Nat} {A B : World} (h : Only N b A B) {c : Nat} (hc : N ≤ c) (j : Nat) (u : Value) : Only N b A (B.setCell ⟨c, j, none⟩ u) := h.call (Turned.set B c j u) fun _ e => .inr (by rw [e]; exact hc)
theorem name_w {P : Program} {Q : Exit → Act → World → Prop} {c : Code} {a : Act} {w : World} (h : ∀ X, X = w → c.wp P Q a X) : c.wp P Q a w := h w rfl
theorem set5_off {w1 : World} {b k : Nat} {u' v' x' y' z' : Value} (h : k ≠ b) : (((((w1.setCell ⟨b, 0, none⟩ u').setCell ⟨b, 1, none⟩ v').setCell ⟨b, 2, none⟩ x').setCell ⟨b, 3, none⟩ y').setCell ⟨b, 4, none⟩ z').heap[k]? = w1.heap[k]? :=
  (heap_setCell_other _ ⟨b, 4, none⟩ k _ h).trans ((heap_setCell_other _ ⟨b, 3, none⟩ k _ h).trans ((heap_setCell_other _ ⟨b, 2, none⟩ k _ h).trans ((heap_setCell_other _ ⟨b, 1, none⟩ k _ h).trans (heap_setCell_other _ ⟨b, 0, none⟩ k _ h))))
theorem two_new (W : World) (o o' : Obj) : ((W.alloc o).alloc o').heap[W.heap.size]? = some o ∧ ((W.alloc o).alloc o').heap[W.heap.size + 1]? = some o' := by
  refine ⟨(Below.heap_alloc _ _ _ (by simp)).trans (heap_alloc_new W o), ?_⟩
  have := heap_alloc_new (W.alloc o) o'
  rw [show (W.alloc o).heap.size = W.heap.size + 1 by simp] at this
  exact this
theorem cells5 {W : World} {b : Nat} {u v x y z : Value} {t : TypeId} (h : W.heap[b]? = some (.cells #[u, v, x, y, z] t (0, 0))) :
    (W.cell? ⟨b, 0, none⟩ = some u ∧ W.cell? ⟨b, 1, none⟩ = some v ∧ W.cell? ⟨b, 2, none⟩ = some x ∧ W.cell? ⟨b, 3, none⟩ = some y ∧ W.cell? ⟨b, 4, none⟩ = some z) ∧
    W.frozen? ⟨b, 0, none⟩ = false ∧ W.frozen? ⟨b, 1, none⟩ = false ∧ W.frozen? ⟨b, 2, none⟩ = false ∧ W.frozen? ⟨b, 3, none⟩ = false ∧ W.frozen? ⟨b, 4, none⟩ = false :=
  ⟨⟨(cell_of_row _ b 0 _ _ (0, 0) h).trans rfl, (cell_of_row _ b 1 _ _ (0, 0) h).trans rfl, (cell_of_row _ b 2 _ _ (0, 0) h).trans rfl, (cell_of_row _ b 3 _ _ (0, 0) h).trans rfl, (cell_of_row _ b 4 _ _ (0, 0) h).trans rfl⟩,
    frozen_of_row _ b 0 _ _ h, frozen_of_row _ b 1 _ _ h, frozen_of_row _ b 2 _ _ h, frozen_of_row _ b 3 _ _ h, frozen_of_row _ b 4 _ _ h⟩
set_option maxRecDepth 100000 in
set_option maxHeartbeats 2000000 in
theorem pterm_any {W : World} {n b e : Nat} {L : List Wd} (h : Rp n W b L e) : Calls Tryd.prog 34 #[rdp b] W (PEnd termR tmT n b e L W) := by
  have HR := Lib.hid h
  have HNx := Lib.hid (nxt_term (L := L))
  have hkr := knd_range h.tidy
  have mixed : Tryd.prog.follows .mixedOrders = true := by kernel_rfl
  obtain ⟨x, hx⟩ : ∃ x, x = headW e L := ⟨_, rfl⟩
  obtain ⟨K, T, ⟨v1, v2, v3⟩, P⟩ := x
  obtain ⟨hK, hT⟩ := wordV_head hx
  rw [← hK] at HNx hkr
  have HX := Lib.hid hx
  have hlt := h.lt
  have hne1 : ¬ W.heap.size = b := by omega
  have hne2 : ¬ W.heap.size + 1 = b := by omega
  clear h hx hK hT
  rcases hkr with rfl | rfl | rfl | rfl | rfl | rfl | rfl
-- WALK
  · have HN0 := Lib.hid (show nxt isTerm (keys L) = false by rw [HNx.out]; rfl)
    have hnW := HR.out.below_
    go_enter Tryd.func34, Tryd.ntmps34
    go_wp2_with fail
    refine (pnext_any ((HR.out.alloc zT).alloc zT)).mono ?_
    rintro y w1 ⟨rfl, hb⟩
    rw [← HX.out]
    unfold wordV
    have HB := Lib.hid hb
    have hz1 : W.heap.size + 1 < w1.heap.size := by have := hb.size; simp at this; omega
    have q3 : w1.heap[W.heap.size + 1]? = some zT := (hb.block _ (by simp)).trans (two_new W zT zT).2
    have HQ := Lib.hid q3
    clear hb q3
    go_wp2_with fail
    refine name_w fun X hX => ?_
    have HOX : Hid (Only W.heap.size b W X) := Lib.hid (by
      rw [hX]
      repeat with_reducible first | refine Only.drew ?_ | refine Only.alloc ?_ _ | refine Only.set ?_ (by omega) _ _
      exact (((Only.refl b W).alloc zT).alloc zT).below HB.out)
    have HRX : Hid (Rp n X b L e) := Lib.hid (by
      rw [hX]
      repeat with_reducible first | refine Rp.drew ?_ | refine Rp.alloc ?_ _ | refine Rp.set ?_ (by omega) _ _
      exact (((HR.out.alloc zT).alloc zT).below HB.out))
    have HX3 : Hid (X.heap[W.heap.size + 1]? = some zT) := Lib.hid (by rw [hX]; exact (Below.heap_alloc _ _ _ (by omega)).trans HQ.out)
    clear hX hz1 HQ HB HR
    have x0 := cell_of_row X (W.heap.size + 1) 0 _ _ (0, 0) HX3.out
    refine region_tail 6 mixed (by kernel_rfl) ?_
    simp only [List.take_succ_cons, List.take_zero, List.drop_succ_cons, List.drop_zero]
    iterate 6 still_step
    refine wpStill_nil ?_
    go_wp2_with fail
    refine (ptake_no HRX.out.drew).mono ?_
    rintro y w2 ⟨rfl, hb2⟩
    have HO := Lib.hid ((Only.drew HOX.out).below hb2)
    clear hb2 x0
    go_wp2_with fail
    exact ⟨rfl, PEnd.no (bind_bad (tok1_no HN0.out)) (Only.turned HO.out)⟩
  · have HN0 := Lib.hid (show nxt isTerm (keys L) = false by rw [HNx.out]; rfl)
    have hnW := HR.out.below_
    go_enter Tryd.func34, Tryd.ntmps34
    go_wp2_with fail
    refine (pnext_any ((HR.out.alloc zT).alloc zT)).mono ?_
    rintro y w1 ⟨rfl, hb⟩
    rw [← HX.out]
    unfold wordV
    have HB := Lib.hid hb
    have hz1 : W.heap.size + 1 < w1.heap.size := by have := hb.size; simp at this; omega
    have q3 : w1.heap[W.heap.size + 1]? = some zT := (hb.block _ (by simp)).trans (two_new W zT zT).2
    have HQ := Lib.hid q3
    clear hb q3
    go_wp2_with fail
    refine name_w fun X hX => ?_
    have HOX : Hid (Only W.heap.size b W X) := Lib.hid (by
      rw [hX]
      repeat with_reducible first | refine Only.drew ?_ | refine Only.alloc ?_ _ | refine Only.set ?_ (by omega) _ _
      exact (((Only.refl b W).alloc zT).alloc zT).below HB.out)
    have HRX : Hid (Rp n X b L e) := Lib.hid (by
      rw [hX]
      repeat with_reducible first | refine Rp.drew ?_ | refine Rp.alloc ?_ _ | refine Rp.set ?_ (by omega) _ _
      exact (((HR.out.alloc zT).alloc zT).below HB.out))
    have HX3 : Hid (X.heap[W.heap.size + 1]? = some zT) := Lib.hid (by rw [hX]; exact (Below.heap_alloc _ _ _ (by omega)).trans HQ.out)
    clear hX hz1 HQ HB HR
    have x0 := cell_of_row X (W.heap.size + 1) 0 _ _ (0, 0) HX3.out
    refine region_tail 6 mixed (by kernel_rfl) ?_
    simp only [List.take_succ_cons, List.take_zero, List.drop_succ_cons, List.drop_zero]
    iterate 6 still_step
    refine wpStill_nil ?_
    go_wp2_with fail
    refine (ptake_no HRX.out.drew).mono ?_
    rintro y w2 ⟨rfl, hb2⟩
    have HO := Lib.hid ((Only.drew HOX.out).below hb2)
    clear hb2 x0
    go_wp2_with fail
    exact ⟨rfl, PEnd.no (bind_bad (tok1_no HN0.out)) (Only.turned HO.out)⟩
  · obtain ⟨L', hL⟩ := head_cons HX.out (by simp)
    subst hL
    have hnW := HR.out.below_
    go_enter Tryd.func34, Tryd.ntmps34
    go_wp2_with fail
    refine (pnext_any ((HR.out.alloc zT).alloc zT)).mono ?_
    rintro y w1 ⟨rfl, hb⟩
    rw [← HX.out]
    unfold wordV
    have HB := Lib.hid hb
    obtain ⟨hc1, hf1⟩ := bcell hb
    have hz1 : W.heap.size + 1 < w1.heap.size := by have := hb.size; simp at this; omega
    have hz0 : W.heap.size < w1.heap.size := by omega
    have q3 : w1.heap[W.heap.size + 1]? = some zT := (hb.block _ (by simp)).trans (two_new W zT zT).2
    have q2 : w1.heap[W.heap.size]? = some zT := (hb.block _ (by simp; omega)).trans (two_new W zT zT).1
    have HQ := Lib.hid (And.intro q2 q3)
    clear hb q2 q3
    go_wp2_with fail
    refine name_w fun X hX => ?_
    have HOX : Hid (Only W.heap.size b W X) := Lib.hid (by
      rw [hX]
      repeat with_reducible first | refine Only.drew ?_ | refine Only.alloc ?_ _ | refine Only.set ?_ (by omega) _ _
      exact (((Only.refl b W).alloc zT).alloc zT).below HB.out)
    have HRX : Hid (Rp n X b (⟨2, T, (v1, v2, v3), P⟩ :: L') e) := Lib.hid (by
      rw [hX]
      repeat with_reducible first | refine Rp.drew ?_ | refine Rp.alloc ?_ _ | refine Rp.set ?_ (by omega) _ _
      exact (((HR.out.alloc zT).alloc zT).below HB.out))
    have HX3 : Hid (X.heap[W.heap.size + 1]? = some (.cells #[.int .i64 1, .string ⟨T.toArray⟩, .int .i64 0, .int .i64 0, .string ⟨#[]⟩] 53 (0, 0))) := Lib.hid (by rw [hX]; exact (Below.heap_alloc _ _ _ (by simp; omega)).trans (row5_set HQ.out.2))
    have HX2 : Hid (X.heap[W.heap.size]? = some zT) := Lib.hid (by rw [hX]; exact (Below.heap_alloc _ _ _ (by simp; omega)).trans ((set5_off (by omega)).trans HQ.out.1))
    have HXs : Hid (W.heap.size + 1 < X.heap.size) := Lib.hid (by rw [hX]; simp; omega)
    clear hX hc1 hf1 hz0 hz1 HQ HB HR
    have x0 := cell_of_row X (W.heap.size + 1) 0 _ _ (0, 0) HX3.out
    refine region_tail 6 mixed (by kernel_rfl) ?_
    simp only [List.take_succ_cons, List.take_zero, List.drop_succ_cons, List.drop_zero]
    iterate 6 still_step
    refine wpStill_nil ?_
    go_wp2_with fail
    refine (ptake_yes HRX.out.drew).mono ?_
    rintro y w2 ⟨rfl, ht2, hr2⟩
    have HO := Lib.hid ((Only.drew HOX.out).on ht2)
    have HR2 := Lib.hid hr2
    have HX3' := Lib.hid ((ht2.block _ HXs.out hne2).trans HX3.out)
    have HX2' := Lib.hid ((ht2.block _ (show W.heap.size < X.drew.heap.size by have := HXs.out; show W.heap.size < X.heap.size; omega) hne1).trans HX2.out)
    obtain ⟨⟨y0, y1, y2, y3, y4⟩, -⟩ := cells5 HX3'.out
    obtain ⟨⟨z0, z1, z2, z3, z4⟩, g0, g1, g2, g3, g4⟩ := cells5 HX2'.out
    clear ht2 hr2 x0
    unfold wordV
    go_wp2_with fail
    refine bodyPost_ret (results_cell_row (fn := Tryd.f34) (by rfl) _ _ _ _ _ _ _ (by rfl) (row5_set HX2'.out) Tryd.underlying53 (by rfl) (by kernel_rfl)) (by rfl) ?_
    refine ⟨Only.turned (by
      repeat with_reducible refine Only.set ?_ (Nat.le_refl _) _ _
      exact HO.out), .inl ⟨termOf (2, T, (v1, v2, v3)), L', _, bind_ok (tok1_yes (w := ⟨2, T, (v1, v2, v3), P⟩) rfl), ⟨[_], rfl⟩, rfl, rfl, ?_⟩⟩
    repeat with_reducible refine Rp.set ?_ hnW _ _
    exact HR2.out
  · obtain ⟨L', hL⟩ := head_cons HX.out (by simp)
    subst hL
    have hnW := HR.out.below_
    go_enter Tryd.func34, Tryd.ntmps34
    go_wp2_with fail
    refine (pnext_any ((HR.out.alloc zT).alloc zT)).mono ?_
    rintro y w1 ⟨rfl, hb⟩
    rw [← HX.out]
    unfold wordV
    have HB := Lib.hid hb
    obtain ⟨hc1, hf1⟩ := bcell hb
    have hz1 : W.heap.size + 1 < w1.heap.size := by have := hb.size; simp at this; omega
    have hz0 : W.heap.size < w1.heap.size := by omega
    have q3 : w1.heap[W.heap.size + 1]? = some zT := (hb.block _ (by simp)).trans (two_new W zT zT).2
    have q2 : w1.heap[W.heap.size]? = some zT := (hb.block _ (by simp; omega)).trans (two_new W zT zT).1
    have HQ := Lib.hid (And.intro q2 q3)
    clear hb q2 q3
    go_wp2_with fail
    refine name_w fun X hX => ?_
    have HOX : Hid (Only W.heap.size b W X) := Lib.hid (by
      rw [hX]
      repeat with_reducible first | refine Only.drew ?_ | refine Only.alloc ?_ _ | refine Only.set ?_ (by omega) _ _
      exact (((Only.refl b W).alloc zT).alloc zT).below HB.out)
    have HRX : Hid (Rp n X b (⟨3, T, (v1, v2, v3), P⟩ :: L') e) := Lib.hid (by
      rw [hX]
      repeat with_reducible first | refine Rp.drew ?_ | refine Rp.alloc ?_ _ | refine Rp.set ?_ (by omega) _ _
      exact (((HR.out.alloc zT).alloc zT).below HB.out))
    have HX3 : Hid (X.heap[W.heap.size + 1]? = some (.cells #[.int .i64 3, .string ⟨#[]⟩, .int .i64 0, .int .i64 0, .string ⟨#[]⟩] 53 (0, 0))) := Lib.hid (by rw [hX]; exact (Below.heap_alloc _ _ _ (by simp; omega)).trans (row5_set HQ.out.2))
    have HX2 : Hid (X.heap[W.heap.size]? = some zT) := Lib.hid (by rw [hX]; exact (Below.heap_alloc _ _ _ (by simp; omega)).trans ((set5_off (by omega)).trans HQ.out.1))
    have HXs : Hid (W.heap.size + 1 < X.heap.size) := Lib.hid (by rw [hX]; simp; omega)
    clear hX hc1 hf1 hz0 hz1 HQ HB HR
    have x0 := cell_of_row X (W.heap.size + 1) 0 _ _ (0, 0) HX3.out
    refine region_tail 6 mixed (by kernel_rfl) ?_
    simp only [List.take_succ_cons, List.take_zero, List.drop_succ_cons, List.drop_zero]
    iterate 6 still_step
    refine wpStill_nil ?_
    go_wp2_with fail
    refine (ptake_yes HRX.out.drew).mono ?_
    rintro y w2 ⟨rfl, ht2, hr2⟩
    have HO := Lib.hid ((Only.drew HOX.out).on ht2)
    have HR2 := Lib.hid hr2
    have HX3' := Lib.hid ((ht2.block _ HXs.out hne2).trans HX3.out)
    have HX2' := Lib.hid ((ht2.block _ (show W.heap.size < X.drew.heap.size by have := HXs.out; show W.heap.size < X.heap.size; omega) hne1).trans HX2.out)
    obtain ⟨⟨y0, y1, y2, y3, y4⟩, -⟩ := cells5 HX3'.out
    obtain ⟨⟨z0, z1, z2, z3, z4⟩, g0, g1, g2, g3, g4⟩ := cells5 HX2'.out
    clear ht2 hr2 x0
    unfold wordV
    go_wp2_with fail
    refine bodyPost_ret (results_cell_row (fn := Tryd.f34) (by rfl) _ _ _ _ _ _ _ (by rfl) (row5_set HX2'.out) Tryd.underlying53 (by rfl) (by kernel_rfl)) (by rfl) ?_
    refine ⟨Only.turned (by
      repeat with_reducible refine Only.set ?_ (Nat.le_refl _) _ _
      exact HO.out), .inl ⟨termOf (3, T, (v1, v2, v3)), L', _, bind_ok (tok1_yes (w := ⟨3, T, (v1, v2, v3), P⟩) rfl), ⟨[_], rfl⟩, rfl, rfl, ?_⟩⟩
    repeat with_reducible refine Rp.set ?_ hnW _ _
    exact HR2.out
  · obtain ⟨L', hL⟩ := head_cons HX.out (by simp)
    subst hL
    have hnW := HR.out.below_
    go_enter Tryd.func34, Tryd.ntmps34
    go_wp2_with fail
    refine (pnext_any ((HR.out.alloc zT).alloc zT)).mono ?_
    rintro y w1 ⟨rfl, hb⟩
    rw [← HX.out]
    unfold wordV
    have HB := Lib.hid hb
    obtain ⟨hc1, hf1⟩ := bcell hb
    have hz1 : W.heap.size + 1 < w1.heap.size := by have := hb.size; simp at this; omega
    have hz0 : W.heap.size < w1.heap.size := by omega
    have q3 : w1.heap[W.heap.size + 1]? = some zT := (hb.block _ (by simp)).trans (two_new W zT zT).2
    have q2 : w1.heap[W.heap.size]? = some zT := (hb.block _ (by simp; omega)).trans (two_new W zT zT).1
    have HQ := Lib.hid (And.intro q2 q3)
    clear hb q2 q3
    go_wp2_with fail
    refine name_w fun X hX => ?_
    have HOX : Hid (Only W.heap.size b W X) := Lib.hid (by
      rw [hX]
      repeat with_reducible first | refine Only.drew ?_ | refine Only.alloc ?_ _ | refine Only.set ?_ (by omega) _ _
      exact (((Only.refl b W).alloc zT).alloc zT).below HB.out)
    have HRX : Hid (Rp n X b (⟨4, T, (v1, v2, v3), P⟩ :: L') e) := Lib.hid (by
      rw [hX]
      repeat with_reducible first | refine Rp.drew ?_ | refine Rp.alloc ?_ _ | refine Rp.set ?_ (by omega) _ _
      exact (((HR.out.alloc zT).alloc zT).below HB.out))
    have HX3 : Hid (X.heap[W.heap.size + 1]? = some (.cells #[.int .i64 2, .string ⟨#[]⟩, .int .i64 v1, .int .i64 v2, .string v3] 53 (0, 0))) := Lib.hid (by rw [hX]; exact (Below.heap_alloc _ _ _ (by simp; omega)).trans (row5_set HQ.out.2))
    have HX2 : Hid (X.heap[W.heap.size]? = some zT) := Lib.hid (by rw [hX]; exact (Below.heap_alloc _ _ _ (by simp; omega)).trans ((set5_off (by omega)).trans HQ.out.1))
    have HXs : Hid (W.heap.size + 1 < X.heap.size) := Lib.hid (by rw [hX]; simp; omega)
    clear hX hc1 hf1 hz0 hz1 HQ HB HR
    have x0 := cell_of_row X (W.heap.size + 1) 0 _ _ (0, 0) HX3.out
    refine region_tail 6 mixed (by kernel_rfl) ?_
    simp only [List.take_succ_cons, List.take_zero, List.drop_succ_cons, List.drop_zero]
    iterate 6 still_step
    refine wpStill_nil ?_
    go_wp2_with fail
    refine (ptake_yes HRX.out.drew).mono ?_
    rintro y w2 ⟨rfl, ht2, hr2⟩
    have HO := Lib.hid ((Only.drew HOX.out).on ht2)
    have HR2 := Lib.hid hr2
    have HX3' := Lib.hid ((ht2.block _ HXs.out hne2).trans HX3.out)
    have HX2' := Lib.hid ((ht2.block _ (show W.heap.size < X.drew.heap.size by have := HXs.out; show W.heap.size < X.heap.size; omega) hne1).trans HX2.out)
    obtain ⟨⟨y0, y1, y2, y3, y4⟩, -⟩ := cells5 HX3'.out
    obtain ⟨⟨z0, z1, z2, z3, z4⟩, g0, g1, g2, g3, g4⟩ := cells5 HX2'.out
    clear ht2 hr2 x0
    unfold wordV
    go_wp2_with fail
    refine bodyPost_ret (results_cell_row (fn := Tryd.f34) (by rfl) _ _ _ _ _ _ _ (by rfl) (row5_set HX2'.out) Tryd.underlying53 (by rfl) (by kernel_rfl)) (by rfl) ?_
    refine ⟨Only.turned (by
      repeat with_reducible refine Only.set ?_ (Nat.le_refl _) _ _
      exact HO.out), .inl ⟨termOf (4, T, (v1, v2, v3)), L', _, bind_ok (tok1_yes (w := ⟨4, T, (v1, v2, v3), P⟩) rfl), ⟨[_], rfl⟩, rfl, rfl, ?_⟩⟩
    repeat with_reducible refine Rp.set ?_ hnW _ _
    exact HR2.out
  · obtain ⟨L', hL⟩ := head_cons HX.out (by simp)
    subst hL
    have hnW := HR.out.below_
    go_enter Tryd.func34, Tryd.ntmps34
    go_wp2_with fail
    refine (pnext_any ((HR.out.alloc zT).alloc zT)).mono ?_
    rintro y w1 ⟨rfl, hb⟩
    rw [← HX.out]
    unfold wordV
    have HB := Lib.hid hb
    obtain ⟨hc1, hf1⟩ := bcell hb
    have hz1 : W.heap.size + 1 < w1.heap.size := by have := hb.size; simp at this; omega
    have hz0 : W.heap.size < w1.heap.size := by omega
    have q3 : w1.heap[W.heap.size + 1]? = some zT := (hb.block _ (by simp)).trans (two_new W zT zT).2
    have q2 : w1.heap[W.heap.size]? = some zT := (hb.block _ (by simp; omega)).trans (two_new W zT zT).1
    have HQ := Lib.hid (And.intro q2 q3)
    clear hb q2 q3
    go_wp2_with fail
    refine name_w fun X hX => ?_
    have HOX : Hid (Only W.heap.size b W X) := Lib.hid (by
      rw [hX]
      repeat with_reducible first | refine Only.drew ?_ | refine Only.alloc ?_ _ | refine Only.set ?_ (by omega) _ _
      exact (((Only.refl b W).alloc zT).alloc zT).below HB.out)
    have HRX : Hid (Rp n X b (⟨5, T, (v1, v2, v3), P⟩ :: L') e) := Lib.hid (by
      rw [hX]
      repeat with_reducible first | refine Rp.drew ?_ | refine Rp.alloc ?_ _ | refine Rp.set ?_ (by omega) _ _
      exact (((HR.out.alloc zT).alloc zT).below HB.out))
    have HX3 : Hid (X.heap[W.heap.size + 1]? = some (.cells #[.int .i64 2, .string ⟨#[]⟩, .int .i64 v1, .int .i64 v2, .string v3] 53 (0, 0))) := Lib.hid (by rw [hX]; exact (Below.heap_alloc _ _ _ (by simp; omega)).trans (row5_set HQ.out.2))
    have HX2 : Hid (X.heap[W.heap.size]? = some zT) := Lib.hid (by rw [hX]; exact (Below.heap_alloc _ _ _ (by simp; omega)).trans ((set5_off (by omega)).trans HQ.out.1))
    have HXs : Hid (W.heap.size + 1 < X.heap.size) := Lib.hid (by rw [hX]; simp; omega)
    clear hX hc1 hf1 hz0 hz1 HQ HB HR
    have x0 := cell_of_row X (W.heap.size + 1) 0 _ _ (0, 0) HX3.out
    refine region_tail 6 mixed (by kernel_rfl) ?_
    simp only [List.take_succ_cons, List.take_zero, List.drop_succ_cons, List.drop_zero]
    iterate 6 still_step
    refine wpStill_nil ?_
    go_wp2_with fail
    refine (ptake_yes HRX.out.drew).mono ?_
    rintro y w2 ⟨rfl, ht2, hr2⟩
    have HO := Lib.hid ((Only.drew HOX.out).on ht2)
    have HR2 := Lib.hid hr2
    have HX3' := Lib.hid ((ht2.block _ HXs.out hne2).trans HX3.out)
    have HX2' := Lib.hid ((ht2.block _ (show W.heap.size < X.drew.heap.size by have := HXs.out; show W.heap.size < X.heap.size; omega) hne1).trans HX2.out)
    obtain ⟨⟨y0, y1, y2, y3, y4⟩, -⟩ := cells5 HX3'.out
    obtain ⟨⟨z0, z1, z2, z3, z4⟩, g0, g1, g2, g3, g4⟩ := cells5 HX2'.out
    clear ht2 hr2 x0
    unfold wordV
    go_wp2_with fail
    refine bodyPost_ret (results_cell_row (fn := Tryd.f34) (by rfl) _ _ _ _ _ _ _ (by rfl) (row5_set HX2'.out) Tryd.underlying53 (by rfl) (by kernel_rfl)) (by rfl) ?_
    refine ⟨Only.turned (by
      repeat with_reducible refine Only.set ?_ (Nat.le_refl _) _ _
      exact HO.out), .inl ⟨termOf (5, T, (v1, v2, v3)), L', _, bind_ok (tok1_yes (w := ⟨5, T, (v1, v2, v3), P⟩) rfl), ⟨[_], rfl⟩, rfl, rfl, ?_⟩⟩
    repeat with_reducible refine Rp.set ?_ hnW _ _
    exact HR2.out
  · have HN0 := Lib.hid (show nxt isTerm (keys L) = false by rw [HNx.out]; rfl)
    have hnW := HR.out.below_
    go_enter Tryd.func34, Tryd.ntmps34
    go_wp2_with fail
    refine (pnext_any ((HR.out.alloc zT).alloc zT)).mono ?_
    rintro y w1 ⟨rfl, hb⟩
    rw [← HX.out]
    unfold wordV
    have HB := Lib.hid hb
    have hz1 : W.heap.size + 1 < w1.heap.size := by have := hb.size; simp at this; omega
    have q3 : w1.heap[W.heap.size + 1]? = some zT := (hb.block _ (by simp)).trans (two_new W zT zT).2
    have HQ := Lib.hid q3
    clear hb q3
    go_wp2_with fail
    refine name_w fun X hX => ?_
    have HOX : Hid (Only W.heap.size b W X) := Lib.hid (by
      rw [hX]
      repeat with_reducible first | refine Only.drew ?_ | refine Only.alloc ?_ _ | refine Only.set ?_ (by omega) _ _
      exact (((Only.refl b W).alloc zT).alloc zT).below HB.out)
    have HRX : Hid (Rp n X b L e) := Lib.hid (by
      rw [hX]
      repeat with_reducible first | refine Rp.drew ?_ | refine Rp.alloc ?_ _ | refine Rp.set ?_ (by omega) _ _
      exact (((HR.out.alloc zT).alloc zT).below HB.out))
    have HX3 : Hid (X.heap[W.heap.size + 1]? = some zT) := Lib.hid (by rw [hX]; exact (Below.heap_alloc _ _ _ (by omega)).trans HQ.out)
    clear hX hz1 HQ HB HR
    have x0 := cell_of_row X (W.heap.size + 1) 0 _ _ (0, 0) HX3.out
    refine region_tail 6 mixed (by kernel_rfl) ?_
    simp only [List.take_succ_cons, List.take_zero, List.drop_succ_cons, List.drop_zero]
    iterate 6 still_step
    refine wpStill_nil ?_
    go_wp2_with fail
    refine (ptake_no HRX.out.drew).mono ?_
    rintro y w2 ⟨rfl, hb2⟩
    have HO := Lib.hid ((Only.drew HOX.out).below hb2)
    clear hb2 x0
    go_wp2_with fail
    exact ⟨rfl, PEnd.no (bind_bad (tok1_no HN0.out)) (Only.turned HO.out)⟩
end Go.Proofs.YtmnbbbkikbcbjaaDoor

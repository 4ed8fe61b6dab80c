/-
  The walk of the law PrintLines.
  For every input the law PrintLines returns true and leaves its arguments as they were.
  Conditions: those that the row and its tied card print; none of the proof's own.
-/
import Derived.Test.YtlbofeidiclhgaaGreatDoorJ14
import Derived.Test.YtlbofeidiclhgaaGreatDoorJ15
import Derived.Test.YtlbofeidiclhgaaGreatDoorJ16
import Derived.Test.YtlbofeidiclhgaaGreatDoorJ17
import Derived.Test.YtlbofeidiclhgaaGreatDoorTie
import Derived.Test.YtlbofeidiclhgaaGreatDoorCards
namespace Go.Proofs.YtlbofeidiclhgaaGreatDoor
section
open Go Go.RowKit Go.Shelf

/-- The one answer: a text and a code. -/
def ansS (o : Option (List UInt8)) : ByteArray := ⟨(o.getD []).toArray⟩
def ansC (o : Option (List UInt8)) : Int := if o.isSome = true then 0 else 140
theorem say_ans {o : Option (List UInt8)} {w w' : World} {e : Ending} (h : SayP o w e w') : e = .returned (.tuple #[.string (ansS o), .int .i64 (ansC o)]) ∧ Below w.heap.size w w' := by
  obtain ⟨⟨s, rfl, rfl⟩ | ⟨rfl, rfl⟩, hb⟩ := h
  · exact ⟨by unfold ansS ansC; simp, hb⟩
  · exact ⟨by unfold ansS ansC; simp, hb⟩
theorem says_ans {M : Nat} {o : Option (List UInt8)} {w w' : World} {e : Ending} (h : SayS M o w e w') : e = .returned (.tuple #[.string (ansS o), .int .i64 (ansC o)]) ∧ Below w.heap.size w w' := by
  obtain ⟨⟨s, rfl, -, rfl⟩ | ⟨rfl, rfl⟩, hb⟩ := h
  · exact ⟨by unfold ansS ansC; simp, hb⟩
  · exact ⟨by unfold ansS ansC; simp, hb⟩
theorem bool_ans {b : Bool} {w w' : World} {e : Ending} (h : BoolE (b = true) w e w') : e = .returned (.bool b) ∧ Below w.heap.size w w' := by
  obtain ⟨⟨h1, rfl⟩ | ⟨h1, rfl⟩, hb⟩ := h
  · rw [h1]; exact ⟨rfl, hb⟩
  · rw [show b = false by simpa using h1]; exact ⟨rfl, hb⟩
theorem cutA_sm {a : AtL} (h : OkA a) : SmA (cutA a) := ⟨by simp only [cutA, List.length_take]; omega, by simp only [cutA, List.length_map, List.length_take]; omega, fun t ht => by
  simp only [cutA] at ht
  obtain ⟨x, hx, rfl⟩ := List.mem_map.1 ht
  exact cutT_sm (h x (List.mem_of_mem_take hx))⟩
theorem cutLi_sm {l : LiL} (h : OkLi l) : SmLi (cutLi l) := ⟨cutA_sm h.1, cutT_sm h.2.1, cutT_sm h.2.2⟩
theorem cutR_sm {r : RuL} (h : OkR r) : SmR (cutR r) := ⟨cutA_sm h.1, by simp only [cutR, List.length_map, List.length_take]; omega, fun l hl => by
  simp only [cutR] at hl
  obtain ⟨x, hx, rfl⟩ := List.mem_map.1 hl
  exact cutLi_sm (h.2 x (List.mem_of_mem_take hx))⟩
theorem cutD_sm (d : DeL) : SmD (cutD d) := ⟨by simp only [cutD, List.length_take]; omega, by simp only [cutD, List.length_take]; omega⟩
theorem cutO_sm {o : OnL} (h : OkO o) : SmO (cutO o) := ⟨by simp only [cutO, List.length_take]; omega, by simp only [cutO, List.length_map, List.length_take]; omega, fun p hp => by
  simp only [cutO] at hp
  obtain ⟨x, -, rfl⟩ := List.mem_map.1 hp
  simp only [cutPa, List.length_take]; omega, by simp only [cutO, List.length_map, List.length_take]; omega, fun a ha => by
  simp only [cutO] at ha
  obtain ⟨x, hx, rfl⟩ := List.mem_map.1 ha
  exact cutA_sm (h x (List.mem_of_mem_take hx))⟩
/-- What stands while the law asks: the three copies. -/
structure PlS (w : World) (r2 : RuL) (d2 : DeL) (o2 : OnL) (va vb vc vd ve : Value) (W : World) : Prop where
  below : Below w.heap.size w W
  x0 : W.heap[w.heap.size]? = some (.cells #[.string ⟨r2.head.pred.toArray⟩, va, vb] 27 (0, 0))
  x1 : W.heap[w.heap.size + 1]? = some (.cells #[.string ⟨d2.name.toArray⟩, .bool d2.base, vc] 30 (0, 0))
  x2 : W.heap[w.heap.size + 2]? = some (.cells #[.string ⟨o2.event.toArray⟩, vd, ve] 34 (0, 0))
  ra : RowIn tmY (fun _ => True) W va r2.head.args
  rb : RowIn liY (fun _ => True) W vb r2.body
  rc : RowIn tyY (fun _ => True) W vc d2.types
  rd : RowIn paY (fun _ => True) W vd o2.params
  re : RowIn acY (fun _ => True) W ve o2.acts
theorem PlS.on {w W W' : World} {r2 : RuL} {d2 : DeL} {o2 : OnL} {va vb vc vd ve : Value} (h : PlS w r2 d2 o2 va vb vc vd ve W) (hb : Below W.heap.size W W') : PlS w r2 d2 o2 va vb vc vd ve W' :=
  ⟨h.below.trans (hb.mono h.below.size), (hb.block _ (Array.getElem?_eq_some_iff.1 h.x0).1).trans h.x0, (hb.block _ (Array.getElem?_eq_some_iff.1 h.x1).1).trans h.x1, (hb.block _ (Array.getElem?_eq_some_iff.1 h.x2).1).trans h.x2, h.ra.in_below hb, h.rb.in_below hb, h.rc.in_below hb, h.rd.in_below hb, h.re.in_below hb⟩
set_option maxHeartbeats 4000000 in
theorem set_9 {A W : World} {b c d : Nat} {t t' t'' : TypeId} {x0 x1 x2 u0 u1 u2 v0 v1 v2 y0 y1 y2 z0 z1 z2 q0 q1 q2 : Value} (hbc : b ≠ c) (hbd : b ≠ d) (hcd : c ≠ d) (h : A.heap[b]? = some (.cells #[x0, x1, x2] t (0, 0))) (h' : A.heap[c]? = some (.cells #[u0, u1, u2] t' (0, 0))) (h'' : A.heap[d]? = some (.cells #[v0, v1, v2] t'' (0, 0)))
    (hW : (((((((((A.setCell ⟨b, 0, none⟩ y0).setCell ⟨b, 1, none⟩ y1).setCell ⟨b, 2, none⟩ y2).setCell ⟨c, 0, none⟩ z0).setCell ⟨c, 1, none⟩ z1).setCell ⟨c, 2, none⟩ z2).setCell ⟨d, 0, none⟩ q0).setCell ⟨d, 1, none⟩ q1).setCell ⟨d, 2, none⟩ q2) = W) : W.heap[b]? = some (.cells #[y0, y1, y2] t (0, 0)) ∧ W.heap[c]? = some (.cells #[z0, z1, z2] t' (0, 0)) ∧ W.heap[d]? = some (.cells #[q0, q1, q2] t'' (0, 0)) ∧ (∀ k, k ≠ b → k ≠ c → k ≠ d → W.heap[k]? = A.heap[k]?) ∧ W.heap.size = A.heap.size := by
  subst hW
  have e1 := rowS3_set (y0 := y0) (y1 := y1) (y2 := y2) h
  have e2 := rowS3_set (y0 := z0) (y1 := z1) (y2 := z2) (((heap_setCell_other _ ⟨b, 2, none⟩ _ _ (Ne.symm hbc)).trans ((heap_setCell_other _ ⟨b, 1, none⟩ _ _ (Ne.symm hbc)).trans (heap_setCell_other _ ⟨b, 0, none⟩ _ _ (Ne.symm hbc)))).trans h' : (((A.setCell ⟨b, 0, none⟩ y0).setCell ⟨b, 1, none⟩ y1).setCell ⟨b, 2, none⟩ y2).heap[c]? = _)
  have e3 := rowS3_set (y0 := q0) (y1 := q1) (y2 := q2) (((heap_setCell_other _ ⟨c, 2, none⟩ _ _ (Ne.symm hcd)).trans ((heap_setCell_other _ ⟨c, 1, none⟩ _ _ (Ne.symm hcd)).trans (heap_setCell_other _ ⟨c, 0, none⟩ _ _ (Ne.symm hcd)))).trans (((heap_setCell_other _ ⟨b, 2, none⟩ _ _ (Ne.symm hbd)).trans ((heap_setCell_other _ ⟨b, 1, none⟩ _ _ (Ne.symm hbd)).trans (heap_setCell_other _ ⟨b, 0, none⟩ _ _ (Ne.symm hbd)))).trans h'') : ((((((A.setCell ⟨b, 0, none⟩ y0).setCell ⟨b, 1, none⟩ y1).setCell ⟨b, 2, none⟩ y2).setCell ⟨c, 0, none⟩ z0).setCell ⟨c, 1, none⟩ z1).setCell ⟨c, 2, none⟩ z2).heap[d]? = _)
  exact ⟨((heap_setCell_other _ ⟨d, 2, none⟩ _ _ hbd).trans ((heap_setCell_other _ ⟨d, 1, none⟩ _ _ hbd).trans (heap_setCell_other _ ⟨d, 0, none⟩ _ _ hbd))).trans (((heap_setCell_other _ ⟨c, 2, none⟩ _ _ hbc).trans ((heap_setCell_other _ ⟨c, 1, none⟩ _ _ hbc).trans (heap_setCell_other _ ⟨c, 0, none⟩ _ _ hbc))).trans e1), ((heap_setCell_other _ ⟨d, 2, none⟩ _ _ hcd).trans ((heap_setCell_other _ ⟨d, 1, none⟩ _ _ hcd).trans (heap_setCell_other _ ⟨d, 0, none⟩ _ _ hcd))).trans e2, e3, fun k h1 h2 h3 => ((heap_setCell_other _ ⟨d, 2, none⟩ _ _ h3).trans ((heap_setCell_other _ ⟨d, 1, none⟩ _ _ h3).trans (heap_setCell_other _ ⟨d, 0, none⟩ _ _ h3))).trans (((heap_setCell_other _ ⟨c, 2, none⟩ _ _ h2).trans ((heap_setCell_other _ ⟨c, 1, none⟩ _ _ h2).trans (heap_setCell_other _ ⟨c, 0, none⟩ _ _ h2))).trans ((heap_setCell_other _ ⟨b, 2, none⟩ _ _ h1).trans ((heap_setCell_other _ ⟨b, 1, none⟩ _ _ h1).trans (heap_setCell_other _ ⟨b, 0, none⟩ _ _ h1)))), by simp⟩
theorem below_9 {A W w : World} {n b c d : Nat} {y0 y1 y2 z0 z1 z2 q0 q1 q2 : Value} (h : Below n w A) (hb : n ≤ b) (hc : n ≤ c) (hd : n ≤ d) (hW : (((((((((A.setCell ⟨b, 0, none⟩ y0).setCell ⟨b, 1, none⟩ y1).setCell ⟨b, 2, none⟩ y2).setCell ⟨c, 0, none⟩ z0).setCell ⟨c, 1, none⟩ z1).setCell ⟨c, 2, none⟩ z2).setCell ⟨d, 0, none⟩ q0).setCell ⟨d, 1, none⟩ q1).setCell ⟨d, 2, none⟩ q2) = W) : Below n w W := by
  subst hW
  exact (((((((((h.setCell (p := ⟨b, 0, none⟩) hb _).setCell (p := ⟨b, 1, none⟩) hb _).setCell (p := ⟨b, 2, none⟩) hb _).setCell (p := ⟨c, 0, none⟩) hc _).setCell (p := ⟨c, 1, none⟩) hc _).setCell (p := ⟨c, 2, none⟩) hc _).setCell (p := ⟨d, 0, none⟩) hd _).setCell (p := ⟨d, 1, none⟩) hd _).setCell (p := ⟨d, 2, none⟩) hd _)
set_option maxRecDepth 100000 in
set_option maxHeartbeats 80000000 in
theorem lprintLines (us0 : List Value) (r : RuL) (us1 : List Value) (d : DeL) (us2 : List Value) (o : OnL) (w : World) (h0 : ruY.is (fun _ => True) w us0 r) (ok0 : OkR r) (h1 : deY.is (fun _ => True) w us1 d) (_ : True) (h2 : onY.is (fun _ => True) w us2 o) (ok2 : OkO o) (G : Glob w) :
    Calls Tryz.prog 3 #[.agg us0.toArray, .agg us1.toArray, .agg us2.toArray] w fun e w' => e = .returned (.bool true) ∧ Below w.heap.size w w' := by
  obtain ⟨ua, ub, rfl, ha, hb⟩ := h0
  obtain ⟨uc, rfl, hc⟩ := h1
  obtain ⟨ud, ue, rfl, hd, he⟩ := h2
  have HSm := Lib.hid (And.intro (cutR_sm ok0) (And.intro (cutD_sm d) (cutO_sm ok2)))
  have HG := Lib.hid G
  have HL0 : Hid (∀ W, Below w.heap.size w W → Calls Tryz.prog 7 #[.agg #[.string ⟨r.head.pred.toArray⟩, ua, ub]] W fun e w' => (∃ v y, e = .returned (.agg #[.string ⟨(cutR r).head.pred.toArray⟩, v, y]) ∧ RowIn tmY (fun k => W.heap.size ≤ k) w' v (cutR r).head.args ∧ RowIn liY (fun k => W.heap.size ≤ k) w' y (cutR r).body) ∧ Below W.heap.size W w') := Lib.hid (fun W h => lrule_any r ua ub _ W (ha.in_below h) (hb.in_below h))
  have HL1 : Hid (∀ W, Below w.heap.size w W → Calls Tryz.prog 8 #[.agg #[.string ⟨d.name.toArray⟩, .bool d.base, uc]] W fun e w' => (∃ v, e = .returned (.agg #[.string ⟨(cutD d).name.toArray⟩, .bool (cutD d).base, v]) ∧ RowIn tyY (fun k => k < w.heap.size) w' v (cutD d).types) ∧ Below W.heap.size W w') := Lib.hid (fun W h => ldecl_any d uc _ W (hc.keep h.size fun k _ hk => ⟨hk, h.block k hk⟩))
  have HL2 : Hid (∀ W, Below w.heap.size w W → Calls Tryz.prog 9 #[.agg #[.string ⟨o.event.toArray⟩, ud, ue]] W fun e w' => (∃ v y, e = .returned (.agg #[.string ⟨(cutO o).event.toArray⟩, v, y]) ∧ RowIn paY (fun k => W.heap.size ≤ k) w' v (cutO o).params ∧ RowIn acY (fun k => W.heap.size ≤ k) w' y (cutO o).acts) ∧ Below W.heap.size W w') := Lib.hid (fun W h => lon_any o ud ue _ W (hd.in_below h) (he.in_below h))
  obtain ⟨p0, k0, rfl⟩ := ha.shape
  obtain ⟨p1, k1, rfl⟩ := hb.shape
  obtain ⟨p2, k2, rfl⟩ := hc.shape
  obtain ⟨p3, k3, rfl⟩ := hd.shape
  obtain ⟨p4, k4, rfl⟩ := he.shape
  obtain ⟨r2, hr2⟩ : ∃ r2, cutR r = r2 := ⟨_, rfl⟩
  obtain ⟨d2, hd2⟩ : ∃ d2, cutD d = d2 := ⟨_, rfl⟩
  obtain ⟨o2, ho2⟩ : ∃ o2, cutO o = o2 := ⟨_, rfl⟩
  rw [hr2] at HL0 HSm
  rw [hd2] at HL1 HSm
  rw [ho2] at HL2 HSm
  clear ok0 ok2 G ha hb hc hd he hr2 hd2 ho2
  generalize (⟨r.head.pred.toArray⟩ : ByteArray) = nr at *
  generalize r.head.args.length = m0 at *
  generalize r.body.length = m1 at *
  generalize (⟨d.name.toArray⟩ : ByteArray) = nd at *
  generalize d.base = bs at *
  generalize d.types.length = m2 at *
  generalize (⟨o.event.toArray⟩ : ByteArray) = no at *
  generalize o.params.length = m3 at *
  generalize o.acts.length = m4 at *
  clear r d o
  obtain ⟨w0, hw0⟩ : ∃ w0, ((w.alloc (.cells #[.string nr, .slice p0 m0 k0, .slice p1 m1 k1] 27)).alloc (.cells #[.string nd, .bool bs, .slice p2 m2 k2] 30)).alloc (.cells #[.string no, .slice p3 m3 k3, .slice p4 m4 k4] 34) = w0 := ⟨_, rfl⟩
  have HB := Lib.hid (show Below w.heap.size w w0 by rw [← hw0]; exact below_box3 w _ _ _)
  have hx := three_new w (.cells #[.string nr, .slice p0 m0 k0, .slice p1 m1 k1] 27) (.cells #[.string nd, .bool bs, .slice p2 m2 k2] 30) (.cells #[.string no, .slice p3 m3 k3, .slice p4 m4 k4] 34)
  rw [hw0] at hx
  have HX := Lib.hid hx
  have HW0 := Lib.hid hw0
  clear hw0
  show Calls Tryz.prog 3 #[.agg #[.string nr, .slice p0 m0 k0, .slice p1 m1 k1], .agg #[.string nd, .bool bs, .slice p2 m2 k2], .agg #[.string no, .slice p3 m3 k3, .slice p4 m4 k4]] w _
  go_enter Tryz.func3, Tryz.ntmps3
  go_wp2_with fail
  try rw [HW0.out]
  obtain ⟨⟨c0, c1, c2⟩, cf0, cf1, cf2⟩ := cells3 hx.1
  obtain ⟨⟨d0, d1, d2'⟩, df0, df1, df2⟩ := cells3 hx.2.1
  obtain ⟨⟨e0, e1, e2⟩, ef0, ef1, ef2⟩ := cells3 hx.2.2
  have hz0 : w.heap.size + 2 < w0.heap.size := (Array.getElem?_eq_some_iff.1 hx.2.2).1
  clear hx
  have HS0 := Lib.hid ((Below.refl w0.heap.size w0).drew)
  refine Till.begin (S := fun X => Below w0.heap.size w0 X) (z := 5) (by kernel_rfl) ?_
  refine Till.take [1, 3, 5] 0 19 (v := ?_) rfl rfl (by kernel_rfl) (by kernel_rfl) (by kernel_rfl) (by kernel_rfl) (fun _ _ _ h => h) (by kernel_rfl) ?_ HS0.out (by first | (simp only [put_norm]; exact rfl) | exact rfl) ?_
  rotate_left
  · rintro X0 s0
    obtain ⟨⟨g0, g1, g2⟩, gf0, gf1, gf2⟩ := cells3 ((s0.block _ (by omega)).trans HX.out.1)
    clear s0
    go_simp; try (with_reducible rfl)
  refine Till.take [3, 5] 2 21 (v := ?_) rfl rfl (by kernel_rfl) (by kernel_rfl) (by kernel_rfl) (by kernel_rfl) (fun _ _ _ h => h) (by kernel_rfl) ?_ HS0.out (by first | (simp only [put_norm]; exact rfl) | exact rfl) ?_
  rotate_left
  · rintro X0 s0
    obtain ⟨⟨g0, g1, g2⟩, gf0, gf1, gf2⟩ := cells3 ((s0.block _ (by omega)).trans HX.out.2.1)
    clear s0
    go_simp; try (with_reducible rfl)
  refine Till.take [5] 4 23 (v := ?_) rfl rfl (by kernel_rfl) (by kernel_rfl) (by kernel_rfl) (by kernel_rfl) (fun _ _ _ h => h) (by kernel_rfl) ?_ HS0.out (by first | (simp only [put_norm]; exact rfl) | exact rfl) ?_
  rotate_left
  · rintro X0 s0
    obtain ⟨⟨g0, g1, g2⟩, gf0, gf1, gf2⟩ := cells3 ((s0.block _ (by omega)).trans HX.out.2.2)
    clear s0
    go_simp; try (with_reducible rfl)
  clear c0 c1 c2 d0 d1 d2' e0 e1 e2 cf0 cf1 cf2 df0 df1 df2 ef0 ef1 ef2
  refine Till.one 1 (by kernel_rfl) rfl (fun K hK => ?_)
  go_simp
  go_at_call 7
  refine (HL0.out _ HB.out.drew).mono ?_
  rintro y w1 ⟨⟨va, vb, rfl, hra, hrb⟩, hb1⟩
  obtain ⟨pa, ca, rfl⟩ := hra.shape
  obtain ⟨pb, cb, rfl⟩ := hrb.shape
  have HB1 := Lib.hid (HB.out.drew.trans (hb1.mono HB.out.size))
  have HS1 := Lib.hid (show Below w0.heap.size w0 w1 from HS0.out.trans hb1)
  have HRa := Lib.hid (show RowIn tmY (fun k => w0.heap.size ≤ k) w1 (.slice pa r2.head.args.length ca) r2.head.args from hra)
  have HRb := Lib.hid (show RowIn liY (fun k => w0.heap.size ≤ k) w1 (.slice pb r2.body.length cb) r2.body from hrb)
  clear hb1 hra hrb HL0
  go_simp
  refine hK.out _ _ (fun _ => HS1.out) ?_
  clear hK K
  try simp only [put_norm]
  refine Till.one 3 (by kernel_rfl) rfl (fun K hK => ?_)
  go_simp
  go_at_call 8
  refine (HL1.out _ HB1.out).mono ?_
  rintro y w2 ⟨⟨vc, rfl, hrc⟩, hb2⟩
  obtain ⟨pc, cc, rfl⟩ := hrc.shape
  have HB2 := Lib.hid (HB1.out.trans (hb2.mono HB1.out.size))
  have HS2 := Lib.hid (show Below w0.heap.size w0 w2 from HS1.out.trans (hb2.mono HS1.out.size))
  have HBb := Lib.hid hb2
  have HRc := Lib.hid hrc
  clear hb2 hrc HL1
  go_simp
  refine hK.out _ _ (fun _ => HS2.out) ?_
  clear hK K
  try simp only [put_norm]
  refine Till.one 5 (by kernel_rfl) rfl (fun K hK => ?_)
  go_simp
  go_at_call 9
  refine (HL2.out _ HB2.out).mono ?_
  rintro y w3 ⟨⟨vd, ve, rfl, hrd, hre⟩, hb3⟩
  obtain ⟨pd, cd, rfl⟩ := hrd.shape
  obtain ⟨pe, ce, rfl⟩ := hre.shape
  have HB3 := Lib.hid (HB2.out.trans (hb3.mono HB2.out.size))
  have HS3 := Lib.hid (show Below w0.heap.size w0 w3 from HS2.out.trans (hb3.mono HS2.out.size))
  have HBc := Lib.hid hb3
  have HRd := Lib.hid hrd
  have HRe := Lib.hid hre
  have hX3 := And.intro ((HS3.out.block w.heap.size (by omega)).trans HX.out.1) (And.intro ((HS3.out.block (w.heap.size + 1) (by omega)).trans HX.out.2.1) ((HS3.out.block (w.heap.size + 2) (by omega)).trans HX.out.2.2))
  have HX3 := Lib.hid hX3
  clear hb3 hrd hre HL2 hX3
  go_simp
  refine hK.out _ _ (fun h => nomatch (show (true : Bool) = false from h)) ?_
  clear hK K
  try simp only [put_norm]
  obtain ⟨⟨c0, c1, c2⟩, cf0, cf1, cf2⟩ := cells3 HX3.out.1
  obtain ⟨⟨d0, d1, d2'⟩, df0, df1, df2⟩ := cells3 HX3.out.2.1
  obtain ⟨⟨e0, e1, e2⟩, ef0, ef1, ef2⟩ := cells3 HX3.out.2.2
  refine Till.one 6 (by kernel_rfl) rfl (fun K hK => ?_)
  go_simp
  refine hK.out _ _ (fun h => nomatch (show (true : Bool) = false from h)) ?_
  clear hK K
  try simp only [put_norm]
  refine Till.one 7 (by kernel_rfl) rfl (fun K hK => ?_)
  go_simp
  refine hK.out _ _ (fun h => nomatch (show (true : Bool) = false from h)) ?_
  clear hK K
  try simp only [put_norm]
  refine Till.one 8 (by kernel_rfl) rfl (fun K hK => ?_)
  go_simp
  refine hK.out _ _ (fun h => nomatch (show (true : Bool) = false from h)) ?_
  clear hK K
  try simp only [put_norm]
  refine Till.done (by kernel_rfl) ?_ _
  generalize hW : World.setCell _ _ _ = W
  obtain ⟨y1, y2, y3, y4, y5⟩ := set_9 (by omega) (by omega) (by omega) HX3.out.1 HX3.out.2.1 HX3.out.2.2 hW
  have hbw := below_9 (w := w) HB3.out (Nat.le_refl _) (by omega) (by omega) hW
  have hz1 : w0.heap.size ≤ w1.heap.size := HS1.out.size
  have hz2 : w1.heap.size ≤ w2.heap.size := HBb.out.size
  have hz3 : w2.heap.size ≤ w3.heap.size := HBc.out.size
  have HS : Hid (PlS w r2 d2 o2 (.slice pa r2.head.args.length ca) (.slice pb r2.body.length cb) (.slice pc d2.types.length cc) (.slice pd o2.params.length cd) (.slice pe o2.acts.length ce) W) := Lib.hid ⟨hbw, y1, y2, y3,
    HRa.out.keep (by omega) fun j hj hl => ⟨trivial, (y4 j (by omega) (by omega) (by omega)).trans ((HBc.out.block j (by omega)).trans (HBb.out.block j hl))⟩,
    HRb.out.keep (by omega) fun j hj hl => ⟨trivial, (y4 j (by omega) (by omega) (by omega)).trans ((HBc.out.block j (by omega)).trans (HBb.out.block j hl))⟩,
    HRc.out.keep (by omega) fun j hj hl => ⟨trivial, (y4 j (by omega) (by omega) (by omega)).trans (HBc.out.block j hl)⟩,
    HRd.out.keep (by omega) fun j hj hl => ⟨trivial, y4 j (by omega) (by omega) (by omega)⟩,
    HRe.out.keep (by omega) fun j hj hl => ⟨trivial, y4 j (by omega) (by omega) (by omega)⟩⟩
  clear hW y1 y2 y3 y4 y5 hbw hz0 hz1 hz2 hz3
  clear c0 c1 c2 d0 d1 d2' e0 e1 e2 cf0 cf1 cf2 df0 df1 df2 ef0 ef1 ef2
  clear HX HX3 HB HB1 HB2 HB3 HW0 HS0 HS1 HS2 HS3 HRa HRb HRc HRd HRe HBb HBc
  obtain ⟨⟨c0, c1, c2⟩, -⟩ := cells3 HS.out.x0
  obtain ⟨⟨d0, d1, d2'⟩, -⟩ := cells3 HS.out.x1
  obtain ⟨⟨e0, e1, e2⟩, -⟩ := cells3 HS.out.x2
  go_wp2_with fail
  refine ((pRule_any r2 _ _ _ _ HS.out.ra HS.out.rb HSm.out.1 (HG.out.below HS.out.below)).mono fun _ _ h => say_ans h).mono ?_
  rintro y w5 ⟨rfl, hb⟩
  replace HS := Lib.hid (HS.out.on hb)
  clear hb c0 c1 c2 d0 d1 d2' e0 e1 e2
  obtain ⟨⟨c0, c1, c2⟩, -⟩ := cells3 HS.out.x0
  obtain ⟨⟨d0, d1, d2'⟩, -⟩ := cells3 HS.out.x1
  obtain ⟨⟨e0, e1, e2⟩, -⟩ := cells3 HS.out.x2
  go_wp2_with fail
  refine ((rrule_any r2 _ _ _ _ HS.out.ra HS.out.rb HSm.out.1).mono fun _ _ h => says_ans h).mono ?_
  rintro y w6 ⟨rfl, hb⟩
  replace HS := Lib.hid (HS.out.on hb)
  clear hb c0 c1 c2 d0 d1 d2' e0 e1 e2
  obtain ⟨⟨c0, c1, c2⟩, -⟩ := cells3 HS.out.x0
  obtain ⟨⟨d0, d1, d2'⟩, -⟩ := cells3 HS.out.x1
  obtain ⟨⟨e0, e1, e2⟩, -⟩ := cells3 HS.out.x2
  go_wp2_with fail
  refine ((pDecl_any d2 _ _ _ HS.out.rc HSm.out.2.1 (HG.out.below HS.out.below)).mono fun _ _ h => say_ans h).mono ?_
  rintro y w7 ⟨rfl, hb⟩
  replace HS := Lib.hid (HS.out.on hb)
  clear hb c0 c1 c2 d0 d1 d2' e0 e1 e2
  obtain ⟨⟨c0, c1, c2⟩, -⟩ := cells3 HS.out.x0
  obtain ⟨⟨d0, d1, d2'⟩, -⟩ := cells3 HS.out.x1
  obtain ⟨⟨e0, e1, e2⟩, -⟩ := cells3 HS.out.x2
  go_wp2_with fail
  refine ((rdecl_any d2 _ _ _ HS.out.rc HSm.out.2.1).mono fun _ _ h => says_ans h).mono ?_
  rintro y w8 ⟨rfl, hb⟩
  replace HS := Lib.hid (HS.out.on hb)
  clear hb c0 c1 c2 d0 d1 d2' e0 e1 e2
  obtain ⟨⟨c0, c1, c2⟩, -⟩ := cells3 HS.out.x0
  obtain ⟨⟨d0, d1, d2'⟩, -⟩ := cells3 HS.out.x1
  obtain ⟨⟨e0, e1, e2⟩, -⟩ := cells3 HS.out.x2
  go_wp2_with fail
  refine ((pOn_any o2 _ _ _ _ HS.out.rd HS.out.re HSm.out.2.2 (HG.out.below HS.out.below)).mono fun _ _ h => say_ans h).mono ?_
  rintro y w9 ⟨rfl, hb⟩
  replace HS := Lib.hid (HS.out.on hb)
  clear hb c0 c1 c2 d0 d1 d2' e0 e1 e2
  obtain ⟨⟨c0, c1, c2⟩, -⟩ := cells3 HS.out.x0
  obtain ⟨⟨d0, d1, d2'⟩, -⟩ := cells3 HS.out.x1
  obtain ⟨⟨e0, e1, e2⟩, -⟩ := cells3 HS.out.x2
  go_wp2_with fail
  refine ((ron_any o2 _ _ _ _ HS.out.rd HS.out.re HSm.out.2.2).mono fun _ _ h => says_ans h).mono ?_
  rintro y w10 ⟨rfl, hb⟩
  replace HS := Lib.hid (HS.out.on hb)
  clear hb c0 c1 c2 d0 d1 d2' e0 e1 e2
  generalize ansS (ruleP r2) = r1
  generalize ansC (ruleP r2) = n1
  generalize ansS (declP d2) = r2'
  generalize ansC (declP d2) = n2
  generalize ansS (onP o2) = r3
  generalize ansC (onP o2) = n3
  go_wp2_with fail
  refine (pawake_any _ (HG.out.below HS.out.below)).mono ?_
  rintro y w15 ⟨rfl, hb⟩
  have B5 := Lib.hid (HS.out.below.trans (hb.mono HS.out.below.size))
  clear hb
  go_wp2_with fail
  go_ret
  exact ⟨rfl, B5.out⟩
end
section
open Go Go.RowKit

open Go.ChangeShapes Go.WideShapes Go.ChangeAt
set_option maxRecDepth 100000 in
theorem lifted_lprintLines (os : Os) (started : os.Started) (H : Type) (enc : TypeId × Value → H) :
    ReturnsInHanded {} Tryz.checked os 3 .any (fun w args => (Rows.printLinesSpec.pre enc Tryz.prog Tryz.f3 [] false w args ∧ laidMetH Tryz.prog laid6 w) ∧ sizedMet enc Tryz.prog Tryz.f3 (OpenSpec.ofChange Rows.printLinesSpec) false w args)
      (Rows.printLinesSpec.post enc Tryz.prog Tryz.f3 false true false false) := by
  refine returnsInHanded_of_change_and (C := Tryz.checked) (X := fun w _ => laidMetH Tryz.prog laid6 w) (fun _ _ _ hh h => h.of_heap hh) own started (by kernel_rfl) Tryz.func3
    (ChangeSpec.witness_shaped (enc := enc) (C := Tryz.checked) (os := os) (X := fun w _ => laidMetH Tryz.prog laid6 w) false (World.doorLaid Tryz.prog 400 os) #[.agg #[.string ⟨#[]⟩, .slice none 0 0, .slice none 0 0], .agg #[.string ⟨#[]⟩, .bool false, .slice none 0 0], .agg #[.string ⟨#[]⟩, .slice none 0 0, .slice none 0 0]] 8 rfl (World.shaped_of_RefB (by kernel_rfl) (by kernel_rfl)) (by kernel_rfl) (by kernel_rfl) (by kernel_rfl) (door_met os _)) ?_
  intro W base args ds gs before hval0 hW _ _ hL _
  have hval : ∀ (j : Nat) t v, Tryz.f3.params[j]? = some t → args[j]? = some v → Value.okWide Tryz.prog W .any base t v := hval0
  have hW' := hW
  obtain ⟨p, q, hA0, hV, rfl, hfz, hnd⟩ := hW
  have hA : DataW.TrodAll enc Tryz.prog W 0 (fun _ => true) true Tryz.f3.params.toList args.toList ds p := hA0
  rw [Tryz.params3] at hA hval
  obtain ⟨v0, vs0, d0, ds0, p0, q0, hargs, rfl, rfl, h0, r0⟩ := trodAll_cons hA
  obtain ⟨v1, vs1, d1, ds1, p1, q1, rfl, rfl, rfl, h1, r1⟩ := trodAll_cons r0
  obtain ⟨v2, vs2, d2, ds2, p2, q2, rfl, rfl, rfl, h2, r2⟩ := trodAll_cons r1
  obtain ⟨rfl, rfl, rfl⟩ := trodAll_nil r2
  obtain rfl : args = #[v0, v1, v2] := by cases args; simp_all
  obtain ⟨rfl, rfl⟩ := trodVars_none hV
  have t0 := h0
  have lt0 : ∀ x ∈ p0, x.block < W.heap.size := by obtain ⟨m, hm⟩ := t0; exact DataW.trod_lt m _ _ _ hm
  have t1 := h1
  have lt1 : ∀ x ∈ p1, x.block < W.heap.size := by obtain ⟨m, hm⟩ := t1; exact DataW.trod_lt m _ _ _ hm
  have t2 := h2
  have lt2 : ∀ x ∈ p2, x.block < W.heap.size := by obtain ⟨m, hm⟩ := t2; exact DataW.trod_lt m _ _ _ hm
  obtain ⟨us0, a0, rfl, hs0, ok0⟩ := open_struct ruY OkR Tryz.underlying27 (fun _ _ _ h => tr_rule h) (hval 0 27 v0 rfl rfl) h0
  obtain ⟨us1, a1, rfl, hs1, ok1⟩ := open_struct deY (fun _ => True) Tryz.underlying30 (fun _ _ _ h => tr_decl h) (hval 1 30 v1 rfl rfl) h1
  obtain ⟨us2, a2, rfl, hs2, ok2⟩ := open_struct onY OkO Tryz.underlying34 (fun _ _ _ h => tr_on h) (hval 2 34 v2 rfl rfl) h2
  clear hA0 hval0
  refine (lprintLines us0 a0 us1 a1 us2 a2 W hs0 ok0 hs1 ok1 hs2 ok2 (glob_of_laid hL)).mono fun e W' ⟨he, bel⟩ => ?_
  subst he
  exact ⟨_, rfl, _, _, _, [], _, [], hW', trodAll_mk1 (shut_bool Tryz.underlying4 _), (trodAll_cons_mk (Below.trod laidOut (by kernel_rfl) (of_decide_eq_true (by kernel_rfl)) t0 bel lt0) (trodAll_cons_mk (Below.trod laidOut (by kernel_rfl) (of_decide_eq_true (by kernel_rfl)) t1 bel lt1) (trodAll_cons_mk (Below.trod laidOut (by kernel_rfl) (of_decide_eq_true (by kernel_rfl)) t2 bel lt2) trodAll_mk0))), rfl, bel.frame _, fun h => by cases h⟩

theorem holds_lprintLines : Rows.PrintLinesSaid :=
  OpenClaim.holds_of_wide 3 Tryz.f3 rfl rfl rfl rfl rfl rfl rfl ⟨rfl, rfl, rfl, rfl, rfl⟩ rfl rfl rfl rfl rfl (by kernel_rfl) Tryz.func3 (by kernel_rfl)
    (of_decide_eq_true (by kernel_rfl)) (by unfold Func.isWrapper; rw [if_neg (of_decide_eq_false (by kernel_rfl))]; exact ⟨rfl, rfl⟩)
    (fun os started H enc _ => lifted_lprintLines os started H enc)

theorem card_lprintLines : Rows.PrintLinesCardSaid :=
  Claim7.holds_tied_plain_at .later [] Rows.printLinesCard.laidKinds true Rows.printLinesCard.stood.harness Rows.printLinesCard.stood.looks
    holds_lprintLines (fun _ h => by cases h) (by kernel_rfl) (fun _ h => by cases h) printLines_row_tie rfl ⟨rfl, rfl⟩ (by kernel_rfl) rfl
    (fun f fn hf hfn => by
      obtain rfl : f = 3 := Option.some.inj ((show Tryz.prog.funcNamed "pedigree/pedigreelaw14.PrintLines" = some 3 by kernel_rfl).symm.trans hf) |>.symm
      obtain rfl : fn = Tryz.f3 := (Option.some.inj (Tryz.func3.symm.trans hfn)).symm
      exact ⟨by kernel_rfl, fun j t ht => by
        rw [Tryz.params3] at ht
        have hm : t ∈ [27, 30, 34] := by simpa using Array.mem_of_getElem? ht
        have hall : ([27, 30, 34].all fun u => !Tryz.prog.wantsStandIn u) = true := by kernel_rfl
        exact (show Tryz.prog.wantsStandIn t = false by simpa using List.all_eq_true.1 hall t hm)⟩)
    (by kernel_rfl)
#print axioms card_lprintLines

end
end Go.Proofs.YtlbofeidiclhgaaGreatDoor

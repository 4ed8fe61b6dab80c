/-
  The walk of the law PrintApart.
  For every input the law PrintApart returns true and leaves its arguments as they were.
  Conditions: those that the row and its tied card print; none of the proof's own.
-/
import Derived.Test.YtfjpiofinffpfaaDoorL09
import Derived.Test.YtfjpiofinffpfaaDoorL10
import Derived.Test.YtfjpiofinffpfaaDoorL11
import Derived.Test.YtfjpiofinffpfaaDoorL12
import Derived.Test.YtfjpiofinffpfaaDoorL08
import Derived.Deep.DeepCutAuto
import Derived.Outline
import Derived.Test.YtfjpiofinffpfaaDoorTie
import Derived.Test.YtfjpiofinffpfaaDoorCards
namespace Go.Proofs.YtfjpiofinffpfaaDoor
section
open Go Go.RowKit Go.Shelf

/-- The one answer: a text and a code. -/
def ansS (o : Option (List UInt8)) : ByteArray := ⟨(o.getD []).toArray⟩
def ansC (o : Option (List UInt8)) : Int := if o.isSome = true then 0 else 140
theorem say_ans {o : Option (List UInt8)} {w w' : World} {e : Ending} (h : SayP o w e w') : e = .returned (.tuple #[.string (ansS o), .int .i64 (ansC o)]) ∧ Below w.heap.size w w' := by
  obtain ⟨⟨s, rfl, rfl⟩ | ⟨rfl, rfl⟩, hb⟩ := h
  · exact ⟨by unfold ansS ansC; simp, hb⟩
  · exact ⟨by unfold ansS ansC; simp, hb⟩
theorem ans_ways (o : Option (List UInt8)) : (ansC o = 140 ∧ True) ∨ (ansC o = 0 ∧ o = some (ansS o).data.toList) := by
  cases o with
  | none => exact .inl ⟨by unfold ansC; simp, trivial⟩
  | some s => exact .inr ⟨by unfold ansC; simp, by unfold ansS; simp⟩
theorem bytes_eq {s t : ByteArray} (h : s.data.toList = t.data.toList) : s = t := barr_eq.2 (by rw [Lib.toList_data, Lib.toList_data]; exact h)
theorem rule_text {a b : RuL} (ha : SmR a) (hb : SmR b) {s t : ByteArray} (h1 : ruleP a = some s.data.toList) (h2 : ruleP b = some t.data.toList) : s = t ↔ a = b := by
  constructor
  · rintro rfl
    exact rule_one h1 h2 (((rule_words ha h1).all trivial).one ((rule_words hb h2).all trivial))
  · rintro rfl
    rw [h1] at h2
    injection h2 with h2
    exact bytes_eq h2
theorem on_text {a b : OnL} (ha : SmO a) (hb : SmO b) {s t : ByteArray} (h1 : onP a = some s.data.toList) (h2 : onP b = some t.data.toList) : s = t ↔ a = b := by
  constructor
  · rintro rfl
    exact on_one h1 h2 (((on_words ha h1).all trivial).one ((on_words hb h2).all trivial))
  · rintro rfl
    rw [h1] at h2
    injection h2 with h2
    exact bytes_eq h2
theorem decl_text {a b : DeL} {s t : ByteArray} (h1 : declP a = some s.data.toList) (h2 : declP b = some t.data.toList) : s = t ↔ a = b := by
  constructor
  · rintro rfl
    have hk := ((Lx.decl h1).all trivial).one ((Lx.decl h2).all trivial)
    have e1 := rd_decl h1
    have e2 := rd_decl h2
    have hb : a.base = b.base := by
      have h := (List.cons.inj hk).1
      revert h
      cases a.base <;> cases b.base <;> simp [wK, wBase, wView]
    rw [hb, hk] at e1
    exact e1.one e2
  · rintro rfl
    rw [h1] at h2
    injection h2 with h2
    exact bytes_eq h2
def put3 (W : World) (b : Nat) (y0 y1 y2 : Value) : World := ((W.setCell ⟨b, 0, none⟩ y0).setCell ⟨b, 1, none⟩ y1).setCell ⟨b, 2, none⟩ y2
theorem put3_all {W : World} {b : Nat} {t : TypeId} {x0 x1 x2 y0 y1 y2 : Value} (h : W.heap[b]? = some (.cells #[x0, x1, x2] t (0, 0))) : (put3 W b y0 y1 y2).heap[b]? = some (.cells #[y0, y1, y2] t (0, 0)) ∧ (∀ k, k ≠ b → (put3 W b y0 y1 y2).heap[k]? = W.heap[k]?) ∧ (put3 W b y0 y1 y2).heap.size = W.heap.size ∧ ∀ n w, Below n w W → n ≤ b → Below n w (put3 W b y0 y1 y2) :=
  ⟨rowS3_set h, fun k hk => (heap_setCell_other _ ⟨b, 2, none⟩ k _ hk).trans ((heap_setCell_other _ ⟨b, 1, none⟩ k _ hk).trans (heap_setCell_other _ ⟨b, 0, none⟩ k _ hk)), by simp [put3], fun n w hA hb => ((hA.setCell (p := ⟨b, 0, none⟩) hb _).setCell (p := ⟨b, 1, none⟩) hb _).setCell (p := ⟨b, 2, none⟩) hb _⟩
theorem six_new (w : World) (o0 o1 o2 o3 o4 o5 : Obj) : ∀ W, ((((((w.alloc o0).alloc o1).alloc o2).alloc o3).alloc o4).alloc o5) = W → Below w.heap.size w W ∧ W.heap.size = w.heap.size + 6 ∧ W.heap[w.heap.size]? = some o0 ∧ W.heap[w.heap.size + 1]? = some o1 ∧ W.heap[w.heap.size + 2]? = some o2 ∧ W.heap[w.heap.size + 3]? = some o3 ∧ W.heap[w.heap.size + 4]? = some o4 ∧ W.heap[w.heap.size + 5]? = some o5 := by
  rintro W rfl
  obtain ⟨w3, h3⟩ : ∃ w3, ((w.alloc o0).alloc o1).alloc o2 = w3 := ⟨_, rfl⟩
  have s3 : w3.heap.size = w.heap.size + 3 := by rw [← h3]; simp
  have a := three_new w o0 o1 o2
  have b0 := below_box3 w o0 o1 o2
  rw [h3] at a b0 ⊢
  have b := three_new w3 o3 o4 o5
  have b1 := below_box3 w3 o3 o4 o5
  rw [s3] at b
  exact ⟨b0.trans (b1.mono b0.size), by simp [s3], (b1.block _ (by omega)).trans a.1, (b1.block _ (by omega)).trans a.2.1, (b1.block _ (by omega)).trans a.2.2, b.1, b.2.1, b.2.2⟩
/-- What stands while the law asks: the six copies. -/
structure ApS (w : World) (R1 R2 : RuL) (O1 O2 : OnL) (D1 D2 : DeL) (v0 v1 v2 v3 v4 v5 v6 v7 v8 v9 : Value) (W : World) : Prop where
  below : Below w.heap.size w W
  x0 : W.heap[w.heap.size]? = some (.cells #[.string ⟨R1.head.pred.toArray⟩, v0, v1] 27 (0, 0))
  x1 : W.heap[w.heap.size + 1]? = some (.cells #[.string ⟨R2.head.pred.toArray⟩, v2, v3] 27 (0, 0))
  x2 : W.heap[w.heap.size + 2]? = some (.cells #[.string ⟨O1.event.toArray⟩, v4, v5] 31 (0, 0))
  x3 : W.heap[w.heap.size + 3]? = some (.cells #[.string ⟨O2.event.toArray⟩, v6, v7] 31 (0, 0))
  x4 : W.heap[w.heap.size + 4]? = some (.cells #[.string ⟨D1.name.toArray⟩, .bool D1.base, v8] 34 (0, 0))
  x5 : W.heap[w.heap.size + 5]? = some (.cells #[.string ⟨D2.name.toArray⟩, .bool D2.base, v9] 34 (0, 0))
  q0 : RowIn tmY (fun _ => True) W v0 R1.head.args
  q1 : RowIn liY (fun _ => True) W v1 R1.body
  q2 : RowIn tmY (fun _ => True) W v2 R2.head.args
  q3 : RowIn liY (fun _ => True) W v3 R2.body
  q4 : RowIn paY (fun _ => True) W v4 O1.params
  q5 : RowIn acY (fun _ => True) W v5 O1.acts
  q6 : RowIn paY (fun _ => True) W v6 O2.params
  q7 : RowIn acY (fun _ => True) W v7 O2.acts
  q8 : RowIn tyY (fun _ => True) W v8 D1.types
  q9 : RowIn tyY (fun _ => True) W v9 D2.types
theorem ApS.on {w : World} {R1 R2 : RuL} {O1 O2 : OnL} {D1 D2 : DeL} {v0 v1 v2 v3 v4 v5 v6 v7 v8 v9 : Value} {W W' : World} (h : ApS w R1 R2 O1 O2 D1 D2 v0 v1 v2 v3 v4 v5 v6 v7 v8 v9 W) (hb : Below W.heap.size W W') : ApS w R1 R2 O1 O2 D1 D2 v0 v1 v2 v3 v4 v5 v6 v7 v8 v9 W' :=
  ⟨h.below.trans (hb.mono h.below.size), (hb.block _ (Array.getElem?_eq_some_iff.1 h.x0).1).trans h.x0, (hb.block _ (Array.getElem?_eq_some_iff.1 h.x1).1).trans h.x1, (hb.block _ (Array.getElem?_eq_some_iff.1 h.x2).1).trans h.x2, (hb.block _ (Array.getElem?_eq_some_iff.1 h.x3).1).trans h.x3, (hb.block _ (Array.getElem?_eq_some_iff.1 h.x4).1).trans h.x4, (hb.block _ (Array.getElem?_eq_some_iff.1 h.x5).1).trans h.x5, h.q0.in_below hb, h.q1.in_below hb, h.q2.in_below hb, h.q3.in_below hb, h.q4.in_below hb, h.q5.in_below hb, h.q6.in_below hb, h.q7.in_below hb, h.q8.in_below hb, h.q9.in_below hb⟩
set_option maxRecDepth 100000 in
set_option maxHeartbeats 80000000 in
theorem lprintApart (us0 : List Value) (r1 : RuL) (us1 : List Value) (r2 : RuL) (us2 : List Value) (o1 : OnL) (us3 : List Value) (o2 : OnL) (us4 : List Value) (d1 : DeL) (us5 : List Value) (d2 : DeL) (w : World) (h0 : ruY.is (fun _ => True) w us0 r1) (ok0 : OkR r1) (h1 : ruY.is (fun _ => True) w us1 r2) (ok1 : OkR r2) (h2 : onY.is (fun _ => True) w us2 o1) (ok2 : OkO o1) (h3 : onY.is (fun _ => True) w us3 o2) (ok3 : OkO o2) (h4 : deY.is (fun _ => True) w us4 d1) (_ : True) (h5 : deY.is (fun _ => True) w us5 d2) (_ : True) (G : Glob w) :
    Calls Tryd.prog 3 #[.agg us0.toArray, .agg us1.toArray, .agg us2.toArray, .agg us3.toArray, .agg us4.toArray, .agg us5.toArray] w fun e w' => e = .returned (.bool true) ∧ Below w.heap.size w w' := by
  obtain ⟨ua0, ub0, rfl, ha0, hb0⟩ := h0
  obtain ⟨ua1, ub1, rfl, ha1, hb1⟩ := h1
  obtain ⟨ua2, ub2, rfl, ha2, hb2⟩ := h2
  obtain ⟨ua3, ub3, rfl, ha3, hb3⟩ := h3
  obtain ⟨ua4, rfl, ha4⟩ := h4
  obtain ⟨ua5, rfl, ha5⟩ := h5
  have HSm := Lib.hid (And.intro (cutR_sm ok0) (And.intro (cutR_sm ok1) (And.intro (cutO_sm ok2) (And.intro (cutO_sm ok3) (And.intro (cutD_sm d1) (cutD_sm d2))))))
  have HG := Lib.hid G
  have HL0 : Hid (∀ W, Below w.heap.size w W → Calls Tryd.prog 5 #[.agg #[.string ⟨r1.head.pred.toArray⟩, ua0, ub0]] W fun e w' => (∃ v y, e = .returned (.agg #[.string ⟨(cutR r1).head.pred.toArray⟩, v, y]) ∧ RowIn tmY (fun k => W.heap.size ≤ k) w' v (cutR r1).head.args ∧ RowIn liY (fun k => W.heap.size ≤ k) w' y (cutR r1).body) ∧ Below W.heap.size W w') := Lib.hid (fun W h => lrule_any r1 ua0 ub0 _ W (ha0.in_below h) (hb0.in_below h))
  have HL1 : Hid (∀ W, Below w.heap.size w W → Calls Tryd.prog 5 #[.agg #[.string ⟨r2.head.pred.toArray⟩, ua1, ub1]] W fun e w' => (∃ v y, e = .returned (.agg #[.string ⟨(cutR r2).head.pred.toArray⟩, v, y]) ∧ RowIn tmY (fun k => W.heap.size ≤ k) w' v (cutR r2).head.args ∧ RowIn liY (fun k => W.heap.size ≤ k) w' y (cutR r2).body) ∧ Below W.heap.size W w') := Lib.hid (fun W h => lrule_any r2 ua1 ub1 _ W (ha1.in_below h) (hb1.in_below h))
  have HL2 : Hid (∀ W, Below w.heap.size w W → Calls Tryd.prog 6 #[.agg #[.string ⟨o1.event.toArray⟩, ua2, ub2]] W fun e w' => (∃ v y, e = .returned (.agg #[.string ⟨(cutO o1).event.toArray⟩, v, y]) ∧ RowIn paY (fun k => W.heap.size ≤ k) w' v (cutO o1).params ∧ RowIn acY (fun k => W.heap.size ≤ k) w' y (cutO o1).acts) ∧ Below W.heap.size W w') := Lib.hid (fun W h => lon_any o1 ua2 ub2 _ W (ha2.in_below h) (hb2.in_below h))
  have HL3 : Hid (∀ W, Below w.heap.size w W → Calls Tryd.prog 6 #[.agg #[.string ⟨o2.event.toArray⟩, ua3, ub3]] W fun e w' => (∃ v y, e = .returned (.agg #[.string ⟨(cutO o2).event.toArray⟩, v, y]) ∧ RowIn paY (fun k => W.heap.size ≤ k) w' v (cutO o2).params ∧ RowIn acY (fun k => W.heap.size ≤ k) w' y (cutO o2).acts) ∧ Below W.heap.size W w') := Lib.hid (fun W h => lon_any o2 ua3 ub3 _ W (ha3.in_below h) (hb3.in_below h))
  have HL4 : Hid (∀ W, Below w.heap.size w W → Calls Tryd.prog 7 #[.agg #[.string ⟨d1.name.toArray⟩, .bool d1.base, ua4]] W fun e w' => (∃ v, e = .returned (.agg #[.string ⟨(cutD d1).name.toArray⟩, .bool (cutD d1).base, v]) ∧ RowIn tyY (fun k => k < w.heap.size) w' v (cutD d1).types) ∧ Below W.heap.size W w') := Lib.hid (fun W h => ldecl_any d1 ua4 _ W (ha4.keep h.size fun k _ hk => ⟨hk, h.block k hk⟩))
  have HL5 : Hid (∀ W, Below w.heap.size w W → Calls Tryd.prog 7 #[.agg #[.string ⟨d2.name.toArray⟩, .bool d2.base, ua5]] W fun e w' => (∃ v, e = .returned (.agg #[.string ⟨(cutD d2).name.toArray⟩, .bool (cutD d2).base, v]) ∧ RowIn tyY (fun k => k < w.heap.size) w' v (cutD d2).types) ∧ Below W.heap.size W w') := Lib.hid (fun W h => ldecl_any d2 ua5 _ W (ha5.keep h.size fun k _ hk => ⟨hk, h.block k hk⟩))
  obtain ⟨ps0, ks0, rfl⟩ := ha0.shape
  obtain ⟨ps1, ks1, rfl⟩ := hb0.shape
  obtain ⟨ps2, ks2, rfl⟩ := ha1.shape
  obtain ⟨ps3, ks3, rfl⟩ := hb1.shape
  obtain ⟨ps4, ks4, rfl⟩ := ha2.shape
  obtain ⟨ps5, ks5, rfl⟩ := hb2.shape
  obtain ⟨ps6, ks6, rfl⟩ := ha3.shape
  obtain ⟨ps7, ks7, rfl⟩ := hb3.shape
  obtain ⟨ps8, ks8, rfl⟩ := ha4.shape
  obtain ⟨ps9, ks9, rfl⟩ := ha5.shape
  obtain ⟨R1, hR1⟩ : ∃ x, cutR r1 = x := ⟨_, rfl⟩
  rw [hR1] at HL0 HSm
  obtain ⟨R2, hR2⟩ : ∃ x, cutR r2 = x := ⟨_, rfl⟩
  rw [hR2] at HL1 HSm
  obtain ⟨O1, hO1⟩ : ∃ x, cutO o1 = x := ⟨_, rfl⟩
  rw [hO1] at HL2 HSm
  obtain ⟨O2, hO2⟩ : ∃ x, cutO o2 = x := ⟨_, rfl⟩
  rw [hO2] at HL3 HSm
  obtain ⟨D1, hD1⟩ : ∃ x, cutD d1 = x := ⟨_, rfl⟩
  rw [hD1] at HL4 HSm
  obtain ⟨D2, hD2⟩ : ∃ x, cutD d2 = x := ⟨_, rfl⟩
  rw [hD2] at HL5 HSm
  clear ok0 ha0 hb0 hR1 ok1 ha1 hb1 hR2 ok2 ha2 hb2 hO1 ok3 ha3 hb3 hO2  ha4 hD1  ha5 hD2 G
  generalize (⟨r1.head.pred.toArray⟩ : ByteArray) = na at *
  generalize r1.head.args.length = ms0 at *
  generalize r1.body.length = ms1 at *
  generalize (⟨r2.head.pred.toArray⟩ : ByteArray) = nb at *
  generalize r2.head.args.length = ms2 at *
  generalize r2.body.length = ms3 at *
  generalize (⟨o1.event.toArray⟩ : ByteArray) = nc at *
  generalize o1.params.length = ms4 at *
  generalize o1.acts.length = ms5 at *
  generalize (⟨o2.event.toArray⟩ : ByteArray) = nd at *
  generalize o2.params.length = ms6 at *
  generalize o2.acts.length = ms7 at *
  generalize (⟨d1.name.toArray⟩ : ByteArray) = ne at *
  generalize d1.types.length = ms8 at *
  generalize d1.base = bne at *
  generalize (⟨d2.name.toArray⟩ : ByteArray) = nf at *
  generalize d2.types.length = ms9 at *
  generalize d2.base = bnf at *
  clear r1 r2 o1 o2 d1 d2
  obtain ⟨w0, hw0⟩ : ∃ w0, ((((((w.alloc (.cells #[.string na, .slice ps0 ms0 ks0, .slice ps1 ms1 ks1] 27)).alloc (.cells #[.string nb, .slice ps2 ms2 ks2, .slice ps3 ms3 ks3] 27)).alloc (.cells #[.string nc, .slice ps4 ms4 ks4, .slice ps5 ms5 ks5] 31)).alloc (.cells #[.string nd, .slice ps6 ms6 ks6, .slice ps7 ms7 ks7] 31)).alloc (.cells #[.string ne, .bool bne, .slice ps8 ms8 ks8] 34)).alloc (.cells #[.string nf, .bool bnf, .slice ps9 ms9 ks9] 34)) = w0 := ⟨_, rfl⟩
  have HX := Lib.hid (six_new w (.cells #[.string na, .slice ps0 ms0 ks0, .slice ps1 ms1 ks1] 27) (.cells #[.string nb, .slice ps2 ms2 ks2, .slice ps3 ms3 ks3] 27) (.cells #[.string nc, .slice ps4 ms4 ks4, .slice ps5 ms5 ks5] 31) (.cells #[.string nd, .slice ps6 ms6 ks6, .slice ps7 ms7 ks7] 31) (.cells #[.string ne, .bool bne, .slice ps8 ms8 ks8] 34) (.cells #[.string nf, .bool bnf, .slice ps9 ms9 ks9] 34) w0 hw0)
  have HW0 := Lib.hid hw0
  clear hw0
  show Calls Tryd.prog 3 #[.agg #[.string na, .slice ps0 ms0 ks0, .slice ps1 ms1 ks1], .agg #[.string nb, .slice ps2 ms2 ks2, .slice ps3 ms3 ks3], .agg #[.string nc, .slice ps4 ms4 ks4, .slice ps5 ms5 ks5], .agg #[.string nd, .slice ps6 ms6 ks6, .slice ps7 ms7 ks7], .agg #[.string ne, .bool bne, .slice ps8 ms8 ks8], .agg #[.string nf, .bool bnf, .slice ps9 ms9 ks9]] w _
  go_enter Tryd.func3, Tryd.ntmps3
  go_wp2_with fail
  try rw [HW0.out]
  refine (pawake_any _ (HG.out.below HX.out.1)).mono ?_
  rintro y w1 ⟨rfl, hb1⟩
  have hz0 := HX.out.2.1
  have hz1 : w.heap.size + 6 ≤ w1.heap.size := by have := hb1.size; omega
  have HB1 := Lib.hid (HX.out.1.trans (hb1.mono HX.out.1.size))
  have HX1 := Lib.hid (show w1.heap[w.heap.size]? = some (Obj.cells #[.string na, .slice ps0 ms0 ks0, .slice ps1 ms1 ks1] 27 (0, 0)) ∧ w1.heap[w.heap.size + 1]? = some (Obj.cells #[.string nb, .slice ps2 ms2 ks2, .slice ps3 ms3 ks3] 27 (0, 0)) ∧ w1.heap[w.heap.size + 2]? = some (Obj.cells #[.string nc, .slice ps4 ms4 ks4, .slice ps5 ms5 ks5] 31 (0, 0)) ∧ w1.heap[w.heap.size + 3]? = some (Obj.cells #[.string nd, .slice ps6 ms6 ks6, .slice ps7 ms7 ks7] 31 (0, 0)) ∧ w1.heap[w.heap.size + 4]? = some (Obj.cells #[.string ne, .bool bne, .slice ps8 ms8 ks8] 34 (0, 0)) ∧ w1.heap[w.heap.size + 5]? = some (Obj.cells #[.string nf, .bool bnf, .slice ps9 ms9 ks9] 34 (0, 0)) from ⟨(hb1.block _ (by omega)).trans HX.out.2.2.1, (hb1.block _ (by omega)).trans HX.out.2.2.2.1, (hb1.block _ (by omega)).trans HX.out.2.2.2.2.1, (hb1.block _ (by omega)).trans HX.out.2.2.2.2.2.1, (hb1.block _ (by omega)).trans HX.out.2.2.2.2.2.2.1, (hb1.block _ (by omega)).trans HX.out.2.2.2.2.2.2.2⟩)
  clear hb1 hz0 HX HW0
  obtain ⟨⟨a00, a01, a02⟩, z00, z01, z02⟩ := cells3 HX1.out.1
  obtain ⟨⟨a10, a11, a12⟩, z10, z11, z12⟩ := cells3 HX1.out.2.1
  obtain ⟨⟨a20, a21, a22⟩, z20, z21, z22⟩ := cells3 HX1.out.2.2.1
  obtain ⟨⟨a30, a31, a32⟩, z30, z31, z32⟩ := cells3 HX1.out.2.2.2.1
  obtain ⟨⟨a40, a41, a42⟩, z40, z41, z42⟩ := cells3 HX1.out.2.2.2.2.1
  obtain ⟨⟨a50, a51, a52⟩, z50, z51, z52⟩ := cells3 HX1.out.2.2.2.2.2
  go_wp2_with fail
  have HS0 := Lib.hid ((Below.refl w1.heap.size w1).drew)
  refine Till.begin (S := fun X => Below w1.heap.size w1 X) (z := 11) (by kernel_rfl) ?_
  refine Till.take [1, 3, 5, 7, 9, 11] 0 30 (v := ?_) rfl rfl (by kernel_rfl) (by kernel_rfl) (by kernel_rfl) (by kernel_rfl) (fun _ _ _ h => h) (by kernel_rfl) ?_ HS0.out (by first | (simp only [put_norm]; exact rfl) | exact rfl) ?_
  rotate_left
  · rintro X0 s0
    obtain ⟨⟨g0, g1, g2⟩, gf0, gf1, gf2⟩ := cells3 ((s0.block _ (by omega)).trans HX1.out.1)
    clear s0
    go_simp; try (with_reducible rfl)
  refine Till.take [3, 5, 7, 9, 11] 2 32 (v := ?_) rfl rfl (by kernel_rfl) (by kernel_rfl) (by kernel_rfl) (by kernel_rfl) (fun _ _ _ h => h) (by kernel_rfl) ?_ HS0.out (by first | (simp only [put_norm]; exact rfl) | exact rfl) ?_
  rotate_left
  · rintro X0 s0
    obtain ⟨⟨g0, g1, g2⟩, gf0, gf1, gf2⟩ := cells3 ((s0.block _ (by omega)).trans HX1.out.2.1)
    clear s0
    go_simp; try (with_reducible rfl)
  refine Till.take [5, 7, 9, 11] 4 34 (v := ?_) rfl rfl (by kernel_rfl) (by kernel_rfl) (by kernel_rfl) (by kernel_rfl) (fun _ _ _ h => h) (by kernel_rfl) ?_ HS0.out (by first | (simp only [put_norm]; exact rfl) | exact rfl) ?_
  rotate_left
  · rintro X0 s0
    obtain ⟨⟨g0, g1, g2⟩, gf0, gf1, gf2⟩ := cells3 ((s0.block _ (by omega)).trans HX1.out.2.2.1)
    clear s0
    go_simp; try (with_reducible rfl)
  refine Till.take [7, 9, 11] 6 36 (v := ?_) rfl rfl (by kernel_rfl) (by kernel_rfl) (by kernel_rfl) (by kernel_rfl) (fun _ _ _ h => h) (by kernel_rfl) ?_ HS0.out (by first | (simp only [put_norm]; exact rfl) | exact rfl) ?_
  rotate_left
  · rintro X0 s0
    obtain ⟨⟨g0, g1, g2⟩, gf0, gf1, gf2⟩ := cells3 ((s0.block _ (by omega)).trans HX1.out.2.2.2.1)
    clear s0
    go_simp; try (with_reducible rfl)
  refine Till.take [9, 11] 8 38 (v := ?_) rfl rfl (by kernel_rfl) (by kernel_rfl) (by kernel_rfl) (by kernel_rfl) (fun _ _ _ h => h) (by kernel_rfl) ?_ HS0.out (by first | (simp only [put_norm]; exact rfl) | exact rfl) ?_
  rotate_left
  · rintro X0 s0
    obtain ⟨⟨g0, g1, g2⟩, gf0, gf1, gf2⟩ := cells3 ((s0.block _ (by omega)).trans HX1.out.2.2.2.2.1)
    clear s0
    go_simp; try (with_reducible rfl)
  refine Till.take [11] 10 40 (v := ?_) rfl rfl (by kernel_rfl) (by kernel_rfl) (by kernel_rfl) (by kernel_rfl) (fun _ _ _ h => h) (by kernel_rfl) ?_ HS0.out (by first | (simp only [put_norm]; exact rfl) | exact rfl) ?_
  rotate_left
  · rintro X0 s0
    obtain ⟨⟨g0, g1, g2⟩, gf0, gf1, gf2⟩ := cells3 ((s0.block _ (by omega)).trans HX1.out.2.2.2.2.2)
    clear s0
    go_simp; try (with_reducible rfl)
  clear a00 z00 a01 z01 a02 z02 a10 z10 a11 z11 a12 z12 a20 z20 a21 z21 a22 z22 a30 z30 a31 z31 a32 z32 a40 z40 a41 z41 a42 z42 a50 z50 a51 z51 a52 z52
  refine Till.one 1 (by kernel_rfl) rfl (fun K hK => ?_)
  go_simp
  go_at_call 5
  refine (HL0.out _ HB1.out.drew).mono ?_
  rintro y w2 ⟨⟨v0, v1, rfl, hq0, hq1⟩, hb⟩
  obtain ⟨pp0, cc0, rfl⟩ := hq0.shape
  obtain ⟨pq0, cd0, rfl⟩ := hq1.shape
  have HR0a := Lib.hid (show RowIn tmY (fun k => w1.heap.size ≤ k) w2 (.slice pp0 R1.head.args.length cc0) R1.head.args from hq0.keep (Nat.le_refl _) fun k hk _ => ⟨Nat.le_trans (Nat.le_refl _) (by simpa using hk), rfl⟩)
  have HR0b := Lib.hid (show RowIn liY (fun k => w1.heap.size ≤ k) w2 (.slice pq0 R1.body.length cd0) R1.body from hq1.keep (Nat.le_refl _) fun k hk _ => ⟨Nat.le_trans (Nat.le_refl _) (by simpa using hk), rfl⟩)
  have HB2 := Lib.hid (HB1.out.drew.trans (hb.mono HB1.out.size))
  have HS1 := Lib.hid (show Below w1.heap.size w1 w2 from HS0.out.trans hb)
  clear hb hq0 hq1 HL0
  go_simp
  refine hK.out _ _ (fun _ => HS1.out) ?_
  clear hK K
  try simp only [put_norm]
  refine Till.one 3 (by kernel_rfl) rfl (fun K hK => ?_)
  go_simp
  go_at_call 5
  refine (HL1.out _ HB2.out).mono ?_
  rintro y w3 ⟨⟨v2, v3, rfl, hq0, hq1⟩, hb⟩
  obtain ⟨pp1, cc1, rfl⟩ := hq0.shape
  obtain ⟨pq1, cd1, rfl⟩ := hq1.shape
  have HR1a := Lib.hid (show RowIn tmY (fun k => w1.heap.size ≤ k) w3 (.slice pp1 R2.head.args.length cc1) R2.head.args from hq0.keep (Nat.le_refl _) fun k hk _ => ⟨Nat.le_trans HS1.out.size (by simpa using hk), rfl⟩)
  have HR1b := Lib.hid (show RowIn liY (fun k => w1.heap.size ≤ k) w3 (.slice pq1 R2.body.length cd1) R2.body from hq1.keep (Nat.le_refl _) fun k hk _ => ⟨Nat.le_trans HS1.out.size (by simpa using hk), rfl⟩)
  replace HR0a := Lib.hid (HR0a.out.in_below hb)
  replace HR0b := Lib.hid (HR0b.out.in_below hb)
  have HB3 := Lib.hid (HB2.out.trans (hb.mono HB2.out.size))
  have HS2 := Lib.hid (show Below w1.heap.size w1 w3 from HS1.out.trans (hb.mono HS1.out.size))
  clear hb hq0 hq1 HL1
  go_simp
  refine hK.out _ _ (fun _ => HS2.out) ?_
  clear hK K
  try simp only [put_norm]
  refine Till.one 5 (by kernel_rfl) rfl (fun K hK => ?_)
  go_simp
  go_at_call 6
  refine (HL2.out _ HB3.out).mono ?_
  rintro y w4 ⟨⟨v4, v5, rfl, hq0, hq1⟩, hb⟩
  obtain ⟨pp2, cc2, rfl⟩ := hq0.shape
  obtain ⟨pq2, cd2, rfl⟩ := hq1.shape
  have HR2a := Lib.hid (show RowIn paY (fun k => w1.heap.size ≤ k) w4 (.slice pp2 O1.params.length cc2) O1.params from hq0.keep (Nat.le_refl _) fun k hk _ => ⟨Nat.le_trans HS2.out.size (by simpa using hk), rfl⟩)
  have HR2b := Lib.hid (show RowIn acY (fun k => w1.heap.size ≤ k) w4 (.slice pq2 O1.acts.length cd2) O1.acts from hq1.keep (Nat.le_refl _) fun k hk _ => ⟨Nat.le_trans HS2.out.size (by simpa using hk), rfl⟩)
  replace HR0a := Lib.hid (HR0a.out.in_below hb)
  replace HR0b := Lib.hid (HR0b.out.in_below hb)
  replace HR1a := Lib.hid (HR1a.out.in_below hb)
  replace HR1b := Lib.hid (HR1b.out.in_below hb)
  have HB4 := Lib.hid (HB3.out.trans (hb.mono HB3.out.size))
  have HS3 := Lib.hid (show Below w1.heap.size w1 w4 from HS2.out.trans (hb.mono HS2.out.size))
  clear hb hq0 hq1 HL2
  go_simp
  refine hK.out _ _ (fun _ => HS3.out) ?_
  clear hK K
  try simp only [put_norm]
  refine Till.one 7 (by kernel_rfl) rfl (fun K hK => ?_)
  go_simp
  go_at_call 6
  refine (HL3.out _ HB4.out).mono ?_
  rintro y w5 ⟨⟨v6, v7, rfl, hq0, hq1⟩, hb⟩
  obtain ⟨pp3, cc3, rfl⟩ := hq0.shape
  obtain ⟨pq3, cd3, rfl⟩ := hq1.shape
  have HR3a := Lib.hid (show RowIn paY (fun k => w1.heap.size ≤ k) w5 (.slice pp3 O2.params.length cc3) O2.params from hq0.keep (Nat.le_refl _) fun k hk _ => ⟨Nat.le_trans HS3.out.size (by simpa using hk), rfl⟩)
  have HR3b := Lib.hid (show RowIn acY (fun k => w1.heap.size ≤ k) w5 (.slice pq3 O2.acts.length cd3) O2.acts from hq1.keep (Nat.le_refl _) fun k hk _ => ⟨Nat.le_trans HS3.out.size (by simpa using hk), rfl⟩)
  replace HR0a := Lib.hid (HR0a.out.in_below hb)
  replace HR0b := Lib.hid (HR0b.out.in_below hb)
  replace HR1a := Lib.hid (HR1a.out.in_below hb)
  replace HR1b := Lib.hid (HR1b.out.in_below hb)
  replace HR2a := Lib.hid (HR2a.out.in_below hb)
  replace HR2b := Lib.hid (HR2b.out.in_below hb)
  have HB5 := Lib.hid (HB4.out.trans (hb.mono HB4.out.size))
  have HS4 := Lib.hid (show Below w1.heap.size w1 w5 from HS3.out.trans (hb.mono HS3.out.size))
  clear hb hq0 hq1 HL3
  go_simp
  refine hK.out _ _ (fun _ => HS4.out) ?_
  clear hK K
  try simp only [put_norm]
  refine Till.one 9 (by kernel_rfl) rfl (fun K hK => ?_)
  go_simp
  go_at_call 7
  refine (HL4.out _ HB5.out).mono ?_
  rintro y w6 ⟨⟨v8, rfl, hq0⟩, hb⟩
  obtain ⟨pp4, cc4, rfl⟩ := hq0.shape
  have HR4a := Lib.hid (show RowIn tyY (fun k => k < w.heap.size) w6 (.slice pp4 D1.types.length cc4) D1.types from hq0)
  replace HR0a := Lib.hid (HR0a.out.in_below hb)
  replace HR0b := Lib.hid (HR0b.out.in_below hb)
  replace HR1a := Lib.hid (HR1a.out.in_below hb)
  replace HR1b := Lib.hid (HR1b.out.in_below hb)
  replace HR2a := Lib.hid (HR2a.out.in_below hb)
  replace HR2b := Lib.hid (HR2b.out.in_below hb)
  replace HR3a := Lib.hid (HR3a.out.in_below hb)
  replace HR3b := Lib.hid (HR3b.out.in_below hb)
  have HB6 := Lib.hid (HB5.out.trans (hb.mono HB5.out.size))
  have HS5 := Lib.hid (show Below w1.heap.size w1 w6 from HS4.out.trans (hb.mono HS4.out.size))
  clear hb hq0 HL4
  go_simp
  refine hK.out _ _ (fun _ => HS5.out) ?_
  clear hK K
  try simp only [put_norm]
  refine Till.one 11 (by kernel_rfl) rfl (fun K hK => ?_)
  go_simp
  go_at_call 7
  refine (HL5.out _ HB6.out).mono ?_
  rintro y w7 ⟨⟨v9, rfl, hq0⟩, hb⟩
  obtain ⟨pp5, cc5, rfl⟩ := hq0.shape
  have HR5a := Lib.hid (show RowIn tyY (fun k => k < w.heap.size) w7 (.slice pp5 D2.types.length cc5) D2.types from hq0)
  replace HR0a := Lib.hid (HR0a.out.in_below hb)
  replace HR0b := Lib.hid (HR0b.out.in_below hb)
  replace HR1a := Lib.hid (HR1a.out.in_below hb)
  replace HR1b := Lib.hid (HR1b.out.in_below hb)
  replace HR2a := Lib.hid (HR2a.out.in_below hb)
  replace HR2b := Lib.hid (HR2b.out.in_below hb)
  replace HR3a := Lib.hid (HR3a.out.in_below hb)
  replace HR3b := Lib.hid (HR3b.out.in_below hb)
  replace HR4a := Lib.hid (HR4a.out.in_below hb)
  have HB7 := Lib.hid (HB6.out.trans (hb.mono HB6.out.size))
  have HS6 := Lib.hid (show Below w1.heap.size w1 w7 from HS5.out.trans (hb.mono HS5.out.size))
  clear hb hq0 HL5
  go_simp
  refine hK.out _ _ (fun h => nomatch (show (true : Bool) = false from h)) ?_
  clear hK K
  try simp only [put_norm]
  have HX7 := Lib.hid (show w7.heap[w.heap.size]? = some (Obj.cells #[.string na, .slice ps0 ms0 ks0, .slice ps1 ms1 ks1] 27 (0, 0)) ∧ w7.heap[w.heap.size + 1]? = some (Obj.cells #[.string nb, .slice ps2 ms2 ks2, .slice ps3 ms3 ks3] 27 (0, 0)) ∧ w7.heap[w.heap.size + 2]? = some (Obj.cells #[.string nc, .slice ps4 ms4 ks4, .slice ps5 ms5 ks5] 31 (0, 0)) ∧ w7.heap[w.heap.size + 3]? = some (Obj.cells #[.string nd, .slice ps6 ms6 ks6, .slice ps7 ms7 ks7] 31 (0, 0)) ∧ w7.heap[w.heap.size + 4]? = some (Obj.cells #[.string ne, .bool bne, .slice ps8 ms8 ks8] 34 (0, 0)) ∧ w7.heap[w.heap.size + 5]? = some (Obj.cells #[.string nf, .bool bnf, .slice ps9 ms9 ks9] 34 (0, 0)) from ⟨(HS6.out.block _ (by omega)).trans HX1.out.1, (HS6.out.block _ (by omega)).trans HX1.out.2.1, (HS6.out.block _ (by omega)).trans HX1.out.2.2.1, (HS6.out.block _ (by omega)).trans HX1.out.2.2.2.1, (HS6.out.block _ (by omega)).trans HX1.out.2.2.2.2.1, (HS6.out.block _ (by omega)).trans HX1.out.2.2.2.2.2⟩)
  obtain ⟨⟨i00, i01, i02⟩, j00, j01, j02⟩ := cells3 HX7.out.1
  obtain ⟨⟨i10, i11, i12⟩, j10, j11, j12⟩ := cells3 HX7.out.2.1
  obtain ⟨⟨i20, i21, i22⟩, j20, j21, j22⟩ := cells3 HX7.out.2.2.1
  obtain ⟨⟨i30, i31, i32⟩, j30, j31, j32⟩ := cells3 HX7.out.2.2.2.1
  obtain ⟨⟨i40, i41, i42⟩, j40, j41, j42⟩ := cells3 HX7.out.2.2.2.2.1
  obtain ⟨⟨i50, i51, i52⟩, j50, j51, j52⟩ := cells3 HX7.out.2.2.2.2.2
  refine Till.one 12 (by kernel_rfl) rfl (fun K hK => ?_)
  go_simp
  refine hK.out _ _ (fun h => nomatch (show (true : Bool) = false from h)) ?_
  clear hK K
  try simp only [put_norm]
  refine Till.one 13 (by kernel_rfl) rfl (fun K hK => ?_)
  go_simp
  refine hK.out _ _ (fun h => nomatch (show (true : Bool) = false from h)) ?_
  clear hK K
  try simp only [put_norm]
  refine Till.one 14 (by kernel_rfl) rfl (fun K hK => ?_)
  go_simp
  refine hK.out _ _ (fun h => nomatch (show (true : Bool) = false from h)) ?_
  clear hK K
  try simp only [put_norm]
  refine Till.one 15 (by kernel_rfl) rfl (fun K hK => ?_)
  go_simp
  refine hK.out _ _ (fun h => nomatch (show (true : Bool) = false from h)) ?_
  clear hK K
  try simp only [put_norm]
  refine Till.one 16 (by kernel_rfl) rfl (fun K hK => ?_)
  go_simp
  refine hK.out _ _ (fun h => nomatch (show (true : Bool) = false from h)) ?_
  clear hK K
  try simp only [put_norm]
  refine Till.one 17 (by kernel_rfl) rfl (fun K hK => ?_)
  go_simp
  refine hK.out _ _ (fun h => nomatch (show (true : Bool) = false from h)) ?_
  clear hK K
  try simp only [put_norm]
  refine Till.done (by kernel_rfl) ?_ _
  have HZ : Hid (w1.heap.size ≤ w7.heap.size) := Lib.hid HS6.out.size
  have HS : Hid (∀ W, W = (put3 (put3 (put3 (put3 (put3 (put3 w7 (w.heap.size) (.string ⟨R1.head.pred.toArray⟩) (.slice pp0 R1.head.args.length cc0) (.slice pq0 R1.body.length cd0)) (w.heap.size + 1) (.string ⟨R2.head.pred.toArray⟩) (.slice pp1 R2.head.args.length cc1) (.slice pq1 R2.body.length cd1)) (w.heap.size + 2) (.string ⟨O1.event.toArray⟩) (.slice pp2 O1.params.length cc2) (.slice pq2 O1.acts.length cd2)) (w.heap.size + 3) (.string ⟨O2.event.toArray⟩) (.slice pp3 O2.params.length cc3) (.slice pq3 O2.acts.length cd3)) (w.heap.size + 4) (.string ⟨D1.name.toArray⟩) (.bool D1.base) (.slice pp4 D1.types.length cc4)) (w.heap.size + 5) (.string ⟨D2.name.toArray⟩) (.bool D2.base) (.slice pp5 D2.types.length cc5)) → ApS w R1 R2 O1 O2 D1 D2 (.slice pp0 R1.head.args.length cc0) (.slice pq0 R1.body.length cd0) (.slice pp1 R2.head.args.length cc1) (.slice pq1 R2.body.length cd1) (.slice pp2 O1.params.length cc2) (.slice pq2 O1.acts.length cd2) (.slice pp3 O2.params.length cc3) (.slice pq3 O2.acts.length cd3) (.slice pp4 D1.types.length cc4) (.slice pp5 D2.types.length cc5) W) := Lib.hid (by
    rintro W rfl
    obtain ⟨W0, hW0⟩ : ∃ W, put3 w7 (w.heap.size) (.string ⟨R1.head.pred.toArray⟩) (.slice pp0 R1.head.args.length cc0) (.slice pq0 R1.body.length cd0) = W := ⟨_, rfl⟩
    obtain ⟨W1, hW1⟩ : ∃ W, put3 W0 (w.heap.size + 1) (.string ⟨R2.head.pred.toArray⟩) (.slice pp1 R2.head.args.length cc1) (.slice pq1 R2.body.length cd1) = W := ⟨_, rfl⟩
    obtain ⟨W2, hW2⟩ : ∃ W, put3 W1 (w.heap.size + 2) (.string ⟨O1.event.toArray⟩) (.slice pp2 O1.params.length cc2) (.slice pq2 O1.acts.length cd2) = W := ⟨_, rfl⟩
    obtain ⟨W3, hW3⟩ : ∃ W, put3 W2 (w.heap.size + 3) (.string ⟨O2.event.toArray⟩) (.slice pp3 O2.params.length cc3) (.slice pq3 O2.acts.length cd3) = W := ⟨_, rfl⟩
    obtain ⟨W4, hW4⟩ : ∃ W, put3 W3 (w.heap.size + 4) (.string ⟨D1.name.toArray⟩) (.bool D1.base) (.slice pp4 D1.types.length cc4) = W := ⟨_, rfl⟩
    obtain ⟨W5, hW5⟩ : ∃ W, put3 W4 (w.heap.size + 5) (.string ⟨D2.name.toArray⟩) (.bool D2.base) (.slice pp5 D2.types.length cc5) = W := ⟨_, rfl⟩
    have hz7 := HZ.out
    have f0 := put3_all (y0 := (.string ⟨R1.head.pred.toArray⟩)) (y1 := (.slice pp0 R1.head.args.length cc0)) (y2 := (.slice pq0 R1.body.length cd0)) (HX7.out.1)
    rw [hW0] at f0
    have f1 := put3_all (y0 := (.string ⟨R2.head.pred.toArray⟩)) (y1 := (.slice pp1 R2.head.args.length cc1)) (y2 := (.slice pq1 R2.body.length cd1)) (((f0.2.1 _ (by omega)).trans (HX7.out.2.1)))
    rw [hW1] at f1
    have f2 := put3_all (y0 := (.string ⟨O1.event.toArray⟩)) (y1 := (.slice pp2 O1.params.length cc2)) (y2 := (.slice pq2 O1.acts.length cd2)) (((f1.2.1 _ (by omega)).trans (((f0.2.1 _ (by omega)).trans (HX7.out.2.2.1)))))
    rw [hW2] at f2
    have f3 := put3_all (y0 := (.string ⟨O2.event.toArray⟩)) (y1 := (.slice pp3 O2.params.length cc3)) (y2 := (.slice pq3 O2.acts.length cd3)) (((f2.2.1 _ (by omega)).trans (((f1.2.1 _ (by omega)).trans (((f0.2.1 _ (by omega)).trans (HX7.out.2.2.2.1)))))))
    rw [hW3] at f3
    have f4 := put3_all (y0 := (.string ⟨D1.name.toArray⟩)) (y1 := (.bool D1.base)) (y2 := (.slice pp4 D1.types.length cc4)) (((f3.2.1 _ (by omega)).trans (((f2.2.1 _ (by omega)).trans (((f1.2.1 _ (by omega)).trans (((f0.2.1 _ (by omega)).trans (HX7.out.2.2.2.2.1)))))))))
    rw [hW4] at f4
    have f5 := put3_all (y0 := (.string ⟨D2.name.toArray⟩)) (y1 := (.bool D2.base)) (y2 := (.slice pp5 D2.types.length cc5)) (((f4.2.1 _ (by omega)).trans (((f3.2.1 _ (by omega)).trans (((f2.2.1 _ (by omega)).trans (((f1.2.1 _ (by omega)).trans (((f0.2.1 _ (by omega)).trans (HX7.out.2.2.2.2.2)))))))))))
    rw [hW5] at f5
    rw [hW0, hW1, hW2, hW3, hW4, hW5]
    have hs : W5.heap.size = w7.heap.size := by rw [f5.2.2.1, f4.2.2.1, f3.2.2.1, f2.2.2.1, f1.2.2.1, f0.2.2.1]
    exact ⟨f5.2.2.2 _ w (f4.2.2.2 _ w (f3.2.2.2 _ w (f2.2.2.2 _ w (f1.2.2.2 _ w (f0.2.2.2 _ w HB7.out (by omega)) (by omega)) (by omega)) (by omega)) (by omega)) (by omega), ((f5.2.1 _ (by omega)).trans (((f4.2.1 _ (by omega)).trans (((f3.2.1 _ (by omega)).trans (((f2.2.1 _ (by omega)).trans (((f1.2.1 _ (by omega)).trans (f0.1)))))))))), ((f5.2.1 _ (by omega)).trans (((f4.2.1 _ (by omega)).trans (((f3.2.1 _ (by omega)).trans (((f2.2.1 _ (by omega)).trans (f1.1)))))))), ((f5.2.1 _ (by omega)).trans (((f4.2.1 _ (by omega)).trans (((f3.2.1 _ (by omega)).trans (f2.1)))))), ((f5.2.1 _ (by omega)).trans (((f4.2.1 _ (by omega)).trans (f3.1)))), ((f5.2.1 _ (by omega)).trans (f4.1)), f5.1, HR0a.out.keep (by omega) fun j hj hl => ⟨trivial, ((f5.2.1 j (by omega)).trans ((f4.2.1 j (by omega)).trans ((f3.2.1 j (by omega)).trans ((f2.2.1 j (by omega)).trans ((f1.2.1 j (by omega)).trans (f0.2.1 j (by omega)))))))⟩, HR0b.out.keep (by omega) fun j hj hl => ⟨trivial, ((f5.2.1 j (by omega)).trans ((f4.2.1 j (by omega)).trans ((f3.2.1 j (by omega)).trans ((f2.2.1 j (by omega)).trans ((f1.2.1 j (by omega)).trans (f0.2.1 j (by omega)))))))⟩, HR1a.out.keep (by omega) fun j hj hl => ⟨trivial, ((f5.2.1 j (by omega)).trans ((f4.2.1 j (by omega)).trans ((f3.2.1 j (by omega)).trans ((f2.2.1 j (by omega)).trans ((f1.2.1 j (by omega)).trans (f0.2.1 j (by omega)))))))⟩, HR1b.out.keep (by omega) fun j hj hl => ⟨trivial, ((f5.2.1 j (by omega)).trans ((f4.2.1 j (by omega)).trans ((f3.2.1 j (by omega)).trans ((f2.2.1 j (by omega)).trans ((f1.2.1 j (by omega)).trans (f0.2.1 j (by omega)))))))⟩, HR2a.out.keep (by omega) fun j hj hl => ⟨trivial, ((f5.2.1 j (by omega)).trans ((f4.2.1 j (by omega)).trans ((f3.2.1 j (by omega)).trans ((f2.2.1 j (by omega)).trans ((f1.2.1 j (by omega)).trans (f0.2.1 j (by omega)))))))⟩, HR2b.out.keep (by omega) fun j hj hl => ⟨trivial, ((f5.2.1 j (by omega)).trans ((f4.2.1 j (by omega)).trans ((f3.2.1 j (by omega)).trans ((f2.2.1 j (by omega)).trans ((f1.2.1 j (by omega)).trans (f0.2.1 j (by omega)))))))⟩, HR3a.out.keep (by omega) fun j hj hl => ⟨trivial, ((f5.2.1 j (by omega)).trans ((f4.2.1 j (by omega)).trans ((f3.2.1 j (by omega)).trans ((f2.2.1 j (by omega)).trans ((f1.2.1 j (by omega)).trans (f0.2.1 j (by omega)))))))⟩, HR3b.out.keep (by omega) fun j hj hl => ⟨trivial, ((f5.2.1 j (by omega)).trans ((f4.2.1 j (by omega)).trans ((f3.2.1 j (by omega)).trans ((f2.2.1 j (by omega)).trans ((f1.2.1 j (by omega)).trans (f0.2.1 j (by omega)))))))⟩, HR4a.out.keep (by omega) fun j hj hl => ⟨trivial, ((f5.2.1 j (by omega)).trans ((f4.2.1 j (by omega)).trans ((f3.2.1 j (by omega)).trans ((f2.2.1 j (by omega)).trans ((f1.2.1 j (by omega)).trans (f0.2.1 j (by omega)))))))⟩, HR5a.out.keep (by omega) fun j hj hl => ⟨trivial, ((f5.2.1 j (by omega)).trans ((f4.2.1 j (by omega)).trans ((f3.2.1 j (by omega)).trans ((f2.2.1 j (by omega)).trans ((f1.2.1 j (by omega)).trans (f0.2.1 j (by omega)))))))⟩⟩)
  generalize hW : World.setCell _ _ _ = W
  have HSW := Lib.hid (HS.out W hW.symm)
  clear hW HS HZ HX7 HX1 HR0a HR0b HR1a HR1b HR2a HR2b HR3a HR3b HR4a HR5a HS0 HS1 HS2 HS3 HS4 HS5 HS6 HB1 HB2 HB3 HB4 HB5 HB6 HB7 hz1 i00 j00 i01 j01 i02 j02 i10 j10 i11 j11 i12 j12 i20 j20 i21 j21 i22 j22 i30 j30 i31 j31 i32 j32 i40 j40 i41 j41 i42 j42 i50 j50 i51 j51 i52 j52
  have HS := HSW
  clear HSW
  obtain ⟨⟨a00, a01, a02⟩, -⟩ := cells3 HS.out.x0
  obtain ⟨⟨a10, a11, a12⟩, -⟩ := cells3 HS.out.x1
  obtain ⟨⟨a20, a21, a22⟩, -⟩ := cells3 HS.out.x2
  obtain ⟨⟨a30, a31, a32⟩, -⟩ := cells3 HS.out.x3
  obtain ⟨⟨a40, a41, a42⟩, -⟩ := cells3 HS.out.x4
  obtain ⟨⟨a50, a51, a52⟩, -⟩ := cells3 HS.out.x5
  go_wp2_with fail
  refine ((pRule_any R1 _ _ _ _ HS.out.q0 HS.out.q1 HSm.out.1 (HG.out.below HS.out.below)).mono fun _ _ h => say_ans h).mono ?_
  rintro y z0 ⟨rfl, hb⟩
  replace HS := Lib.hid (HS.out.on hb)
  clear hb
  clear a00 a01 a02 a10 a11 a12 a20 a21 a22 a30 a31 a32 a40 a41 a42 a50 a51 a52
  obtain ⟨⟨a00, a01, a02⟩, -⟩ := cells3 HS.out.x0
  obtain ⟨⟨a10, a11, a12⟩, -⟩ := cells3 HS.out.x1
  obtain ⟨⟨a20, a21, a22⟩, -⟩ := cells3 HS.out.x2
  obtain ⟨⟨a30, a31, a32⟩, -⟩ := cells3 HS.out.x3
  obtain ⟨⟨a40, a41, a42⟩, -⟩ := cells3 HS.out.x4
  obtain ⟨⟨a50, a51, a52⟩, -⟩ := cells3 HS.out.x5
  go_wp2_with fail
  refine ((pRule_any R2 _ _ _ _ HS.out.q2 HS.out.q3 HSm.out.2.1 (HG.out.below HS.out.below)).mono fun _ _ h => say_ans h).mono ?_
  rintro y z1 ⟨rfl, hb⟩
  replace HS := Lib.hid (HS.out.on hb)
  clear hb
  clear a00 a01 a02 a10 a11 a12 a20 a21 a22 a30 a31 a32 a40 a41 a42 a50 a51 a52
  obtain ⟨⟨a00, a01, a02⟩, -⟩ := cells3 HS.out.x0
  obtain ⟨⟨a10, a11, a12⟩, -⟩ := cells3 HS.out.x1
  obtain ⟨⟨a20, a21, a22⟩, -⟩ := cells3 HS.out.x2
  obtain ⟨⟨a30, a31, a32⟩, -⟩ := cells3 HS.out.x3
  obtain ⟨⟨a40, a41, a42⟩, -⟩ := cells3 HS.out.x4
  obtain ⟨⟨a50, a51, a52⟩, -⟩ := cells3 HS.out.x5
  go_wp2_with fail
  refine ((pOn_any O1 _ _ _ _ HS.out.q4 HS.out.q5 HSm.out.2.2.1 (HG.out.below HS.out.below)).mono fun _ _ h => say_ans h).mono ?_
  rintro y z2 ⟨rfl, hb⟩
  replace HS := Lib.hid (HS.out.on hb)
  clear hb
  clear a00 a01 a02 a10 a11 a12 a20 a21 a22 a30 a31 a32 a40 a41 a42 a50 a51 a52
  obtain ⟨⟨a00, a01, a02⟩, -⟩ := cells3 HS.out.x0
  obtain ⟨⟨a10, a11, a12⟩, -⟩ := cells3 HS.out.x1
  obtain ⟨⟨a20, a21, a22⟩, -⟩ := cells3 HS.out.x2
  obtain ⟨⟨a30, a31, a32⟩, -⟩ := cells3 HS.out.x3
  obtain ⟨⟨a40, a41, a42⟩, -⟩ := cells3 HS.out.x4
  obtain ⟨⟨a50, a51, a52⟩, -⟩ := cells3 HS.out.x5
  go_wp2_with fail
  refine ((pOn_any O2 _ _ _ _ HS.out.q6 HS.out.q7 HSm.out.2.2.2.1 (HG.out.below HS.out.below)).mono fun _ _ h => say_ans h).mono ?_
  rintro y z3 ⟨rfl, hb⟩
  replace HS := Lib.hid (HS.out.on hb)
  clear hb
  clear a00 a01 a02 a10 a11 a12 a20 a21 a22 a30 a31 a32 a40 a41 a42 a50 a51 a52
  obtain ⟨⟨a00, a01, a02⟩, -⟩ := cells3 HS.out.x0
  obtain ⟨⟨a10, a11, a12⟩, -⟩ := cells3 HS.out.x1
  obtain ⟨⟨a20, a21, a22⟩, -⟩ := cells3 HS.out.x2
  obtain ⟨⟨a30, a31, a32⟩, -⟩ := cells3 HS.out.x3
  obtain ⟨⟨a40, a41, a42⟩, -⟩ := cells3 HS.out.x4
  obtain ⟨⟨a50, a51, a52⟩, -⟩ := cells3 HS.out.x5
  go_wp2_with fail
  refine ((pDecl_any D1 _ _ _ HS.out.q8 HSm.out.2.2.2.2.1 (HG.out.below HS.out.below)).mono fun _ _ h => say_ans h).mono ?_
  rintro y z4 ⟨rfl, hb⟩
  replace HS := Lib.hid (HS.out.on hb)
  clear hb
  clear a00 a01 a02 a10 a11 a12 a20 a21 a22 a30 a31 a32 a40 a41 a42 a50 a51 a52
  obtain ⟨⟨a00, a01, a02⟩, -⟩ := cells3 HS.out.x0
  obtain ⟨⟨a10, a11, a12⟩, -⟩ := cells3 HS.out.x1
  obtain ⟨⟨a20, a21, a22⟩, -⟩ := cells3 HS.out.x2
  obtain ⟨⟨a30, a31, a32⟩, -⟩ := cells3 HS.out.x3
  obtain ⟨⟨a40, a41, a42⟩, -⟩ := cells3 HS.out.x4
  obtain ⟨⟨a50, a51, a52⟩, -⟩ := cells3 HS.out.x5
  go_wp2_with fail
  refine ((pDecl_any D2 _ _ _ HS.out.q9 HSm.out.2.2.2.2.2 (HG.out.below HS.out.below)).mono fun _ _ h => say_ans h).mono ?_
  rintro y z5 ⟨rfl, hb⟩
  replace HS := Lib.hid (HS.out.on hb)
  clear hb
  clear a00 a01 a02 a10 a11 a12 a20 a21 a22 a30 a31 a32 a40 a41 a42 a50 a51 a52
  have HA0 := Lib.hid (ans_ways (ruleP R1))
  generalize ansS (ruleP R1) = t0 at *
  generalize ansC (ruleP R1) = c0 at *
  have HA1 := Lib.hid (ans_ways (ruleP R2))
  generalize ansS (ruleP R2) = t1 at *
  generalize ansC (ruleP R2) = c1 at *
  have HA2 := Lib.hid (ans_ways (onP O1))
  generalize ansS (onP O1) = t2 at *
  generalize ansC (onP O1) = c2 at *
  have HA3 := Lib.hid (ans_ways (onP O2))
  generalize ansS (onP O2) = t3 at *
  generalize ansC (onP O2) = c3 at *
  have HA4 := Lib.hid (ans_ways (declP D1))
  generalize ansS (declP D1) = t4 at *
  generalize ansC (declP D1) = c4 at *
  have HA5 := Lib.hid (ans_ways (declP D2))
  generalize ansS (declP D2) = t5 at *
  generalize ansC (declP D2) = c5 at *
  go_upto_region 10 with fail
  go_cut [25] (fun v wx => v = .bool true ∧ Hid (ApS w R1 R2 O1 O2 D1 D2 (.slice pp0 R1.head.args.length cc0) (.slice pq0 R1.body.length cd0) (.slice pp1 R2.head.args.length cc1) (.slice pq1 R2.body.length cd1) (.slice pp2 O1.params.length cc2) (.slice pq2 O1.acts.length cd2) (.slice pp3 O2.params.length cc3) (.slice pq3 O2.acts.length cd3) (.slice pp4 D1.types.length cc4) (.slice pp5 D2.types.length cc5) wx))
  case first =>
    rcases HA0.out with ⟨h1, h1'⟩ | ⟨h1, h1'⟩
    · clear h1'
      subst h1
      go_wp2_with fail
      go_meet
      exact ⟨rfl, HS⟩
    · subst h1
      rcases HA1.out with ⟨h2, h2'⟩ | ⟨h2, h2'⟩
      · clear h1' h2'
        subst h2
        go_wp2_with fail
        go_meet
        exact ⟨rfl, HS⟩
      · subst h2
        have hiff := rule_text HSm.out.1 HSm.out.2.1 h1' h2'
        obtain ⟨⟨a00, a01, a02⟩, -⟩ := cells3 HS.out.x0
        obtain ⟨⟨a10, a11, a12⟩, -⟩ := cells3 HS.out.x1
        obtain ⟨⟨a20, a21, a22⟩, -⟩ := cells3 HS.out.x2
        obtain ⟨⟨a30, a31, a32⟩, -⟩ := cells3 HS.out.x3
        obtain ⟨⟨a40, a41, a42⟩, -⟩ := cells3 HS.out.x4
        obtain ⟨⟨a50, a51, a52⟩, -⟩ := cells3 HS.out.x5
        by_cases hst : t0 = t1
        · have e3 : (t0.toList == t1.toList) = true := by rw [hst]; simp
          have HEq := Lib.hid (hiff.1 hst)
          clear h1' h2' hiff hst
          go_wp2_with fail
          refine (rsameruleG R1 R2 _ _ _ _ _ _ _ HS.out.q0 HS.out.q1 HS.out.q2 HS.out.q3).mono ?_
          rintro y x0 ⟨⟨hq, rfl⟩ | ⟨hq, rfl⟩, hb⟩
          · replace HS := Lib.hid (HS.out.on hb)
            clear hb hq
            go_wp2_with fail
            go_meet
            exact ⟨rfl, HS⟩
          · exact absurd HEq.out hq
        · have e3 : (t0.toList == t1.toList) = false := by simpa using fun e => hst (barr_eq.2 e)
          have HEq := Lib.hid (show ¬ R1 = R2 from fun e => hst (hiff.2 e))
          clear h1' h2' hiff hst
          go_wp2_with fail
          refine (rsameruleG R1 R2 _ _ _ _ _ _ _ HS.out.q0 HS.out.q1 HS.out.q2 HS.out.q3).mono ?_
          rintro y x0 ⟨⟨hq, rfl⟩ | ⟨hq, rfl⟩, hb⟩
          · exact absurd hq HEq.out
          · replace HS := Lib.hid (HS.out.on hb)
            clear hb hq
            go_wp2_with fail
            go_meet
            exact ⟨rfl, HS⟩
  case rest =>
    replace HS := hcut.2
    obtain ⟨rfl, -⟩ := hcut
    go_upto_region 11 with fail
    go_cut [26] (fun v wx => v = .bool true ∧ Hid (ApS w R1 R2 O1 O2 D1 D2 (.slice pp0 R1.head.args.length cc0) (.slice pq0 R1.body.length cd0) (.slice pp1 R2.head.args.length cc1) (.slice pq1 R2.body.length cd1) (.slice pp2 O1.params.length cc2) (.slice pq2 O1.acts.length cd2) (.slice pp3 O2.params.length cc3) (.slice pq3 O2.acts.length cd3) (.slice pp4 D1.types.length cc4) (.slice pp5 D2.types.length cc5) wx))
    case first =>
      rcases HA2.out with ⟨h1, h1'⟩ | ⟨h1, h1'⟩
      · clear h1'
        subst h1
        go_wp2_with fail
        go_meet
        exact ⟨rfl, HS⟩
      · subst h1
        rcases HA3.out with ⟨h2, h2'⟩ | ⟨h2, h2'⟩
        · clear h1' h2'
          subst h2
          go_wp2_with fail
          go_meet
          exact ⟨rfl, HS⟩
        · subst h2
          have hiff := on_text HSm.out.2.2.1 HSm.out.2.2.2.1 h1' h2'
          obtain ⟨⟨a00, a01, a02⟩, -⟩ := cells3 HS.out.x0
          obtain ⟨⟨a10, a11, a12⟩, -⟩ := cells3 HS.out.x1
          obtain ⟨⟨a20, a21, a22⟩, -⟩ := cells3 HS.out.x2
          obtain ⟨⟨a30, a31, a32⟩, -⟩ := cells3 HS.out.x3
          obtain ⟨⟨a40, a41, a42⟩, -⟩ := cells3 HS.out.x4
          obtain ⟨⟨a50, a51, a52⟩, -⟩ := cells3 HS.out.x5
          by_cases hst : t2 = t3
          · have e3 : (t2.toList == t3.toList) = true := by rw [hst]; simp
            have HEq := Lib.hid (hiff.1 hst)
            clear h1' h2' hiff hst
            go_wp2_with fail
            refine (rsameonG O1 O2 _ _ _ _ _ _ _ HS.out.q4 HS.out.q5 HS.out.q6 HS.out.q7).mono ?_
            rintro y x1 ⟨⟨hq, rfl⟩ | ⟨hq, rfl⟩, hb⟩
            · replace HS := Lib.hid (HS.out.on hb)
              clear hb hq
              go_wp2_with fail
              go_meet
              exact ⟨rfl, HS⟩
            · exact absurd HEq.out hq
          · have e3 : (t2.toList == t3.toList) = false := by simpa using fun e => hst (barr_eq.2 e)
            have HEq := Lib.hid (show ¬ O1 = O2 from fun e => hst (hiff.2 e))
            clear h1' h2' hiff hst
            go_wp2_with fail
            refine (rsameonG O1 O2 _ _ _ _ _ _ _ HS.out.q4 HS.out.q5 HS.out.q6 HS.out.q7).mono ?_
            rintro y x1 ⟨⟨hq, rfl⟩ | ⟨hq, rfl⟩, hb⟩
            · exact absurd hq HEq.out
            · replace HS := Lib.hid (HS.out.on hb)
              clear hb hq
              go_wp2_with fail
              go_meet
              exact ⟨rfl, HS⟩
    case rest =>
      replace HS := hcut.2
      obtain ⟨rfl, -⟩ := hcut
      go_upto_region 12 with fail
      go_cut [27] (fun v wx => v = .bool true ∧ Hid (ApS w R1 R2 O1 O2 D1 D2 (.slice pp0 R1.head.args.length cc0) (.slice pq0 R1.body.length cd0) (.slice pp1 R2.head.args.length cc1) (.slice pq1 R2.body.length cd1) (.slice pp2 O1.params.length cc2) (.slice pq2 O1.acts.length cd2) (.slice pp3 O2.params.length cc3) (.slice pq3 O2.acts.length cd3) (.slice pp4 D1.types.length cc4) (.slice pp5 D2.types.length cc5) wx))
      case first =>
        rcases HA4.out with ⟨h1, h1'⟩ | ⟨h1, h1'⟩
        · clear h1'
          subst h1
          go_wp2_with fail
          go_meet
          exact ⟨rfl, HS⟩
        · subst h1
          rcases HA5.out with ⟨h2, h2'⟩ | ⟨h2, h2'⟩
          · clear h1' h2'
            subst h2
            go_wp2_with fail
            go_meet
            exact ⟨rfl, HS⟩
          · subst h2
            have hiff := decl_text  h1' h2'
            obtain ⟨⟨a00, a01, a02⟩, -⟩ := cells3 HS.out.x0
            obtain ⟨⟨a10, a11, a12⟩, -⟩ := cells3 HS.out.x1
            obtain ⟨⟨a20, a21, a22⟩, -⟩ := cells3 HS.out.x2
            obtain ⟨⟨a30, a31, a32⟩, -⟩ := cells3 HS.out.x3
            obtain ⟨⟨a40, a41, a42⟩, -⟩ := cells3 HS.out.x4
            obtain ⟨⟨a50, a51, a52⟩, -⟩ := cells3 HS.out.x5
            by_cases hst : t4 = t5
            · have e3 : (t4.toList == t5.toList) = true := by rw [hst]; simp
              have HEq := Lib.hid (hiff.1 hst)
              clear h1' h2' hiff hst
              go_wp2_with fail
              refine (rsamedeclG D1 D2 _ _ _ _ _ HS.out.q8 HS.out.q9).mono ?_
              rintro y x2 ⟨⟨hq, rfl⟩ | ⟨hq, rfl⟩, hb⟩
              · replace HS := Lib.hid (HS.out.on hb)
                clear hb hq
                go_wp2_with fail
                go_meet
                exact ⟨rfl, HS⟩
              · exact absurd HEq.out hq
            · have e3 : (t4.toList == t5.toList) = false := by simpa using fun e => hst (barr_eq.2 e)
              have HEq := Lib.hid (show ¬ D1 = D2 from fun e => hst (hiff.2 e))
              clear h1' h2' hiff hst
              go_wp2_with fail
              refine (rsamedeclG D1 D2 _ _ _ _ _ HS.out.q8 HS.out.q9).mono ?_
              rintro y x2 ⟨⟨hq, rfl⟩ | ⟨hq, rfl⟩, hb⟩
              · exact absurd hq HEq.out
              · replace HS := Lib.hid (HS.out.on hb)
                clear hb hq
                go_wp2_with fail
                go_meet
                exact ⟨rfl, HS⟩
      case rest =>
        replace HS := hcut.2
        obtain ⟨rfl, -⟩ := hcut
        go_wp2_with fail
        go_ret
        exact ⟨rfl, HS.out.below⟩
end
section
open Go Go.RowKit

open Go.ChangeShapes Go.WideShapes Go.ChangeAt
set_option maxRecDepth 100000 in
theorem lifted_lprintApart (os : Os) (started : os.Started) (H : Type) (enc : TypeId × Value → H) :
    ReturnsInHanded {} Tryd.checked os 3 .any (fun w args => (Rows.printApartSpec.pre enc Tryd.prog Tryd.f3 [] false w args ∧ laidMetH Tryd.prog laid6 w) ∧ sizedMet enc Tryd.prog Tryd.f3 (OpenSpec.ofChange Rows.printApartSpec) false w args)
      (Rows.printApartSpec.post enc Tryd.prog Tryd.f3 false true false false) := by
  refine returnsInHanded_of_change_and (C := Tryd.checked) (X := fun w _ => laidMetH Tryd.prog laid6 w) (fun _ _ _ hh h => h.of_heap hh) own started (by kernel_rfl) Tryd.func3
    (ChangeSpec.witness_shaped (enc := enc) (C := Tryd.checked) (os := os) (X := fun w _ => laidMetH Tryd.prog laid6 w) false (World.doorLaid Tryd.prog 400 os) #[.agg #[.string ⟨#[]⟩, .slice none 0 0, .slice none 0 0], .agg #[.string ⟨#[]⟩, .slice none 0 0, .slice none 0 0], .agg #[.string ⟨#[]⟩, .slice none 0 0, .slice none 0 0], .agg #[.string ⟨#[]⟩, .slice none 0 0, .slice none 0 0], .agg #[.string ⟨#[]⟩, .bool false, .slice none 0 0], .agg #[.string ⟨#[]⟩, .bool false, .slice none 0 0]] 8 rfl (World.shaped_of_RefB (by kernel_rfl) (by kernel_rfl)) (by kernel_rfl) (by kernel_rfl) (by kernel_rfl) (door_met os _)) ?_
  intro W base args ds gs before hval0 hW _ _ hL _
  have hval : ∀ (j : Nat) t v, Tryd.f3.params[j]? = some t → args[j]? = some v → Value.okWide Tryd.prog W .any base t v := hval0
  have hW' := hW
  obtain ⟨p, q, hA0, hV, rfl, hfz, hnd⟩ := hW
  have hA : DataW.TrodAll enc Tryd.prog W 0 (fun _ => true) true Tryd.f3.params.toList args.toList ds p := hA0
  rw [Tryd.params3] at hA hval
  obtain ⟨v0, vs0, d0, ds0, p0, q0, hargs, rfl, rfl, h0, r0⟩ := trodAll_cons hA
  obtain ⟨v1, vs1, d1, ds1, p1, q1, rfl, rfl, rfl, h1, r1⟩ := trodAll_cons r0
  obtain ⟨v2, vs2, d2, ds2, p2, q2, rfl, rfl, rfl, h2, r2⟩ := trodAll_cons r1
  obtain ⟨v3, vs3, d3, ds3, p3, q3, rfl, rfl, rfl, h3, r3⟩ := trodAll_cons r2
  obtain ⟨v4, vs4, d4, ds4, p4, q4, rfl, rfl, rfl, h4, r4⟩ := trodAll_cons r3
  obtain ⟨v5, vs5, d5, ds5, p5, q5, rfl, rfl, rfl, h5, r5⟩ := trodAll_cons r4
  obtain ⟨rfl, rfl, rfl⟩ := trodAll_nil r5
  obtain rfl : args = #[v0, v1, v2, v3, v4, v5] := by cases args; simp_all
  obtain ⟨rfl, rfl⟩ := trodVars_none hV
  have t0 := h0
  have lt0 : ∀ x ∈ p0, x.block < W.heap.size := by obtain ⟨m, hm⟩ := t0; exact DataW.trod_lt m _ _ _ hm
  have t1 := h1
  have lt1 : ∀ x ∈ p1, x.block < W.heap.size := by obtain ⟨m, hm⟩ := t1; exact DataW.trod_lt m _ _ _ hm
  have t2 := h2
  have lt2 : ∀ x ∈ p2, x.block < W.heap.size := by obtain ⟨m, hm⟩ := t2; exact DataW.trod_lt m _ _ _ hm
  have t3 := h3
  have lt3 : ∀ x ∈ p3, x.block < W.heap.size := by obtain ⟨m, hm⟩ := t3; exact DataW.trod_lt m _ _ _ hm
  have t4 := h4
  have lt4 : ∀ x ∈ p4, x.block < W.heap.size := by obtain ⟨m, hm⟩ := t4; exact DataW.trod_lt m _ _ _ hm
  have t5 := h5
  have lt5 : ∀ x ∈ p5, x.block < W.heap.size := by obtain ⟨m, hm⟩ := t5; exact DataW.trod_lt m _ _ _ hm
  obtain ⟨us0, a0, rfl, hs0, ok0⟩ := open_struct ruY OkR Tryd.underlying27 (fun _ _ _ h => tr_rule h) (hval 0 27 v0 rfl rfl) h0
  obtain ⟨us1, a1, rfl, hs1, ok1⟩ := open_struct ruY OkR Tryd.underlying27 (fun _ _ _ h => tr_rule h) (hval 1 27 v1 rfl rfl) h1
  obtain ⟨us2, a2, rfl, hs2, ok2⟩ := open_struct onY OkO Tryd.underlying31 (fun _ _ _ h => tr_on h) (hval 2 31 v2 rfl rfl) h2
  obtain ⟨us3, a3, rfl, hs3, ok3⟩ := open_struct onY OkO Tryd.underlying31 (fun _ _ _ h => tr_on h) (hval 3 31 v3 rfl rfl) h3
  obtain ⟨us4, a4, rfl, hs4, ok4⟩ := open_struct deY (fun _ => True) Tryd.underlying34 (fun _ _ _ h => tr_decl h) (hval 4 34 v4 rfl rfl) h4
  obtain ⟨us5, a5, rfl, hs5, ok5⟩ := open_struct deY (fun _ => True) Tryd.underlying34 (fun _ _ _ h => tr_decl h) (hval 5 34 v5 rfl rfl) h5
  clear hA0 hval0
  refine (lprintApart us0 a0 us1 a1 us2 a2 us3 a3 us4 a4 us5 a5 W hs0 ok0 hs1 ok1 hs2 ok2 hs3 ok3 hs4 ok4 hs5 ok5 (glob_of_laid hL)).mono fun e W' ⟨he, bel⟩ => ?_
  subst he
  exact ⟨_, rfl, _, _, _, [], _, [], hW', trodAll_mk1 (shut_bool Tryd.underlying4 _), (trodAll_cons_mk (Below.trod laidOut (by kernel_rfl) (of_decide_eq_true (by kernel_rfl)) t0 bel lt0) (trodAll_cons_mk (Below.trod laidOut (by kernel_rfl) (of_decide_eq_true (by kernel_rfl)) t1 bel lt1) (trodAll_cons_mk (Below.trod laidOut (by kernel_rfl) (of_decide_eq_true (by kernel_rfl)) t2 bel lt2) (trodAll_cons_mk (Below.trod laidOut (by kernel_rfl) (of_decide_eq_true (by kernel_rfl)) t3 bel lt3) (trodAll_cons_mk (Below.trod laidOut (by kernel_rfl) (of_decide_eq_true (by kernel_rfl)) t4 bel lt4) (trodAll_cons_mk (Below.trod laidOut (by kernel_rfl) (of_decide_eq_true (by kernel_rfl)) t5 bel lt5) trodAll_mk0)))))), rfl, bel.frame _, fun h => by cases h⟩

theorem holds_lprintApart : Rows.PrintApartSaid :=
  OpenClaim.holds_of_wide 3 Tryd.f3 rfl rfl rfl rfl rfl rfl rfl ⟨rfl, rfl, rfl, rfl, rfl⟩ rfl rfl rfl rfl rfl (by kernel_rfl) Tryd.func3 (by kernel_rfl)
    (of_decide_eq_true (by kernel_rfl)) (by unfold Func.isWrapper; rw [if_neg (of_decide_eq_false (by kernel_rfl))]; exact ⟨rfl, rfl⟩)
    (fun os started H enc _ => lifted_lprintApart os started H enc)

theorem card_lprintApart : Rows.PrintApartCardSaid :=
  Claim7.holds_tied_plain_at .later [] Rows.printApartCard.laidKinds true Rows.printApartCard.stood.harness Rows.printApartCard.stood.looks
    holds_lprintApart (fun _ h => by cases h) (by kernel_rfl) (fun _ h => by cases h) printApart_row_tie rfl ⟨rfl, rfl⟩ (by kernel_rfl) rfl
    (fun f fn hf hfn => by
      obtain rfl : f = 3 := Option.some.inj ((show Tryd.prog.funcNamed "pedigree/pedigreelaw14.PrintApart" = some 3 by kernel_rfl).symm.trans hf) |>.symm
      obtain rfl : fn = Tryd.f3 := (Option.some.inj (Tryd.func3.symm.trans hfn)).symm
      exact ⟨by kernel_rfl, fun j t ht => by
        rw [Tryd.params3] at ht
        have hm : t ∈ [27, 27, 31, 31, 34, 34] := by simpa using Array.mem_of_getElem? ht
        have hall : ([27, 27, 31, 31, 34, 34].all fun u => !Tryd.prog.wantsStandIn u) = true := by kernel_rfl
        exact (show Tryd.prog.wantsStandIn t = false by simpa using List.all_eq_true.1 hall t hm)⟩)
    (by kernel_rfl)
#print axioms card_lprintApart

end
end Go.Proofs.YtfjpiofinffpfaaDoor

/-
  Inside of print: lines (De).
  Inside of print: lines (On).
  Inside of print: lines (Ru).
  All that print exports, but Program.
  print.Program at any program of a size.
-/
import Derived.Test.YtlbofeidiclhgaaGreatDoorK10
import Derived.Test.YtlbofeidiclhgaaGreatDoorK09
namespace Go.Proofs.YtlbofeidiclhgaaGreatDoor
section
open Go Go.RowKit Go.Shelf

set_option maxRecDepth 100000 in
set_option maxHeartbeats 4000000 in
theorem plineDe_any (X : DeL) (u : Value) (S : Nat → Prop) (cp : Addr) (w : World) (hu : RowIn tyY S w u X.types) (hs : SmD X) (G : Glob w) (hcp : w.cell? cp = some (.func (.func 33) #[] #[])) (hlt : cp.block < w.heap.size) :
    Calls Tryz.prog 103 #[.agg #[.string ⟨X.name.toArray⟩, .bool X.base, u], .pointer (some cp)] w (InP 401 (lineP declP X) w) := by
  have H1 : Hid (∀ W, Below w.heap.size w W → Calls Tryz.prog 33 #[.agg #[.string ⟨X.name.toArray⟩, .bool X.base, u]] W (InP 400 (declP X) W)) := Lib.hid (fun W hb => pdecl_text X u S W (hu.in_below hb) hs (G.below hb))
  obtain ⟨pu, cu, rfl⟩ := hu.shape
  unfold lineP
  generalize declP X = o1 at *
  clear hu hs G
  have HB := Lib.hid (below_box w (.cells #[.string ⟨X.name.toArray⟩, .bool X.base, .slice pu X.types.length cu] 30))
  have hc1 := (HB.out.cell (p := cp) hlt).trans hcp
  clear hcp hlt
  go_enter Tryz.func103, Tryz.ntmps103
  go_wp2_with fail
  refine (H1.out _ HB.out).mono ?_
  rintro y w1 ⟨r1, b1, rfl, g1, g2, g3⟩
  have HE := Lib.hid (And.intro g1 (And.intro g2 (HB.out.trans (g3.mono HB.out.size))))
  clear g1 g2 g3 hc1
  have z1 : (⟨#[10]⟩ : ByteArray).size = 1 := rfl
  have q1 := add_run r1 ⟨#[10]⟩ (by have := HE.out.1; omega)
  have HS : Hid ((r1 ++ ⟨#[10]⟩).size ≤ 401) := Lib.hid (by have := HE.out.1; rw [ByteArray.size_append]; omega)
  have HX : Hid ((r1 ++ ⟨#[10]⟩).data.toList = r1.data.toList ++ [10]) := Lib.hid (by simp)
  clear z1
  go_wp2_with fail
  go_ret2
  refine ⟨_, _, rfl, HS.out, ?_, HE.out.2.2⟩
  rw [map_in _ HE.out.2.1, HX.out]
set_option maxRecDepth 100000 in
set_option maxHeartbeats 4000000 in
theorem plinesDe_any (v : Value) (L : List DeL) (S : Nat → Prop) (w : World) (h : RowIn deY S w v L) (hs : ∀ X ∈ L, SmD X) (hlen : L.length * 401 ≤ 50000000) (G : Glob w) :
    Calls Tryz.prog 68 #[v, .func (.func 33) #[] #[]] w (InP (L.length * 401) (linesP declP L) w) := by
  obtain ⟨w0, hw0⟩ : ∃ w0, w0 = w.alloc (.cells #[.func (.func 33) #[] #[]] 88) := ⟨_, rfl⟩
  have B0 : Below w.heap.size w w0 := by rw [hw0]; exact below_box w _
  have hfun : w0.heap[w.heap.size]? = some (.cells #[.func (.func 33) #[] #[]] 88 (0, 0)) := by rw [hw0]; exact heap_alloc_new w _
  have H1 : Hid (Calls Tryz.prog 102 #[v, .string ⟨#[]⟩, .func (.func 103) #[] #[.pointer (some ⟨w.heap.size, 0, none⟩)]] w0 (InP (L.length * 401) (linesP declP L) w0)) :=
    Lib.hid (pjoinDe_any (P := lineP declP) (M := 401) ⟨#[]⟩ v L S ⟨w.heap.size, 0, none⟩ w0 (h.in_below B0) (by decide) hlen (by omega) (fun X us W hm hb hu => by
      obtain ⟨u, rfl, hu⟩ := hu
      have hlt : w.heap.size < w0.heap.size := by rw [hw0]; simp
      exact plineDe_any X u S ⟨w.heap.size, 0, none⟩ W hu (hs X hm) ((G.below B0).below hb) (cell_at ((hb.block _ hlt).trans hfun) 0 _ rfl) (Nat.lt_of_lt_of_le hlt hb.size)))
  have HB := Lib.hid B0
  subst hw0
  obtain ⟨p, c, rfl⟩ := h.shape
  generalize linesP declP L = o at *
  clear h hs hlen G hfun B0
  go_enter Tryz.func68, Tryz.ntmps68
  go_wp2_with fail
  refine H1.out.mono ?_
  rintro y w1 ⟨r1, b1, rfl, g1, g2, g3⟩
  have HE := Lib.hid (And.intro g1 (And.intro g2 (HB.out.trans (g3.mono HB.out.size))))
  clear g1 g2 g3
  go_wp2_with fail
  go_ret2
  exact ⟨r1, b1, rfl, HE.out.1, HE.out.2.1, HE.out.2.2⟩
end
section
open Go Go.RowKit Go.Shelf

set_option maxRecDepth 100000 in
set_option maxHeartbeats 4000000 in
theorem plineOn_any (X : OnL) (u x : Value) (S : Nat → Prop) (cp : Addr) (w : World) (hu : RowIn paY S w u X.params) (hx : RowIn acY S w x X.acts) (hs : SmO X) (G : Glob w) (hcp : w.cell? cp = some (.func (.func 36) #[] #[])) (hlt : cp.block < w.heap.size) :
    Calls Tryz.prog 105 #[.agg #[.string ⟨X.event.toArray⟩, u, x], .pointer (some cp)] w (InP 130001 (lineP onP X) w) := by
  have H1 : Hid (∀ W, Below w.heap.size w W → Calls Tryz.prog 36 #[.agg #[.string ⟨X.event.toArray⟩, u, x]] W (InP 130000 (onP X) W)) := Lib.hid (fun W hb => pon_text X u x S W (hu.in_below hb) (hx.in_below hb) hs (G.below hb))
  obtain ⟨pu, cu, rfl⟩ := hu.shape
  obtain ⟨px, cx, rfl⟩ := hx.shape
  unfold lineP
  generalize onP X = o1 at *
  clear hu hx hs G
  have HB := Lib.hid (below_box w (.cells #[.string ⟨X.event.toArray⟩, .slice pu X.params.length cu, .slice px X.acts.length cx] 34))
  have hc1 := (HB.out.cell (p := cp) hlt).trans hcp
  clear hcp hlt
  go_enter Tryz.func105, Tryz.ntmps105
  go_wp2_with fail
  refine (H1.out _ HB.out).mono ?_
  rintro y w1 ⟨r1, b1, rfl, g1, g2, g3⟩
  have HE := Lib.hid (And.intro g1 (And.intro g2 (HB.out.trans (g3.mono HB.out.size))))
  clear g1 g2 g3 hc1
  have z1 : (⟨#[10]⟩ : ByteArray).size = 1 := rfl
  have q1 := add_run r1 ⟨#[10]⟩ (by have := HE.out.1; omega)
  have HS : Hid ((r1 ++ ⟨#[10]⟩).size ≤ 130001) := Lib.hid (by have := HE.out.1; rw [ByteArray.size_append]; omega)
  have HX : Hid ((r1 ++ ⟨#[10]⟩).data.toList = r1.data.toList ++ [10]) := Lib.hid (by simp)
  clear z1
  go_wp2_with fail
  go_ret2
  refine ⟨_, _, rfl, HS.out, ?_, HE.out.2.2⟩
  rw [map_in _ HE.out.2.1, HX.out]
set_option maxRecDepth 100000 in
set_option maxHeartbeats 4000000 in
theorem plinesOn_any (v : Value) (L : List OnL) (S : Nat → Prop) (w : World) (h : RowIn onY S w v L) (hs : ∀ X ∈ L, SmO X) (hlen : L.length * 130001 ≤ 50000000) (G : Glob w) :
    Calls Tryz.prog 69 #[v, .func (.func 36) #[] #[]] w (InP (L.length * 130001) (linesP onP L) w) := by
  obtain ⟨w0, hw0⟩ : ∃ w0, w0 = w.alloc (.cells #[.func (.func 36) #[] #[]] 91) := ⟨_, rfl⟩
  have B0 : Below w.heap.size w w0 := by rw [hw0]; exact below_box w _
  have hfun : w0.heap[w.heap.size]? = some (.cells #[.func (.func 36) #[] #[]] 91 (0, 0)) := by rw [hw0]; exact heap_alloc_new w _
  have H1 : Hid (Calls Tryz.prog 104 #[v, .string ⟨#[]⟩, .func (.func 105) #[] #[.pointer (some ⟨w.heap.size, 0, none⟩)]] w0 (InP (L.length * 130001) (linesP onP L) w0)) :=
    Lib.hid (pjoinOn_any (P := lineP onP) (M := 130001) ⟨#[]⟩ v L S ⟨w.heap.size, 0, none⟩ w0 (h.in_below B0) (by decide) hlen (by omega) (fun X us W hm hb hu => by
      obtain ⟨u, x, rfl, hu, hx⟩ := hu
      have hlt : w.heap.size < w0.heap.size := by rw [hw0]; simp
      exact plineOn_any X u x S ⟨w.heap.size, 0, none⟩ W hu hx (hs X hm) ((G.below B0).below hb) (cell_at ((hb.block _ hlt).trans hfun) 0 _ rfl) (Nat.lt_of_lt_of_le hlt hb.size)))
  have HB := Lib.hid B0
  subst hw0
  obtain ⟨p, c, rfl⟩ := h.shape
  generalize linesP onP L = o at *
  clear h hs hlen G hfun B0
  go_enter Tryz.func69, Tryz.ntmps69
  go_wp2_with fail
  refine H1.out.mono ?_
  rintro y w1 ⟨r1, b1, rfl, g1, g2, g3⟩
  have HE := Lib.hid (And.intro g1 (And.intro g2 (HB.out.trans (g3.mono HB.out.size))))
  clear g1 g2 g3
  go_wp2_with fail
  go_ret2
  exact ⟨r1, b1, rfl, HE.out.1, HE.out.2.1, HE.out.2.2⟩
end
section
open Go Go.RowKit Go.Shelf

set_option maxRecDepth 100000 in
set_option maxHeartbeats 4000000 in
theorem plineRu_any (X : RuL) (u x : Value) (S : Nat → Prop) (cp : Addr) (w : World) (hu : RowIn tmY S w u X.head.args) (hx : RowIn liY S w x X.body) (hs : SmR X) (G : Glob w) (hcp : w.cell? cp = some (.func (.func 29) #[] #[])) (hlt : cp.block < w.heap.size) :
    Calls Tryz.prog 107 #[.agg #[.string ⟨X.head.pred.toArray⟩, u, x], .pointer (some cp)] w (InP 135001 (lineP ruleP X) w) := by
  have H1 : Hid (∀ W, Below w.heap.size w W → Calls Tryz.prog 29 #[.agg #[.string ⟨X.head.pred.toArray⟩, u, x]] W (InP 135000 (ruleP X) W)) := Lib.hid (fun W hb => prule_text X u x S W (hu.in_below hb) (hx.in_below hb) hs (G.below hb))
  obtain ⟨pu, cu, rfl⟩ := hu.shape
  obtain ⟨px, cx, rfl⟩ := hx.shape
  unfold lineP
  generalize ruleP X = o1 at *
  clear hu hx hs G
  have HB := Lib.hid (below_box w (.cells #[.string ⟨X.head.pred.toArray⟩, .slice pu X.head.args.length cu, .slice px X.body.length cx] 27))
  have hc1 := (HB.out.cell (p := cp) hlt).trans hcp
  clear hcp hlt
  go_enter Tryz.func107, Tryz.ntmps107
  go_wp2_with fail
  refine (H1.out _ HB.out).mono ?_
  rintro y w1 ⟨r1, b1, rfl, g1, g2, g3⟩
  have HE := Lib.hid (And.intro g1 (And.intro g2 (HB.out.trans (g3.mono HB.out.size))))
  clear g1 g2 g3 hc1
  have z1 : (⟨#[10]⟩ : ByteArray).size = 1 := rfl
  have q1 := add_run r1 ⟨#[10]⟩ (by have := HE.out.1; omega)
  have HS : Hid ((r1 ++ ⟨#[10]⟩).size ≤ 135001) := Lib.hid (by have := HE.out.1; rw [ByteArray.size_append]; omega)
  have HX : Hid ((r1 ++ ⟨#[10]⟩).data.toList = r1.data.toList ++ [10]) := Lib.hid (by simp)
  clear z1
  go_wp2_with fail
  go_ret2
  refine ⟨_, _, rfl, HS.out, ?_, HE.out.2.2⟩
  rw [map_in _ HE.out.2.1, HX.out]
set_option maxRecDepth 100000 in
set_option maxHeartbeats 4000000 in
theorem plinesRu_any (v : Value) (L : List RuL) (S : Nat → Prop) (w : World) (h : RowIn ruY S w v L) (hs : ∀ X ∈ L, SmR X) (hlen : L.length * 135001 ≤ 50000000) (G : Glob w) :
    Calls Tryz.prog 70 #[v, .func (.func 29) #[] #[]] w (InP (L.length * 135001) (linesP ruleP L) w) := by
  obtain ⟨w0, hw0⟩ : ∃ w0, w0 = w.alloc (.cells #[.func (.func 29) #[] #[]] 83) := ⟨_, rfl⟩
  have B0 : Below w.heap.size w w0 := by rw [hw0]; exact below_box w _
  have hfun : w0.heap[w.heap.size]? = some (.cells #[.func (.func 29) #[] #[]] 83 (0, 0)) := by rw [hw0]; exact heap_alloc_new w _
  have H1 : Hid (Calls Tryz.prog 106 #[v, .string ⟨#[]⟩, .func (.func 107) #[] #[.pointer (some ⟨w.heap.size, 0, none⟩)]] w0 (InP (L.length * 135001) (linesP ruleP L) w0)) :=
    Lib.hid (pjoinRu_any (P := lineP ruleP) (M := 135001) ⟨#[]⟩ v L S ⟨w.heap.size, 0, none⟩ w0 (h.in_below B0) (by decide) hlen (by omega) (fun X us W hm hb hu => by
      obtain ⟨u, x, rfl, hu, hx⟩ := hu
      have hlt : w.heap.size < w0.heap.size := by rw [hw0]; simp
      exact plineRu_any X u x S ⟨w.heap.size, 0, none⟩ W hu hx (hs X hm) ((G.below B0).below hb) (cell_at ((hb.block _ hlt).trans hfun) 0 _ rfl) (Nat.lt_of_lt_of_le hlt hb.size)))
  have HB := Lib.hid B0
  subst hw0
  obtain ⟨p, c, rfl⟩ := h.shape
  generalize linesP ruleP L = o at *
  clear h hs hlen G hfun B0
  go_enter Tryz.func70, Tryz.ntmps70
  go_wp2_with fail
  refine H1.out.mono ?_
  rintro y w1 ⟨r1, b1, rfl, g1, g2, g3⟩
  have HE := Lib.hid (And.intro g1 (And.intro g2 (HB.out.trans (g3.mono HB.out.size))))
  clear g1 g2 g3
  go_wp2_with fail
  go_ret2
  exact ⟨r1, b1, rfl, HE.out.1, HE.out.2.1, HE.out.2.2⟩
end
section
open Go Go.RowKit Go.Shelf

set_option maxRecDepth 100000 in
set_option maxHeartbeats 4000000 in
theorem pDecl_any (X : DeL) (u : Value) (S : Nat → Prop) (w : World) (hu : RowIn tyY S w u X.types) (hs : SmD X) (G : Glob w) : Calls Tryz.prog 12 #[.agg #[.string ⟨X.name.toArray⟩, .bool X.base, u]] w (SayP (declP X) w) := by
  have H1 : Hid (∀ W, Below w.heap.size w W → Calls Tryz.prog 33 #[.agg #[.string ⟨X.name.toArray⟩, .bool X.base, u]] W (InP 400 (declP X) W)) := Lib.hid (fun W hb => pdecl_text X u S W (hu.in_below hb) hs (G.below hb))
  obtain ⟨pu, cu, rfl⟩ := hu.shape
  generalize declP X = o at *
  clear hu hs G
  have HB := Lib.hid (below_box w (.cells #[.string ⟨X.name.toArray⟩, .bool X.base, .slice pu X.types.length cu] 30))
  go_enter Tryz.func12, Tryz.ntmps12
  go_wp2_with fail
  refine (H1.out _ HB.out).mono ?_
  rintro y w1 ⟨r, b, rfl, g1, g2, g3⟩
  have HE := Lib.hid (And.intro g2 (HB.out.trans (g3.mono HB.out.size)))
  have HY := Lib.hid (answer_yes r w1)
  have HN := Lib.hid (answer_no r w1)
  clear g1 g2 g3
  cases b with
  | false =>
    go_wp2_with fail
    refine HN.out.mono ?_
    rintro y w2 ⟨rfl, rfl⟩
    go_wp2_with fail
    go_ret2
    exact ⟨.inr ⟨HE.out.1, rfl⟩, HE.out.2⟩
  | true =>
    go_wp2_with fail
    refine HY.out.mono ?_
    rintro y w2 ⟨rfl, rfl⟩
    go_wp2_with fail
    go_ret2
    exact ⟨.inl ⟨r, HE.out.1, rfl⟩, HE.out.2⟩
set_option maxRecDepth 100000 in
set_option maxHeartbeats 4000000 in
theorem pOn_any (X : OnL) (u x : Value) (S : Nat → Prop) (w : World) (hu : RowIn paY S w u X.params) (hx : RowIn acY S w x X.acts) (hs : SmO X) (G : Glob w) : Calls Tryz.prog 14 #[.agg #[.string ⟨X.event.toArray⟩, u, x]] w (SayP (onP X) w) := by
  have H1 : Hid (∀ W, Below w.heap.size w W → Calls Tryz.prog 36 #[.agg #[.string ⟨X.event.toArray⟩, u, x]] W (InP 130000 (onP X) W)) := Lib.hid (fun W hb => pon_text X u x S W (hu.in_below hb) (hx.in_below hb) hs (G.below hb))
  obtain ⟨pu, cu, rfl⟩ := hu.shape
  obtain ⟨px, cx, rfl⟩ := hx.shape
  generalize onP X = o at *
  clear hu hx hs G
  have HB := Lib.hid (below_box w (.cells #[.string ⟨X.event.toArray⟩, .slice pu X.params.length cu, .slice px X.acts.length cx] 34))
  go_enter Tryz.func14, Tryz.ntmps14
  go_wp2_with fail
  refine (H1.out _ HB.out).mono ?_
  rintro y w1 ⟨r, b, rfl, g1, g2, g3⟩
  have HE := Lib.hid (And.intro g2 (HB.out.trans (g3.mono HB.out.size)))
  have HY := Lib.hid (answer_yes r w1)
  have HN := Lib.hid (answer_no r w1)
  clear g1 g2 g3
  cases b with
  | false =>
    go_wp2_with fail
    refine HN.out.mono ?_
    rintro y w2 ⟨rfl, rfl⟩
    go_wp2_with fail
    go_ret2
    exact ⟨.inr ⟨HE.out.1, rfl⟩, HE.out.2⟩
  | true =>
    go_wp2_with fail
    refine HY.out.mono ?_
    rintro y w2 ⟨rfl, rfl⟩
    go_wp2_with fail
    go_ret2
    exact ⟨.inl ⟨r, HE.out.1, rfl⟩, HE.out.2⟩
set_option maxRecDepth 100000 in
set_option maxHeartbeats 4000000 in
theorem pRule_any (X : RuL) (u x : Value) (S : Nat → Prop) (w : World) (hu : RowIn tmY S w u X.head.args) (hx : RowIn liY S w x X.body) (hs : SmR X) (G : Glob w) : Calls Tryz.prog 10 #[.agg #[.string ⟨X.head.pred.toArray⟩, u, x]] w (SayP (ruleP X) w) := by
  have H1 : Hid (∀ W, Below w.heap.size w W → Calls Tryz.prog 29 #[.agg #[.string ⟨X.head.pred.toArray⟩, u, x]] W (InP 135000 (ruleP X) W)) := Lib.hid (fun W hb => prule_text X u x S W (hu.in_below hb) (hx.in_below hb) hs (G.below hb))
  obtain ⟨pu, cu, rfl⟩ := hu.shape
  obtain ⟨px, cx, rfl⟩ := hx.shape
  generalize ruleP X = o at *
  clear hu hx hs G
  have HB := Lib.hid (below_box w (.cells #[.string ⟨X.head.pred.toArray⟩, .slice pu X.head.args.length cu, .slice px X.body.length cx] 27))
  go_enter Tryz.func10, Tryz.ntmps10
  go_wp2_with fail
  refine (H1.out _ HB.out).mono ?_
  rintro y w1 ⟨r, b, rfl, g1, g2, g3⟩
  have HE := Lib.hid (And.intro g2 (HB.out.trans (g3.mono HB.out.size)))
  have HY := Lib.hid (answer_yes r w1)
  have HN := Lib.hid (answer_no r w1)
  clear g1 g2 g3
  cases b with
  | false =>
    go_wp2_with fail
    refine HN.out.mono ?_
    rintro y w2 ⟨rfl, rfl⟩
    go_wp2_with fail
    go_ret2
    exact ⟨.inr ⟨HE.out.1, rfl⟩, HE.out.2⟩
  | true =>
    go_wp2_with fail
    refine HY.out.mono ?_
    rintro y w2 ⟨rfl, rfl⟩
    go_wp2_with fail
    go_ret2
    exact ⟨.inl ⟨r, HE.out.1, rfl⟩, HE.out.2⟩
set_option maxRecDepth 100000 in
theorem pName_any (s : ByteArray) (w : World) (hs : s.size ≤ 300) (G : Glob w) : Calls Tryz.prog 39 #[.string s] w fun e w' => e = .returned (.bool (nameB s.data.toList)) ∧ Below w.heap.size w w' := by
  have H1 := Lib.hid (name_any s 300 w (by omega) hs G)
  have HO : Hid (∀ (b : Bool) (r : ByteArray), nameP s.data.toList = (if b = true then some r.data.toList else none) → nameB s.data.toList = b) := Lib.hid (fun b r h => by
    unfold nameP at h
    cases b <;> cases e : nameB s.data.toList
    · rfl
    · rw [e] at h; simp at h
    · rw [e] at h; simp at h
    · rfl)
  generalize nameP s.data.toList = o at *
  clear hs G
  go_enter Tryz.func39, Tryz.ntmps39
  go_wp2_with fail
  refine H1.out.mono ?_
  rintro y w1 ⟨r, b, rfl, g1, g2, g3⟩
  have HE := Lib.hid (And.intro (HO.out b r g2) g3)
  clear g1 g2 g3
  go_wp2_with fail
  go_ret
  rw [HE.out.1]
  exact ⟨rfl, HE.out.2⟩
set_option maxRecDepth 100000 in
theorem pVar_any (s : ByteArray) (w : World) (hs : s.size ≤ 300) (G : Glob w) : Calls Tryz.prog 40 #[.string s] w fun e w' => e = .returned (.bool (varB s.data.toList)) ∧ Below w.heap.size w w' := by
  have H1 := Lib.hid (variable_any s 300 w (by omega) hs G)
  have HO : Hid (∀ (b : Bool) (r : ByteArray), varP s.data.toList = (if b = true then some r.data.toList else none) → varB s.data.toList = b) := Lib.hid (fun b r h => by
    unfold varP at h
    cases b <;> cases e : varB s.data.toList
    · rfl
    · rw [e] at h; simp at h
    · rw [e] at h; simp at h
    · rfl)
  generalize varP s.data.toList = o at *
  clear hs G
  go_enter Tryz.func40, Tryz.ntmps40
  go_wp2_with fail
  refine H1.out.mono ?_
  rintro y w1 ⟨r, b, rfl, g1, g2, g3⟩
  have HE := Lib.hid (And.intro (HO.out b r g2) g3)
  clear g1 g2 g3
  go_wp2_with fail
  go_ret
  rw [HE.out.1]
  exact ⟨rfl, HE.out.2⟩
end
section
open Go Go.RowKit Go.Shelf

structure SmP (p : PrL) : Prop where
  dfew : p.decls.length ≤ 7000
  ds : ∀ X ∈ p.decls, SmD X
  ofew : p.ons.length ≤ 8
  os : ∀ X ∈ p.ons, SmO X
  rfew : p.rules.length ≤ 12
  rs : ∀ X ∈ p.rules, SmR X
/-- The answer at a program: its text, none, or too long. -/
def SayL (o : Option (List UInt8)) (w : World) (e : Ending) (w' : World) : Prop :=
  ((∃ s : ByteArray, o = some s.data.toList ∧ s.size ≤ 65536 ∧ e = .returned (.tuple #[.string s, .int .i64 0])) ∨ (∃ s : ByteArray, o = some s.data.toList ∧ 65536 < s.size ∧ e = .returned (.tuple #[.string ⟨#[]⟩, .int .i64 2])) ∨ (o = none ∧ e = .returned (.tuple #[.string ⟨#[]⟩, .int .i64 140]))) ∧ Below w.heap.size w w'
set_option maxRecDepth 100000 in
set_option maxHeartbeats 4000000 in
theorem pprogram_text (X : PrL) (u v x : Value) (S : Nat → Prop) (w : World) (h1 : RowIn deY S w u X.decls) (h2 : RowIn onY S w v X.ons) (h3 : RowIn ruY S w x X.rules) (hs : SmP X) (G : Glob w) : Calls Tryz.prog 41 #[.agg #[u, v, x]] w (InP 6000000 (progP X) w) := by
  have H1 : Hid (∀ W, Below w.heap.size w W → Calls Tryz.prog 68 #[u, .func (.func 33) #[] #[]] W (InP 2807000 (linesP declP X.decls) W)) :=
    Lib.hid (fun W hb => (plinesDe_any u X.decls S W (h1.in_below hb) hs.ds (by have := hs.dfew; omega) (G.below hb)).mono fun y w' hy => InP.le (by have := hs.dfew; omega) hy)
  have H2 : Hid (∀ W, Below w.heap.size w W → Calls Tryz.prog 69 #[v, .func (.func 36) #[] #[]] W (InP 1040008 (linesP onP X.ons) W)) :=
    Lib.hid (fun W hb => (plinesOn_any v X.ons S W (h2.in_below hb) hs.os (by have := hs.ofew; omega) (G.below hb)).mono fun y w' hy => InP.le (by have := hs.ofew; omega) hy)
  have H3 : Hid (∀ W, Below w.heap.size w W → Calls Tryz.prog 70 #[x, .func (.func 29) #[] #[]] W (InP 1620012 (linesP ruleP X.rules) W)) :=
    Lib.hid (fun W hb => (plinesRu_any x X.rules S W (h3.in_below hb) hs.rs (by have := hs.rfew; omega) (G.below hb)).mono fun y w' hy => InP.le (by have := hs.rfew; omega) hy)
  obtain ⟨p, c, rfl⟩ := h1.shape
  obtain ⟨p', c', rfl⟩ := h2.shape
  obtain ⟨p'', c'', rfl⟩ := h3.shape
  unfold progP
  generalize linesP declP X.decls = o1 at *
  generalize linesP onP X.ons = o2 at *
  generalize linesP ruleP X.rules = o3 at *
  clear h1 h2 h3 hs G
  have HB := Lib.hid (below_box w (.cells #[.slice p X.decls.length c, .slice p' X.ons.length c', .slice p'' X.rules.length c''] 49))
  go_enter Tryz.func41, Tryz.ntmps41
  go_wp2_with fail
  refine (H1.out _ HB.out).mono ?_
  rintro y w1 ⟨r1, b1, rfl, g1, g2, g3⟩
  have hx := (g3.block w.heap.size (by simp)).trans (heap_alloc_new w (.cells #[.slice p X.decls.length c, .slice p' X.ons.length c', .slice p'' X.rules.length c''] 49))
  have c1 := cell_at hx 1 _ rfl
  have HE := Lib.hid (And.intro g1 (And.intro g2 (HB.out.trans (g3.mono HB.out.size))))
  have HX1 := Lib.hid hx
  clear g1 g2 g3 hx
  go_wp2_with fail
  refine (H2.out w1 HE.out.2.2).mono ?_
  rintro y w2 ⟨r2, b2, rfl, g1, g2, g3⟩
  have hx := (g3.block w.heap.size (Array.getElem?_eq_some_iff.1 HX1.out).1).trans HX1.out
  have c2 := cell_at hx 2 _ rfl
  have HE2 := Lib.hid (And.intro g1 (And.intro g2 (HE.out.2.2.trans (g3.mono HE.out.2.2.size))))
  clear g1 g2 g3 c1 hx
  go_wp2_with fail
  refine (H3.out w2 HE2.out.2.2).mono ?_
  rintro y w3 ⟨r3, b3, rfl, g1, g2, g3⟩
  have HE3 := Lib.hid (And.intro g1 (And.intro g2 (HE2.out.2.2.trans (g3.mono HE2.out.2.2.size))))
  clear g1 g2 g3 c2
  have q1 := add_run r1 r2 (by have := HE.out.1; have := HE2.out.1; omega)
  have q2 := add_run (r1 ++ r2) r3 (by have := HE.out.1; have := HE2.out.1; have := HE3.out.1; rw [ByteArray.size_append]; omega)
  have HS : Hid ((r1 ++ r2 ++ r3).size ≤ 6000000) := Lib.hid (by have := HE.out.1; have := HE2.out.1; have := HE3.out.1; rw [ByteArray.size_append, ByteArray.size_append]; omega)
  have HX : Hid ((r1 ++ r2 ++ r3).data.toList = r1.data.toList ++ r2.data.toList ++ r3.data.toList) := Lib.hid (by simp)
  have HT : Hid (two (two o1 o2 fun x y => x ++ y) o3 (fun x y => x ++ y) = if ((b1 && b2) && b3) = true then some (r1.data.toList ++ r2.data.toList ++ r3.data.toList) else none) := Lib.hid (by
    rw [HE.out.2.1, HE2.out.2.1, HE3.out.2.1]
    cases b1 <;> cases b2 <;> cases b3 <;> rfl)
  cases b1 <;> cases b2 <;> cases b3
  all_goals
    go_wp2_with fail
    go_ret2
    refine ⟨_, _, rfl, HS.out, ?_, HE3.out.2.2⟩
    rw [HT.out, HX.out]
    rfl
set_option maxRecDepth 100000 in
set_option maxHeartbeats 4000000 in
theorem pProgram_any (X : PrL) (u v x : Value) (S : Nat → Prop) (w : World) (h1 : RowIn deY S w u X.decls) (h2 : RowIn onY S w v X.ons) (h3 : RowIn ruY S w x X.rules) (hs : SmP X) (G : Glob w) : Calls Tryz.prog 18 #[.agg #[u, v, x]] w (SayL (progP X) w) := by
  have H1 : Hid (∀ W, Below w.heap.size w W → Calls Tryz.prog 41 #[.agg #[u, v, x]] W (InP 6000000 (progP X) W)) := Lib.hid (fun W hb => pprogram_text X u v x S W (h1.in_below hb) (h2.in_below hb) (h3.in_below hb) hs (G.below hb))
  obtain ⟨p, c, rfl⟩ := h1.shape
  obtain ⟨p', c', rfl⟩ := h2.shape
  obtain ⟨p'', c'', rfl⟩ := h3.shape
  generalize progP X = o at *
  clear h1 h2 h3 hs G
  have HB := Lib.hid (below_box w (.cells #[.slice p X.decls.length c, .slice p' X.ons.length c', .slice p'' X.rules.length c''] 49))
  go_enter Tryz.func18, Tryz.ntmps18
  go_wp2_with fail
  refine (H1.out _ HB.out).mono ?_
  rintro y w1 ⟨r, b, rfl, g1, g2, g3⟩
  have HE := Lib.hid (And.intro g2 (HB.out.trans (g3.mono HB.out.size)))
  have HY := Lib.hid (answer_yes r w1)
  have HN := Lib.hid (answer_no r w1)
  have HM := Lib.hid g1
  have hm : (r.size : Int) ≤ 6000000 := by omega
  clear g1 g2 g3
  cases b with
  | false =>
    go_wp2_with fail
    refine HN.out.mono ?_
    rintro y w2 ⟨rfl, rfl⟩
    go_wp2_with fail
    go_ret2
    exact ⟨.inr (.inr ⟨HE.out.1, rfl⟩), HE.out.2⟩
  | true =>
    by_cases hl : 65536 < r.size
    · have hl' : (65536 : Int) < (r.size : Int) := by omega
      go_wp2_with fail
      go_ret2
      exact ⟨.inr (.inl ⟨r, by simpa using HE.out.1, hl, rfl⟩), HE.out.2⟩
    · have hl' : ¬ (65536 : Int) < (r.size : Int) := by omega
      have HLe := Lib.hid (show r.size ≤ 65536 by omega)
      go_wp2_with fail
      refine HY.out.mono ?_
      rintro y w2 ⟨rfl, rfl⟩
      go_wp2_with fail
      go_ret2
      exact ⟨.inl ⟨r, by simpa using HE.out.1, HLe.out, rfl⟩, HE.out.2⟩
end
end Go.Proofs.YtlbofeidiclhgaaGreatDoor

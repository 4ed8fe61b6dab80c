/-
  What print writes of a program is read as it was; the walk of the law PrintBack.
  For every input the law PrintBack returns true and leaves its arguments as they were.
  Conditions: those that the row and its tied card print; none of the proof's own.
-/
import Derived.Test.YtlbofeidiclhgaaGreatDoorK17
import Derived.Test.YtlbofeidiclhgaaGreatDoorK16
import Derived.Test.YtlbofeidiclhgaaGreatDoorK13
import Derived.Test.YtlbofeidiclhgaaGreatDoorK05
import Derived.Test.YtlbofeidiclhgaaGreatDoorK06
import Derived.Test.YtlbofeidiclhgaaGreatDoorK15
import Derived.Test.YtlbofeidiclhgaaGreatDoorTie
import Derived.Test.YtlbofeidiclhgaaGreatDoorCards
namespace Go.Proofs.YtlbofeidiclhgaaGreatDoor
section
open Go Go.RowKit Go.Shelf

def toCl : DeL ⊕ (OnL ⊕ RuL) → ClL
  | .inl d => .decl d
  | .inr (.inl o) => .on o
  | .inr (.inr r) => .rule r
theorem rd_clause {x : DeL ⊕ (OnL ⊕ RuL)} {s : List UInt8} (h : clP x = some s) : Rz clauseR (clK x) (toCl x) := by
  rcases x with d | o | r
  · have e := (rd_decl h).map ClL.decl
    show Rz clauseR (declK d) (.decl d)
    obtain ⟨b, n, ts⟩ := d
    cases b with
    | true => exact Rz.yes (q := isW wBase) rfl e
    | false => exact Rz.no (q := isW wBase) rfl (Rz.yes (q := isW wView) rfl e)
  · have e := (rd_on h).map ClL.on
    exact Rz.no (q := isW wBase) rfl (Rz.no (q := isW wView) rfl (Rz.yes (q := isW wOn) rfl e))
  · have e := (rd_rule h).map ClL.rule
    obtain ⟨x, y, hx, -, -⟩ := two_some h
    obtain ⟨z, y', hn, -, -⟩ := two_some hx
    obtain ⟨n1, n2, n3, -, -⟩ := name_not hn
    exact Rz.no (q := isW wBase) (by simp [isW, wK, n1]) (Rz.no (q := isW wView) (by simp [isW, wK, n2]) (Rz.no (q := isW wOn) (by simp [isW, wK, n3]) e))
theorem clK_ne (x : DeL ⊕ (OnL ⊕ RuL)) : clK x ≠ [] := by
  rcases x with d | o | r
  · exact List.cons_ne_nil _ _
  · exact List.cons_ne_nil _ _
  · show ruleK r ≠ []
    unfold ruleK
    obtain ⟨T, e⟩ := atomK_cons r.head
    rw [e]
    simp
theorem rd_prog : ∀ C : List (DeL ⊕ (OnL ⊕ RuL)), (∀ x ∈ C, ∃ s, clP x = some s) → progR (C.map clK).flatten = .ok (C.map toCl) []
  | [], _ => progR_nil
  | x :: C, h => by
    obtain ⟨s, hs⟩ := h x List.mem_cons_self
    have i := rd_prog C fun y hy => h y (List.mem_cons_of_mem _ hy)
    rw [List.map_cons, List.flatten_cons, progR_eq (by simp [clK_ne]), rd_clause hs]
    show (progR (C.map clK).flatten).bind _ = _
    rw [i]
    rfl
theorem ofCs_all (p : PrL) : ofCs ((allC p).map toCl) = p := by
  obtain ⟨d, o, r⟩ := p
  unfold ofCs allC
  have h1 : ∀ {α : Type} (L : List α) (f : α → ClL) (g : ClL → Option α), (∀ x, g (f x) = some x) → (L.map f).filterMap g = L := fun L f g h => by
    induction L with
    | nil => rfl
    | cons x L ih => rw [List.map_cons, List.filterMap_cons, h]; simp [ih]
  have h0 : ∀ {α β : Type} (L : List α) (f : α → ClL) (g : ClL → Option β), (∀ x, g (f x) = none) → (L.map f).filterMap g = [] := fun L f g h => by
    induction L with
    | nil => rfl
    | cons x L ih => rw [List.map_cons, List.filterMap_cons, h]; simp [ih]
  simp only [List.map_append, List.map_map, List.filterMap_append]
  rw [show (toCl ∘ Sum.inl) = ClL.decl from rfl, show (toCl ∘ fun o => Sum.inr (Sum.inl o)) = ClL.on from rfl, show (toCl ∘ fun r => Sum.inr (Sum.inr r)) = ClL.rule from rfl]
  rw [h1 d ClL.decl ClL.decl? (fun _ => rfl), h0 o ClL.on ClL.decl? (fun _ => rfl), h0 r ClL.rule ClL.decl? (fun _ => rfl), h0 d ClL.decl ClL.on? (fun _ => rfl), h1 o ClL.on ClL.on? (fun _ => rfl), h0 r ClL.rule ClL.on? (fun _ => rfl), h0 d ClL.decl ClL.rule? (fun _ => rfl), h0 o ClL.on ClL.rule? (fun _ => rfl), h1 r ClL.rule ClL.rule? (fun _ => rfl)]
  simp
theorem say_okK {α : Type} {p : Rd α} {s : List UInt8} {K : List Kt} {a : α} (h : KyIs s K) (hp : p K = .ok a []) : sayOf valL p s = .ok a := by
  unfold sayOf
  rw [h.1]
  simp only
  rw [h.2, hp]
theorem say_prog {p : PrL} (h : SmP p) {s : List UInt8} (hs : progP p = some s) : sayOf valL progR s = .ok ((allC p).map toCl) := by
  refine say_okK (prog_words h hs) (rd_prog _ fun x hx => ?_)
  rw [progP_all] at hs
  cases e : clP x with
  | some y => exact ⟨y, rfl⟩
  | none =>
    rw [allO_bad _ (List.mem_map.2 ⟨x, hx, e⟩)] at hs
    cases hs
/-- What stands while the law asks: the two copies. -/
structure BkS (w : World) (q : PrL) (r2 : RuL) (va vb vc vd ve : Value) (W : World) : Prop where
  below : Below w.heap.size w W
  x0 : W.heap[w.heap.size]? = some (.cells #[va, vb, vc] 49 (0, 0))
  x1 : W.heap[w.heap.size + 1]? = some (.cells #[.string ⟨r2.head.pred.toArray⟩, vd, ve] 27 (0, 0))
  ra : RowIn deY (fun _ => True) W va q.decls
  rb : RowIn onY (fun _ => True) W vb q.ons
  rc : RowIn ruY (fun _ => True) W vc q.rules
  rd : RowIn tmY (fun _ => True) W vd r2.head.args
  re : RowIn liY (fun _ => True) W ve r2.body
theorem BkS.on {w W W' : World} {q : PrL} {r2 : RuL} {va vb vc vd ve : Value} (h : BkS w q r2 va vb vc vd ve W) (hb : Below W.heap.size W W') : BkS w q r2 va vb vc vd ve W' :=
  ⟨h.below.trans (hb.mono h.below.size), (hb.block _ (Array.getElem?_eq_some_iff.1 h.x0).1).trans h.x0, (hb.block _ (Array.getElem?_eq_some_iff.1 h.x1).1).trans h.x1, h.ra.in_below hb, h.rb.in_below hb, h.rc.in_below hb, h.rd.in_below hb, h.re.in_below hb⟩
set_option maxHeartbeats 4000000 in
theorem set_6 {A W : World} {b c : Nat} {t t' : TypeId} {x0 x1 x2 u0 u1 u2 y0 y1 y2 z0 z1 z2 : Value} (hbc : b ≠ c) (h : A.heap[b]? = some (.cells #[x0, x1, x2] t (0, 0))) (h' : A.heap[c]? = some (.cells #[u0, u1, u2] t' (0, 0)))
    (hW : ((((((A.setCell ⟨b, 0, none⟩ y0).setCell ⟨b, 1, none⟩ y1).setCell ⟨b, 2, none⟩ y2).setCell ⟨c, 0, none⟩ z0).setCell ⟨c, 1, none⟩ z1).setCell ⟨c, 2, none⟩ z2) = W) : W.heap[b]? = some (.cells #[y0, y1, y2] t (0, 0)) ∧ W.heap[c]? = some (.cells #[z0, z1, z2] t' (0, 0)) ∧ (∀ k, k ≠ b → k ≠ c → W.heap[k]? = A.heap[k]?) ∧ W.heap.size = A.heap.size ∧ ∀ n w, Below n w A → n ≤ b → n ≤ c → Below n w W := by
  subst hW
  have o1 : ∀ k, k ≠ b → (((A.setCell ⟨b, 0, none⟩ y0).setCell ⟨b, 1, none⟩ y1).setCell ⟨b, 2, none⟩ y2).heap[k]? = A.heap[k]? := fun k hk => (heap_setCell_other _ ⟨b, 2, none⟩ k _ hk).trans ((heap_setCell_other _ ⟨b, 1, none⟩ k _ hk).trans (heap_setCell_other _ ⟨b, 0, none⟩ k _ hk))
  have o2 : ∀ (B : World) k, k ≠ c → (((B.setCell ⟨c, 0, none⟩ z0).setCell ⟨c, 1, none⟩ z1).setCell ⟨c, 2, none⟩ z2).heap[k]? = B.heap[k]? := fun B k hk => (heap_setCell_other _ ⟨c, 2, none⟩ k _ hk).trans ((heap_setCell_other _ ⟨c, 1, none⟩ k _ hk).trans (heap_setCell_other _ ⟨c, 0, none⟩ k _ hk))
  have e1 := rowS3_set (y0 := y0) (y1 := y1) (y2 := y2) h
  have e2 := rowS3_set (y0 := z0) (y1 := z1) (y2 := z2) ((o1 c (Ne.symm hbc)).trans h')
  exact ⟨(o2 _ b hbc).trans e1, e2, fun k h1 h2 => (o2 _ k h2).trans (o1 k h1), by simp, fun n w hA hb hc => (((((hA.setCell (p := ⟨b, 0, none⟩) hb _).setCell (p := ⟨b, 1, none⟩) hb _).setCell (p := ⟨b, 2, none⟩) hb _).setCell (p := ⟨c, 0, none⟩) hc _).setCell (p := ⟨c, 1, none⟩) hc _).setCell (p := ⟨c, 2, none⟩) hc _⟩
set_option maxRecDepth 100000 in
set_option maxHeartbeats 80000000 in
theorem lprintBack (us0 : List Value) (p : PrL) (us1 : List Value) (r : RuL) (w : World) (h0 : prY.is (fun _ => True) w us0 p) (ok0 : OkP p) (h1 : ruY.is (fun _ => True) w us1 r) (ok1 : OkR r) (G : Glob w) :
    Calls Tryz.prog 6 #[.agg us0.toArray, .agg us1.toArray] w fun e w' => e = .returned (.bool true) ∧ Below w.heap.size w w' := by
  obtain ⟨ua, ub, uc, rfl, ha, hb, hc⟩ := h0
  obtain ⟨ud, ue, rfl, hd, he⟩ := h1
  have HSm := Lib.hid (And.intro (cutP_sm ok0) (cutR_sm ok1))
  have HG := Lib.hid G
  have HL0 := Lib.hid (fun W (h : Below w.heap.size w W) => lprog_any p ua ub uc w W ((dfY.of ha).in_below h) (hb.in_below h) (hc.in_below h))
  have HL1 : Hid (∀ W, Below w.heap.size w W → Calls Tryz.prog 7 #[.agg #[.string ⟨r.head.pred.toArray⟩, ud, ue]] W fun e w' => (∃ v y, e = .returned (.agg #[.string ⟨(cutR r).head.pred.toArray⟩, v, y]) ∧ RowIn tmY (fun k => W.heap.size ≤ k) w' v (cutR r).head.args ∧ RowIn liY (fun k => W.heap.size ≤ k) w' y (cutR r).body) ∧ Below W.heap.size W w') := Lib.hid (fun W h => lrule_any r ud ue _ W (hd.in_below h) (he.in_below h))
  obtain ⟨p0, k0, rfl⟩ := ha.shape
  obtain ⟨p1, k1, rfl⟩ := hb.shape
  obtain ⟨p2, k2, rfl⟩ := hc.shape
  obtain ⟨p3, k3, rfl⟩ := hd.shape
  obtain ⟨p4, k4, rfl⟩ := he.shape
  obtain ⟨q, hq⟩ : ∃ q, cutP p = q := ⟨_, rfl⟩
  obtain ⟨r2, hr2⟩ : ∃ r2, cutR r = r2 := ⟨_, rfl⟩
  rw [hq] at HL0 HSm
  rw [hr2] at HL1 HSm
  clear ok0 ok1 G ha hb hc hd he hq hr2
  generalize (⟨r.head.pred.toArray⟩ : ByteArray) = nr at *
  generalize p.decls.length = m0 at *
  generalize p.ons.length = m1 at *
  generalize p.rules.length = m2 at *
  generalize r.head.args.length = m3 at *
  generalize r.body.length = m4 at *
  clear p r
  obtain ⟨w0, hw0⟩ : ∃ w0, (w.alloc (.cells #[.slice p0 m0 k0, .slice p1 m1 k1, .slice p2 m2 k2] 49)).alloc (.cells #[.string nr, .slice p3 m3 k3, .slice p4 m4 k4] 27) = w0 := ⟨_, rfl⟩
  have HB := Lib.hid (show Below w.heap.size w w0 by rw [← hw0]; exact below_box2 w _ _)
  have hx := two_newA w (.cells #[.slice p0 m0 k0, .slice p1 m1 k1, .slice p2 m2 k2] 49) (.cells #[.string nr, .slice p3 m3 k3, .slice p4 m4 k4] 27)
  rw [hw0] at hx
  have HX := Lib.hid hx
  have HW0 := Lib.hid hw0
  clear hw0 hx
  show Calls Tryz.prog 6 #[.agg #[.slice p0 m0 k0, .slice p1 m1 k1, .slice p2 m2 k2], .agg #[.string nr, .slice p3 m3 k3, .slice p4 m4 k4]] w _
  go_enter Tryz.func6, Tryz.ntmps6
  go_wp2_with fail
  try rw [HW0.out]
  refine (pawake_any _ (HG.out.below HB.out)).mono ?_
  rintro y w1 ⟨rfl, hb1⟩
  have hz0 : w.heap.size + 1 < w0.heap.size := (Array.getElem?_eq_some_iff.1 HX.out.2).1
  have HB1 := Lib.hid (HB.out.trans (hb1.mono HB.out.size))
  have HX1 := Lib.hid (And.intro ((hb1.block w.heap.size (by omega)).trans HX.out.1) ((hb1.block (w.heap.size + 1) hz0).trans HX.out.2))
  have hz1 : w.heap.size + 1 < w1.heap.size := (Array.getElem?_eq_some_iff.1 HX1.out.2).1
  obtain ⟨⟨c0, c1, c2⟩, cf0, cf1, cf2⟩ := cells3 HX1.out.1
  obtain ⟨⟨e0, e1, e2⟩, ef0, ef1, ef2⟩ := cells3 HX1.out.2
  clear hb1 HX HB HW0 hz0
  go_wp2_with fail
  have HS0 := Lib.hid ((Below.refl w1.heap.size w1).drew)
  refine Till.begin (S := fun X => Below w1.heap.size w1 X) (z := 3) (by kernel_rfl) ?_
  refine Till.take [1, 3] 0 17 (v := ?_) rfl rfl (by kernel_rfl) (by kernel_rfl) (by kernel_rfl) (by kernel_rfl) (fun _ _ _ h => h) (by kernel_rfl) ?_ HS0.out (by first | (simp only [put_norm]; exact rfl) | exact rfl) ?_
  rotate_left
  · rintro X0 s0
    obtain ⟨⟨g0, g1, g2⟩, gf0, gf1, gf2⟩ := cells3 ((s0.block _ (by omega)).trans HX1.out.1)
    clear s0
    go_simp; try (with_reducible rfl)
  refine Till.take [3] 2 19 (v := ?_) rfl rfl (by kernel_rfl) (by kernel_rfl) (by kernel_rfl) (by kernel_rfl) (fun _ _ _ h => h) (by kernel_rfl) ?_ HS0.out (by first | (simp only [put_norm]; exact rfl) | exact rfl) ?_
  rotate_left
  · rintro X0 s0
    obtain ⟨⟨g0, g1, g2⟩, gf0, gf1, gf2⟩ := cells3 ((s0.block _ (by omega)).trans HX1.out.2)
    clear s0
    go_simp; try (with_reducible rfl)
  clear c0 c1 c2 cf0 cf1 cf2 e0 e1 e2 ef0 ef1 ef2
  refine Till.one 1 (by kernel_rfl) rfl (fun K hK => ?_)
  go_simp
  go_at_call 17
  refine (HL0.out _ HB1.out.drew).mono ?_
  rintro y w2 ⟨⟨va, vb, vc, rfl, hra, hrb, hrc⟩, hb2⟩
  obtain ⟨pa, ca, rfl⟩ := hra.shape
  obtain ⟨pb, cb, rfl⟩ := hrb.shape
  obtain ⟨pc, cc, rfl⟩ := hrc.shape
  have HB2 := Lib.hid (HB1.out.drew.trans (hb2.mono HB1.out.size))
  have HS1 := Lib.hid (show Below w1.heap.size w1 w2 from HS0.out.trans hb2)
  have HRa := Lib.hid (show RowIn (dfY w) (fun k => w1.heap.size ≤ k) w2 (.slice pa q.decls.length ca) q.decls from hra)
  have HRb := Lib.hid (show RowIn onY (fun k => w1.heap.size ≤ k) w2 (.slice pb q.ons.length cb) q.ons from hrb)
  have HRc := Lib.hid (show RowIn ruY (fun k => w1.heap.size ≤ k) w2 (.slice pc q.rules.length cc) q.rules from hrc)
  clear hb2 hra hrb hrc HL0
  go_simp
  refine hK.out _ _ (fun _ => HS1.out) ?_
  clear hK K
  try simp only [put_norm]
  refine Till.one 3 (by kernel_rfl) rfl (fun K hK => ?_)
  go_simp
  go_at_call 7
  refine (HL1.out _ HB2.out).mono ?_
  rintro y w3 ⟨⟨vd, ve, rfl, hrd, hre⟩, hb3⟩
  obtain ⟨pd, cd, rfl⟩ := hrd.shape
  obtain ⟨pe, ce, rfl⟩ := hre.shape
  have HB3 := Lib.hid (HB2.out.trans (hb3.mono HB2.out.size))
  have HS3 := Lib.hid (show Below w1.heap.size w1 w3 from HS1.out.trans (hb3.mono HS1.out.size))
  have HBc := Lib.hid hb3
  have HRd := Lib.hid hrd
  have HRe := Lib.hid hre
  have HX3 := Lib.hid (And.intro ((HS3.out.block w.heap.size (by omega)).trans HX1.out.1) ((HS3.out.block (w.heap.size + 1) hz1).trans HX1.out.2))
  clear hb3 hrd hre HL1
  go_simp
  refine hK.out _ _ (fun h => nomatch (show (true : Bool) = false from h)) ?_
  clear hK K
  try simp only [put_norm]
  obtain ⟨⟨c0, c1, c2⟩, cf0, cf1, cf2⟩ := cells3 HX3.out.1
  obtain ⟨⟨e0, e1, e2⟩, ef0, ef1, ef2⟩ := cells3 HX3.out.2
  refine Till.one 4 (by kernel_rfl) rfl (fun K hK => ?_)
  go_simp
  refine hK.out _ _ (fun h => nomatch (show (true : Bool) = false from h)) ?_
  clear hK K
  try simp only [put_norm]
  refine Till.one 5 (by kernel_rfl) rfl (fun K hK => ?_)
  go_simp
  refine hK.out _ _ (fun h => nomatch (show (true : Bool) = false from h)) ?_
  clear hK K
  try simp only [put_norm]
  refine Till.done (by kernel_rfl) ?_ _
  generalize hW : World.setCell _ _ _ = W
  obtain ⟨y1, y2, y3, y4, y5⟩ := set_6 (by omega) HX3.out.1 HX3.out.2 hW
  have hbw := y5 _ w HB3.out (Nat.le_refl _) (by omega)
  have hz2 : w1.heap.size ≤ w2.heap.size := HS1.out.size
  have hz3 : w2.heap.size ≤ w3.heap.size := HBc.out.size
  have HS : Hid (BkS w q r2 (.slice pa q.decls.length ca) (.slice pb q.ons.length cb) (.slice pc q.rules.length cc) (.slice pd r2.head.args.length cd) (.slice pe r2.body.length ce) W) := Lib.hid ⟨hbw, y1, y2,
    dfY.row (HRa.out.keep (S' := fun _ => True) (by omega) fun j hj hl => ⟨trivial, (y3 j (by omega) (by omega)).trans (HBc.out.block j hl)⟩) hbw,
    HRb.out.keep (by omega) fun j hj hl => ⟨trivial, (y3 j (by omega) (by omega)).trans (HBc.out.block j hl)⟩,
    HRc.out.keep (by omega) fun j hj hl => ⟨trivial, (y3 j (by omega) (by omega)).trans (HBc.out.block j hl)⟩,
    HRd.out.keep (by omega) fun j hj hl => ⟨trivial, y3 j (by omega) (by omega)⟩,
    HRe.out.keep (by omega) fun j hj hl => ⟨trivial, y3 j (by omega) (by omega)⟩⟩
  clear hW y1 y2 y3 y4 y5 hbw hz1 hz2 hz3 c0 c1 c2 cf0 cf1 cf2 e0 e1 e2 ef0 ef1 ef2 HX1 HX3 HB1 HB2 HB3 HS0 HS1 HS3 HRa HRb HRc HRd HRe HBc
  obtain ⟨⟨c0, c1, c2⟩, -⟩ := cells3 HS.out.x0
  go_wp2_with fail
  refine (pProgram_any q _ _ _ _ _ HS.out.ra HS.out.rb HS.out.rc HSm.out.1 (HG.out.below HS.out.below)).mono ?_
  rintro y w4 ⟨⟨s, hs, hl, rfl⟩ | ⟨s, hs, hl, rfl⟩ | ⟨hs, rfl⟩, hb4⟩
  · replace HS := Lib.hid (HS.out.on hb4)
    have HSay := Lib.hid (say_prog HSm.out.1 hs)
    clear hb4 hs c0 c1 c2
    go_wp2_with fail
    refine (parseProgram_any s _ (HG.out.below HS.out.below)).mono ?_
    rintro y w5 ⟨hb5, hway⟩
    obtain ⟨v5, rfl, u5, x5, z5, rfl, hu5, hx5, hz5⟩ : ∃ v, y = .returned (.tuple #[v, .int .i64 0, .int .i64 0]) ∧ prT (fun k => w4.heap.size ≤ k) w5 v ((allC q).map toCl) := by
      rcases hway with ⟨-, a, v, g1, g2, g3⟩ | ⟨-, n, g1, -⟩ | ⟨-, n, g1, -⟩ | ⟨g1, -⟩
      · rw [HSay.out] at g1
        injection g1 with g1
        subst g1
        exact ⟨v, g2, g3⟩
      · rw [HSay.out] at g1; cases g1
      · rw [HSay.out] at g1; cases g1
      · omega
    rw [ofCs_all] at hu5 hx5 hz5
    replace HS := Lib.hid ((HS.out.on hb5).on (below_box w5 (.cells #[u5, x5, z5] 49)))
    have HR5 := Lib.hid (And.intro (hu5.in_below (below_box w5 (.cells #[u5, x5, z5] 49))) (And.intro (hx5.in_below (below_box w5 (.cells #[u5, x5, z5] 49))) (hz5.in_below (below_box w5 (.cells #[u5, x5, z5] 49)))))
    obtain ⟨p5, c5, rfl⟩ := hu5.shape
    obtain ⟨q5, d5, rfl⟩ := hx5.shape
    obtain ⟨r5, e5, rfl⟩ := hz5.shape
    obtain ⟨w6, hw6⟩ : ∃ w6, w5.alloc (.cells #[.slice p5 q.decls.length c5, .slice q5 q.ons.length d5, .slice r5 q.rules.length e5] 49) = w6 := ⟨_, rfl⟩
    have HX6 := Lib.hid (show w6.heap[w5.heap.size]? = some (.cells #[.slice p5 q.decls.length c5, .slice q5 q.ons.length d5, .slice r5 q.rules.length e5] 49 (0, 0)) by rw [← hw6]; exact heap_alloc_new w5 _)
    rw [hw6] at HS HR5
    have HW6 := Lib.hid hw6
    clear hw6 hu5 hx5 hz5 hb5 hway HSay
    obtain ⟨⟨c0, c1, c2⟩, -⟩ := cells3 HS.out.x0
    obtain ⟨⟨f0, f1, f2⟩, -⟩ := cells3 HX6.out
    rw [← HW6.out] at c0 c1 c2 f0 f1 f2
    go_wp2_with fail
    rw [HW6.out]
    refine (rsame_yes (a := q) HS.out.ra HR5.out.1 HS.out.rb HR5.out.2.1 HS.out.rc HR5.out.2.2).mono ?_
    rintro y w66 ⟨rfl, hb6⟩
    replace HS := Lib.hid (HS.out.on hb6)
    clear hb6 c0 c1 c2 f0 f1 f2 HR5 HX6 HW6
    obtain ⟨⟨c0, c1, c2⟩, -⟩ := cells3 HS.out.x0
    obtain ⟨⟨e0, e1, e2⟩, -⟩ := cells3 HS.out.x1
    go_wp2_with fail
    refine (pRule_any r2 _ _ _ _ HS.out.rd HS.out.re HSm.out.2 (HG.out.below HS.out.below)).mono ?_
    rintro y w7 ⟨⟨t, ht, rfl⟩ | ⟨ht, rfl⟩, hb7⟩
    rotate_left
    · have HB7 := Lib.hid (HS.out.on hb7).below
      clear hb7 ht c0 c1 c2 e0 e1 e2
      go_wp2_with fail
      go_ret
      exact ⟨rfl, HB7.out⟩
    replace HS := Lib.hid (HS.out.on hb7)
    clear hb7 c0 c1 c2 e0 e1 e2
    by_cases hlen : 65536 < t.size
    · have hl' : (65536 : Int) < (t.size : Int) := by omega
      have HB7 := Lib.hid HS.out.below
      clear ht hlen
      go_wp2_with fail
      go_ret
      exact ⟨rfl, HB7.out⟩
    have hl' : ¬ (65536 : Int) < (t.size : Int) := by omega
    have HRu := Lib.hid (say_okK (p := ruleR) ((rule_words HSm.out.2 ht).all trivial) (by have := rd_rule ht []; rwa [List.append_nil] at this))
    go_wp2_with fail
    refine (parseRule_any t _ (HG.out.below HS.out.below)).mono ?_
    rintro y w8 ⟨hb8, hway⟩
    obtain ⟨v8, rfl, u8, x8, rfl, hu8, hx8⟩ : ∃ v, y = .returned (.tuple #[v, .int .i64 0, .int .i64 0]) ∧ ruT (fun k => w7.heap.size ≤ k) w8 v r2 := by
      rcases hway with ⟨-, a, v, g1, g2, g3⟩ | ⟨-, n, g1, -⟩ | ⟨-, n, g1, -⟩ | ⟨g1, -⟩
      · rw [HRu.out] at g1
        injection g1 with g1
        subst g1
        exact ⟨v, g2, g3⟩
      · rw [HRu.out] at g1; cases g1
      · rw [HRu.out] at g1; cases g1
      · exact absurd g1 hlen
    have HS8 := Lib.hid ((HS.out.on hb8).on (below_box w8 (.cells #[.string ⟨r2.head.pred.toArray⟩, u8, x8] 27)))
    have HR8 := Lib.hid (And.intro (hu8.in_below (below_box w8 (.cells #[.string ⟨r2.head.pred.toArray⟩, u8, x8] 27))) (hx8.in_below (below_box w8 (.cells #[.string ⟨r2.head.pred.toArray⟩, u8, x8] 27))))
    obtain ⟨p8, c8, rfl⟩ := hu8.shape
    obtain ⟨q8, d8, rfl⟩ := hx8.shape
    obtain ⟨w9, hw9⟩ : ∃ w9, w8.alloc (.cells #[.string ⟨r2.head.pred.toArray⟩, .slice p8 r2.head.args.length c8, .slice q8 r2.body.length d8] 27) = w9 := ⟨_, rfl⟩
    have HX9 := Lib.hid (show w9.heap[w8.heap.size]? = some (.cells #[.string ⟨r2.head.pred.toArray⟩, .slice p8 r2.head.args.length c8, .slice q8 r2.body.length d8] 27 (0, 0)) by rw [← hw9]; exact heap_alloc_new w8 _)
    rw [hw9] at HS8 HR8
    have HW9 := Lib.hid hw9
    clear hw9 hu8 hx8 hb8 hway ht hlen HRu
    obtain ⟨⟨e0, e1, e2⟩, -⟩ := cells3 HS8.out.x1
    obtain ⟨⟨f0, f1, f2⟩, -⟩ := cells3 HX9.out
    rw [← HW9.out] at e0 e1 e2 f0 f1 f2
    go_wp2_with fail
    rw [HW9.out]
    refine (rsamerule_yes (a := r2) HR8.out.1 HS8.out.rd HR8.out.2 HS8.out.re).mono ?_
    rintro y w10 ⟨rfl, hb10⟩
    have HB10 := Lib.hid (HS8.out.on hb10).below
    clear hb10 e0 e1 e2 f0 f1 f2
    go_wp2_with fail
    go_ret
    exact ⟨rfl, HB10.out⟩
  · replace HS := Lib.hid (HS.out.on hb4)
    clear hb4 hs hl c0 c1 c2
    obtain ⟨⟨c0, c1, c2⟩, -⟩ := cells3 HS.out.x0
    obtain ⟨⟨e0, e1, e2⟩, -⟩ := cells3 HS.out.x1
    go_wp2_with fail
    refine (pRule_any r2 _ _ _ _ HS.out.rd HS.out.re HSm.out.2 (HG.out.below HS.out.below)).mono ?_
    rintro y w7 ⟨⟨t, ht, rfl⟩ | ⟨ht, rfl⟩, hb7⟩
    rotate_left
    · have HB7 := Lib.hid (HS.out.on hb7).below
      clear hb7 ht c0 c1 c2 e0 e1 e2
      go_wp2_with fail
      go_ret
      exact ⟨rfl, HB7.out⟩
    replace HS := Lib.hid (HS.out.on hb7)
    clear hb7 c0 c1 c2 e0 e1 e2
    by_cases hlen : 65536 < t.size
    · have hl' : (65536 : Int) < (t.size : Int) := by omega
      have HB7 := Lib.hid HS.out.below
      clear ht hlen
      go_wp2_with fail
      go_ret
      exact ⟨rfl, HB7.out⟩
    have hl' : ¬ (65536 : Int) < (t.size : Int) := by omega
    have HRu := Lib.hid (say_okK (p := ruleR) ((rule_words HSm.out.2 ht).all trivial) (by have := rd_rule ht []; rwa [List.append_nil] at this))
    go_wp2_with fail
    refine (parseRule_any t _ (HG.out.below HS.out.below)).mono ?_
    rintro y w8 ⟨hb8, hway⟩
    obtain ⟨v8, rfl, u8, x8, rfl, hu8, hx8⟩ : ∃ v, y = .returned (.tuple #[v, .int .i64 0, .int .i64 0]) ∧ ruT (fun k => w7.heap.size ≤ k) w8 v r2 := by
      rcases hway with ⟨-, a, v, g1, g2, g3⟩ | ⟨-, n, g1, -⟩ | ⟨-, n, g1, -⟩ | ⟨g1, -⟩
      · rw [HRu.out] at g1
        injection g1 with g1
        subst g1
        exact ⟨v, g2, g3⟩
      · rw [HRu.out] at g1; cases g1
      · rw [HRu.out] at g1; cases g1
      · exact absurd g1 hlen
    have HS8 := Lib.hid ((HS.out.on hb8).on (below_box w8 (.cells #[.string ⟨r2.head.pred.toArray⟩, u8, x8] 27)))
    have HR8 := Lib.hid (And.intro (hu8.in_below (below_box w8 (.cells #[.string ⟨r2.head.pred.toArray⟩, u8, x8] 27))) (hx8.in_below (below_box w8 (.cells #[.string ⟨r2.head.pred.toArray⟩, u8, x8] 27))))
    obtain ⟨p8, c8, rfl⟩ := hu8.shape
    obtain ⟨q8, d8, rfl⟩ := hx8.shape
    obtain ⟨w9, hw9⟩ : ∃ w9, w8.alloc (.cells #[.string ⟨r2.head.pred.toArray⟩, .slice p8 r2.head.args.length c8, .slice q8 r2.body.length d8] 27) = w9 := ⟨_, rfl⟩
    have HX9 := Lib.hid (show w9.heap[w8.heap.size]? = some (.cells #[.string ⟨r2.head.pred.toArray⟩, .slice p8 r2.head.args.length c8, .slice q8 r2.body.length d8] 27 (0, 0)) by rw [← hw9]; exact heap_alloc_new w8 _)
    rw [hw9] at HS8 HR8
    have HW9 := Lib.hid hw9
    clear hw9 hu8 hx8 hb8 hway ht hlen HRu
    obtain ⟨⟨e0, e1, e2⟩, -⟩ := cells3 HS8.out.x1
    obtain ⟨⟨f0, f1, f2⟩, -⟩ := cells3 HX9.out
    rw [← HW9.out] at e0 e1 e2 f0 f1 f2
    go_wp2_with fail
    rw [HW9.out]
    refine (rsamerule_yes (a := r2) HR8.out.1 HS8.out.rd HR8.out.2 HS8.out.re).mono ?_
    rintro y w10 ⟨rfl, hb10⟩
    have HB10 := Lib.hid (HS8.out.on hb10).below
    clear hb10 e0 e1 e2 f0 f1 f2
    go_wp2_with fail
    go_ret
    exact ⟨rfl, HB10.out⟩
  · replace HS := Lib.hid (HS.out.on hb4)
    clear hb4 hs c0 c1 c2
    obtain ⟨⟨c0, c1, c2⟩, -⟩ := cells3 HS.out.x0
    obtain ⟨⟨e0, e1, e2⟩, -⟩ := cells3 HS.out.x1
    go_wp2_with fail
    refine (pRule_any r2 _ _ _ _ HS.out.rd HS.out.re HSm.out.2 (HG.out.below HS.out.below)).mono ?_
    rintro y w7 ⟨⟨t, ht, rfl⟩ | ⟨ht, rfl⟩, hb7⟩
    rotate_left
    · have HB7 := Lib.hid (HS.out.on hb7).below
      clear hb7 ht c0 c1 c2 e0 e1 e2
      go_wp2_with fail
      go_ret
      exact ⟨rfl, HB7.out⟩
    replace HS := Lib.hid (HS.out.on hb7)
    clear hb7 c0 c1 c2 e0 e1 e2
    by_cases hlen : 65536 < t.size
    · have hl' : (65536 : Int) < (t.size : Int) := by omega
      have HB7 := Lib.hid HS.out.below
      clear ht hlen
      go_wp2_with fail
      go_ret
      exact ⟨rfl, HB7.out⟩
    have hl' : ¬ (65536 : Int) < (t.size : Int) := by omega
    have HRu := Lib.hid (say_okK (p := ruleR) ((rule_words HSm.out.2 ht).all trivial) (by have := rd_rule ht []; rwa [List.append_nil] at this))
    go_wp2_with fail
    refine (parseRule_any t _ (HG.out.below HS.out.below)).mono ?_
    rintro y w8 ⟨hb8, hway⟩
    obtain ⟨v8, rfl, u8, x8, rfl, hu8, hx8⟩ : ∃ v, y = .returned (.tuple #[v, .int .i64 0, .int .i64 0]) ∧ ruT (fun k => w7.heap.size ≤ k) w8 v r2 := by
      rcases hway with ⟨-, a, v, g1, g2, g3⟩ | ⟨-, n, g1, -⟩ | ⟨-, n, g1, -⟩ | ⟨g1, -⟩
      · rw [HRu.out] at g1
        injection g1 with g1
        subst g1
        exact ⟨v, g2, g3⟩
      · rw [HRu.out] at g1; cases g1
      · rw [HRu.out] at g1; cases g1
      · exact absurd g1 hlen
    have HS8 := Lib.hid ((HS.out.on hb8).on (below_box w8 (.cells #[.string ⟨r2.head.pred.toArray⟩, u8, x8] 27)))
    have HR8 := Lib.hid (And.intro (hu8.in_below (below_box w8 (.cells #[.string ⟨r2.head.pred.toArray⟩, u8, x8] 27))) (hx8.in_below (below_box w8 (.cells #[.string ⟨r2.head.pred.toArray⟩, u8, x8] 27))))
    obtain ⟨p8, c8, rfl⟩ := hu8.shape
    obtain ⟨q8, d8, rfl⟩ := hx8.shape
    obtain ⟨w9, hw9⟩ : ∃ w9, w8.alloc (.cells #[.string ⟨r2.head.pred.toArray⟩, .slice p8 r2.head.args.length c8, .slice q8 r2.body.length d8] 27) = w9 := ⟨_, rfl⟩
    have HX9 := Lib.hid (show w9.heap[w8.heap.size]? = some (.cells #[.string ⟨r2.head.pred.toArray⟩, .slice p8 r2.head.args.length c8, .slice q8 r2.body.length d8] 27 (0, 0)) by rw [← hw9]; exact heap_alloc_new w8 _)
    rw [hw9] at HS8 HR8
    have HW9 := Lib.hid hw9
    clear hw9 hu8 hx8 hb8 hway ht hlen HRu
    obtain ⟨⟨e0, e1, e2⟩, -⟩ := cells3 HS8.out.x1
    obtain ⟨⟨f0, f1, f2⟩, -⟩ := cells3 HX9.out
    rw [← HW9.out] at e0 e1 e2 f0 f1 f2
    go_wp2_with fail
    rw [HW9.out]
    refine (rsamerule_yes (a := r2) HR8.out.1 HS8.out.rd HR8.out.2 HS8.out.re).mono ?_
    rintro y w10 ⟨rfl, hb10⟩
    have HB10 := Lib.hid (HS8.out.on hb10).below
    clear hb10 e0 e1 e2 f0 f1 f2
    go_wp2_with fail
    go_ret
    exact ⟨rfl, HB10.out⟩
end
section
open Go Go.RowKit

open Go.ChangeShapes Go.WideShapes Go.ChangeAt
set_option maxRecDepth 100000 in
theorem lifted_lprintBack (os : Os) (started : os.Started) (H : Type) (enc : TypeId × Value → H) :
    ReturnsInHanded {} Tryz.checked os 6 .any (fun w args => (Rows.printBackSpec.pre enc Tryz.prog Tryz.f6 [] false w args ∧ laidMetH Tryz.prog laid6 w) ∧ sizedMet enc Tryz.prog Tryz.f6 (OpenSpec.ofChange Rows.printBackSpec) false w args)
      (Rows.printBackSpec.post enc Tryz.prog Tryz.f6 false true false false) := by
  refine returnsInHanded_of_change_and (C := Tryz.checked) (X := fun w _ => laidMetH Tryz.prog laid6 w) (fun _ _ _ hh h => h.of_heap hh) own started (by kernel_rfl) Tryz.func6
    (ChangeSpec.witness_shaped (enc := enc) (C := Tryz.checked) (os := os) (X := fun w _ => laidMetH Tryz.prog laid6 w) false (World.doorLaid Tryz.prog 400 os) #[.agg #[.slice none 0 0, .slice none 0 0, .slice none 0 0], .agg #[.string ⟨#[]⟩, .slice none 0 0, .slice none 0 0]] 8 rfl (World.shaped_of_RefB (by kernel_rfl) (by kernel_rfl)) (by kernel_rfl) (by kernel_rfl) (by kernel_rfl) (door_met os _)) ?_
  intro W base args ds gs before hval0 hW _ _ hL _
  have hval : ∀ (j : Nat) t v, Tryz.f6.params[j]? = some t → args[j]? = some v → Value.okWide Tryz.prog W .any base t v := hval0
  have hW' := hW
  obtain ⟨p, q, hA0, hV, rfl, hfz, hnd⟩ := hW
  have hA : DataW.TrodAll enc Tryz.prog W 0 (fun _ => true) true Tryz.f6.params.toList args.toList ds p := hA0
  rw [Tryz.params6] at hA hval
  obtain ⟨v0, vs0, d0, ds0, p0, q0, hargs, rfl, rfl, h0, r0⟩ := trodAll_cons hA
  obtain ⟨v1, vs1, d1, ds1, p1, q1, rfl, rfl, rfl, h1, r1⟩ := trodAll_cons r0
  obtain ⟨rfl, rfl, rfl⟩ := trodAll_nil r1
  obtain rfl : args = #[v0, v1] := by cases args; simp_all
  obtain ⟨rfl, rfl⟩ := trodVars_none hV
  have t0 := h0
  have lt0 : ∀ x ∈ p0, x.block < W.heap.size := by obtain ⟨m, hm⟩ := t0; exact DataW.trod_lt m _ _ _ hm
  have t1 := h1
  have lt1 : ∀ x ∈ p1, x.block < W.heap.size := by obtain ⟨m, hm⟩ := t1; exact DataW.trod_lt m _ _ _ hm
  obtain ⟨us0, a0, rfl, hs0, ok0⟩ := open_struct prY OkP Tryz.underlying49 (fun _ _ _ h => tr_prog h) (hval 0 49 v0 rfl rfl) h0
  obtain ⟨us1, a1, rfl, hs1, ok1⟩ := open_struct ruY OkR Tryz.underlying27 (fun _ _ _ h => tr_rule h) (hval 1 27 v1 rfl rfl) h1
  clear hA0 hval0
  refine (lprintBack us0 a0 us1 a1 W hs0 ok0 hs1 ok1 (glob_of_laid hL)).mono fun e W' ⟨he, bel⟩ => ?_
  subst he
  exact ⟨_, rfl, _, _, _, [], _, [], hW', trodAll_mk1 (shut_bool Tryz.underlying4 _), (trodAll_cons_mk (Below.trod laidOut (by kernel_rfl) (of_decide_eq_true (by kernel_rfl)) t0 bel lt0) (trodAll_cons_mk (Below.trod laidOut (by kernel_rfl) (of_decide_eq_true (by kernel_rfl)) t1 bel lt1) trodAll_mk0)), rfl, bel.frame _, fun h => by cases h⟩

theorem holds_lprintBack : Rows.PrintBackSaid :=
  OpenClaim.holds_of_wide 6 Tryz.f6 rfl rfl rfl rfl rfl rfl rfl ⟨rfl, rfl, rfl, rfl, rfl⟩ rfl rfl rfl rfl rfl (by kernel_rfl) Tryz.func6 (by kernel_rfl)
    (of_decide_eq_true (by kernel_rfl)) (by unfold Func.isWrapper; rw [if_neg (of_decide_eq_false (by kernel_rfl))]; exact ⟨rfl, rfl⟩)
    (fun os started H enc _ => lifted_lprintBack os started H enc)

theorem card_lprintBack : Rows.PrintBackCardSaid :=
  Claim7.holds_tied_plain_at .later [] Rows.printBackCard.laidKinds true Rows.printBackCard.stood.harness Rows.printBackCard.stood.looks
    holds_lprintBack (fun _ h => by cases h) (by kernel_rfl) (fun _ h => by cases h) printBack_row_tie rfl ⟨rfl, rfl⟩ (by kernel_rfl) rfl
    (fun f fn hf hfn => by
      obtain rfl : f = 6 := Option.some.inj ((show Tryz.prog.funcNamed "pedigree/pedigreelaw14.PrintBack" = some 6 by kernel_rfl).symm.trans hf) |>.symm
      obtain rfl : fn = Tryz.f6 := (Option.some.inj (Tryz.func6.symm.trans hfn)).symm
      exact ⟨by kernel_rfl, fun j t ht => by
        rw [Tryz.params6] at ht
        have hm : t ∈ [49, 27] := by simpa using Array.mem_of_getElem? ht
        have hall : ([49, 27].all fun u => !Tryz.prog.wantsStandIn u) = true := by kernel_rfl
        exact (show Tryz.prog.wantsStandIn t = false by simpa using List.all_eq_true.1 hall t hm)⟩)
    (by kernel_rfl)
#print axioms card_lprintBack

end
end Go.Proofs.YtlbofeidiclhgaaGreatDoor

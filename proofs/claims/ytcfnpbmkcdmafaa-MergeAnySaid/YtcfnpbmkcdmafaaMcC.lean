/-
  Cursors of counted tuples that are made; sources with their heads; contracts of sourceOf, peek and take.
-/
import Derived.Test.YtcfnpbmkcdmafaaMcB
namespace Go.Proofs.Ytcfnpbmkcdmafaa
open Go Go.RowKit Go.Shelf

abbrev curVC (b : Nat) : Value := .iface 129 (.pointer (some ⟨b, 0, none⟩))
abbrev nextVC (b : Nat) : Value := .func (.method "Next") #[curVC b] #[]
set_option maxRecDepth 100000 in
theorem cursor_anyC (k : Nat) (lb : Array Value) (w : World) : Calls Try.prog 69 #[.func (.func k) #[] lb] w fun e w' => e = .returned (curVC w.heap.size) ∧ w.alloc (.cells #[.func (.func k) #[] lb] 122) = w' := by
  go_enter Try.func69, Try.ntmps69
  go_wp2_with fail
  go_ret
  exact ⟨rfl, rfl⟩
theorem eql_ifaceC (b : Nat) (W : World) : (binOp .eql 70 (curVC b) .nilIface).run Try.prog W = .ok (.bool false) W := by kernel_rfl
theorem eql_iface_nilC (W : World) : (binOp .eql 70 .nilIface .nilIface).run Try.prog W = .ok (.bool true) W := by kernel_rfl
set_option maxRecDepth 100000 in
theorem from_anyC (b : Nat) (w : World) : Calls Try.prog 81 #[curVC b] w fun e w' => e = .returned (.agg #[nextVC b]) ∧ w.alloc (.cells #[nextVC b] 122) = w' := by
  have q := eql_ifaceC b
  have hn := nil_aheadC b
  go_enter Try.func81, Try.ntmps81
  go_wp2_with fail
  exact bodyPost_ret (v := .agg #[nextVC b]) (by simp [results, Try.results81, go_sem]) rfl ⟨rfl, rfl⟩
/-- A cursor around a function that tells. -/
theorem made_newC {n0 k : Nat} {lb : Array Value} {fv : Value} {Y : Nat → Prop} {L : List Ct} {w : World} (t : TypeId) (hf : FvC fv k lb) (h : TellsC n0 k lb Y L w) : MadeC n0 w.heap.size (fun x => x = w.heap.size ∨ Y x) L (w.alloc (.cells #[fv] t)) := by
  refine ⟨?_, by have := h.base; simp; omega, .inl rfl, ⟨t, 1, by decide, _, heap_alloc_new w _, rfl⟩, .inl ⟨fv, k, lb, Y, cell_of_row _ _ 0 _ _ (0, 0) (heap_alloc_new w _), hf, fun x e => ⟨.inr e, fun e' => ?_⟩, h.alloc _⟩⟩
  · rintro x (rfl | e)
    · have := h.base; simp; omega
    · have := h.inside x e; simp; omega
  · have := (h.inside x e).2; omega
/-- A source at block s: its head is taken (tk), or not. -/
def SrcC (n0 s : Nat) (tk : Bool) (Y : Nat → Prop) (L : List Ct) (w : World) : Prop :=
  (∀ k, Y k → n0 ≤ k ∧ k < w.heap.size) ∧ n0 ≤ w.heap.size ∧ Y s ∧ Bk w s 126 4 ∧ w.cell? ⟨s, 3, none⟩ = some (.bool tk) ∧
  ∃ h : Raw, w.cell? ⟨s, 1, none⟩ = some (rawS h) ∧ w.cell? ⟨s, 2, none⟩ = some (.int .i64 h.2) ∧
    ((tk = false ∧ MadeC n0 s Y L w) ∨ (tk = true ∧ ∃ x r Ym, L = x :: r ∧ MadeC n0 s Ym r w ∧ (∀ k, Ym k → Y k) ∧ h.2 = x.2 ∧ TupS (fun b => b < n0 ∨ (Y b ∧ ¬ Ym b)) w (rawS h) x.1))
section
variable {n0 s : Nat} {tk : Bool} {Y Z : Nat → Prop} {L : List Ct} {w w' : World}
theorem SrcC.inside (h : SrcC n0 s tk Y L w) : ∀ k, Y k → n0 ≤ k ∧ k < w.heap.size := h.1
theorem SrcC.base (h : SrcC n0 s tk Y L w) : n0 ≤ w.heap.size := h.2.1
theorem SrcC.has (h : SrcC n0 s tk Y L w) : Y s := h.2.2.1
theorem SrcC.lt (h : SrcC n0 s tk Y L w) : ∀ k, Y k ∨ k < n0 → k < w.heap.size := fun k e => by
  rcases e with e | e
  · exact (h.inside k e).2
  · exact Nat.lt_of_lt_of_le e h.base
theorem SrcC.keep (h : SrcC n0 s tk Y L w) (hs : w.heap.size ≤ w'.heap.size) (hb : ∀ x, Y x ∨ x < n0 → w'.heap[x]? = w.heap[x]?) : SrcC n0 s tk Y L w' := by
  obtain ⟨g1, g2, g3, h1, h2, x, h3, h4, h5⟩ := h
  have cc : ∀ o, w'.cell? ⟨s, o, none⟩ = w.cell? ⟨s, o, none⟩ := fun o => World.cell?_of_block (a := ⟨s, o, none⟩) (hb s (.inl g3))
  refine ⟨fun k e => ⟨(g1 k e).1, Nat.lt_of_lt_of_le (g1 k e).2 hs⟩, Nat.le_trans g2 hs, g3, h1.of_heap (hb s (.inl g3)), (cc 3).trans h2, x, (cc 1).trans h3, (cc 2).trans h4, ?_⟩
  rcases h5 with ⟨e, h⟩ | ⟨e, y, r, Ym, e', h, hy, hn, ht⟩
  · exact .inl ⟨e, h.keep hs hb⟩
  · exact .inr ⟨e, y, r, Ym, e', h.keep hs (fun x e => hb x (e.imp_left (hy x))), hy, hn, ht.keep (fun _ e _ => e) (fun k e _ => hb k (e.symm.imp_left fun e => e.1))⟩
theorem SrcC.alloc (h : SrcC n0 s tk Y L w) (o : Obj) : SrcC n0 s tk Y L (w.alloc o) := h.keep (by simp) (fun x e => Below.heap_alloc _ _ _ (by have := h.lt x e; omega))
theorem SrcC.drew (h : SrcC n0 s tk Y L w) : SrcC n0 s tk Y L w.drew := h.keep (Nat.le_refl _) (fun _ _ => rfl)
theorem SrcC.below (h : SrcC n0 s tk Y L w) (hb : Below w.heap.size w w') : SrcC n0 s tk Y L w' := h.keep hb.size (fun x e => hb.block x (h.lt x e))
end
set_option maxRecDepth 100000 in
theorem sourceOf_anyC (b : Nat) (w : World) : Calls Try.prog 66 #[curVC b] w fun e w' => e = .returned (.pointer (some ⟨w.heap.size + 1, 0, none⟩)) ∧ (w.alloc (.cells #[nextVC b] 122)).alloc (.cells #[nextVC b, .slice none 0 0, .int .i64 0, .bool false] 126) = w' := by
  go_enter Try.func66, Try.ntmps66
  go_wp2_with fail
  refine (from_anyC b w).mono ?_
  rintro e w1 ⟨rfl, rfl⟩
  go_wp2_with fail
  go_ret
  exact ⟨by simp, rfl⟩
/-- A new source over a cursor that was made. -/
theorem src_newC {n0 b : Nat} {Y : Nat → Prop} {L : List Ct} {w : World} (h : MadeC n0 b Y L w) :
    SrcC n0 (w.heap.size + 1) false (fun x => x = w.heap.size + 1 ∨ Y x) L ((w.alloc (.cells #[nextVC b] 122)).alloc (.cells #[nextVC b, .slice none 0 0, .int .i64 0, .bool false] 126)) := by
  have hn : ((w.alloc (.cells #[nextVC b] 122)).alloc (.cells #[nextVC b, .slice none 0 0, .int .i64 0, .bool false] 126)).heap[w.heap.size + 1]? = some (.cells #[nextVC b, .slice none 0 0, .int .i64 0, .bool false] 126 (0, 0)) := by
    have := heap_alloc_new (w.alloc (.cells #[nextVC b] 122)) (.cells #[nextVC b, .slice none 0 0, .int .i64 0, .bool false] 126)
    rwa [World.size_alloc] at this
  have hin : ∀ x, (x = w.heap.size + 1 ∨ Y x) → n0 ≤ x ∧ x < ((w.alloc (.cells #[nextVC b] 122)).alloc (.cells #[nextVC b, .slice none 0 0, .int .i64 0, .bool false] 126)).heap.size := by
    rintro x (rfl | e)
    · have := h.base; simp; omega
    · have := h.inside x e; simp; omega
  have hbase : n0 ≤ ((w.alloc (.cells #[nextVC b] 122)).alloc (.cells #[nextVC b, .slice none 0 0, .int .i64 0, .bool false] 126)).heap.size := by have := h.base; simp; omega
  have hbk : Bk ((w.alloc (.cells #[nextVC b] 122)).alloc (.cells #[nextVC b, .slice none 0 0, .int .i64 0, .bool false] 126)) (w.heap.size + 1) 126 4 := ⟨_, hn, rfl⟩
  exact ⟨hin, hbase, .inl rfl, hbk, cell_of_row _ _ 3 _ _ (0, 0) hn, rawZ, cell_of_row _ _ 1 _ _ (0, 0) hn, cell_of_row _ _ 2 _ _ (0, 0) hn, .inl ⟨rfl, hin, hbase, .inl rfl, ⟨_, 4, by decide, hbk⟩, .inl ⟨nextVC b, _, _, Y, cell_of_row _ _ 0 _ _ (0, 0) hn, .next b, fun x e => ⟨.inr e, fun e' => by have := (h.inside x e).2; omega⟩, (h.tells.alloc _).alloc _⟩⟩⟩
theorem src_setC {n0 s : Nat} {Y Ym : Nat → Prop} {M L' : List Ct} {w : World} {tk : Bool} (hk : Bk w s 126 4) (hm : MadeC n0 s Ym M w) (h : Raw) (hY : ∀ k, Ym k → Y k) (hi : ∀ k, Y k → n0 ≤ k ∧ k < w.heap.size)
    (hc : (tk = false ∧ L' = M ∧ ∀ k, Y k → Ym k) ∨ (tk = true ∧ ∃ x, L' = x :: M ∧ h.2 = x.2 ∧ TupS (fun b => b < n0 ∨ (Y b ∧ ¬ Ym b)) w (rawS h) x.1)) :
    SrcC n0 s tk Y L' (((w.setCell ⟨s, 1, none⟩ (rawS h)).setCell ⟨s, 2, none⟩ (.int .i64 h.2)).setCell ⟨s, 3, none⟩ (.bool tk)) := by
  have hne : ∀ i j : Nat, i ≠ j → (⟨s, i, none⟩ : Addr) ≠ ⟨s, j, none⟩ := fun i j h e => h (by injection e)
  obtain ⟨u1, t1⟩ := Option.isSome_iff_exists.1 (hk.there (o := 1) (by decide))
  obtain ⟨u2, t2⟩ := Option.isSome_iff_exists.1 ((hk.setCell s 1 (rawS h)).there (o := 2) (by decide))
  obtain ⟨u3, t3⟩ := Option.isSome_iff_exists.1 (((hk.setCell s 1 (rawS h)).setCell s 2 (.int .i64 h.2)).there (o := 3) (by decide))
  have hk3 := ((hk.setCell s 1 (rawS h)).setCell s 2 (.int .i64 h.2)).setCell s 3 (.bool tk)
  have hoff : ∀ x, x ≠ s → (((w.setCell ⟨s, 1, none⟩ (rawS h)).setCell ⟨s, 2, none⟩ (.int .i64 h.2)).setCell ⟨s, 3, none⟩ (.bool tk)).heap[x]? = w.heap[x]? := fun x hx => (Below.heap_setCell _ _ _ _ hx).trans ((Below.heap_setCell _ _ _ _ hx).trans (Below.heap_setCell _ _ _ _ hx))
  have hm' : MadeC n0 s Ym M (((w.setCell ⟨s, 1, none⟩ (rawS h)).setCell ⟨s, 2, none⟩ (.int .i64 h.2)).setCell ⟨s, 3, none⟩ (.bool tk)) := by
    refine hm.keep' (by simp [World.setCell]) (fun x _ hx => hoff x hx) ?_ (fun t n hb => ((hb.setCell _ _ _).setCell _ _ _).setCell _ _ _)
    rw [World.cell?_setCell_other _ _ _ _ (hne _ _ (by decide)), World.cell?_setCell_other _ _ _ _ (hne _ _ (by decide)), World.cell?_setCell_other _ _ _ _ (hne _ _ (by decide))]
  have hs := hm.inside s hm.has
  refine ⟨fun k e => by have := hi k e; simpa [World.setCell] using this, by have := hm.base; simpa [World.setCell] using this, hY s hm.has, hk3, World.cell?_setCell_same _ _ _ t3, h, ?_, ?_, ?_⟩
  · rw [World.cell?_setCell_other _ _ _ _ (hne _ _ (by decide)), World.cell?_setCell_other _ _ _ _ (hne _ _ (by decide)), World.cell?_setCell_same _ _ _ t1]
  · rw [World.cell?_setCell_other _ _ _ _ (hne _ _ (by decide)), World.cell?_setCell_same _ _ _ t2]
  · rcases hc with ⟨h1, h2, h3⟩ | ⟨h1, x, h2, h3, h4⟩
    · refine .inl ⟨h1, h2 ▸ (hm'.mono hY fun k e => ?_)⟩
      have := hi k e; simpa [World.setCell] using this
    · refine .inr ⟨h1, x, M, Ym, h2, hm', hY, h3, h4.keep (fun _ e _ => e) (fun k e _ => hoff k fun e' => ?_)⟩
      subst e'
      rcases e with e | e
      · omega
      · exact e.2 hm.has
/-- What peek leaves: the head's tuple stays the source's. -/
def PeekEndC (n0 s : Nat) (Y : Nat → Prop) (L : List Ct) (w : World) (e : Ending) (w' : World) : Prop :=
  ∃ h ok, e = .returned (.tuple #[rawV h, .bool ok]) ∧ Upd (allOf Y) w w' ∧ ∃ Y', Sub w.heap.size Y Y' ∧ SrcC n0 s ok Y' L w' ∧ HdC (fun b => b < n0 ∨ Y' b) w' L h ok ∧ w'.cell? ⟨s, 1, none⟩ = some (rawS h) ∧ w'.cell? ⟨s, 2, none⟩ = some (.int .i64 h.2)
theorem src_cellsC {s : Nat} {tk : Bool} {w : World} {h : Raw} (hk : Bk w s 126 4) : (((w.setCell ⟨s, 1, none⟩ (rawS h)).setCell ⟨s, 2, none⟩ (.int .i64 h.2)).setCell ⟨s, 3, none⟩ (.bool tk)).cell? ⟨s, 1, none⟩ = some (rawS h) ∧ (((w.setCell ⟨s, 1, none⟩ (rawS h)).setCell ⟨s, 2, none⟩ (.int .i64 h.2)).setCell ⟨s, 3, none⟩ (.bool tk)).cell? ⟨s, 2, none⟩ = some (.int .i64 h.2) := by
  have hne : ∀ i j : Nat, i ≠ j → (⟨s, i, none⟩ : Addr) ≠ ⟨s, j, none⟩ := fun i j h e => h (by injection e)
  obtain ⟨u1, t1⟩ := Option.isSome_iff_exists.1 (hk.there (o := 1) (by decide))
  obtain ⟨u2, t2⟩ := Option.isSome_iff_exists.1 ((hk.setCell s 1 (rawS h)).there (o := 2) (by decide))
  constructor
  · rw [World.cell?_setCell_other _ _ _ _ (hne _ _ (by decide)), World.cell?_setCell_other _ _ _ _ (hne _ _ (by decide)), World.cell?_setCell_same _ _ _ t1]
  · rw [World.cell?_setCell_other _ _ _ _ (hne _ _ (by decide)), World.cell?_setCell_same _ _ _ t2]
theorem peek_head {n0 s : Nat} {tk : Bool} {Y : Nat → Prop} {L : List Ct} {w w1 : World} (hsrc : SrcC n0 s tk Y L w) {Y' : Nat → Prop} {h : Raw} {ok : Bool} (hk : Bk w1 s 126 4) (hs : Sub (w.heap.size + 1) Y Y') (hm : MadeC n0 s Y' L.tail w1) (hd : HdC (SafeC n0 (w.heap.size + 1) Y Y') w1 L h ok) :
    ∃ Y2, Sub w.heap.size Y Y2 ∧ (¬ Y2 w.heap.size) ∧ SrcC n0 s ok Y2 L (((w1.setCell ⟨s, 1, none⟩ (rawS h)).setCell ⟨s, 2, none⟩ (.int .i64 h.2)).setCell ⟨s, 3, none⟩ (.bool ok)) ∧ HdC (fun b => b < n0 ∨ Y2 b) (((w1.setCell ⟨s, 1, none⟩ (rawS h)).setCell ⟨s, 2, none⟩ (.int .i64 h.2)).setCell ⟨s, 3, none⟩ (.bool ok)) L h ok := by
  have hoff : ∀ x, x ≠ s → (((w1.setCell ⟨s, 1, none⟩ (rawS h)).setCell ⟨s, 2, none⟩ (.int .i64 h.2)).setCell ⟨s, 3, none⟩ (.bool ok)).heap[x]? = w1.heap[x]? := fun x hx => (Below.heap_setCell _ _ _ _ hx).trans ((Below.heap_setCell _ _ _ _ hx).trans (Below.heap_setCell _ _ _ _ hx))
  have hnY : ¬ Y w.heap.size := fun e => absurd (hsrc.inside _ e).2 (Nat.lt_irrefl _)
  have hnY' : ¬ Y' w.heap.size := fun e => by
    rcases hs _ e with e | e
    · exact hnY e
    · omega
  cases L with
  | nil =>
    obtain ⟨rfl, rfl⟩ := hd
    exact ⟨Y', fun b e => (hs b e).imp_right (by omega), hnY', src_setC hk hm _ (fun _ e => e) hm.inside (.inl ⟨rfl, rfl, fun _ e => e⟩), rfl, rfl⟩
  | cons x r =>
    obtain ⟨rfl, hn, ht⟩ := hd
    have hin := ht.inside
    refine ⟨fun b => Y' b ∨ (n0 ≤ b ∧ b < w1.heap.size ∧ ¬ Y' b ∧ (Y b ∨ w.heap.size + 1 ≤ b)), ?_, ?_, ?_, rfl, hn, ?_⟩
    · rintro b (e | ⟨-, -, -, e | e⟩)
      · exact (hs b e).imp_right (by omega)
      · exact .inl e
      · exact .inr (by omega)
    · rintro (e | ⟨-, -, -, e | e⟩)
      · exact hnY' e
      · exact hnY e
      · omega
    · refine src_setC hk hm _ (fun _ e => .inl e) ?_ (.inr ⟨rfl, x, rfl, hn, hin.keep (fun b e _ => ?_) (fun _ _ _ => rfl)⟩)
      · rintro k (e | ⟨e1, e2, -, -⟩)
        · exact hm.inside k e
        · exact ⟨e1, e2⟩
      · obtain ⟨e | ⟨e1, e2, e3⟩, hl⟩ := e
        · exact .inl e
        · exact .inr ⟨.inr ⟨e1, hl, e3, e2⟩, e3⟩
    · refine hin.keep (fun b e _ => ?_) (fun b e _ => hoff b fun e' => ?_)
      · obtain ⟨e | ⟨e1, e2, e3⟩, hl⟩ := e
        · exact .inl e
        · exact .inr (.inr ⟨e1, hl, e3, e2⟩)
      · subst e'
        obtain ⟨e | ⟨e1, e2, e3⟩, hl⟩ := e
        · have := (hm.inside b hm.has).1; omega
        · exact e3 hm.has
set_option maxRecDepth 100000 in
set_option maxHeartbeats 2000000 in
theorem peek_anyC {n0 s : Nat} {tk : Bool} {Y : Nat → Prop} {L : List Ct} {w : World} (h : SrcC n0 s tk Y L w) :
    Calls Try.prog 72 #[.pointer (some ⟨s, 0, none⟩)] w (PeekEndC n0 s Y L w) := by
  have HI := Lib.hid (fun k e => (h.inside k e).2)
  have HN0 := Lib.hid h.base
  have HY := Lib.hid h.has
  have HH := Lib.hid h
  have hsl := (h.inside s h.has).2
  obtain ⟨-, -, -, hbk, h3, ⟨⟨xp, xl, xc⟩, xn⟩, c1, c2, hcase⟩ := h
  have HK := Lib.hid hbk
  have f1 := hbk.free 1
  have f2 := hbk.free 2
  have f3 := hbk.free 3
  clear hbk
  rcases hcase with ⟨rfl, hM⟩ | ⟨rfl, x, r, Ym, rfl, hM, hYm, hxn, hxt⟩
  · clear c1 c2 f1 f2 f3
    have HC := Lib.hid (next_anyC (hM.alloc (.cells #[.slice none 0 0, .int .i64 0] 68)))
    clear hM
    go_enter Try.func72, Try.ntmps72
    go_wp2_with fail
    refine HC.out.mono ?_
    rintro e w1 ⟨⟨⟨hp, hl, hcc⟩, hm⟩, ok, rfl, hu, Y', hs, hm1, hd⟩
    have hc1 := upd_cell HI.out hu
    have hsz : w.heap.size < w1.heap.size := (Array.getElem?_eq_some_iff.1 hc1).1
    have hsz1 : s < w1.heap.size := by omega
    have d0 := cell_of_row w1 w.heap.size 0 _ _ (0, 0) hc1
    have d1 := cell_of_row w1 w.heap.size 1 _ _ (0, 0) hc1
    have g0 := frozen_of_row w1 w.heap.size 0 _ _ hc1
    have g1 := frozen_of_row w1 w.heap.size 1 _ _ hc1
    have hk1 : Bk w1 s 126 4 := hu.kind _ _ _ (HK.out.of_heap (Below.heap_alloc _ _ _ (by omega)))
    obtain ⟨u1, c1⟩ := Option.isSome_iff_exists.1 (hk1.there (o := 1) (by decide))
    obtain ⟨u2, c2⟩ := Option.isSome_iff_exists.1 (hk1.there (o := 2) (by decide))
    obtain ⟨u3, c3⟩ := Option.isSome_iff_exists.1 (hk1.there (o := 3) (by decide))
    have f1 := hk1.free 1
    have f2 := hk1.free 2
    have f3 := hk1.free 3
    have hne : ¬ w.heap.size = s := by omega
    have hne' : ¬ s = w.heap.size := by omega
    rw [World.size_alloc] at hs hd
    have HP := Lib.hid (peek_head (h := ((hp, hl, hcc), hm)) HH.out hk1 hs hm1 hd)
    have HCl := Lib.hid (src_cellsC (tk := ok) (h := ((hp, hl, hcc), hm)) hk1)
    have HU := Lib.hid (((hu.setCell s 1 (.slice hp hl hcc) (fun _ => HY.out)).setCell s 2 (.int .i64 hm) (fun _ => HY.out)).setCell s 3 (.bool ok) (fun _ => HY.out))
    clear hu hs hm1 hc1 hk1 HC hd
    go_wp2_with fail
    go_region
    go_wp2_with fail
    have hc0 := upd_cell HI.out HU.out
    obtain ⟨n0', n1'⟩ := cells_set2 hc0 (.slice hp hl hcc) (.int .i64 hm)
    refine bodyPost_ret (v := .tuple #[.agg #[.slice hp hl hcc, .int .i64 hm], .bool ok]) (by simp [results, Try.results72, go_sem, n0', n1']) rfl ⟨((hp, hl, hcc), hm), ok, rfl, ?_⟩
    obtain ⟨Y2, q1, q2, q3, q4⟩ := HP.out
    have hw : ∀ b, Y2 b ∨ b < n0 → b ≠ w.heap.size := fun b e e' => by
      subst e'
      rcases e with e | e
      · exact q2 e
      · have := HN0.out; omega
    have hoff : ∀ b, Y2 b ∨ b < n0 → (((((w1.setCell ⟨s, 1, none⟩ (.slice hp hl hcc)).setCell ⟨s, 2, none⟩ (.int .i64 hm)).setCell ⟨s, 3, none⟩ (.bool ok)).setCell ⟨w.heap.size, 0, none⟩ (.slice hp hl hcc)).setCell ⟨w.heap.size, 1, none⟩ (.int .i64 hm)).heap[b]? = (((w1.setCell ⟨s, 1, none⟩ (.slice hp hl hcc)).setCell ⟨s, 2, none⟩ (.int .i64 hm)).setCell ⟨s, 3, none⟩ (.bool ok)).heap[b]? := fun b e => (Below.heap_setCell _ _ _ _ (hw b e)).trans (Below.heap_setCell _ _ _ _ (hw b e))
    refine ⟨(((((Upd.refl (allOf Y) w).alloc _).trans HU.out).setCell _ _ _ (fun h => absurd h (Nat.lt_irrefl _))).setCell _ _ _ (fun h => absurd h (Nat.lt_irrefl _))).drew, Y2, q1, (q3.keep (by simp [World.setCell]) hoff).drew, q4.keep (fun _ e _ => e) (fun b e _ => hoff b e.symm), ?_, ?_⟩
    · rw [World.cell?_drew]
      exact (World.cell?_of_block (a := ⟨s, 1, none⟩) (hoff s (.inl q3.has))).trans HCl.out.1
    · rw [World.cell?_drew]
      exact (World.cell?_of_block (a := ⟨s, 2, none⟩) (hoff s (.inl q3.has))).trans HCl.out.2
  · have HXN := Lib.hid hxn
    have HC1 := Lib.hid (And.intro c1 c2)
    clear hM hxn
    go_enter Try.func72, Try.ntmps72
    go_wp2_with fail
    go_region
    go_wp2_with fail
    refine bodyPost_ret (v := .tuple #[.agg #[.slice xp xl xc, .int .i64 xn], .bool true]) (by simp [results, Try.results72, go_sem]) rfl ⟨((xp, xl, xc), xn), true, rfl, ?_⟩
    have hu : Upd (allOf Y) w ((w.alloc (.cells #[.slice xp xl xc, .int .i64 xn] 68)).drew) := ((Upd.refl _ _).alloc _).drew
    refine ⟨hu, Y, fun x e => .inl e, (HH.out.alloc _).drew, ⟨rfl, HXN.out, hxt.keep (fun b e _ => e.imp_right fun e => e.1) (fun b e hb => Below.heap_alloc _ _ _ (by omega))⟩, by rw [World.cell?_drew]; exact (World.cell?_alloc_lt _ _ _ hsl).trans HC1.out.1, by rw [World.cell?_drew]; exact (World.cell?_alloc_lt _ _ _ hsl).trans HC1.out.2⟩
theorem raw_inj {h h' : Raw} (e1 : rawS h = rawS h') (e2 : h.2 = h'.2) : h = h' := by
  obtain ⟨⟨p, l, c⟩, n⟩ := h
  obtain ⟨⟨p', l', c'⟩, n'⟩ := h'
  simp only [rawS, Value.slice.injEq] at e1
  obtain ⟨rfl, rfl, rfl⟩ := e1
  simp only at e2
  rw [e2]
/-- The head is handed out. -/
theorem take_head {n0 s : Nat} {Y Y' : Nat → Prop} {L : List Ct} {n : Nat} {w1 : World} {h : Raw} {ok : Bool} (hs : Sub n Y Y') (hsrc : SrcC n0 s ok Y' L w1) (hd : HdC (fun b => b < n0 ∨ Y' b) w1 L h ok) (c1 : w1.cell? ⟨s, 1, none⟩ = some (rawS h)) (c2 : w1.cell? ⟨s, 2, none⟩ = some (.int .i64 h.2)) :
    ∃ Y2, (∀ k, Y2 k → Y' k) ∧ SrcC n0 s false Y2 L.tail (((w1.setCell ⟨s, 1, none⟩ (.slice none 0 0)).setCell ⟨s, 2, none⟩ (.int .i64 0)).setCell ⟨s, 3, none⟩ (.bool false)) ∧ HdC (SafeC n0 n Y Y2) (((w1.setCell ⟨s, 1, none⟩ (.slice none 0 0)).setCell ⟨s, 2, none⟩ (.int .i64 0)).setCell ⟨s, 3, none⟩ (.bool false)) L h ok := by
  have hoff : ∀ x, x ≠ s → (((w1.setCell ⟨s, 1, none⟩ (.slice none 0 0)).setCell ⟨s, 2, none⟩ (.int .i64 0)).setCell ⟨s, 3, none⟩ (.bool false)).heap[x]? = w1.heap[x]? := fun x hx => (Below.heap_setCell _ _ _ _ hx).trans ((Below.heap_setCell _ _ _ _ hx).trans (Below.heap_setCell _ _ _ _ hx))
  obtain ⟨g1, g2, g3, hk, -, h', d1, d2, hcase⟩ := hsrc
  rw [c1] at d1
  rw [c2] at d2
  injection d1 with d1
  injection d2 with d2
  injection d2 with _ d2
  obtain rfl := raw_inj d1 d2
  cases L with
  | nil =>
    obtain ⟨rfl, rfl⟩ := hd
    rcases hcase with ⟨-, hM⟩ | ⟨e, -⟩
    · exact ⟨Y', fun _ e => e, src_setC hk hM rawZ (fun _ e => e) hM.inside (.inl ⟨rfl, rfl, fun _ e => e⟩), rfl, rfl⟩
    · cases e
  | cons x r =>
    obtain ⟨rfl, -, -⟩ := hd
    rcases hcase with ⟨e, -⟩ | ⟨-, x', r', Ym, e, hM, hY, hn, ht⟩
    · cases e
    · injection e with e1 e2
      subst e1 e2
      refine ⟨Ym, hY, src_setC hk hM rawZ (fun _ e => e) hM.inside (.inl ⟨rfl, rfl, fun _ e => e⟩), rfl, hn, ht.keep (fun b e _ => ?_) (fun b e _ => hoff b fun e' => ?_)⟩
      · rcases e with e | e
        · exact .inl e
        · exact .inr ⟨(g1 b e.1).1, hs b e.1, e.2⟩
      · subst e'
        rcases e with e | e
        · have := (g1 b g3).1; omega
        · exact e.2 hM.has
set_option maxRecDepth 100000 in
set_option maxHeartbeats 2000000 in
theorem take_anyC {n0 s : Nat} {tk : Bool} {Y : Nat → Prop} {L : List Ct} {w : World} (h : SrcC n0 s tk Y L w) :
    Calls Try.prog 71 #[.pointer (some ⟨s, 0, none⟩)] w (TellEndC n0 Y L (SrcC n0 s false) w) := by
  have HI := Lib.hid (fun k e => (h.inside k e).2)
  have HN0 := Lib.hid h.base
  have HY := Lib.hid h.has
  have hsl := (h.inside s h.has).2
  have HC := Lib.hid (peek_anyC (h.alloc (.cells #[.slice none 0 0, .int .i64 0] 68)))
  clear h
  go_enter Try.func71, Try.ntmps71
  go_wp2_with fail
  refine HC.out.mono ?_
  rintro e w1 ⟨⟨⟨hp, hl, hcc⟩, hm⟩, ok, rfl, hu, Y', hs, hsrc, hd, cc1, cc2⟩
  have hc1 := upd_cell HI.out hu
  have hsz : w.heap.size < w1.heap.size := (Array.getElem?_eq_some_iff.1 hc1).1
  have hsz1 : s < w1.heap.size := by omega
  have d0 := cell_of_row w1 w.heap.size 0 _ _ (0, 0) hc1
  have d1 := cell_of_row w1 w.heap.size 1 _ _ (0, 0) hc1
  have g0 := frozen_of_row w1 w.heap.size 0 _ _ hc1
  have g1 := frozen_of_row w1 w.heap.size 1 _ _ hc1
  have hbk := hsrc.2.2.2.1
  have c3 := hsrc.2.2.2.2.1
  have f1 := hbk.free 1
  have f2 := hbk.free 2
  have f3 := hbk.free 3
  have hne : ¬ w.heap.size = s := by omega
  have hne' : ¬ s = w.heap.size := by omega
  have HT := Lib.hid (take_head hs hsrc hd cc1 cc2)
  have HU := Lib.hid (((hu.setCell s 1 (.slice none 0 0) (fun _ => HY.out)).setCell s 2 (.int .i64 0) (fun _ => HY.out)).setCell s 3 (.bool false) (fun _ => HY.out))
  have HS := Lib.hid (And.intro hs hsrc.inside)
  clear hu hs hc1 hbk HC hsrc hd
  go_wp2_with fail
  have hc0 := upd_cell HI.out HU.out
  obtain ⟨n0', n1'⟩ := cells_set2 hc0 (.slice hp hl hcc) (.int .i64 hm)
  refine bodyPost_ret (v := .tuple #[.agg #[.slice hp hl hcc, .int .i64 hm], .bool ok]) (by simp [results, Try.results71, go_sem, n0', n1', hsz]) rfl ⟨((hp, hl, hcc), hm), ok, rfl, ?_⟩
  obtain ⟨Y2, q1, q2, q3⟩ := HT.out
  rw [World.size_alloc] at HS q3
  have hw : ∀ b, Y2 b ∨ b < n0 → b ≠ w.heap.size := fun b e e' => by
    subst e'
    rcases e with e | e
    · rcases HS.out.1 _ (q1 _ e) with h | h
      · exact absurd (HI.out _ h) (Nat.lt_irrefl _)
      · omega
    · have := HN0.out; omega
  have hw3 : ∀ b, SafeC n0 (w.heap.size + 1) Y Y2 b → b ≠ w.heap.size := fun b e e' => by
    subst e'
    rcases e with e | ⟨-, e | e, -⟩
    · have := HN0.out; omega
    · exact absurd (HI.out _ e) (Nat.lt_irrefl _)
    · omega
  have hst : ∀ b, b ≠ w.heap.size → (((((w1.setCell ⟨s, 1, none⟩ (.slice none 0 0)).setCell ⟨s, 2, none⟩ (.int .i64 0)).setCell ⟨s, 3, none⟩ (.bool false)).setCell ⟨w.heap.size, 0, none⟩ (.slice hp hl hcc)).setCell ⟨w.heap.size, 1, none⟩ (.int .i64 hm)).heap[b]? = (((w1.setCell ⟨s, 1, none⟩ (.slice none 0 0)).setCell ⟨s, 2, none⟩ (.int .i64 0)).setCell ⟨s, 3, none⟩ (.bool false)).heap[b]? := fun b e => (Below.heap_setCell _ _ _ _ e).trans (Below.heap_setCell _ _ _ _ e)
  have h5 := q2.keep (w' := (((((w1.setCell ⟨s, 1, none⟩ (.slice none 0 0)).setCell ⟨s, 2, none⟩ (.int .i64 0)).setCell ⟨s, 3, none⟩ (.bool false)).setCell ⟨w.heap.size, 0, none⟩ (.slice hp hl hcc)).setCell ⟨w.heap.size, 1, none⟩ (.int .i64 hm))) (by simp [World.setCell]) (fun b e => hst b (hw b e))
  have h6 := q3.keep (w' := (((((w1.setCell ⟨s, 1, none⟩ (.slice none 0 0)).setCell ⟨s, 2, none⟩ (.int .i64 0)).setCell ⟨s, 3, none⟩ (.bool false)).setCell ⟨w.heap.size, 0, none⟩ (.slice hp hl hcc)).setCell ⟨w.heap.size, 1, none⟩ (.int .i64 hm))) (S' := SafeC n0 w.heap.size Y Y2) (fun b e _ => e.imp_right fun e => ⟨e.1, e.2.1.imp_right (by omega), e.2.2⟩) (fun b e _ => hst b (hw3 b e))
  refine ⟨((((((Upd.refl (allOf Y) w).alloc _).trans HU.out).setCell _ _ _ (fun h => absurd h (Nat.lt_irrefl _))).setCell _ _ _ (fun h => absurd h (Nat.lt_irrefl _))).alloc _).alloc _, Y2, fun b e => (HS.out.1 b (q1 b e)).imp_right (by omega), (h5.alloc _).alloc _, (h6.keep (fun _ e _ => e) (fun b _ hb => Below.heap_alloc _ _ _ (by omega))).keep (fun _ e _ => e) (fun b _ hb => Below.heap_alloc _ _ _ (by omega))⟩
end Go.Proofs.Ytcfnpbmkcdmafaa

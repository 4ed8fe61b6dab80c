/-
  Sources: a cursor with its head; contracts of sourceOf, peek and take.
-/
import Derived.Test.YtcfnpbmkcdmafaaMgG
namespace Go.Proofs.Ytcfnpbmkcdmafaa
open Go Go.RowKit

/-- A source at block s: its head is taken (tk), or not. -/
def SrcAt (s : Nat) (tk : Bool) (Y : Nat → Prop) (L : List Th) (w : World) : Prop :=
  Bk w s 115 4 ∧ w.cell? ⟨s, 3, none⟩ = some (.bool tk) ∧
  ∃ h : Th, w.cell? ⟨s, 1, none⟩ = some (.int .i8 h.1) ∧ w.cell? ⟨s, 2, none⟩ = some (.int .i64 h.2) ∧
    ((tk = false ∧ MadeAt Tt s Y L w) ∨ (tk = true ∧ ∃ r, L = h :: r ∧ MadeAt Tt s Y r w))
section
variable {s : Nat} {tk : Bool} {Y Z : Nat → Prop} {L : List Th} {w w' : World}
theorem SrcAt.inside (h : SrcAt s tk Y L w) : ∀ k, Y k → k < w.heap.size := by
  obtain ⟨-, -, x, -, -, ⟨-, h⟩ | ⟨-, r, -, h⟩⟩ := h
  · exact h.inside
  · exact h.inside
theorem SrcAt.has (h : SrcAt s tk Y L w) : Y s := by
  obtain ⟨-, -, x, -, -, ⟨-, h⟩ | ⟨-, r, -, h⟩⟩ := h
  · exact h.has
  · exact h.has
theorem SrcAt.keep (h : SrcAt s tk Y L w) (hs : w.heap.size ≤ w'.heap.size) (hb : ∀ x, Y x → w'.heap[x]? = w.heap[x]?) : SrcAt s tk Y L w' := by
  have hY := h.has
  obtain ⟨h1, h2, x, h3, h4, h5⟩ := h
  have cc : ∀ o, w'.cell? ⟨s, o, none⟩ = w.cell? ⟨s, o, none⟩ := fun o => World.cell?_of_block (a := ⟨s, o, none⟩) (hb s hY)
  refine ⟨h1.of_heap (hb s hY), (cc 3).trans h2, x, (cc 1).trans h3, (cc 2).trans h4, ?_⟩
  rcases h5 with ⟨e, h⟩ | ⟨e, r, e', h⟩
  · exact .inl ⟨e, h.keep hs hb⟩
  · exact .inr ⟨e, r, e', h.keep hs hb⟩
theorem SrcAt.mono (h : SrcAt s tk Y L w) (hz : ∀ b, Y b → Z b) (hi : ∀ b, Z b → b < w.heap.size) : SrcAt s tk Z L w := by
  obtain ⟨h1, h2, x, h3, h4, h5⟩ := h
  refine ⟨h1, h2, x, h3, h4, ?_⟩
  rcases h5 with ⟨e, h⟩ | ⟨e, r, e', h⟩
  · exact .inl ⟨e, h.mono hz hi⟩
  · exact .inr ⟨e, r, e', h.mono hz hi⟩
end
set_option maxRecDepth 100000 in
theorem sourceOf_any (b : Nat) (w : World) : Calls Try.prog 51 #[curV b] w fun e w' => e = .returned (.pointer (some ⟨w.heap.size + 1, 0, none⟩)) ∧ (w.alloc (.cells #[nextV b] 83)).alloc (.cells #[nextV b, .int .i8 0, .int .i64 0, .bool false] 115) = w' := by
  go_enter Try.func51, Try.ntmps51
  go_wp2_with fail
  refine (from_any b w).mono ?_
  rintro e w1 ⟨rfl, rfl⟩
  go_wp2_with fail
  go_ret
  exact ⟨by simp, rfl⟩
set_option maxRecDepth 100000 in
theorem sourceOf_nil (w : World) : Calls Try.prog 51 #[.nilIface] w fun e w' => e = .returned (.pointer (some ⟨w.heap.size + 1, 0, none⟩)) ∧ (w.alloc (.cells #[.nilFunc] 83)).alloc (.cells #[.nilFunc, .int .i8 0, .int .i64 0, .bool false] 115) = w' := by
  go_enter Try.func51, Try.ntmps51
  go_wp2_with fail
  refine (from_nil w).mono ?_
  rintro e w1 ⟨rfl, rfl⟩
  go_wp2_with fail
  go_ret
  exact ⟨by simp, rfl⟩
/-- A new source over a cursor that was made. -/
theorem src_new {b : Nat} {Y : Nat → Prop} {L : List Th} {w : World} (h : MadeAt Tt b Y L w) :
    SrcAt (w.heap.size + 1) false (fun x => x = w.heap.size + 1 ∨ Y x) L ((w.alloc (.cells #[nextV b] 83)).alloc (.cells #[nextV b, .int .i8 0, .int .i64 0, .bool false] 115)) := by
  have hn : ((w.alloc (.cells #[nextV b] 83)).alloc (.cells #[nextV b, .int .i8 0, .int .i64 0, .bool false] 115)).heap[w.heap.size + 1]? = some (.cells #[nextV b, .int .i8 0, .int .i64 0, .bool false] 115 (0, 0)) := by
    have := heap_alloc_new (w.alloc (.cells #[nextV b] 83)) (.cells #[nextV b, .int .i8 0, .int .i64 0, .bool false] 115)
    rwa [World.size_alloc] at this
  have hbk : Bk ((w.alloc (.cells #[nextV b] 83)).alloc (.cells #[nextV b, .int .i8 0, .int .i64 0, .bool false] 115)) (w.heap.size + 1) 115 4 := ⟨_, hn, rfl⟩
  refine ⟨hbk, cell_of_row _ _ 3 _ _ (0, 0) hn, (0, 0), cell_of_row _ _ 1 _ _ (0, 0) hn, cell_of_row _ _ 2 _ _ (0, 0) hn, .inl ⟨rfl, ?_, .inl rfl, ⟨_, 4, by decide, hbk⟩, .inl ⟨nextV b, _, _, Y, cell_of_row _ _ 0 _ _ (0, 0) hn, .next b, fun x e => ⟨.inr e, fun e' => ?_⟩, ?_⟩⟩⟩
  · rintro x (rfl | e)
    · simp
    · have := h.inside x e; simp; omega
  · have := h.inside x e; omega
  · have h' := h.tells
    have h2 : Tells 49 #[.pointer (some ⟨b, 0, none⟩)] Tt Y L w := by
      obtain ⟨a1, J, Y0, a2, a3, a4, a5⟩ := h'
      exact ⟨a1, J, Y0, a2, a3, fun Y L w e => ⟨(a4 Y L w e).1, trivial⟩, a5⟩
    exact h2.keep (by simp; omega) (fun x e => (Below.heap_alloc _ _ _ (by have := h.inside x e; simp; omega)).trans (Below.heap_alloc _ _ _ (by have := h.inside x e; omega)))
theorem src_set {s : Nat} {Y : Nat → Prop} {M L' : List Th} {w : World} {tk : Bool} (hk : Bk w s 115 4) (hm : MadeAt Tt s Y M w) (k m : Int) (h : (tk = false ∧ L' = M) ∨ (tk = true ∧ L' = (k, m) :: M)) :
    SrcAt s tk Y L' (((w.setCell ⟨s, 1, none⟩ (.int .i8 k)).setCell ⟨s, 2, none⟩ (.int .i64 m)).setCell ⟨s, 3, none⟩ (.bool tk)) := by
  have hne : ∀ i j : Nat, i ≠ j → (⟨s, i, none⟩ : Addr) ≠ ⟨s, j, none⟩ := fun i j h e => h (by injection e)
  obtain ⟨u1, t1⟩ := Option.isSome_iff_exists.1 (hk.there (o := 1) (by decide))
  obtain ⟨u2, t2⟩ := Option.isSome_iff_exists.1 ((hk.setCell s 1 (.int .i8 k)).there (o := 2) (by decide))
  obtain ⟨u3, t3⟩ := Option.isSome_iff_exists.1 (((hk.setCell s 1 (.int .i8 k)).setCell s 2 (.int .i64 m)).there (o := 3) (by decide))
  have hk3 := ((hk.setCell s 1 (.int .i8 k)).setCell s 2 (.int .i64 m)).setCell s 3 (.bool tk)
  have hm' : MadeAt Tt s Y M (((w.setCell ⟨s, 1, none⟩ (.int .i8 k)).setCell ⟨s, 2, none⟩ (.int .i64 m)).setCell ⟨s, 3, none⟩ (.bool tk)) := by
    refine hm.keep' (by simp [World.setCell]) (fun x e hx => ?_) ?_ (fun t n hb => ((hb.setCell _ _ _).setCell _ _ _).setCell _ _ _)
    · exact (Below.heap_setCell _ _ _ _ hx).trans ((Below.heap_setCell _ _ _ _ hx).trans (Below.heap_setCell _ _ _ _ hx))
    · rw [World.cell?_setCell_other _ _ _ _ (hne _ _ (by decide)), World.cell?_setCell_other _ _ _ _ (hne _ _ (by decide)), World.cell?_setCell_other _ _ _ _ (hne _ _ (by decide))]
  refine ⟨hk3, World.cell?_setCell_same _ _ _ t3, (k, m), ?_, ?_, ?_⟩
  · rw [World.cell?_setCell_other _ _ _ _ (hne _ _ (by decide)), World.cell?_setCell_other _ _ _ _ (hne _ _ (by decide)), World.cell?_setCell_same _ _ _ t1]
  · rw [World.cell?_setCell_other _ _ _ _ (hne _ _ (by decide)), World.cell?_setCell_same _ _ _ t2]
  · rcases h with ⟨h1, h2⟩ | ⟨h1, h2⟩
    · exact .inl ⟨h1, h2 ▸ hm'⟩
    · exact .inr ⟨h1, M, h2, hm'⟩
/-- What peek and take leave. -/
def SrcEnd (s : Nat) (tk' : Bool) (L L' : List Th) (Y : Nat → Prop) (w : World) (e : Ending) (w' : World) : Prop :=
  e = .returned (headV L) ∧ Upd (allOf Y) w w' ∧ ∃ Y', Sub w.heap.size Y Y' ∧ SrcAt s tk' Y' L' w'
set_option maxRecDepth 100000 in
set_option maxHeartbeats 2000000 in
theorem peek_any {s : Nat} {tk : Bool} {Y : Nat → Prop} {L : List Th} {w : World} (h : SrcAt s tk Y L w) :
    Calls Try.prog 76 #[.pointer (some ⟨s, 0, none⟩)] w (SrcEnd s (!L.isEmpty) L L Y w) := by
  have HI := Lib.hid h.inside
  have HY := Lib.hid h.has
  have HH := Lib.hid h
  have hsl := h.inside s h.has
  obtain ⟨hbk, h3, x, c1, c2, hcase⟩ := h
  have HK := Lib.hid hbk
  have f1 := hbk.free 1
  have f2 := hbk.free 2
  have f3 := hbk.free 3
  clear hbk
  rcases hcase with ⟨rfl, hM⟩ | ⟨rfl, r, rfl, hM⟩
  · clear c1 c2 f1 f2 f3
    have HC := Lib.hid (next_any (hM.keep (w' := w.alloc (.cells #[.int .i8 0, .int .i64 0] 28)) (by simp) (fun x e => Below.heap_alloc _ _ _ (by have := hM.inside x e; omega))))
    clear hM
    obtain ⟨hk, hm, ok, eh, e0, e1⟩ := headV_form L
    have HE := Lib.hid (And.intro eh (And.intro e0 e1))
    clear eh e0 e1
    go_enter Try.func76, Try.ntmps76
    go_wp2_with fail
    refine HC.out.mono ?_
    rintro e w1 ⟨rfl, hu, Y', hs, hm1⟩
    rw [HE.out.1]
    have hc1 := upd_cell HI.out hu
    have hsz : w.heap.size < w1.heap.size := (Array.getElem?_eq_some_iff.1 hc1).1
    have hsz1 : s < w1.heap.size := by omega
    have d0 := cell_of_row w1 w.heap.size 0 _ _ (0, 0) hc1
    have d1 := cell_of_row w1 w.heap.size 1 _ _ (0, 0) hc1
    have g0 := frozen_of_row w1 w.heap.size 0 _ _ hc1
    have g1 := frozen_of_row w1 w.heap.size 1 _ _ hc1
    have hk1 : Bk w1 s 115 4 := hu.kind _ _ _ (HK.out.of_heap (Below.heap_alloc _ _ _ (by omega)))
    obtain ⟨u1, c1⟩ := Option.isSome_iff_exists.1 (hk1.there (o := 1) (by decide))
    obtain ⟨u2, c2⟩ := Option.isSome_iff_exists.1 (hk1.there (o := 2) (by decide))
    obtain ⟨u3, c3⟩ := Option.isSome_iff_exists.1 (hk1.there (o := 3) (by decide))
    have f1 := hk1.free 1
    have f2 := hk1.free 2
    have f3 := hk1.free 3
    have hne : ¬ w.heap.size = s := by omega
    have hne' : ¬ s = w.heap.size := by omega
    have HQ := Lib.hid (And.intro hu (And.intro hs (And.intro hm1 hk1)))
    clear hu hs hm1 hc1 hk1 HC
    go_wp2_with fail
    go_region
    go_wp2_with fail
    obtain ⟨hu, hs, hm1, hk1⟩ := HQ.out
    have h1 := src_set (tk := ok) (L' := L) hk1 hm1 hk hm (by
      cases ok with
      | false => exact .inl ⟨rfl, by rw [(HE.out.2.1 rfl).2.2]; rfl⟩
      | true => obtain ⟨r, hr⟩ := HE.out.2.2 rfl; exact .inr ⟨rfl, by rw [hr]; rfl⟩)
    have hu1 := ((hu.setCell s 1 (.int .i8 hk) (fun _ => HY.out)).setCell s 2 (.int .i64 hm) (fun _ => HY.out)).setCell s 3 (.bool ok) (fun _ => HY.out)
    have h2 := told_after (P := SrcAt s ok) SrcAt.keep (.int .i8 hk) (.int .i64 hm) HI.out hu1 hs h1
    have hc0 := upd_cell HI.out hu1
    obtain ⟨n0, n1⟩ := cells_set2 hc0 (.int .i8 hk) (.int .i64 hm)
    have ho : (!L.isEmpty) = ok := by
      cases ok with
      | false => rw [(HE.out.2.1 rfl).2.2]; rfl
      | true => obtain ⟨r, hr⟩ := HE.out.2.2 rfl; rw [hr]; rfl
    rw [ho]
    refine bodyPost_ret (v := .tuple #[.agg #[.int .i8 hk, .int .i64 hm], .bool ok]) (by simp [results, Try.results76, go_sem, n0, n1]) rfl ⟨by rw [HE.out.1], ?_⟩
    obtain ⟨h3, Y2, h4, h5⟩ := h2
    exact ⟨h3.drew, Y2, h4, h5.keep (Nat.le_refl _) (fun _ _ => rfl)⟩
  · clear hM
    go_enter Try.func76, Try.ntmps76
    go_wp2_with fail
    go_region
    go_wp2_with fail
    refine bodyPost_ret (v := .tuple #[.agg #[.int .i8 x.1, .int .i64 x.2], .bool true]) (by simp [results, Try.results76, go_sem]) rfl ⟨rfl, ?_⟩
    have hu : Upd (allOf Y) w ((w.alloc (.cells #[.int .i8 x.1, .int .i64 x.2] 28)).drew) := ((Upd.refl _ _).alloc _).drew
    exact ⟨hu, Y, fun x e => .inl e, HH.out.keep hu.size (fun k e => Below.heap_alloc _ _ _ (by have := HI.out k e; omega))⟩
set_option maxRecDepth 100000 in
set_option maxHeartbeats 2000000 in
theorem take_any {s : Nat} {tk : Bool} {Y : Nat → Prop} {L : List Th} {w : World} (h : SrcAt s tk Y L w) :
    Calls Try.prog 54 #[.pointer (some ⟨s, 0, none⟩)] w (SrcEnd s false L L.tail Y w) := by
  have HI := Lib.hid h.inside
  have HY := Lib.hid h.has
  have hsl := h.inside s h.has
  have HC := Lib.hid (peek_any (h.keep (w' := w.alloc (.cells #[.int .i8 0, .int .i64 0] 28)) (by simp) (fun x e => Below.heap_alloc _ _ _ (by have := h.inside x e; omega))))
  clear h
  obtain ⟨hk, hm, ok, eh, e0, e1⟩ := headV_form L
  have HE := Lib.hid (And.intro eh (And.intro e0 e1))
  clear eh e0 e1
  go_enter Try.func54, Try.ntmps54
  go_wp2_with fail
  refine HC.out.mono ?_
  rintro e w1 ⟨rfl, hu, Y', hs, hsrc⟩
  rw [HE.out.1]
  have hc1 := upd_cell HI.out hu
  have hsz : w.heap.size < w1.heap.size := (Array.getElem?_eq_some_iff.1 hc1).1
  have hsz1 : s < w1.heap.size := by omega
  have d0 := cell_of_row w1 w.heap.size 0 _ _ (0, 0) hc1
  have d1 := cell_of_row w1 w.heap.size 1 _ _ (0, 0) hc1
  have g0 := frozen_of_row w1 w.heap.size 0 _ _ hc1
  have g1 := frozen_of_row w1 w.heap.size 1 _ _ hc1
  obtain ⟨hbk, c3, x, c1, c2, hcase⟩ := hsrc
  have f1 := hbk.free 1
  have f2 := hbk.free 2
  have f3 := hbk.free 3
  have hne : ¬ w.heap.size = s := by omega
  have hne' : ¬ s = w.heap.size := by omega
  have HQ := Lib.hid (And.intro hu (And.intro hs (And.intro hbk hcase)))
  clear hu hs hc1 hbk hcase HC
  go_wp2_with fail
  obtain ⟨hu, hs, hbk, hcase⟩ := HQ.out
  have h1 : SrcAt s false Y' L.tail (((w1.setCell ⟨s, 1, none⟩ (.int .i8 0)).setCell ⟨s, 2, none⟩ (.int .i64 0)).setCell ⟨s, 3, none⟩ (.bool false)) := by
    rcases hcase with ⟨e, hM⟩ | ⟨e, r, e', hM⟩
    · have hn : L = [] := by cases L with
        | nil => rfl
        | cons a b => simp at e
      exact src_set hbk hM 0 0 (.inl ⟨rfl, by rw [hn]; rfl⟩)
    · exact src_set hbk hM 0 0 (.inl ⟨rfl, by rw [e']; rfl⟩)
  have hu1 := ((hu.setCell s 1 (.int .i8 0) (fun _ => HY.out)).setCell s 2 (.int .i64 0) (fun _ => HY.out)).setCell s 3 (.bool false) (fun _ => HY.out)
  have h2 := told_after (P := SrcAt s false) SrcAt.keep (.int .i8 hk) (.int .i64 hm) HI.out hu1 hs h1
  have hc0 := upd_cell HI.out hu1
  obtain ⟨n0, n1⟩ := cells_set2 hc0 (.int .i8 hk) (.int .i64 hm)
  refine bodyPost_ret (v := .tuple #[.agg #[.int .i8 hk, .int .i64 hm], .bool ok]) (by simp [results, Try.results54, go_sem, n0, n1, hsz]) rfl ⟨by rw [HE.out.1], ?_⟩
  obtain ⟨h3, Y2, h4, h5⟩ := h2
  have h6 := h5.keep (w' := (((((w1.setCell ⟨s, 1, none⟩ (.int .i8 0)).setCell ⟨s, 2, none⟩ (.int .i64 0)).setCell ⟨s, 3, none⟩ (.bool false)).setCell ⟨w.heap.size, 0, none⟩ (.int .i8 hk)).setCell ⟨w.heap.size, 1, none⟩ (.int .i64 hm)).alloc (.cells #[.int .i8 hk, .int .i64 hm] 28)) (by simp) (fun x e => Below.heap_alloc _ _ _ (by have := h5.inside x e; omega))
  exact ⟨(h3.alloc _).alloc _, Y2, h4, h6.keep (by simp) (fun x e => Below.heap_alloc _ _ _ (by have := h6.inside x e; omega))⟩
end Go.Proofs.Ytcfnpbmkcdmafaa

/-
  A cursor that was made; contract of its Next.
-/
import Derived.Test.YtcfnpbmkcdmafaaMgC
namespace Go.Proofs.Ytcfnpbmkcdmafaa
open Go Go.RowKit

def MadeAt (G : (Nat → Prop) → List Th → World → Prop) (b : Nat) (Y : Nat → Prop) (L : List Th) (w : World) : Prop :=
  (∀ k, Y k → k < w.heap.size) ∧ Y b ∧ (∃ t n, 0 < n ∧ Bk w b t n) ∧
  ((∃ fv k lb Y0, w.cell? ⟨b, 0, none⟩ = some fv ∧ Fv fv k lb ∧ (∀ x, Y0 x → Y x ∧ x ≠ b) ∧ Tells k lb G Y0 L w) ∨
   (w.cell? ⟨b, 0, none⟩ = some .nilFunc ∧ L = [] ∧ ((∃ k lb Y0, (∀ x, Y0 x → Y x ∧ x ≠ b) ∧ Tells k lb G Y0 [] w) ∨ ∀ Y L w, G Y L w)))
section
variable {G : (Nat → Prop) → List Th → World → Prop} {b : Nat} {Y Z : Nat → Prop} {L : List Th} {w w' : World}
theorem MadeAt.inside (h : MadeAt G b Y L w) : ∀ k, Y k → k < w.heap.size := h.1
theorem MadeAt.has (h : MadeAt G b Y L w) : Y b := h.2.1
theorem MadeAt.keep' (h : MadeAt G b Y L w) (hs : w.heap.size ≤ w'.heap.size) (hb : ∀ x, Y x → x ≠ b → w'.heap[x]? = w.heap[x]?) (hc : w'.cell? ⟨b, 0, none⟩ = w.cell? ⟨b, 0, none⟩) (hk : ∀ t n, Bk w b t n → Bk w' b t n) : MadeAt G b Y L w' := by
  obtain ⟨h1, h2, ⟨t, n, hn, h3⟩, h4⟩ := h
  refine ⟨fun k e => Nat.lt_of_lt_of_le (h1 k e) hs, h2, ⟨t, n, hn, hk _ _ h3⟩, ?_⟩
  rcases h4 with ⟨fv, k, lb, Y0, e1, e2, e3, e4⟩ | ⟨e1, e2, e3⟩
  · exact .inl ⟨fv, k, lb, Y0, hc.trans e1, e2, e3, e4.keep hs (fun x e => hb x (e3 x e).1 (e3 x e).2)⟩
  · refine .inr ⟨hc.trans e1, e2, ?_⟩
    rcases e3 with ⟨k, lb, Y0, e3, e4⟩ | e3
    · exact .inl ⟨k, lb, Y0, e3, e4.keep hs (fun x e => hb x (e3 x e).1 (e3 x e).2)⟩
    · exact .inr e3
theorem MadeAt.keep (h : MadeAt G b Y L w) (hs : w.heap.size ≤ w'.heap.size) (hb : ∀ x, Y x → w'.heap[x]? = w.heap[x]?) : MadeAt G b Y L w' :=
  h.keep' hs (fun x e _ => hb x e) (World.cell?_of_block (a := ⟨b, 0, none⟩) (hb b h.has)) (fun _ _ e => e.of_heap (hb b h.has))
theorem MadeAt.mono (h : MadeAt G b Y L w) (hz : ∀ b, Y b → Z b) (hi : ∀ b, Z b → b < w.heap.size) : MadeAt G b Z L w := by
  obtain ⟨h1, h2, h3, h4⟩ := h
  refine ⟨hi, hz _ h2, h3, ?_⟩
  rcases h4 with ⟨fv, k, lb, Y0, e1, e2, e3, e4⟩ | ⟨e1, e2, e3⟩
  · exact .inl ⟨fv, k, lb, Y0, e1, e2, fun x e => ⟨hz x (e3 x e).1, (e3 x e).2⟩, e4⟩
  · refine .inr ⟨e1, e2, ?_⟩
    rcases e3 with ⟨k, lb, Y0, e3, e4⟩ | e3
    · exact .inl ⟨k, lb, Y0, fun x e => ⟨hz x (e3 x e).1, (e3 x e).2⟩, e4⟩
    · exact .inr e3
end
theorem made_more {G : (Nat → Prop) → List Th → World → Prop} {b tb nb k : Nat} {lb : Array Value} {fv : Value} {Y Y0 Y' : Nat → Prop} {L : List Th} {w w1 : World} (hI : ∀ x, Y x → x < w.heap.size) (hyb : Y b) (hnb : 0 < nb) (hk : Bk w b tb nb) (hY0 : ∀ x, Y0 x → Y x ∧ x ≠ b)
    (hu : Upd (allOf Y0) w w1) (hc : w1.cell? ⟨b, 0, none⟩ = some fv) (hf : Fv fv k lb) (hs : Sub w.heap.size Y0 Y') (ht : Tells k lb G Y' L w1) : Upd (allOf Y) w w1 ∧ ∃ Y', Sub w.heap.size Y Y' ∧ MadeAt G b Y' L w1 := by
  refine ⟨hu.allMono fun x e => (hY0 x e).1, fun x => x = b ∨ Y' x, ?_, ?_, .inl rfl, ⟨tb, nb, hnb, hu.kind _ _ _ hk⟩, .inl ⟨fv, k, lb, Y', hc, hf, fun x e => ⟨.inr e, fun e' => ?_⟩, ht⟩⟩
  · rintro x (rfl | e)
    · exact .inl hyb
    · exact (hs x e).imp_left fun e => (hY0 x e).1
  · rintro x (rfl | e)
    · exact Nat.lt_of_lt_of_le (hI _ hyb) hu.size
    · exact ht.inside x e
  · subst e'
    rcases hs _ e with h | h
    · exact (hY0 _ h).2 rfl
    · exact absurd (hI _ hyb) (by omega)
theorem made_end {G : (Nat → Prop) → List Th → World → Prop} {b tb nb k : Nat} {lb : Array Value} {Y Y' : Nat → Prop} {w w1 : World} (hI : ∀ x, Y x → x < w.heap.size) (hyb : Y b) (hnb : 0 < nb) (hk : Bk w b tb nb)
    (hu : Upd (allOf Y) w w1) (hc : w1.cell? ⟨b, 0, none⟩ = some .nilFunc) (hs : Sub w.heap.size Y Y') (hb' : ¬ Y' b) (ht : Tells k lb G Y' [] w1) : Upd (allOf Y) w w1 ∧ ∃ Y', Sub w.heap.size Y Y' ∧ MadeAt G b Y' [] w1 := by
  refine ⟨hu, fun x => x = b ∨ Y' x, ?_, ?_, .inl rfl, ⟨tb, nb, hnb, hu.kind _ _ _ hk⟩, .inr ⟨hc, rfl, .inl ⟨k, lb, Y', fun x e => ⟨.inr e, fun e' => hb' (e' ▸ e)⟩, ht⟩⟩⟩
  · rintro x (rfl | e)
    · exact .inl hyb
    · exact hs x e
  · rintro x (rfl | e)
    · exact Nat.lt_of_lt_of_le (hI _ hyb) hu.size
    · exact ht.inside x e
theorem run_neq_nil_pointer_m (W : World) (b : Nat) : (binOp .neq 112 (.pointer (some ⟨b, 0, none⟩)) (.pointer none)).run Try.prog W = .ok (.bool true) W := by kernel_rfl
theorem neq_fv {fv : Value} {k : Nat} {lb : Array Value} (h : Fv fv k lb) (W : World) : (binOp .neq 80 fv .nilFunc).run Try.prog W = .ok (.bool true) W := by
  cases h with
  | clo k lb h => kernel_rfl
  | next b => kernel_rfl
theorem guard_fv {fv : Value} {k : Nat} {lb : Array Value} (h : Fv fv k lb) (x y : Operand) (W : World) : (eqGuard .neq 80 x y fv .nilFunc).run Try.prog W = .ok () W := by
  cases h <;> rfl
theorem neq_nilf (W : World) : (binOp .neq 80 .nilFunc .nilFunc).run Try.prog W = .ok (.bool false) W := by kernel_rfl
set_option maxRecDepth 100000 in
set_option maxHeartbeats 1000000 in
theorem next_any {G : (Nat → Prop) → List Th → World → Prop} {b : Nat} {Y : Nat → Prop} {L : List Th} {w : World} (h : MadeAt G b Y L w) :
    Calls Try.prog 49 #[.pointer (some ⟨b, 0, none⟩)] w (TellEnd Y L (MadeAt G b) w) := by
  obtain ⟨hin, hyb, ⟨tb, nb, hnb, hbk⟩, hcase⟩ := h
  have HI := Lib.hid hin
  have HY := Lib.hid hyb
  have HK := Lib.hid hbk
  have hbl := hin _ hyb
  have hfz := hbk.free 0
  have q0 : ∀ W : World, (binOp .neq 112 (.pointer (some ⟨b, 0, none⟩)) (.pointer none)).run Try.prog W = .ok (.bool true) W := fun W => run_neq_nil_pointer_m W b
  have qn := neq_nilf
  clear hin hyb hbk
  rcases hcase with ⟨fv, k, lb, Y0, hc, hf, hY0, hT⟩ | ⟨hc, rfl, hG⟩
  · have HT := Lib.hid (told_any hf (hT.keep (w' := w.alloc (.cells #[.int .i8 0, .int .i64 0] 28)) (by simp) (fun x e => Below.heap_alloc _ _ _ (by have := hT.inside x e; omega))))
    have HJ := Lib.hid hT.inside
    have HF := Lib.hid hf
    have qf := neq_fv hf
    have qg := guard_fv hf
    have HY0 := Lib.hid hY0
    clear hT hf hY0
    cases L with
    | cons x r =>
      go_enter Try.func49, Try.ntmps49
      go_wp2_with fail
      refine HT.out.mono ?_
      rintro e w1 ⟨rfl, hu, Y', hs, ht⟩
      have hc1 := upd_cell (fun x e => HJ.out x e) hu
      have hsz : w.heap.size < w1.heap.size := (Array.getElem?_eq_some_iff.1 hc1).1
      have hbz : b < w1.heap.size := by omega
      have hb1 : w1.heap[b]? = w.heap[b]? := (hu.block b (by simp; omega) (fun _ e => (HY0.out b e).2 rfl)).trans (Below.heap_alloc _ _ _ (by omega))
      have cb : w1.cell? ⟨b, 0, none⟩ = some fv := (World.cell?_of_block (a := ⟨b, 0, none⟩) hb1).trans hc
      have fb : w1.frozen? ⟨b, 0, none⟩ = false := (HK.out.of_heap hb1).free 0
      have cbA := fun o => (World.cell?_alloc_lt w1 o ⟨b, 0, none⟩ hbz).trans cb
      have hne : ¬ w.heap.size = b := by omega
      have hne' : ¬ b = w.heap.size := by omega
      have c0 := cell_of_row w1 w.heap.size 0 _ _ (0, 0) hc1
      have c1 := cell_of_row w1 w.heap.size 1 _ _ (0, 0) hc1
      have f0 := frozen_of_row w1 w.heap.size 0 _ _ hc1
      have f1 := frozen_of_row w1 w.heap.size 1 _ _ hc1
      unfold headV
      have HQ := Lib.hid (told_after (P := Tells k lb G) Tells.keep (.int .i8 x.1) (.int .i64 x.2) HJ.out hu hs ht)
      have HN := Lib.hid (cells_set2 hc1 (.int .i8 x.1) (.int .i64 x.2))
      have HC := Lib.hid cb
      clear hu hs ht hc1 cbA
      go_wp2_with fail
      obtain ⟨n0, n1⟩ := HN.out
      obtain ⟨hu2, Y2, hs2, ht2⟩ := HQ.out
      refine bodyPost_ret (v := .tuple #[.agg #[.int .i8 x.1, .int .i64 x.2], .bool true]) (by simp [results, Try.results49, go_sem, n0, n1, hsz]) rfl ⟨rfl, ?_⟩
      refine made_more HI.out HY.out hnb HK.out HY0.out (hu2.alloc _) ?_ HF.out hs2 (ht2.keep (by simp) (fun x e => Below.heap_alloc _ _ _ (by have := ht2.inside x e; omega)))
      rw [World.cell?_alloc_lt _ _ _ (by simpa [World.setCell] using hbz), World.cell?_setCell_other _ _ _ _ (fun e => hne (congrArg Addr.block e)), World.cell?_setCell_other _ _ _ _ (fun e => hne (congrArg Addr.block e))]
      exact HC.out
    | nil =>
      go_enter Try.func49, Try.ntmps49
      go_wp2_with fail
      refine HT.out.mono ?_
      rintro e w1 ⟨rfl, hu, Y', hs, ht⟩
      have hc1 := upd_cell (fun x e => HJ.out x e) hu
      have hsz : w.heap.size < w1.heap.size := (Array.getElem?_eq_some_iff.1 hc1).1
      have hbz : b < w1.heap.size := by omega
      have hb1 : w1.heap[b]? = w.heap[b]? := (hu.block b (by simp; omega) (fun _ e => (HY0.out b e).2 rfl)).trans (Below.heap_alloc _ _ _ (by omega))
      have cb : w1.cell? ⟨b, 0, none⟩ = some fv := (World.cell?_of_block (a := ⟨b, 0, none⟩) hb1).trans hc
      have fb : w1.frozen? ⟨b, 0, none⟩ = false := (HK.out.of_heap hb1).free 0
      have cbA := fun o => (World.cell?_alloc_lt w1 o ⟨b, 0, none⟩ hbz).trans cb
      have hne : ¬ w.heap.size = b := by omega
      have hne' : ¬ b = w.heap.size := by omega
      have c0 := cell_of_row w1 w.heap.size 0 _ _ (0, 0) hc1
      have c1 := cell_of_row w1 w.heap.size 1 _ _ (0, 0) hc1
      have f0 := frozen_of_row w1 w.heap.size 0 _ _ hc1
      have f1 := frozen_of_row w1 w.heap.size 1 _ _ hc1
      unfold headV
      have HC := Lib.hid cb
      have hb' : ¬ Y' b := fun e => by
        rcases hs _ e with h | h
        · exact (HY0.out _ h).2 rfl
        · simp at h; omega
      have HQ := Lib.hid (told_after (P := fun Y L w => Tells k lb G Y L w ∧ ¬ Y b) (w1 := w1.setCell ⟨b, 0, none⟩ .nilFunc) (fun h g1 g2 => ⟨h.1.keep g1 g2, h.2⟩) (.int .i8 0) (.int .i64 0) HI.out ((hu.allMono fun x e => (HY0.out x e).1).setCell b 0 .nilFunc (fun _ => HY.out)) (fun x e => (hs x e).imp_left fun e => (HY0.out x e).1)
        ⟨ht.keep (by simp [World.setCell]) (fun x e => Below.heap_setCell _ _ _ _ (fun e' => hb' (by have e'' : x = b := e'; exact e'' ▸ e))), hb'⟩)
      have HN := Lib.hid (cells_set2 (w := w1.setCell ⟨b, 0, none⟩ .nilFunc) ((Below.heap_setCell _ _ _ _ hne).trans hc1) (.int .i8 0) (.int .i64 0))
      have HB := Lib.hid (show (w1.setCell ⟨b, 0, none⟩ .nilFunc).cell? ⟨b, 0, none⟩ = some .nilFunc from World.cell?_setCell_same _ _ _ (by rw [cb]))
      clear hu hs ht hc1 cbA hb'
      go_wp2_with fail
      obtain ⟨n0, n1⟩ := HN.out
      obtain ⟨hu2, Y2, hs2, ht2, hb2⟩ := HQ.out
      refine bodyPost_ret (v := .tuple #[.agg #[.int .i8 0, .int .i64 0], .bool false]) (by simp [results, Try.results49, go_sem, n0, n1, hsz]) rfl ⟨rfl, ?_⟩
      have ht3 := ht2.keep (w' := ((((w1.setCell ⟨b, 0, none⟩ .nilFunc).setCell ⟨w.heap.size, 0, none⟩ (.int .i8 0)).setCell ⟨w.heap.size, 1, none⟩ (.int .i64 0)).alloc (.cells #[.int .i8 0, .int .i64 0] 28))) (by simp) (fun x e => Below.heap_alloc _ _ _ (by have := ht2.inside x e; omega))
      refine made_end HI.out HY.out hnb HK.out ((hu2.alloc _).alloc _) ?_ hs2 hb2 (ht3.keep (by simp) (fun x e => Below.heap_alloc _ _ _ (by have := ht3.inside x e; omega)))
      rw [World.cell?_alloc_lt _ _ _ (by simpa [World.setCell] using Nat.lt_succ_of_lt hbz), World.cell?_alloc_lt _ _ _ (by simpa [World.setCell] using hbz), World.cell?_setCell_other _ _ _ _ (fun e => hne (congrArg Addr.block e)), World.cell?_setCell_other _ _ _ _ (fun e => hne (congrArg Addr.block e))]
      exact HB.out
  · have HG := Lib.hid hG
    have HC := Lib.hid hc
    clear hG
    go_enter Try.func49, Try.ntmps49
    go_wp2_with fail
    refine bodyPost_ret (v := .tuple #[.agg #[.int .i8 0, .int .i64 0], .bool false]) (by simp [results, Try.results49, go_sem]) rfl ⟨rfl, ?_⟩
    have hu : Upd (allOf Y) w ((w.alloc (.cells #[.int .i8 0, .int .i64 0] 28)).alloc (.cells #[.int .i8 0, .int .i64 0] 28)) := ((Upd.refl _ _).alloc _).alloc _
    refine ⟨hu, Y, fun x e => .inl e, MadeAt.keep (w := w) ⟨HI.out, HY.out, ⟨tb, nb, hnb, HK.out⟩, .inr ⟨HC.out, rfl, HG.out⟩⟩ hu.size (fun x e => ?_)⟩
    have := HI.out x e
    exact (Below.heap_alloc _ _ _ (by simp; omega)).trans (Below.heap_alloc _ _ _ (by omega))
/-- Next of such a cursor is a function that tells. -/
theorem MadeAt.tells {G : (Nat → Prop) → List Th → World → Prop} {b : Nat} {Y : Nat → Prop} {L : List Th} {w : World} (h : MadeAt G b Y L w) : Tells 49 #[.pointer (some ⟨b, 0, none⟩)] (fun Y L w => MadeAt G b Y L w) Y L w :=
  ⟨h.inside, fun Y L w => MadeAt G b Y L w, Y, fun _ e => e, h, fun _ _ _ h => ⟨h.inside, h⟩, fun _ _ _ _ h => h.keep, fun _ _ _ h => next_any h⟩
end Go.Proofs.Ytcfnpbmkcdmafaa

/-
  A cursor of counted tuples that was made; contract of its Next.
-/
import Derived.Test.YtcfnpbmkcdmafaaMcA
namespace Go.Proofs.Ytcfnpbmkcdmafaa
open Go Go.RowKit Go.Shelf

def MadeC (n0 : Nat) (b : Nat) (Y : Nat → Prop) (L : List Ct) (w : World) : Prop :=
  (∀ k, Y k → n0 ≤ k ∧ k < w.heap.size) ∧ n0 ≤ w.heap.size ∧ Y b ∧ (∃ t n, 0 < n ∧ Bk w b t n) ∧
  ((∃ fv k lb Y0, w.cell? ⟨b, 0, none⟩ = some fv ∧ FvC fv k lb ∧ (∀ x, Y0 x → Y x ∧ x ≠ b) ∧ TellsC n0 k lb Y0 L w) ∨ (w.cell? ⟨b, 0, none⟩ = some .nilFunc ∧ L = []))
section
variable {n0 b : Nat} {Y Z : Nat → Prop} {L : List Ct} {w w' : World}
theorem MadeC.inside (h : MadeC n0 b Y L w) : ∀ k, Y k → n0 ≤ k ∧ k < w.heap.size := h.1
theorem MadeC.base (h : MadeC n0 b Y L w) : n0 ≤ w.heap.size := h.2.1
theorem MadeC.has (h : MadeC n0 b Y L w) : Y b := h.2.2.1
theorem MadeC.lt (h : MadeC n0 b Y L w) : ∀ k, Y k ∨ k < n0 → k < w.heap.size := fun k e => by
  rcases e with e | e
  · exact (h.inside k e).2
  · exact Nat.lt_of_lt_of_le e h.base
theorem MadeC.keep' (h : MadeC n0 b Y L w) (hs : w.heap.size ≤ w'.heap.size) (hb : ∀ x, Y x ∨ x < n0 → x ≠ b → w'.heap[x]? = w.heap[x]?) (hc : w'.cell? ⟨b, 0, none⟩ = w.cell? ⟨b, 0, none⟩) (hk : ∀ t n, Bk w b t n → Bk w' b t n) : MadeC n0 b Y L w' := by
  obtain ⟨h1, hn, h2, ⟨t, n, hn', h3⟩, h4⟩ := h
  refine ⟨fun k e => ⟨(h1 k e).1, Nat.lt_of_lt_of_le (h1 k e).2 hs⟩, Nat.le_trans hn hs, h2, ⟨t, n, hn', hk _ _ h3⟩, ?_⟩
  rcases h4 with ⟨fv, k, lb, Y0, e1, e2, e3, e4⟩ | ⟨e1, e2⟩
  · refine .inl ⟨fv, k, lb, Y0, hc.trans e1, e2, e3, e4.keep hs (fun x e => ?_)⟩
    rcases e with e | e
    · exact hb x (.inl (e3 x e).1) (e3 x e).2
    · exact hb x (.inr e) (fun e' => by have := (h1 b h2).1; omega)
  · exact .inr ⟨hc.trans e1, e2⟩
theorem MadeC.keep (h : MadeC n0 b Y L w) (hs : w.heap.size ≤ w'.heap.size) (hb : ∀ x, Y x ∨ x < n0 → w'.heap[x]? = w.heap[x]?) : MadeC n0 b Y L w' :=
  h.keep' hs (fun x e _ => hb x e) (World.cell?_of_block (a := ⟨b, 0, none⟩) (hb b (.inl h.has))) (fun _ _ e => e.of_heap (hb b (.inl h.has)))
theorem MadeC.alloc (h : MadeC n0 b Y L w) (o : Obj) : MadeC n0 b Y L (w.alloc o) := h.keep (by simp) (fun x e => Below.heap_alloc _ _ _ (by have := h.lt x e; omega))
theorem MadeC.below (h : MadeC n0 b Y L w) (hb : Below w.heap.size w w') : MadeC n0 b Y L w' := h.keep hb.size (fun x e => hb.block x (h.lt x e))
theorem MadeC.mono (h : MadeC n0 b Y L w) (hz : ∀ b, Y b → Z b) (hi : ∀ b, Z b → n0 ≤ b ∧ b < w.heap.size) : MadeC n0 b Z L w := by
  obtain ⟨h1, hn, h2, h3, h4⟩ := h
  refine ⟨hi, hn, hz _ h2, h3, ?_⟩
  rcases h4 with ⟨fv, k, lb, Y0, e1, e2, e3, e4⟩ | ⟨e1, e2⟩
  · exact .inl ⟨fv, k, lb, Y0, e1, e2, fun x e => ⟨hz x (e3 x e).1, (e3 x e).2⟩, e4⟩
  · exact .inr ⟨e1, e2⟩
end
theorem made_moreC {n0 b tb nb k : Nat} {lb : Array Value} {fv : Value} {Y Y0 Y' : Nat → Prop} {L L0 : List Ct} {h : Raw} {ok : Bool} {w w1 : World} (hI : ∀ x, Y x → n0 ≤ x ∧ x < w.heap.size) (hn : n0 ≤ w.heap.size) (hyb : Y b) (hnb : 0 < nb) (hk : Bk w b tb nb) (hY0 : ∀ x, Y0 x → Y x ∧ x ≠ b)
    (hu : Upd (allOf Y0) w w1) (hc : w1.cell? ⟨b, 0, none⟩ = some fv) (hf : FvC fv k lb) (hs : Sub w.heap.size Y0 Y') (ht : TellsC n0 k lb Y' L w1) (hd : HdC (SafeC n0 w.heap.size Y0 Y') w1 L0 h ok) :
    Upd (allOf Y) w w1 ∧ ∃ Y', Sub w.heap.size Y Y' ∧ MadeC n0 b Y' L w1 ∧ HdC (SafeC n0 w.heap.size Y Y') w1 L0 h ok := by
  have hbs := hI _ hyb
  refine ⟨hu.allMono fun x e => (hY0 x e).1, fun x => x = b ∨ Y' x, ?_, ⟨?_, Nat.le_trans hn hu.size, .inl rfl, ⟨tb, nb, hnb, hu.kind _ _ _ hk⟩, .inl ⟨fv, k, lb, Y', hc, hf, fun x e => ⟨.inr e, fun e' => ?_⟩, ht⟩⟩, hd.keep (fun x e _ => ?_) (fun _ _ _ => rfl)⟩
  · rintro x (rfl | e)
    · exact .inl hyb
    · exact (hs x e).imp_left fun e => (hY0 x e).1
  · rintro x (rfl | e)
    · exact ⟨hbs.1, Nat.lt_of_lt_of_le hbs.2 hu.size⟩
    · exact ht.inside x e
  · subst e'
    rcases hs _ e with h | h
    · exact (hY0 _ h).2 rfl
    · omega
  · rcases e with e | ⟨e1, e2, e3⟩
    · exact .inl e
    · refine .inr ⟨e1, e2.imp_left fun e => (hY0 x e).1, ?_⟩
      rintro (rfl | e)
      · rcases e2 with e2 | e2
        · exact (hY0 _ e2).2 rfl
        · omega
      · exact e3 e
theorem made_endC {n0 b tb nb : Nat} {Y : Nat → Prop} {h : Raw} {ok : Bool} {w w1 : World} (hI : ∀ x, Y x → n0 ≤ x ∧ x < w.heap.size) (hn : n0 ≤ w.heap.size) (hyb : Y b) (hnb : 0 < nb) (hk : Bk w b tb nb)
    (hu : Upd (allOf Y) w w1) (hc : w1.cell? ⟨b, 0, none⟩ = some .nilFunc) (hh : h = rawZ ∧ ok = false) : Upd (allOf Y) w w1 ∧ ∃ Y', Sub w.heap.size Y Y' ∧ MadeC n0 b Y' [] w1 ∧ HdC (SafeC n0 w.heap.size Y Y') w1 [] h ok := by
  have hbs := hI _ hyb
  exact ⟨hu, fun x => x = b, fun x e => .inl (by have e' : x = b := e; subst e'; exact hyb), ⟨by rintro x rfl; exact ⟨hbs.1, Nat.lt_of_lt_of_le hbs.2 hu.size⟩, Nat.le_trans hn hu.size, rfl, ⟨tb, nb, hnb, hu.kind _ _ _ hk⟩, .inr ⟨hc, rfl⟩⟩, hh⟩
theorem run_neq_nil_pointer_mC (W : World) (b : Nat) : (binOp .neq 129 (.pointer (some ⟨b, 0, none⟩)) (.pointer none)).run Try.prog W = .ok (.bool true) W := by kernel_rfl
theorem neq_fvC {fv : Value} {k : Nat} {lb : Array Value} (h : FvC fv k lb) (W : World) : (binOp .neq 96 fv .nilFunc).run Try.prog W = .ok (.bool true) W := by
  cases h with
  | clo k lb h => kernel_rfl
  | next b => kernel_rfl
theorem guard_fvC {fv : Value} {k : Nat} {lb : Array Value} (h : FvC fv k lb) (x y : Operand) (W : World) : (eqGuard .neq 96 x y fv .nilFunc).run Try.prog W = .ok () W := by
  cases h <;> rfl
theorem neq_nilfC (W : World) : (binOp .neq 96 .nilFunc .nilFunc).run Try.prog W = .ok (.bool false) W := by kernel_rfl
set_option maxRecDepth 100000 in
set_option maxHeartbeats 1000000 in
theorem next_anyC {n0 b : Nat} {Y : Nat → Prop} {L : List Ct} {w : World} (h : MadeC n0 b Y L w) :
    Calls Try.prog 83 #[.pointer (some ⟨b, 0, none⟩)] w (TellEndC n0 Y L (MadeC n0 b) w) := by
  obtain ⟨hin, hn0, hyb, ⟨tb, nb, hnb, hbk⟩, hcase⟩ := h
  have HI := Lib.hid hin
  have HN0 := Lib.hid hn0
  have HY := Lib.hid hyb
  have HK := Lib.hid hbk
  have hbl := (hin _ hyb).2
  have hfz := hbk.free 0
  have q0 : ∀ W : World, (binOp .neq 129 (.pointer (some ⟨b, 0, none⟩)) (.pointer none)).run Try.prog W = .ok (.bool true) W := fun W => run_neq_nil_pointer_mC W b
  have qn := neq_nilfC
  clear hin hyb hbk hn0
  rcases hcase with ⟨fv, k, lb, Y0, hc, hf, hY0, hT⟩ | ⟨hc, rfl⟩
  · have HT := Lib.hid (told_anyC hf (hT.alloc (.cells #[.slice none 0 0, .int .i64 0] 68)))
    have HJ := Lib.hid (fun x e => (hT.inside x e).2)
    have HF := Lib.hid hf
    have qf := neq_fvC hf
    have qg := guard_fvC hf
    have HY0 := Lib.hid hY0
    clear hT hf hY0
    cases L with
    | cons x r =>
      go_enter Try.func83, Try.ntmps83
      go_wp2_with fail
      refine HT.out.mono ?_
      rintro e w1 ⟨⟨⟨hp, hl, hcc⟩, hm⟩, ok, rfl, hu, Y', hs, ht, hd⟩
      obtain rfl : ok = true := hd.1
      have hc1 := upd_cell (fun x e => HJ.out x e) hu
      have hsz : w.heap.size < w1.heap.size := (Array.getElem?_eq_some_iff.1 hc1).1
      have hbz : b < w1.heap.size := by omega
      have hb1 : w1.heap[b]? = w.heap[b]? := (hu.block b (by simp; omega) (fun _ e => (HY0.out b e).2 rfl)).trans (Below.heap_alloc _ _ _ (by omega))
      have cb : w1.cell? ⟨b, 0, none⟩ = some fv := (World.cell?_of_block (a := ⟨b, 0, none⟩) hb1).trans hc
      have fb : w1.frozen? ⟨b, 0, none⟩ = false := (HK.out.of_heap hb1).free 0
      have hne : ¬ w.heap.size = b := by omega
      have hne' : ¬ b = w.heap.size := by omega
      have c0 := cell_of_row w1 w.heap.size 0 _ _ (0, 0) hc1
      have c1 := cell_of_row w1 w.heap.size 1 _ _ (0, 0) hc1
      have f0 := frozen_of_row w1 w.heap.size 0 _ _ hc1
      have f1 := frozen_of_row w1 w.heap.size 1 _ _ hc1
      have HQ := Lib.hid (told_afterC (P := TellsC n0 k lb) TellsC.keep (.slice hp hl hcc) (.int .i64 hm) HN0.out HJ.out hu hs ht hd)
      have HN := Lib.hid (cells_set2 hc1 (.slice hp hl hcc) (.int .i64 hm))
      have HC := Lib.hid cb
      clear hu hs ht hc1 hd
      go_wp2_with fail
      obtain ⟨n0', n1'⟩ := HN.out
      obtain ⟨hu2, Y2, hs2, ht2, hd2⟩ := HQ.out
      refine bodyPost_ret (v := .tuple #[.agg #[.slice hp hl hcc, .int .i64 hm], .bool true]) (by simp [results, Try.results83, go_sem, n0', n1', hsz]) rfl ⟨((hp, hl, hcc), hm), true, rfl, ?_⟩
      refine made_moreC HI.out HN0.out HY.out hnb HK.out HY0.out (hu2.alloc _) ?_ HF.out hs2 (ht2.alloc _) (hd2.keep (fun _ e _ => e) (fun x _ hx => Below.heap_alloc _ _ _ (by omega)))
      rw [World.cell?_alloc_lt _ _ _ (by simpa [World.setCell] using hbz), World.cell?_setCell_other _ _ _ _ (fun e => hne (congrArg Addr.block e)), World.cell?_setCell_other _ _ _ _ (fun e => hne (congrArg Addr.block e))]
      exact HC.out
    | nil =>
      go_enter Try.func83, Try.ntmps83
      go_wp2_with fail
      refine HT.out.mono ?_
      rintro e w1 ⟨h, ok, rfl, hu, Y', hs, ht, hd⟩
      obtain ⟨rfl, rfl⟩ := hd
      have hc1 := upd_cell (fun x e => HJ.out x e) hu
      have hsz : w.heap.size < w1.heap.size := (Array.getElem?_eq_some_iff.1 hc1).1
      have hbz : b < w1.heap.size := by omega
      have hb1 : w1.heap[b]? = w.heap[b]? := (hu.block b (by simp; omega) (fun _ e => (HY0.out b e).2 rfl)).trans (Below.heap_alloc _ _ _ (by omega))
      have cb : w1.cell? ⟨b, 0, none⟩ = some fv := (World.cell?_of_block (a := ⟨b, 0, none⟩) hb1).trans hc
      have fb : w1.frozen? ⟨b, 0, none⟩ = false := (HK.out.of_heap hb1).free 0
      have hne : ¬ w.heap.size = b := by omega
      have hne' : ¬ b = w.heap.size := by omega
      have c0 := cell_of_row w1 w.heap.size 0 _ _ (0, 0) hc1
      have c1 := cell_of_row w1 w.heap.size 1 _ _ (0, 0) hc1
      have f0 := frozen_of_row w1 w.heap.size 0 _ _ hc1
      have f1 := frozen_of_row w1 w.heap.size 1 _ _ hc1
      have HU := Lib.hid ((((((Upd.refl (allOf Y) w).alloc (.cells #[.slice none 0 0, .int .i64 0] 68)).trans (hu.allMono fun x e => (HY0.out x e).1)).setCell b 0 .nilFunc (fun _ => HY.out)).setCell w.heap.size 0 (.slice none 0 0) (fun h => absurd h (Nat.lt_irrefl _))).setCell w.heap.size 1 (.int .i64 0) (fun h => absurd h (Nat.lt_irrefl _)))
      have HN := Lib.hid (cells_set2 (w := w1.setCell ⟨b, 0, none⟩ .nilFunc) ((Below.heap_setCell _ _ _ _ hne).trans hc1) (.slice none 0 0) (.int .i64 0))
      have HB := Lib.hid (show (w1.setCell ⟨b, 0, none⟩ .nilFunc).cell? ⟨b, 0, none⟩ = some .nilFunc from World.cell?_setCell_same _ _ _ (by rw [cb]))
      clear hu hs ht hc1
      go_wp2_with fail
      obtain ⟨n0', n1'⟩ := HN.out
      refine bodyPost_ret (v := .tuple #[.agg #[.slice none 0 0, .int .i64 0], .bool false]) (by simp [results, Try.results83, go_sem, n0', n1', hsz]) rfl ⟨rawZ, false, rfl, ?_⟩
      refine made_endC HI.out HN0.out HY.out hnb HK.out ((HU.out.alloc _).alloc _) ?_ ⟨rfl, rfl⟩
      rw [World.cell?_alloc_lt _ _ _ (by simpa [World.setCell] using Nat.lt_succ_of_lt hbz), World.cell?_alloc_lt _ _ _ (by simpa [World.setCell] using hbz), World.cell?_setCell_other _ _ _ _ (fun e => hne (congrArg Addr.block e)), World.cell?_setCell_other _ _ _ _ (fun e => hne (congrArg Addr.block e))]
      exact HB.out
  · have HC := Lib.hid hc
    go_enter Try.func83, Try.ntmps83
    go_wp2_with fail
    refine bodyPost_ret (v := .tuple #[.agg #[.slice none 0 0, .int .i64 0], .bool false]) (by simp [results, Try.results83, go_sem]) rfl ⟨rawZ, false, rfl, ?_⟩
    refine made_endC HI.out HN0.out HY.out hnb HK.out (((Upd.refl _ _).alloc _).alloc _) ?_ ⟨rfl, rfl⟩
    rw [World.cell?_alloc_lt _ _ _ (by simp; omega), World.cell?_alloc_lt _ _ _ hbl]
    exact HC.out
/-- Next of such a cursor is a function that tells. -/
theorem MadeC.tells {n0 b : Nat} {Y : Nat → Prop} {L : List Ct} {w : World} (h : MadeC n0 b Y L w) : TellsC n0 83 #[.pointer (some ⟨b, 0, none⟩)] Y L w :=
  ⟨h.inside, h.base, fun Y L w => MadeC n0 b Y L w, Y, fun _ e => e, h, fun _ _ _ h => h.inside, fun _ _ _ _ h => h.keep, fun _ _ _ _ h => next_anyC h⟩
end Go.Proofs.Ytcfnpbmkcdmafaa

/-
  Contracts of merge.Once and of the document's Once.
-/
import Derived.Test.YtlccleafjpeccaaMhB
namespace Go.Proofs.Ytlccleafjpeccaa
open Go Go.RowKit Go.Shelf

/-- The condition of Once: the last one that was told. -/
def onStep (s : Option Th) (x : Th) : Bool × Option Th := match s with
  | none => (true, some x)
  | some y => if cmpT2 x y = 0 then (false, some y) else (true, some x)
abbrev onceL (L : List Th) : List Th := onlyL onStep none L
theorem cmp_swap (x y : Th) : cmpT2 y x = 0 ↔ cmpT2 x y = 0 := by
  unfold cmpT2
  constructor <;> intro h <;> (split at h <;> first | omega | (split at h <;> first | omega | (rw [if_neg (by omega), if_neg (by omega)])))
/-- The state of that condition in memory. -/
def OcHs (cb cc cl : Nat) (s : Option Th) (Y : Nat → Prop) (w : World) : Prop :=
  (∀ k, Y k → k < w.heap.size) ∧ Y cb ∧ Y cc ∧ Y cl ∧ (cb ≠ cl ∧ cb ≠ cc ∧ cc ≠ cl) ∧ w.heap[cb]? = some (.cells #[.bool s.isSome] 4 (0, 0)) ∧ w.heap[cc]? = some (.cells #[cmpFn] 42 (0, 0)) ∧
  ∃ y : Th, w.heap[cl]? = some (.cells #[.int .i8 y.1, .int .i64 y.2] 28 (0, 0)) ∧ ∀ z, s = some z → y = z
theorem OcHs.keep {cb cc cl : Nat} {s : Option Th} {Y : Nat → Prop} {w w' : World} (h : OcHs cb cc cl s Y w) (hs : w.heap.size ≤ w'.heap.size) (hb : ∀ k, Y k → w'.heap[k]? = w.heap[k]?) : OcHs cb cc cl s Y w' := by
  obtain ⟨h1, h2, h3, h4, h5, h6, h7, y, h8, h9⟩ := h
  exact ⟨fun k e => Nat.lt_of_lt_of_le (h1 k e) hs, h2, h3, h4, h5, (hb _ h2).trans h6, (hb _ h3).trans h7, y, (hb _ h4).trans h8, h9⟩
theorem OcHs.below {cb cc cl : Nat} {s : Option Th} {Y : Nat → Prop} {w w' : World} (h : OcHs cb cc cl s Y w) (hb : Below w.heap.size w w') : Upd (allOf Y) w w' ∧ ∃ Y', Sub w.heap.size Y Y' ∧ OcHs cb cc cl s Y' w' :=
  ⟨Upd.of_below hb, Y, fun _ e => .inl e, h.keep hb.size (fun k e => hb.block k (h.1 k e))⟩
/-- The new one is stored. -/
theorem OcHs.put {cb cc cl : Nat} {s : Option Th} {Y : Nat → Prop} {w w' : World} (h : OcHs cb cc cl s Y w) (hb : Below w.heap.size w w') (x : Th) :
    Upd (allOf Y) w (((w'.setCell ⟨cl, 0, none⟩ (.int .i8 x.1)).setCell ⟨cl, 1, none⟩ (.int .i64 x.2)).setCell ⟨cb, 0, none⟩ (.bool true)) ∧ ∃ Y', Sub w.heap.size Y Y' ∧ OcHs cb cc cl (some x) Y' (((w'.setCell ⟨cl, 0, none⟩ (.int .i8 x.1)).setCell ⟨cl, 1, none⟩ (.int .i64 x.2)).setCell ⟨cb, 0, none⟩ (.bool true)) := by
  obtain ⟨h1, h2, h3, h4, ⟨d1, d2, d3⟩, h6, h7, y, h8, h9⟩ := h
  have g6 := (hb.block _ (h1 _ h2)).trans h6
  have g7 := (hb.block _ (h1 _ h3)).trans h7
  have g8 := (hb.block _ (h1 _ h4)).trans h8
  refine ⟨((((Upd.of_below hb).setCell _ _ _ (fun _ => h4)).setCell _ _ _ (fun _ => h4)).setCell _ _ _ (fun _ => h2)), Y, fun k e => .inl e, fun k e => by have := h1 k e; have := hb.size; simp [World.setCell]; omega, h2, h3, h4, ⟨d1, d2, d3⟩, ?_, ?_, x, ?_, fun z e => by injection e⟩
  · have e6 := (Below.heap_setCell (w'.setCell ⟨cl, 0, none⟩ (.int .i8 x.1)) ⟨cl, 1, none⟩ (.int .i64 x.2) cb d1).trans ((Below.heap_setCell w' ⟨cl, 0, none⟩ (.int .i8 x.1) cb d1).trans g6)
    rw [Go.heap_setCell_same _ _ _ _ _ _ e6]
    rfl
  · exact (Below.heap_setCell _ ⟨cb, 0, none⟩ _ cc (Ne.symm d2)).trans ((Below.heap_setCell _ ⟨cl, 1, none⟩ _ cc d3).trans ((Below.heap_setCell _ ⟨cl, 0, none⟩ _ cc d3).trans g7))
  · have e8 := Go.heap_setCell_same _ cl 0 _ _ (.int .i8 x.1) g8
    have e9 := Go.heap_setCell_same _ cl 1 _ _ (.int .i64 x.2) e8
    exact (Below.heap_setCell _ ⟨cb, 0, none⟩ _ cl (Ne.symm d1)).trans e9
theorem OcHs.put1 {cb cc cl : Nat} {s : Option Th} {Y : Nat → Prop} {w : World} (h : OcHs cb cc cl s Y w) (x : Th) (o : Obj) :
    Upd (allOf Y) w ((((w.setCell ⟨cl, 0, none⟩ (.int .i8 x.1)).setCell ⟨cl, 1, none⟩ (.int .i64 x.2)).setCell ⟨cb, 0, none⟩ (.bool true)).alloc o) ∧ ∃ Y', Sub w.heap.size Y Y' ∧ OcHs cb cc cl (some x) Y' ((((w.setCell ⟨cl, 0, none⟩ (.int .i8 x.1)).setCell ⟨cl, 1, none⟩ (.int .i64 x.2)).setCell ⟨cb, 0, none⟩ (.bool true)).alloc o) := by
  obtain ⟨h1, Y', h2, h3⟩ := h.put (Below.refl _ _) x
  exact ⟨h1.alloc o, Y', h2, h3.keep (by simp) (fun k e => Below.heap_alloc _ _ _ (by have := h3.1 k e; omega))⟩
set_option maxRecDepth 100000 in
set_option maxHeartbeats 2000000 in
theorem once1_any {cb cc cl : Nat} {s : Option Th} {Y : Nat → Prop} {w : World} (x : Th) (h : OcHs cb cc cl s Y w) : Calls Try.prog 55 #[thV x, .pointer (some ⟨cb, 0, none⟩), .pointer (some ⟨cc, 0, none⟩), .pointer (some ⟨cl, 0, none⟩)] w fun e w' =>
    e = .returned (.bool (onStep s x).1) ∧ Upd (allOf Y) w w' ∧ ∃ Y', Sub w.heap.size Y Y' ∧ OcHs cb cc cl (onStep s x).2 Y' w' := by
  have HO := Lib.hid h
  obtain ⟨h1, h2, h3, h4, ⟨d1, d2, d3⟩, h6, h7, y, h8, h9⟩ := h
  have l2 := h1 _ h2
  have l3 := h1 _ h3
  have l4 := h1 _ h4
  have c6 := cell_of_row _ _ 0 _ _ (0, 0) h6
  have c7 := cell_of_row _ _ 0 _ _ (0, 0) h7
  have c80 := cell_of_row _ _ 0 _ _ (0, 0) h8
  have c81 := cell_of_row _ _ 1 _ _ (0, 0) h8
  have hb1 := below_new' w (.cells #[.int .i8 x.1, .int .i64 x.2] 28)
  have n1 : w.heap.size ≠ cb := by omega
  have n2 : w.heap.size ≠ cl := by omega
  have f6 := fun (W : World) (hb : Below w.heap.size w W) => frozen_of_row W cb 0 _ _ ((hb.block _ l2).trans h6)
  have f80 := fun (W : World) (hb : Below w.heap.size w W) => frozen_of_row W cl 0 _ _ ((hb.block _ l4).trans h8)
  have f81 := fun (W : World) (hb : Below w.heap.size w W) => frozen_of_row W cl 1 _ _ ((hb.block _ l4).trans h8)
  cases s with
  | none =>
    have c6' : w.cell? ⟨cb, 0, none⟩ = some (.bool false) := c6
    have HP := Lib.hid (HO.out.put1 x (.cells #[.int .i8 x.1, .int .i64 x.2] 28))
    have g0 := f80 _ (Below.refl _ _)
    have g1 := f81 _ (Below.refl _ _)
    have g2 := f6 _ (Below.refl _ _)
    clear h1 h2 h3 h4 h6 h7 h8 h9 f6 f80 f81 c6
    unfold onStep
    go_enter Try.func55, Try.ntmps55
    go_wp2_with fail
    go_ret
    exact ⟨rfl, HP.out⟩
  | some y' =>
    obtain rfl := h9 y' rfl
    have c6' : w.cell? ⟨cb, 0, none⟩ = some (.bool true) := c6
    obtain ⟨z, hz⟩ : ∃ z, z = cmpT2 x y := ⟨_, rfl⟩
    have HC := Lib.hid (cmp_any x y (w.alloc (.cells #[.int .i8 x.1, .int .i64 x.2] 28)))
    rw [← hz] at HC
    have HF := Lib.hid (show ∀ W, Below w.heap.size w W → W.frozen? ⟨cl, 0, none⟩ = false ∧ W.frozen? ⟨cl, 1, none⟩ = false ∧ W.frozen? ⟨cb, 0, none⟩ = false from fun W hb => ⟨f80 W hb, f81 W hb, f6 W hb⟩)
    have HCs := Lib.hid (show ∀ W, Below w.heap.size w W → W.cell? ⟨cl, 0, none⟩ = some (.int .i8 y.1) ∧ W.cell? ⟨cl, 1, none⟩ = some (.int .i64 y.2) ∧ W.cell? ⟨cb, 0, none⟩ = some (.bool true) from fun W hb => ⟨(hb.cell (p := ⟨cl, 0, none⟩) l4).trans c80, (hb.cell (p := ⟨cl, 1, none⟩) l4).trans c81, (hb.cell (p := ⟨cb, 0, none⟩) l2).trans c6⟩)
    have HB1 := Lib.hid hb1
    by_cases hz0 : z = 0
    · have e1 : onStep (some y) x = (false, some y) := by unfold onStep; simp only; rw [if_pos (by rw [← hz]; exact hz0)]
      rw [e1]
      subst hz0
      clear h1 h2 h3 h4 h6 h7 h8 h9 f6 f80 f81 c6 hz hb1 e1
      go_enter Try.func55, Try.ntmps55
      go_wp2_with fail
      refine HC.out.mono ?_
      rintro e w2 ⟨rfl, hb2⟩
      have hb3 := HB1.out.trans (hb2.mono HB1.out.size)
      have HP := Lib.hid (HO.out.below hb3)
      clear hb2 hb3
      go_wp2_with fail
      go_ret
      exact ⟨rfl, HP.out⟩
    · have e1 : onStep (some y) x = (true, some x) := by unfold onStep; simp only; rw [if_neg (by rw [← hz]; exact hz0)]
      rw [e1]
      have hz2 : (z == 0) = false := by simpa using hz0
      clear h1 h2 h3 h4 h6 h7 h8 h9 f6 f80 f81 c6 hz hb1 e1
      go_enter Try.func55, Try.ntmps55
      go_wp2_with fail
      refine HC.out.mono ?_
      rintro e w2 ⟨rfl, hb2⟩
      have hb3 := HB1.out.trans (hb2.mono HB1.out.size)
      have HP := Lib.hid (HO.out.put hb3 x)
      obtain ⟨g0, g1, g2⟩ := HF.out w2 hb3
      obtain ⟨k0, k1, k2⟩ := HCs.out w2 hb3
      have x1 : w2.cell? ⟨w.heap.size, 0, none⟩ = some (.int .i8 x.1) := (hb2.cell (p := ⟨w.heap.size, 0, none⟩) (by simp)).trans (by rw [cell_of_row _ _ 0 _ _ (0, 0) (heap_alloc_new w _)]; rfl)
      have x2 : w2.cell? ⟨w.heap.size, 1, none⟩ = some (.int .i64 x.2) := (hb2.cell (p := ⟨w.heap.size, 1, none⟩) (by simp)).trans (by rw [cell_of_row _ _ 1 _ _ (0, 0) (heap_alloc_new w _)]; rfl)
      clear hb2 hb3
      go_wp2_with fail
      go_ret
      exact ⟨rfl, HP.out⟩
theorem once_holds (cb cc cl : Nat) : HoldsOk 55 #[.pointer (some ⟨cb, 0, none⟩), .pointer (some ⟨cc, 0, none⟩), .pointer (some ⟨cl, 0, none⟩)] (OcHs cb cc cl) onStep where
  enter := enters_of Try.func55 (by kernel_rfl) rfl
  inside h := h.1
  keep h hs hb := h.keep hs hb
  call x h := once1_any x h
set_option maxRecDepth 100000 in
set_option maxHeartbeats 2000000 in
theorem once_any {c : CurC} {F : Nat → Prop} {w : World} (hc : CurAt c F w) :
    Calls Try.prog 25 #[cmpFn, curO c.1] w (OverCur F (onceL c.2) w) := by
  have hmf : ∀ (fn : Fn) (first cap : Array Value) (w : World), (Instr.makeFunc fn first cap).run Try.prog w = .ok (.func fn first cap) w := fun _ _ _ _ => rfl
  have q1 := eqlCmp
  obtain ⟨co, hco⟩ : ∃ co, co = c.1 := ⟨_, rfl⟩
  rw [← hco]
  have HCo := Lib.hid hco
  have HCc := Lib.hid hc
  clear hco
  go_enter Try.func25, Try.ntmps25
  go_wp2_with fail
  have hb3 : Below w.heap.size w (((w.alloc (.cells #[cmpFn] 42)).alloc (.cells #[.int .i8 0, .int .i64 0] 28)).alloc (.cells #[.bool false] 4)) := (((Below.refl _ _).alloc (Nat.le_refl _) _).alloc (by simp) _).alloc (by simp; omega) _
  have hz : OcHs (w.heap.size + 2) w.heap.size (w.heap.size + 1) none (fun k => k = w.heap.size ∨ k = w.heap.size + 1 ∨ k = w.heap.size + 2) (((w.alloc (.cells #[cmpFn] 42)).alloc (.cells #[.int .i8 0, .int .i64 0] 28)).alloc (.cells #[.bool false] 4)) := by
    refine ⟨fun k e => by simp; omega, .inr (.inr rfl), .inl rfl, .inr (.inl rfl), ⟨by omega, by omega, by omega⟩, ?_, ?_, (0, 0), ?_, fun z e => by cases e⟩
    · simpa using heap_alloc_new ((w.alloc (.cells #[cmpFn] 42)).alloc (.cells #[.int .i8 0, .int .i64 0] 28)) (.cells #[.bool false] 4)
    · exact (Below.heap_alloc _ _ _ (by simp; omega)).trans ((Below.heap_alloc _ _ _ (by simp)).trans (heap_alloc_new w _))
    · refine (Below.heap_alloc _ _ _ (by simp)).trans ?_
      simpa using heap_alloc_new (w.alloc (.cells #[cmpFn] 42)) (.cells #[.int .i8 0, .int .i64 0] 28)
  have HOn := Lib.hid (only_any (once_holds (w.heap.size + 2) w.heap.size (w.heap.size + 1)) (c := c) (F := F) (HCc.out.keep hb3.size (fun x e => hb3.block x (HCc.out.inside x e))) hz (fun k e e' => by have := HCc.out.inside k e; omega))
  rw [← HCo.out] at HOn
  have HB3 := Lib.hid hb3
  clear hb3 hz hc
  refine HOn.out.mono ?_
  rintro e w2 ⟨bb, Y2, rfl, hm2, hy2, hb4⟩
  have HM := Lib.hid (And.intro hm2 (And.intro hy2 hb4))
  clear hm2 hy2 hb4
  go_wp2_with fail
  go_ret
  obtain ⟨hm2, hy2, hb4⟩ := HM.out
  refine ⟨bb, Y2, rfl, hm2, fun k e => ?_, HB3.out.trans (hb4.mono HB3.out.size)⟩
  have hz := HB3.out.size
  rcases hy2 k e with (e | e | e | e) | e
  · exact .inl e
  · exact .inr (by omega)
  · exact .inr (by omega)
  · exact .inr (by omega)
  · exact .inr (by omega)
end Go.Proofs.Ytlccleafjpeccaa

/-
  A sum of no cursor: the closures of Merge and Sum where there is nothing to tell.
-/
import Derived.Test.YtcfnpbmkcdmafaaMcC
namespace Go.Proofs.Ytcfnpbmkcdmafaa
open Go Go.RowKit Go.Shelf

abbrev byFn : Value := .func (.func 68) #[] #[]
set_option maxRecDepth 100000 in
theorem least_zero (w : World) : Calls Try.prog 86 #[byFn, .slice none 0 0] w fun e w' => e = .returned (.pointer none) ∧ w' = w := by
  go_enter Try.func86, Try.ntmps86
  go_wp2_with fail
  go_loopw [5, 12] (fun kp i wr => kp = .pointer none ∧ i = .int .i64 0 ∧ Hid (wr = w)) (fun _ _ _ => 0)
  case atStart => exact ⟨rfl, rfl, by first | exact Lib.hid rfl | exact Lib.hid trivial⟩
  case round =>
    obtain ⟨rfl, rfl, HW⟩ := hrel
    go_wp2_with fail
    go_ret
    exact ⟨rfl, HW.out⟩
theorem neqSrc_nilC (W : World) : (binOp .neq 105 (.pointer none) (.pointer none)).run Try.prog W = .ok (.bool false) W := by kernel_rfl
/-- What the closure of Merge keeps, where there are no sources. -/
def MzJ (n0 cc cs : Nat) (Y : Nat → Prop) (L : List Ct) (w : World) : Prop :=
  (∀ b, Y b → n0 ≤ b ∧ b < w.heap.size) ∧ L = [] ∧ Y cc ∧ Y cs ∧ w.heap[cc]? = some (.cells #[byFn] 108 (0, 0)) ∧ w.heap[cs]? = some (.cells #[.slice none 0 0] 127 (0, 0))
theorem MzJ.keep {n0 cc cs : Nat} {Y : Nat → Prop} {L : List Ct} {w w' : World} (h : MzJ n0 cc cs Y L w) (hs : w.heap.size ≤ w'.heap.size) (hb : ∀ b, Y b ∨ b < n0 → w'.heap[b]? = w.heap[b]?) : MzJ n0 cc cs Y L w' := by
  obtain ⟨h1, h2, h3, h4, h5, h6⟩ := h
  exact ⟨fun b e => ⟨(h1 b e).1, Nat.lt_of_lt_of_le (h1 b e).2 hs⟩, h2, h3, h4, (hb _ (.inl h3)).trans h5, (hb _ (.inl h4)).trans h6⟩
theorem lt_of {n0 : Nat} {Y : Nat → Prop} {w : World} (h : ∀ b, Y b → n0 ≤ b ∧ b < w.heap.size) (hn : n0 ≤ w.heap.size) : ∀ b, Y b ∨ b < n0 → b < w.heap.size := fun b e => by
  rcases e with e | e
  · exact (h b e).2
  · omega
set_option maxRecDepth 100000 in
set_option maxHeartbeats 1000000 in
theorem merge1_zero {n0 cc cs : Nat} {Y : Nat → Prop} {L : List Ct} {w : World} (hn : n0 ≤ w.heap.size) (h : MzJ n0 cc cs Y L w) : Calls Try.prog 85 #[.pointer (some ⟨cc, 0, none⟩), .pointer (some ⟨cs, 0, none⟩)] w (TellEndC n0 Y L (MzJ n0 cc cs) w) := by
  have HH := Lib.hid h
  obtain ⟨h1, rfl, h3, h4, h5, h6⟩ := h
  have l1 := (h1 _ h3).2
  have l2 := (h1 _ h4).2
  have c1 := cell_of_row _ _ 0 _ _ (0, 0) h5
  have c2 := cell_of_row _ _ 0 _ _ (0, 0) h6
  have q := neqSrc_nilC
  clear h1 h3 h4 h5 h6
  go_enter Try.func85, Try.ntmps85
  go_wp2_with fail
  refine (least_zero _).mono ?_
  rintro e w1 ⟨rfl, rfl⟩
  go_wp2_with fail
  refine bodyPost_ret (v := .tuple #[.agg #[.slice none 0 0, .int .i64 0], .bool false]) (by simp [results, Try.results85, go_sem]) rfl ⟨rawZ, false, rfl, (Upd.refl _ _).alloc _, Y, fun b e => .inl e, HH.out.keep (by simp) (fun b e => Below.heap_alloc _ _ _ (lt_of HH.out.1 hn b e)), rfl, rfl⟩
theorem MzJ.tells {n0 cc cs : Nat} {Y : Nat → Prop} {L : List Ct} {w : World} (hn : n0 ≤ w.heap.size) (h : MzJ n0 cc cs Y L w) : TellsC n0 85 #[.pointer (some ⟨cc, 0, none⟩), .pointer (some ⟨cs, 0, none⟩)] Y L w :=
  ⟨h.1, hn, MzJ n0 cc cs, Y, fun _ e => e, h, fun _ _ _ h => h.1, fun _ _ _ _ h => h.keep, fun _ _ _ hn h => merge1_zero hn h⟩
theorem eqlByC (W : World) : (binOp .eql 108 byFn .nilFunc).run Try.prog W = .ok (.bool false) W := by kernel_rfl
/-- A new cursor: all that it has lies in new blocks. -/
def NewC (n0 : Nat) (L : List Ct) (w : World) (e : Ending) (w' : World) : Prop := ∃ b Y, e = .returned (curVC b) ∧ MadeC n0 b Y L w' ∧ (∀ k, Y k → w.heap.size ≤ k) ∧ Below w.heap.size w w'
set_option maxRecDepth 100000 in
set_option maxHeartbeats 1000000 in
theorem merge_zero (w : World) : Calls Try.prog 67 #[byFn, .slice none 0 0] w (NewC w.heap.size [] w) := by
  have hmf : ∀ (fn : Fn) (first cap : Array Value) (w : World), (Instr.makeFunc fn first cap).run Try.prog w = .ok (.func fn first cap) w := fun _ _ _ _ => rfl
  have q := eqlByC
  have hb2 : Below w.heap.size w ((w.alloc (.cells #[byFn] 108)).alloc (.cells #[.slice none 0 0] 127)) := ((Below.refl _ _).alloc (Nat.le_refl _) _).alloc (by simp) _
  have HJ := Lib.hid (show MzJ w.heap.size w.heap.size (w.heap.size + 1) (fun k => k = w.heap.size ∨ k = w.heap.size + 1) [] ((w.alloc (.cells #[byFn] 108)).alloc (.cells #[.slice none 0 0] 127)) from by
    refine ⟨fun b e => by simp; omega, rfl, .inl rfl, .inr rfl, (Below.heap_alloc _ _ _ (by simp)).trans (heap_alloc_new w _), ?_⟩
    simpa using heap_alloc_new (w.alloc (.cells #[byFn] 108)) (.cells #[.slice none 0 0] 127))
  have HB := Lib.hid hb2
  clear hb2
  go_enter Try.func67, Try.ntmps67
  go_wp2_with fail
  obtain ⟨W, hW⟩ : ∃ W, W = (w.alloc (.cells #[byFn] 108)).alloc (.cells #[.slice none 0 0] 127) := ⟨_, rfl⟩
  rw [← hW] at HJ HB ⊢
  clear hW
  go_loopw [13] (fun i wr => i = .int .i64 0 ∧ Hid (wr = W)) (fun _ _ => 0)
  case atStart => exact ⟨rfl, by first | exact Lib.hid rfl | exact Lib.hid trivial⟩
  case round =>
    obtain ⟨rfl, HW⟩ := hrel
    obtain rfl := HW.out
    go_wp2_with fail
    refine (cursor_anyC _ _ _).mono ?_
    rintro e w2 ⟨rfl, rfl⟩
    go_wp2_with fail
    go_ret
    refine ⟨_, _, rfl, made_newC 122 (FvC.clo _ _ (enters_of Try.func85 (by kernel_rfl) rfl)) (HJ.out.tells HB.out.size), ?_, HB.out.alloc HB.out.size _⟩
    rintro k (rfl | rfl | rfl)
    · exact HB.out.size
    · exact Nat.le_refl _
    · exact Nat.le_succ _
/-- What the closure of Sum keeps, where nothing is left. -/
def SuZ (n0 cb : Nat) (Y : Nat → Prop) (L : List Ct) (w : World) : Prop :=
  (∀ b, Y b → n0 ≤ b ∧ b < w.heap.size) ∧ L = [] ∧ Y cb ∧ ∃ s tk Ys, w.heap[cb]? = some (.cells #[.pointer (some ⟨s, 0, none⟩)] 105 (0, 0)) ∧ SrcC n0 s tk Ys [] w ∧ ∀ k, Ys k → Y k ∧ k ≠ cb
theorem SuZ.keep {n0 cb : Nat} {Y : Nat → Prop} {L : List Ct} {w w' : World} (h : SuZ n0 cb Y L w) (hs : w.heap.size ≤ w'.heap.size) (hb : ∀ b, Y b ∨ b < n0 → w'.heap[b]? = w.heap[b]?) : SuZ n0 cb Y L w' := by
  obtain ⟨h1, h2, h3, s, tk, Ys, h4, h5, h6⟩ := h
  exact ⟨fun b e => ⟨(h1 b e).1, Nat.lt_of_lt_of_le (h1 b e).2 hs⟩, h2, h3, s, tk, Ys, (hb _ (.inl h3)).trans h4, h5.keep hs (fun b e => hb b (e.imp_left fun e => (h6 b e).1)), h6⟩
set_option maxRecDepth 100000 in
set_option maxHeartbeats 1000000 in
theorem sum1_zero {n0 cb : Nat} {Y : Nat → Prop} {L : List Ct} {w : World} (hn : n0 ≤ w.heap.size) (h : SuZ n0 cb Y L w) : Calls Try.prog 70 #[.pointer (some ⟨cb, 0, none⟩)] w (TellEndC n0 Y L (SuZ n0 cb) w) := by
  obtain ⟨h1, rfl, h3, s, tk, Ys, h4, h5, h6⟩ := h
  have hl := (h1 _ h3).2
  have c1 := cell_of_row _ _ 0 _ _ (0, 0) h4
  have HT := Lib.hid (take_anyC (h5.alloc (.cells #[.slice none 0 0, .int .i64 0] 68)))
  have HH := Lib.hid (And.intro h1 (And.intro h3 (And.intro h4 h6)))
  clear h1 h3 h4 h5 h6
  go_enter Try.func70, Try.ntmps70
  go_wp2_with fail
  refine HT.out.mono ?_
  rintro e w1 ⟨h, ok, rfl, hu, Y', hs, hsrc, hd⟩
  obtain ⟨rfl, rfl⟩ := hd
  have hc1 := upd_cell (fun k e => (HH.out.1 k (HH.out.2.2.2 k e).1).2) hu
  have hsz : w.heap.size < w1.heap.size := (Array.getElem?_eq_some_iff.1 hc1).1
  have d0 := cell_of_row w1 w.heap.size 0 _ _ (0, 0) hc1
  have d1 := cell_of_row w1 w.heap.size 1 _ _ (0, 0) hc1
  have g0 := frozen_of_row w1 w.heap.size 0 _ _ hc1
  have g1 := frozen_of_row w1 w.heap.size 1 _ _ hc1
  rw [World.size_alloc] at hs
  have HE := Lib.hid (show ∀ W', Upd (fun k _ => Y k ∨ k = w.heap.size) w1 W' → (∀ b, b < w1.heap.size → b ≠ w.heap.size → W'.heap[b]? = w1.heap[b]?) → Upd (allOf Y) w W' ∧ ∃ Y2, Sub w.heap.size Y Y2 ∧ SuZ n0 cb Y2 [] W' ∧ HdC (SafeC n0 w.heap.size Y Y2) W' [] rawZ false from fun W' hu' hb' => by
    obtain ⟨h1, h3, h4, h6⟩ := HH.out
    have hcb := h1 _ h3
    have hYs : ¬ Ys cb := fun e => (h6 cb e).2 rfl
    have hin := hsrc.inside
    refine ⟨(((Upd.refl (allOf Y) w).alloc _).trans (hu.allMono fun k e => (h6 k e).1)).then hu' (fun x _ hx e => e.resolve_right (by omega)), fun k => Y k ∨ Y' k, fun b e => ?_, ⟨fun b e => ?_, rfl, .inl h3, s, false, Y', ?_, hsrc.keep hu'.size (fun b e => hb' b (hsrc.lt b e) fun e' => ?_), fun k e => ⟨.inr e, fun e' => ?_⟩⟩, rfl, rfl⟩
    · rcases e with e | e
      · exact .inl e
      · rcases hs b e with e | e
        · exact .inl (h6 b e).1
        · exact .inr (by omega)
    · rcases e with e | e
      · have := h1 b e; have := hu.size; have := hu'.size; simp at *; omega
      · have := hin b e; have := hu'.size; omega
    · refine (hb' cb (by omega) (by omega)).trans ((hu.block cb (by simp; omega) (fun _ e => hYs e)).trans ((Below.heap_alloc _ _ _ (by omega)).trans h4))
    · subst e'
      rcases e with e | e
      · rcases hs _ e with e | e
        · have := (h1 _ (h6 _ e).1).2; omega
        · omega
      · omega
    · subst e'
      rcases hs _ e with e | e
      · exact hYs e
      · omega)
  have HU := Lib.hid (And.intro hsz hc1)
  clear hu hs hsrc hc1 HT
  go_wp2_with fail
  obtain ⟨W, hW⟩ : ∃ W, W = w1.alloc (.cells #[.slice none 0 0, .int .i64 0] 68) := ⟨_, rfl⟩
  rw [← hW]
  have HW := Lib.hid hW
  clear hW d0 d1 g0 g1
  go_loopw [12] (fun _ wr => Hid (wr = W)) (fun _ _ => 0)
  case atStart => first | exact Lib.hid rfl | exact Lib.hid trivial
  case round =>
    obtain rfl := hrel.out
    have e0 : wr.cell? ⟨w1.heap.size, 0, none⟩ = some (.slice none 0 0) := by rw [HW.out, cell_of_row _ _ 0 _ _ (0, 0) (heap_alloc_new w1 _)]; rfl
    have e1 : wr.cell? ⟨w1.heap.size, 1, none⟩ = some (.int .i64 0) := by rw [HW.out, cell_of_row _ _ 1 _ _ (0, 0) (heap_alloc_new w1 _)]; rfl
    have hh : wr.heap[w.heap.size]? = some (.cells #[.slice none 0 0, .int .i64 0] 68 (0, 0)) := by rw [HW.out]; exact (Below.heap_alloc _ _ _ (by have := HU.out.1; omega)).trans HU.out.2
    have d0 := cell_of_row wr w.heap.size 0 _ _ (0, 0) hh
    have d1 := cell_of_row wr w.heap.size 1 _ _ (0, 0) hh
    have g0 := frozen_of_row wr w.heap.size 0 _ _ hh
    have g1 := frozen_of_row wr w.heap.size 1 _ _ hh
    have HN := Lib.hid (cells_set2 hh (.slice none 0 0) (.int .i64 0))
    have HZ := Lib.hid (HE.out ((wr.setCell ⟨w.heap.size, 0, none⟩ (.slice none 0 0)).setCell ⟨w.heap.size, 1, none⟩ (.int .i64 0)) ?hu ?hb)
    case hu =>
      rw [HW.out]
      exact (((Upd.refl _ w1).alloc _).setCell _ _ _ (fun _ => .inr rfl)).setCell _ _ _ (fun _ => .inr rfl)
    case hb =>
      intro b hb hne
      rw [HW.out]
      exact (Below.heap_setCell _ _ _ _ hne).trans ((Below.heap_setCell _ _ _ _ hne).trans (Below.heap_alloc _ _ _ (by omega)))
    clear hh
    go_wp2_with fail
    obtain ⟨n0', n1'⟩ := HN.out
    refine bodyPost_ret (v := .tuple #[.agg #[.slice none 0 0, .int .i64 0], .bool false]) (by simp [results, Try.results70, go_sem, n0', n1']) rfl ⟨rawZ, false, rfl, HZ.out⟩
end Go.Proofs.Ytcfnpbmkcdmafaa

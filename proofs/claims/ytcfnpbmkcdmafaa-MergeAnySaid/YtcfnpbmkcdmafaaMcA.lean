/-
  Cursors of counted tuples: what is told, who tells. All their blocks lie from n0 on; what lies below is read alone.
-/
import Derived.Test.YtcfnpbmkcdmafaaMgGh
import Derived.Test.YtcfnpbmkcdmafaaTupW
namespace Go.Proofs.Ytcfnpbmkcdmafaa
open Go Go.RowKit Go.Shelf

/-- A counted tuple; how it lies in a slot: its slice and its count. -/
abbrev Ct := List V3 × Int
abbrev Raw := (Option Addr × Nat × Nat) × Int
abbrev rawS (h : Raw) : Value := .slice h.1.1 h.1.2.1 h.1.2.2
abbrev rawV (h : Raw) : Value := .agg #[.slice h.1.1 h.1.2.1 h.1.2.2, .int .i64 h.2]
abbrev rawZ : Raw := ((none, 0, 0), 0)
/-- What Next answers where these are left; the tuple lies in a block of S. -/
def HdC (S : Nat → Prop) (w : World) : List Ct → Raw → Bool → Prop
  | [], h, ok => h = rawZ ∧ ok = false
  | x :: _, h, ok => ok = true ∧ h.2 = x.2 ∧ TupS S w (rawS h) x.1
theorem TupS.keep {S S' : Nat → Prop} {w w' : World} {v : Value} {T : List V3} (h : TupS S w v T) (hS : ∀ k, S k → k < w.heap.size → S' k) (hb : ∀ k, S k → k < w.heap.size → w'.heap[k]? = w.heap[k]?) : TupS S' w' v T :=
  h.inside.same (fun k e => hS k e.1 e.2) (fun b o e => World.cell?_of_block (a := ⟨b, o, none⟩) (hb b e.1 e.2))
theorem HdC.keep {S S' : Nat → Prop} {w w' : World} {L : List Ct} {h : Raw} {ok : Bool} (hd : HdC S w L h ok) (hS : ∀ k, S k → k < w.heap.size → S' k) (hb : ∀ k, S k → k < w.heap.size → w'.heap[k]? = w.heap[k]?) : HdC S' w' L h ok := by
  cases L with
  | nil => exact hd
  | cons x r => exact ⟨hd.1, hd.2.1, hd.2.2.keep hS hb⟩
/-- A function value that is called without arguments. -/
inductive FvC : Value → Nat → Array Value → Prop
  | clo (k : Nat) (lb : Array Value) (h : ∀ args w, (callFunc k args).run Try.prog w = .ok (.enter k args) w) : FvC (.func (.func k) #[] lb) k lb
  | next (b : Nat) : FvC (.func (.method "Next") #[.iface 129 (.pointer (some ⟨b, 0, none⟩))] #[]) 83 #[.pointer (some ⟨b, 0, none⟩)]
/-- Where a tuple that was told may lie: below n0, or in a block that was the teller's, or new, and is the teller's no more. -/
def SafeC (n0 n : Nat) (Y Y' : Nat → Prop) : Nat → Prop := fun b => b < n0 ∨ (n0 ≤ b ∧ (Y b ∨ n ≤ b) ∧ ¬ Y' b)
/-- What a call that tells the next of L leaves. -/
def TellEndC (n0 : Nat) (Y : Nat → Prop) (L : List Ct) (P : (Nat → Prop) → List Ct → World → Prop) (w : World) (e : Ending) (w' : World) : Prop :=
  ∃ h ok, e = .returned (.tuple #[rawV h, .bool ok]) ∧ Upd (allOf Y) w w' ∧ ∃ Y', Sub w.heap.size Y Y' ∧ P Y' L.tail w' ∧ HdC (SafeC n0 w.heap.size Y Y') w' L h ok
def TellsC (n0 : Nat) (k : Nat) (lb : Array Value) (Y : Nat → Prop) (L : List Ct) (w : World) : Prop :=
  (∀ b, Y b → n0 ≤ b ∧ b < w.heap.size) ∧ n0 ≤ w.heap.size ∧ ∃ (J : (Nat → Prop) → List Ct → World → Prop) (Y0 : Nat → Prop), (∀ b, Y0 b → Y b) ∧ J Y0 L w ∧
    (∀ Y L w, J Y L w → ∀ b, Y b → n0 ≤ b ∧ b < w.heap.size) ∧
    (∀ Y L w w', J Y L w → w.heap.size ≤ w'.heap.size → (∀ b, Y b ∨ b < n0 → w'.heap[b]? = w.heap[b]?) → J Y L w') ∧
    (∀ Y L w, n0 ≤ w.heap.size → J Y L w → Calls Try.prog k lb w (TellEndC n0 Y L J w))
section
variable {n0 k : Nat} {lb : Array Value} {Y Z : Nat → Prop} {L : List Ct} {w w' : World}
theorem TellsC.inside (h : TellsC n0 k lb Y L w) : ∀ b, Y b → n0 ≤ b ∧ b < w.heap.size := h.1
theorem TellsC.base (h : TellsC n0 k lb Y L w) : n0 ≤ w.heap.size := h.2.1
theorem TellsC.keep (h : TellsC n0 k lb Y L w) (hs : w.heap.size ≤ w'.heap.size) (hb : ∀ b, Y b ∨ b < n0 → w'.heap[b]? = w.heap[b]?) : TellsC n0 k lb Y L w' := by
  obtain ⟨h0, hn, J, Y0, hy, h1, h2, h3, h4⟩ := h
  exact ⟨fun b e => ⟨(h0 b e).1, Nat.lt_of_lt_of_le (h0 b e).2 hs⟩, Nat.le_trans hn hs, J, Y0, hy, h3 _ _ _ _ h1 hs (fun b e => hb b (e.imp_left (hy b))), h2, h3, h4⟩
theorem TellsC.lt (h : TellsC n0 k lb Y L w) : ∀ b, Y b ∨ b < n0 → b < w.heap.size := fun b e => by
  rcases e with e | e
  · exact (h.inside b e).2
  · exact Nat.lt_of_lt_of_le e h.base
theorem TellsC.alloc (h : TellsC n0 k lb Y L w) (o : Obj) : TellsC n0 k lb Y L (w.alloc o) := h.keep (by simp) (fun b e => Below.heap_alloc _ _ _ (by have := h.lt b e; omega))
theorem TellsC.mono (h : TellsC n0 k lb Y L w) (hz : ∀ b, Y b → Z b) (hi : ∀ b, Z b → n0 ≤ b ∧ b < w.heap.size) : TellsC n0 k lb Z L w := by
  obtain ⟨h0, hn, J, Y0, hy, h1⟩ := h
  exact ⟨hi, hn, J, Y0, fun b e => hz b (hy b e), h1⟩
theorem TellsC.step (h : TellsC n0 k lb Y L w) : Calls Try.prog k lb w (TellEndC n0 Y L (TellsC n0 k lb) w) := by
  obtain ⟨h0, hn, J, Y0, hy, h1, h2, h3, h4⟩ := h
  refine (h4 _ _ _ hn h1).mono ?_
  rintro e w' ⟨h, ok, rfl, hu, Y', hs, hj, hd⟩
  exact ⟨h, ok, rfl, hu.allMono hy, Y', fun b e => (hs b e).imp_left (hy b), ⟨h2 _ _ _ hj, Nat.le_trans hn hu.size, J, Y', fun _ e => e, hj, h2, h3, h4⟩, hd.keep (fun b e _ => e.imp_right fun e => ⟨e.1, e.2.1.imp_left (hy b), e.2.2⟩) (fun _ _ _ => rfl)⟩
end
/-- The deferred closure, where nothing panics. -/
theorem told_idleC (w : World) : CallsD Try.prog 95 #[] .returning w fun e u' w' => e = .returned (.tuple #[]) ∧ u' = .returning ∧ w' = w := by
  refine callsD_of_wpS Try.func95 rfl fun c₀ cs hu => ?_
  apply wpS_region
  simp [wpOpsS, go_sem, recoverD, hu, Try.ntmps95, bodyPostS, results, Try.results95]
  cases c₀
  simp_all
theorem nil_aheadC (b : Nat) (w : World) : (nilAhead (Try.prog.types.size + Made.depth) 129 (.pointer (some ⟨b, 0, none⟩)) "Next").run Try.prog w = .ok (some false) w := by kernel_rfl
theorem method_nextC (b : Nat) (w : World) : (method (Try.prog.types.size + Made.depth) 129 (.pointer (some ⟨b, 0, none⟩)) "Next").run Try.prog w = .ok (83, .pointer (some ⟨b, 0, none⟩)) w := by kernel_rfl
theorem method_nextNC (b : Nat) (w : World) : (method 258 129 (.pointer (some ⟨b, 0, none⟩)) "Next").run Try.prog w = .ok (83, .pointer (some ⟨b, 0, none⟩)) w := by kernel_rfl
theorem told_afterC {n0 : Nat} {P : (Nat → Prop) → List Ct → World → Prop} (keep : ∀ {Y L w w'}, P Y L w → w.heap.size ≤ w'.heap.size → (∀ b, Y b ∨ b < n0 → w'.heap[b]? = w.heap[b]?) → P Y L w') {Y Y' : Nat → Prop} {w w1 : World} {o : Obj} {L L0 : List Ct} {h : Raw} {ok : Bool} (u v : Value) (hn : n0 ≤ w.heap.size)
    (hy : ∀ b, Y b → b < w.heap.size) (hu : Upd (allOf Y) (w.alloc o) w1) (hs : Sub (w.alloc o).heap.size Y Y') (ht : P Y' L w1) (hd : HdC (SafeC n0 (w.alloc o).heap.size Y Y') w1 L0 h ok) :
    Upd (allOf Y) w ((w1.setCell ⟨w.heap.size, 0, none⟩ u).setCell ⟨w.heap.size, 1, none⟩ v) ∧ ∃ Y', Sub w.heap.size Y Y' ∧ P Y' L ((w1.setCell ⟨w.heap.size, 0, none⟩ u).setCell ⟨w.heap.size, 1, none⟩ v) ∧ HdC (SafeC n0 w.heap.size Y Y') ((w1.setCell ⟨w.heap.size, 0, none⟩ u).setCell ⟨w.heap.size, 1, none⟩ v) L0 h ok := by
  have hne : ∀ b, Y' b ∨ b < n0 → b ≠ w.heap.size := fun b e h' => by
    subst h'
    rcases e with e | e
    · rcases hs _ e with h | h
      · exact absurd (hy _ h) (Nat.lt_irrefl _)
      · simp at h; omega
    · omega
  refine ⟨(((Upd.refl (allOf Y) w).alloc o |>.trans hu).setCell _ _ _ (fun h => absurd h (Nat.lt_irrefl _))).setCell _ _ _ (fun h => absurd h (Nat.lt_irrefl _)), Y', fun b e => (hs b e).imp_right (fun h => by simp at h; omega), keep ht (by simp [World.setCell]) (fun b e => (Below.heap_setCell _ _ _ _ (hne b e)).trans (Below.heap_setCell _ _ _ _ (hne b e))), hd.keep (fun b e _ => e.imp_right fun e => ⟨e.1, e.2.1.imp_right fun h => by simp at h; omega, e.2.2⟩) (fun b e _ => ?_)⟩
  have hb : b ≠ w.heap.size := fun h' => by
    subst h'
    rcases e with e | ⟨-, e | e, -⟩
    · omega
    · exact absurd (hy _ e) (Nat.lt_irrefl _)
    · simp at e; omega
  exact (Below.heap_setCell _ _ _ _ hb).trans (Below.heap_setCell _ _ _ _ hb)
set_option maxRecDepth 100000 in
set_option maxHeartbeats 1000000 in
theorem told_anyC {n0 : Nat} {fv : Value} {k : Nat} {lb : Array Value} {Y : Nat → Prop} {L : List Ct} {w : World} (hf : FvC fv k lb) (h : TellsC n0 k lb Y L w) :
    Calls Try.prog 91 #[fv] w (TellEndC n0 Y L (TellsC n0 k lb) w) := by
  have HI := Lib.hid (fun b e => (h.inside b e).2)
  have HN0 := Lib.hid h.base
  have HC := Lib.hid (h.alloc (.cells #[.slice none 0 0, .int .i64 0] 68)).step
  clear h
  have hmf := method_nextC
  cases hf with
  | clo k lb he =>
    go_enter_defers Try.func91, Try.ntmps91
    go_wp2_with fail
    refine HC.out.mono ?_
    rintro e w1 ⟨⟨⟨hp, hl, hc⟩, hm⟩, ok, rfl, hu, Y', hs, ht, hd⟩
    have HQ := Lib.hid (told_afterC (P := TellsC n0 k lb) TellsC.keep (.slice hp hl hc) (.int .i64 hm) HN0.out HI.out hu hs ht hd)
    have hc1 := upd_cell HI.out hu
    have c0 := cell_of_row w1 w.heap.size 0 _ _ (0, 0) hc1
    have c1 := cell_of_row w1 w.heap.size 1 _ _ (0, 0) hc1
    have f0 := frozen_of_row w1 w.heap.size 0 _ _ hc1
    have f1 := frozen_of_row w1 w.heap.size 1 _ _ hc1
    have HN := Lib.hid (cells_set2 hc1 (.slice hp hl hc) (.int .i64 hm))
    clear hu hs ht hd hc1
    go_wp2_with fail
    refine leaves_cons (f := 95) (args := #[]) (by simp) (by simp [go_sem]) ?_
    refine (told_idleC _).mono ?_
    rintro e u' w'' ⟨rfl, rfl, rfl⟩
    obtain ⟨n0', n1'⟩ := HN.out
    simp [Leaves, settle, results, Try.results91, go_sem, n0', n1']
    exact ⟨_, _, rfl, HQ.out⟩
  | next b =>
    go_enter_defers Try.func91, Try.ntmps91
    go_wp2_with fail
    refine HC.out.mono ?_
    rintro e w1 ⟨⟨⟨hp, hl, hc⟩, hm⟩, ok, rfl, hu, Y', hs, ht, hd⟩
    have HQ := Lib.hid (told_afterC (P := TellsC n0 83 #[.pointer (some ⟨b, 0, none⟩)]) TellsC.keep (.slice hp hl hc) (.int .i64 hm) HN0.out HI.out hu hs ht hd)
    have hc1 := upd_cell HI.out hu
    have c0 := cell_of_row w1 w.heap.size 0 _ _ (0, 0) hc1
    have c1 := cell_of_row w1 w.heap.size 1 _ _ (0, 0) hc1
    have f0 := frozen_of_row w1 w.heap.size 0 _ _ hc1
    have f1 := frozen_of_row w1 w.heap.size 1 _ _ hc1
    have HN := Lib.hid (cells_set2 hc1 (.slice hp hl hc) (.int .i64 hm))
    clear hu hs ht hd hc1
    go_wp2_with fail
    refine leaves_cons (f := 95) (args := #[]) (by simp) (by simp [go_sem]) ?_
    refine (told_idleC _).mono ?_
    rintro e u' w'' ⟨rfl, rfl, rfl⟩
    obtain ⟨n0', n1'⟩ := HN.out
    simp [Leaves, settle, results, Try.results91, go_sem, n0', n1']
    exact ⟨_, _, rfl, HQ.out⟩
end Go.Proofs.Ytcfnpbmkcdmafaa

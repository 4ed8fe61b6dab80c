/-
  merge.Turn at things and numbers: its closure, its cursor, and the laws' rest of it.
-/
import Derived.Test.YtemfglpjokmioaaMgS
namespace Go.Proofs.Ytemfglpjokmioaa
open Go Go.RowKit Go.Shelf

abbrev turnFn : Value := .func (.func 35) #[] #[]
abbrev curI (b : Nat) : Value := .iface 117 (.pointer (some ⟨b, 0, none⟩))
def headI : List Th → Value
  | [] => .tuple #[.int .i64 0, .bool false]
  | x :: _ => .tuple #[.int .i64 x.2, .bool true]
set_option maxRecDepth 100000 in
theorem cuts2_any (x : Th) (w : World) : Calls Try.prog 35 #[thV x] w fun e w' => e = .returned (.int .i64 x.2) ∧ Below w.heap.size w w' := by
  have h0 := (Below.refl w.heap.size w).alloc (Nat.le_refl _) (.cells #[.int .i8 x.1, .int .i64 x.2] 28)
  have HH := Lib.hid h0
  clear h0
  go_enter Try.func35, Try.ntmps35
  go_wp2_with fail
  go_ret
  exact ⟨rfl, HH.out⟩
/-- What the closure of Turn keeps. -/
def TuJ (r cf : Nat) (Y : Nat → Prop) (M : List Th) (w : World) : Prop :=
  (∀ k, Y k → k < w.heap.size) ∧ Y cf ∧ w.cell? ⟨cf, 0, none⟩ = some turnFn ∧ ∃ Yr, MadeAt Tt r Yr M w ∧ ∀ k, Yr k → Y k ∧ k ≠ cf
theorem TuJ.keep {r cf : Nat} {Y : Nat → Prop} {M : List Th} {w w' : World} (h : TuJ r cf Y M w) (hs : w.heap.size ≤ w'.heap.size) (hb : ∀ b, Y b → w'.heap[b]? = w.heap[b]?) : TuJ r cf Y M w' := by
  obtain ⟨h1, h2, h3, Yr, h4, h5⟩ := h
  exact ⟨fun k e => Nat.lt_of_lt_of_le (h1 k e) hs, h2, (World.cell?_of_block (a := ⟨cf, 0, none⟩) (hb cf h2)).trans h3, Yr, h4.keep hs (fun k e => hb k (h5 k e).1), h5⟩
def TurnEnd (Y : Nat → Prop) (M : List Th) (P : (Nat → Prop) → List Th → World → Prop) (w : World) (e : Ending) (w' : World) : Prop :=
  e = .returned (headI M) ∧ Upd (allOf Y) w w' ∧ ∃ Y', Sub w.heap.size Y Y' ∧ P Y' M.tail w'
set_option maxRecDepth 100000 in
set_option maxHeartbeats 1000000 in
theorem turn1_any {r cf : Nat} {Y : Nat → Prop} {M : List Th} {w : World} (h : TuJ r cf Y M w) : Calls Try.prog 61 #[.pointer (some ⟨r, 0, none⟩), .pointer (some ⟨cf, 0, none⟩)] w (TurnEnd Y M (TuJ r cf) w) := by
  obtain ⟨h1, h2, h3, Yr, h4, h5⟩ := h
  have HC := Lib.hid (next_any h4)
  have HE := Lib.hid (show ∀ w' Y' M', Upd (allOf Yr) w w' → Sub w.heap.size Yr Y' → MadeAt Tt r Y' M' w' → ∀ w2, Below w'.heap.size w' w2 → w'.cell? ⟨cf, 0, none⟩ = some turnFn ∧ Upd (allOf Y) w w2 ∧ ∃ Y', Sub w.heap.size Y Y' ∧ TuJ r cf Y' M' w2 from fun w' Y' M' hu hs hm w2 hb => by
    have hcf : w'.heap[cf]? = w.heap[cf]? := hu.block cf (h1 _ h2) (fun _ e => (h5 cf e).2 rfl)
    have hc := (World.cell?_of_block (a := ⟨cf, 0, none⟩) hcf).trans h3
    have lcf := h1 _ h2
    have hsz := hu.size
    refine ⟨hc, (hu.allMono fun k e => (h5 k e).1).trans (Upd.of_below hb), fun k => Y k ∨ (w.heap.size ≤ k ∧ k < w2.heap.size), fun k e => e.imp id And.left, ?_, .inl h2, (hb.cell (p := ⟨cf, 0, none⟩) (show cf < w'.heap.size by omega)).trans hc, Y', hm.below hb, fun k e => ?_⟩
    · rintro k (e | e)
      · have := h1 k e; have := hb.size; omega
      · exact e.2
    · rcases hs k e with e' | e'
      · exact ⟨.inl (h5 k e').1, (h5 k e').2⟩
      · exact ⟨.inr ⟨e', Nat.lt_of_lt_of_le (hm.inside k e) hb.size⟩, by omega⟩)
  have lcf := h1 _ h2
  clear h1 h2 h3 h4 h5
  go_enter Try.func61, Try.ntmps61
  go_wp2_with fail
  refine HC.out.mono ?_
  rintro e w1 ⟨rfl, hu, Y', hs, hm⟩
  have HQ := Lib.hid (And.intro hu.size (HE.out w1 Y' M.tail hu hs hm))
  clear hu hs hm HC HE
  cases M with
  | nil =>
    unfold headV
    go_wp2_with fail
    go_ret2
    exact ⟨rfl, (HQ.out.2 _ (below_new' w1 _)).2⟩
  | cons x r' =>
    unfold headV
    have hcf := (HQ.out.2 _ (Below.refl _ _)).1
    have hz := HQ.out.1
    have hlt : cf < w1.heap.size := by omega
    go_wp2_with fail
    refine (cuts2_any x _).mono ?_
    rintro e w2 ⟨rfl, hb2⟩
    have HB := Lib.hid ((below_new' w1 (.cells #[.int .i8 x.1, .int .i64 x.2] 28)).trans (hb2.mono (by simp)))
    clear hb2
    go_wp2_with fail
    go_ret2
    exact ⟨rfl, (HQ.out.2 _ HB.out).2⟩
/-- The deferred closure, where nothing panics. -/
theorem told_idleI (w : World) : CallsD Try.prog 119 #[] .returning w fun e u' w' => e = .returned (.tuple #[]) ∧ u' = .returning ∧ w' = w := by
  refine callsD_of_wpS Try.func119 rfl fun c₀ cs hu => ?_
  apply wpS_region
  simp [wpOpsS, go_sem, recoverD, hu, Try.ntmps119, bodyPostS, results, Try.results119]
  cases c₀
  simp_all
theorem headI_form (L : List Th) : ∃ m ok, headI L = .tuple #[.int .i64 m, .bool ok] := by
  cases L with
  | nil => exact ⟨0, false, rfl⟩
  | cons x r => exact ⟨x.2, true, rfl⟩
abbrev tuV (r cf : Nat) : Value := .func (.func 61) #[] #[.pointer (some ⟨r, 0, none⟩), .pointer (some ⟨cf, 0, none⟩)]
set_option maxRecDepth 100000 in
set_option maxHeartbeats 1000000 in
theorem toldI_any {r cf : Nat} {Y : Nat → Prop} {M : List Th} {w : World} (h : TuJ r cf Y M w) : Calls Try.prog 118 #[tuV r cf] w (TurnEnd Y M (TuJ r cf) w) := by
  have HC := Lib.hid (turn1_any h)
  have he := enters_of Try.func61 (by kernel_rfl) rfl
  obtain ⟨hm, ok, eh⟩ := headI_form M
  have HE := Lib.hid eh
  clear eh h
  go_enter_defers Try.func118, Try.ntmps118
  go_wp2_with fail
  refine HC.out.mono ?_
  rintro e w1 ⟨rfl, hq⟩
  rw [HE.out]
  have HQ := Lib.hid hq
  clear hq
  go_wp2_with fail
  refine leaves_cons (f := 119) (args := #[]) (by simp) (by simp [go_sem]) ?_
  refine (told_idleI _).mono ?_
  rintro e u' w'' ⟨rfl, rfl, rfl⟩
  simp [Leaves, settle, results, Try.results118, go_sem]
  exact ⟨HE.out.symm ▸ rfl, HQ.out⟩
/-- The cursor that Turn makes. -/
def MadeI (b r cf : Nat) (Y : Nat → Prop) (M : List Th) (w : World) : Prop :=
  (∀ k, Y k → k < w.heap.size) ∧ Y b ∧ Bk w b 119 1 ∧ ((w.cell? ⟨b, 0, none⟩ = some (tuV r cf) ∧ ∃ Y0, TuJ r cf Y0 M w ∧ ∀ k, Y0 k → Y k ∧ k ≠ b) ∨ (w.cell? ⟨b, 0, none⟩ = some .nilFunc ∧ M = []))
theorem MadeI.keep {b r cf : Nat} {Y : Nat → Prop} {M : List Th} {w w' : World} (h : MadeI b r cf Y M w) (hs : w.heap.size ≤ w'.heap.size) (hb : ∀ k, Y k → w'.heap[k]? = w.heap[k]?) : MadeI b r cf Y M w' := by
  obtain ⟨h1, h2, h3, h4⟩ := h
  refine ⟨fun k e => Nat.lt_of_lt_of_le (h1 k e) hs, h2, h3.of_heap (hb b h2), ?_⟩
  have hc := World.cell?_of_block (a := ⟨b, 0, none⟩) (hb b h2)
  rcases h4 with ⟨e1, Y0, e2, e3⟩ | ⟨e1, e2⟩
  · exact .inl ⟨hc.trans e1, Y0, e2.keep hs (fun k e => hb k (e3 k e).1), e3⟩
  · exact .inr ⟨hc.trans e1, e2⟩
theorem neqI_ptr (W : World) (b : Nat) : (binOp .neq 117 (.pointer (some ⟨b, 0, none⟩)) (.pointer none)).run Try.prog W = .ok (.bool true) W := by kernel_rfl
theorem neqI_fn (r cf : Nat) (W : World) : (binOp .neq 92 (tuV r cf) .nilFunc).run Try.prog W = .ok (.bool true) W := by kernel_rfl
theorem neqI_nil (W : World) : (binOp .neq 92 .nilFunc .nilFunc).run Try.prog W = .ok (.bool false) W := by kernel_rfl
set_option maxRecDepth 100000 in
set_option maxHeartbeats 1000000 in
theorem nextI_any {b r cf : Nat} {Y : Nat → Prop} {M : List Th} {w : World} (h : MadeI b r cf Y M w) : Calls Try.prog 117 #[.pointer (some ⟨b, 0, none⟩)] w (TurnEnd Y M (MadeI b r cf) w) := by
  have HH := Lib.hid h
  obtain ⟨h1, h2, h3, h4⟩ := h
  have q0 := fun W => neqI_ptr W b
  have q1 := neqI_fn r cf
  have q2 := neqI_nil
  rcases h4 with ⟨hc, Y0, hT, hY0⟩ | ⟨hc, rfl⟩
  · have HT := Lib.hid (toldI_any hT)
    have HF := Lib.hid (And.intro h1 (And.intro h2 (And.intro h3 hY0)))
    have HT1 := Lib.hid hT.1
    have hbl := h1 _ h2
    have HC := Lib.hid hc
    clear h1 h2 h3 hT hY0 HH
    cases M with
    | cons x r' =>
      go_enter Try.func117, Try.ntmps117
      go_wp2_with fail
      refine HT.out.mono ?_
      rintro e w1 ⟨rfl, hu, Y', hs, ht⟩
      have HQ := Lib.hid (And.intro hu (And.intro hs ht))
      unfold headI
      clear hu hs ht
      go_wp2_with fail
      go_ret2
      obtain ⟨hu, hs, ht⟩ := HQ.out
      obtain ⟨h1, h2, h3, hY0⟩ := HF.out
      refine ⟨rfl, hu.allMono fun k e => (hY0 k e).1, fun k => k = b ∨ Y' k, ?_, ?_, .inl rfl, hu.kind _ _ _ h3, .inl ⟨(World.cell?_of_block (a := ⟨b, 0, none⟩) (hu.block b hbl (fun _ e => (hY0 b e).2 rfl))).trans HC.out, Y', ht, fun k e => ⟨.inr e, fun e' => ?_⟩⟩⟩
      · rintro k (rfl | e)
        · exact .inl h2
        · exact (hs k e).imp_left fun e => (hY0 k e).1
      · rintro k (rfl | e)
        · exact Nat.lt_of_lt_of_le hbl hu.size
        · exact ht.1 k e
      · subst e'
        rcases hs _ e with e | e
        · exact (hY0 _ e).2 rfl
        · omega
    | nil =>
      go_enter Try.func117, Try.ntmps117
      go_wp2_with fail
      refine HT.out.mono ?_
      rintro e w1 ⟨rfl, hu, Y', hs, ht⟩
      have hb1 : w1.heap[b]? = w.heap[b]? := hu.block b hbl (fun _ e => (HF.out.2.2.2 b e).2 rfl)
      have cb := (World.cell?_of_block (a := ⟨b, 0, none⟩) hb1).trans HC.out
      have fb := (HF.out.2.2.1.of_heap hb1).free 0
      have HQ := Lib.hid (And.intro hu (And.intro hs (And.intro ht cb)))
      unfold headI
      clear hu hs ht
      go_wp2_with fail
      go_ret2
      obtain ⟨hu, hs, ht, cb'⟩ := HQ.out
      obtain ⟨h1, h2, h3, hY0⟩ := HF.out
      have hu2 := (hu.allMono fun k e => (hY0 k e).1).setCell b 0 .nilFunc (fun _ => h2)
      refine ⟨rfl, hu2, Y, fun k e => .inl e, fun k e => Nat.lt_of_lt_of_le (h1 k e) hu2.size, h2, hu2.kind _ _ _ h3, .inr ⟨World.cell?_setCell_same _ _ _ cb', rfl⟩⟩
  · clear h1 h2 h3
    go_enter Try.func117, Try.ntmps117
    go_wp2_with fail
    go_ret2
    exact ⟨rfl, Upd.refl _ _, Y, fun k e => .inl e, HH.out⟩
end Go.Proofs.Ytemfglpjokmioaa

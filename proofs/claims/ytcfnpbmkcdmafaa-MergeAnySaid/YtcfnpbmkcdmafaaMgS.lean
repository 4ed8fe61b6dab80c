/-
  Contracts of merge.All and merge.Only.
-/
import Derived.Test.YtcfnpbmkcdmafaaMgR
namespace Go.Proofs.Ytcfnpbmkcdmafaa
open Go Go.RowKit Go.Shelf

theorem MadeAt.tellsT {G : (Nat → Prop) → List Th → World → Prop} {b : Nat} {Y : Nat → Prop} {L : List Th} {w : World} (h : MadeAt G b Y L w) : Tells 49 #[.pointer (some ⟨b, 0, none⟩)] Tt Y L w := by
  obtain ⟨a1, J, Y0, a2, a3, a4, a5⟩ := h.tells
  exact ⟨a1, J, Y0, a2, a3, fun Y L w e => ⟨(a4 Y L w e).1, trivial⟩, a5⟩
abbrev madeW (w : World) (c : Option Nat) : World := (w.alloc (.cells #[nextO c] 83)).alloc (.cells #[nextO c] 83)
set_option maxRecDepth 100000 in
theorem all_o (c : Option Nat) (w : World) : Calls Try.prog 17 #[curO c] w fun e w' => e = .returned (allV (w.heap.size + 1)) ∧ madeW w c = w' := by
  have hmf : ∀ (fn : Fn) (first cap : Array Value) (w : World), (Instr.makeFunc fn first cap).run Try.prog w = .ok (.func fn first cap) w := fun _ _ _ _ => rfl
  cases c with
  | none =>
    have HF := Lib.hid (from_nil w)
    go_enter Try.func17, Try.ntmps17
    go_wp2_with fail
    refine HF.out.mono ?_
    rintro e w1 ⟨rfl, rfl⟩
    go_wp2_with fail
    go_ret
    exact ⟨by simp, rfl⟩
  | some b =>
    have HF := Lib.hid (from_any b w)
    go_enter Try.func17, Try.ntmps17
    go_wp2_with fail
    refine HF.out.mono ?_
    rintro e w1 ⟨rfl, rfl⟩
    go_wp2_with fail
    go_ret
    exact ⟨by simp, rfl⟩
theorem madeW_below (w : World) (c : Option Nat) : Below w.heap.size w (madeW w c) := ((Below.refl _ _).alloc (Nat.le_refl _) _).alloc (by simp) _
theorem madeW_size (w : World) (c : Option Nat) : (madeW w c).heap.size = w.heap.size + 2 := by simp
/-- The cursor that All keeps. -/
theorem made_o {c : CurC} {F : Nat → Prop} {w : World} (h : CurAt c F w) : MadeAt Tt (w.heap.size + 1) (fun x => x = w.heap.size + 1 ∨ F x) c.2 (madeW w c.1) := by
  obtain ⟨_ | b, L⟩ := c
  · obtain ⟨h1, h2⟩ := h
    have h1' : L = [] := h1
    subst h1'
    have := made_none (G := Tt) (fun _ _ _ => trivial) 83 (w.alloc (.cells #[.nilFunc] 83))
    rw [World.size_alloc] at this
    exact this.mono (fun b e => .inl e) (by
      rintro b (rfl | e)
      · simp
      · exact absurd e (h2 b))
  · have h' : MadeAt Tt b F L w := h
    have := made_new 83 (Fv.next b) (h'.tellsT.keep (w' := w.alloc (.cells #[nextV b] 83)) (by simp) (fun x e => Below.heap_alloc _ _ _ (by have := h'.inside x e; omega)))
    rw [World.size_alloc] at this
    exact this
theorem eqlHolds (k : Nat) (lb : Array Value) (W : World) : (binOp .eql 36 (.func (.func k) #[] lb) .nilFunc).run Try.prog W = .ok (.bool false) W := by kernel_rfl
theorem OnJ.keep {σ : Type} {kh : Nat} {lbh : Array Value} {Hs : σ → (Nat → Prop) → World → Prop} {step : σ → Th → Bool × σ} (hk : HoldsOk kh lbh Hs step) {ca ch r : Nat} {Y : Nat → Prop} {M : List Th} {w w' : World} (h : OnJ kh lbh Hs step ca ch r Y M w) (hs : w.heap.size ≤ w'.heap.size) (hb : ∀ b, Y b → w'.heap[b]? = w.heap[b]?) : OnJ kh lbh Hs step ca ch r Y M w' := by
  obtain ⟨h1, h2, h3, h4, h5, s, D, Yr, Yh, m1, m2, m3, m4, m5⟩ := h
  exact ⟨fun k e => Nat.lt_of_lt_of_le (h1 k e) hs, h2, h3, (World.cell?_of_block (a := ⟨ca, 0, none⟩) (hb ca h2)).trans h4, (World.cell?_of_block (a := ⟨ch, 0, none⟩) (hb ch h3)).trans h5, s, D, Yr, Yh,
    m1.keep hs (fun k e => hb k (m3 k e).1.1), hk.keep m2 hs (fun k e => hb k (m4 k e).1), m3, m4, m5⟩
theorem OnJ.tells {σ : Type} {kh : Nat} {lbh : Array Value} {Hs : σ → (Nat → Prop) → World → Prop} {step : σ → Th → Bool × σ} {P : World → Prop} (hP : ∀ s Y w, Hs s Y w → P w) (hk : HoldsOk kh lbh Hs step) {ca ch r : Nat} {Y : Nat → Prop} {M : List Th} {w : World} (h : OnJ kh lbh Hs step ca ch r Y M w) :
    Tells 57 #[.pointer (some ⟨ca, 0, none⟩), .pointer (some ⟨ch, 0, none⟩)] (fun _ _ w => P w) Y M w :=
  ⟨h.1, OnJ kh lbh Hs step ca ch r, Y, fun _ e => e, h, fun _ _ _ h => ⟨h.1, by obtain ⟨-, -, -, -, -, s, D, Yr, Yh, -, m2, -⟩ := h; exact hP _ _ _ m2⟩, fun _ _ _ _ h => h.keep hk, fun _ _ _ h => only1_any hk h⟩
/-- The same with a ghost. -/
def OverG (G : (Nat → Prop) → List Th → World → Prop) (Y0 : Nat → Prop) (L : List Th) (w : World) (e : Ending) (w' : World) : Prop :=
  ∃ b Y, e = .returned (curV b) ∧ MadeAt G b Y L w' ∧ (∀ k, Y k → Y0 k ∨ w.heap.size ≤ k) ∧ Below w.heap.size w w'
/-- A new cursor, over what was handed in: footprints. -/
def OverCur (Y0 : Nat → Prop) (L : List Th) (w : World) (e : Ending) (w' : World) : Prop :=
  ∃ b Y, e = .returned (curV b) ∧ MadeAt Tt b Y L w' ∧ (∀ k, Y k → Y0 k ∨ w.heap.size ≤ k) ∧ Below w.heap.size w w'
set_option maxRecDepth 100000 in
set_option maxHeartbeats 2000000 in
theorem only_gen {σ : Type} {kh : Nat} {lbh : Array Value} {Hs : σ → (Nat → Prop) → World → Prop} {step : σ → Th → Bool × σ} {P : World → Prop} (hP : ∀ s Y w, Hs s Y w → P w) (hk : HoldsOk kh lbh Hs step) {c : CurC} {F Yh : Nat → Prop} {s : σ} {w : World} (hc : CurAt c F w) (hs : Hs s Yh w) (hd : ∀ k, F k → ¬ Yh k) :
    Calls Try.prog 31 #[cloV kh lbh, curO c.1] w (OverG (fun _ _ w => P w) (fun k => F k ∨ Yh k) (onlyL step s c.2) w) := by
  have hmf : ∀ (fn : Fn) (first cap : Array Value) (w : World), (Instr.makeFunc fn first cap).run Try.prog w = .ok (.func fn first cap) w := fun _ _ _ _ => rfl
  have q := eqlHolds kh lbh
  have hb0 : Below w.heap.size w (w.alloc (.cells #[cloV kh lbh] 36)) := (Below.refl _ _).alloc (Nat.le_refl _) _
  have HA := Lib.hid (all_o c.1 (w.alloc (.cells #[cloV kh lbh] 36)))
  obtain ⟨co, hco⟩ : ∃ co, co = c.1 := ⟨_, rfl⟩
  rw [← hco] at HA ⊢
  have HCo := Lib.hid hco
  clear hco
  go_enter Try.func31, Try.ntmps31
  go_wp2_with fail
  refine HA.out.mono ?_
  rintro e w1 ⟨rfl, hw1⟩
  have hm := made_o (c := c) (CurAt.keep hc hb0.size (fun x e => hb0.block x (hc.inside x e)))
  rw [← HCo.out, hw1] at hm
  have hb1 : Below w.heap.size w w1 := by rw [← hw1]; exact hb0.trans ((madeW_below _ _).mono hb0.size)
  have hs1 : w1.heap.size = w.heap.size + 3 := by rw [← hw1, madeW_size]; simp
  have hch : w1.heap[w.heap.size]? = some (.cells #[cloV kh lbh] 36 (0, 0)) := by
    rw [← hw1]
    exact ((madeW_below _ _).block _ (by simp)).trans (heap_alloc_new w _)
  rw [World.size_alloc] at hm ⊢
  have HJ := Lib.hid (show OnJ kh lbh Hs step w1.heap.size w.heap.size (w.heap.size + 1 + 1) (fun k => k = w1.heap.size ∨ k = w.heap.size ∨ k = w.heap.size + 2 ∨ F k ∨ Yh k) (onlyL step s c.2) (w1.alloc (.cells #[allV (w.heap.size + 1 + 1)] 34)) from by
    have hb2 : Below w.heap.size w (w1.alloc (.cells #[allV (w.heap.size + 1 + 1)] 34)) := hb1.alloc hb1.size _
    refine ⟨?_, .inl rfl, .inr (.inl rfl), cell_of_row _ _ 0 _ _ (0, 0) (heap_alloc_new w1 _), cell_of_row _ _ 0 _ _ (0, 0) ((Below.heap_alloc _ _ _ (by omega)).trans hch), s, c.2, _, Yh, hm.keep (by simp) (fun x e => Below.heap_alloc _ _ _ (by have := hm.inside x e; omega)), hk.keep hs hb2.size (fun k e => hb2.block k (hk.inside hs k e)), ?_, ?_, rfl⟩
    · rintro k (rfl | rfl | rfl | e | e)
      · simp
      · simp; omega
      · simp; omega
      · have := hc.inside k e; simp; omega
      · have := hk.inside hs k e; simp; omega
    · rintro k (rfl | e)
      · exact ⟨⟨.inr (.inr (.inl rfl)), by omega, by omega⟩, fun e => by have := hk.inside hs _ e; omega⟩
      · have := hc.inside k e
        exact ⟨⟨.inr (.inr (.inr (.inl e))), by omega, by omega⟩, hd k e⟩
    · intro k e
      have := hk.inside hs k e
      exact ⟨.inr (.inr (.inr (.inr e))), by omega, by omega⟩)
  have HB := Lib.hid (And.intro hb1 hs1)
  clear hm hb1 hs1 hch hw1 hb0
  go_wp2_with fail
  refine (cursor_any _ _ _).mono ?_
  rintro e w2 ⟨rfl, rfl⟩
  go_wp2_with fail
  go_ret
  have hb3 := (HB.out.1.alloc HB.out.1.size (.cells #[allV (w.heap.size + 1 + 1)] 34))
  have hmn := made_new 83 (Fv.clo _ _ (enters_of Try.func57 (by kernel_rfl) rfl)) (OnJ.tells (P := P) hP hk HJ.out)
  rw [World.size_alloc] at hmn
  refine ⟨_, _, rfl, hmn, ?_, hb3.alloc hb3.size _⟩
  rintro k (rfl | rfl | rfl | rfl | e)
  · exact .inr (Nat.le_trans HB.out.1.size (Nat.le_succ _))
  · exact .inr HB.out.1.size
  · exact .inr (Nat.le_refl _)
  · exact .inr (by omega)
  · exact .inl e
theorem only_any {σ : Type} {kh : Nat} {lbh : Array Value} {Hs : σ → (Nat → Prop) → World → Prop} {step : σ → Th → Bool × σ} (hk : HoldsOk kh lbh Hs step) {c : CurC} {F Yh : Nat → Prop} {s : σ} {w : World} (hc : CurAt c F w) (hs : Hs s Yh w) (hd : ∀ k, F k → ¬ Yh k) :
    Calls Try.prog 31 #[cloV kh lbh, curO c.1] w (OverCur (fun k => F k ∨ Yh k) (onlyL step s c.2) w) :=
  only_gen (P := fun _ => True) (fun _ _ _ _ => trivial) hk hc hs hd
end Go.Proofs.Ytcfnpbmkcdmafaa

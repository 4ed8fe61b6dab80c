/-
  Words for merge.Only: a condition with a state of its own; what its closure keeps.
-/
import Derived.Test.YtcfnpbmkcdmafaaMgP
namespace Go.Proofs.Ytcfnpbmkcdmafaa
open Go Go.RowKit Go.Shelf

/-- A condition that is handed in: a closure with a state. -/
structure HoldsOk {σ : Type} (kh : Nat) (lbh : Array Value) (Hs : σ → (Nat → Prop) → World → Prop) (step : σ → Th → Bool × σ) : Prop where
  enter : ∀ args w, (callFunc kh args).run Try.prog w = .ok (.enter kh args) w
  inside : ∀ {s Y w}, Hs s Y w → ∀ k, Y k → k < w.heap.size
  keep : ∀ {s Y w w'}, Hs s Y w → w.heap.size ≤ w'.heap.size → (∀ k, Y k → w'.heap[k]? = w.heap[k]?) → Hs s Y w'
  call : ∀ {s Y w} (x : Th), Hs s Y w → Calls Try.prog kh (#[thV x] ++ lbh) w fun e w' => e = .returned (.bool (step s x).1) ∧ Upd (allOf Y) w w' ∧ ∃ Y', Sub w.heap.size Y Y' ∧ Hs (step s x).2 Y' w'
/-- What a cursor tells with such a condition. -/
def onlyL {σ : Type} (step : σ → Th → Bool × σ) : σ → List Th → List Th
  | _, [] => []
  | s, x :: r => if (step s x).1 then x :: onlyL step (step s x).2 r else onlyL step (step s x).2 r
abbrev allV (r : Nat) : Value := .func (.func 48) #[] #[.pointer (some ⟨r, 0, none⟩)]
abbrev cloV (k : Nat) (lb : Array Value) : Value := .func (.func k) #[] lb
section
variable {σ : Type} (kh : Nat) (lbh : Array Value) (Hs : σ → (Nat → Prop) → World → Prop) (step : σ → Th → Bool × σ)
/-- What the closure of Only keeps. -/
def OnJ (ca ch r : Nat) (Y : Nat → Prop) (M : List Th) (w : World) : Prop :=
  (∀ k, Y k → k < w.heap.size) ∧ Y ca ∧ Y ch ∧ w.cell? ⟨ca, 0, none⟩ = some (allV r) ∧ w.cell? ⟨ch, 0, none⟩ = some (cloV kh lbh) ∧
  ∃ s D Yr Yh, MadeAt Tt r Yr D w ∧ Hs s Yh w ∧ (∀ k, Yr k → (Y k ∧ k ≠ ca ∧ k ≠ ch) ∧ ¬ Yh k) ∧ (∀ k, Yh k → Y k ∧ k ≠ ca ∧ k ≠ ch) ∧ M = onlyL step s D
/-- The same while the loop is under way: the loop's record, the block for deferred calls and the results lie in new blocks. -/
structure On (w : World) (ca ch r : Nat) (Y : Nat → Prop) (M : List Th) (rec : Loop) (ck cv : Array Value) (Dm E : List Th) (W : World) : Prop where
  loop : W.heap[w.heap.size + 3]? = some (.loop rec)
  defs : W.heap[w.heap.size + 2]? = some (.deferred (some []))
  r0 : W.heap[w.heap.size]? = some (.cells ck 28 (0, 0))
  r1 : W.heap[w.heap.size + 1]? = some (.cells cv 4 (0, 0))
  ha : W.cell? ⟨ca, 0, none⟩ = some (allV r)
  hh : W.cell? ⟨ch, 0, none⟩ = some (cloV kh lbh)
  upd : Upd (allOf Y) w W
  st : ∃ s Yr Yh, MadeAt Tt r Yr Dm W ∧ Hs s Yh W ∧ (∀ k, Yr k → ((Y k ∨ w.heap.size + 4 ≤ k) ∧ k ≠ ca ∧ k ≠ ch) ∧ ¬ Yh k) ∧ (∀ k, Yh k → (Y k ∨ w.heap.size + 4 ≤ k) ∧ k ≠ ca ∧ k ≠ ch) ∧ M = onlyL step s E
variable {kh lbh Hs step}
variable {w W W' : World} {ca ch r : Nat} {Y : Nat → Prop} {M : List Th} {rec rec' : Loop} {ck cv ck' cv' : Array Value} {Dm E : List Th}
theorem On.size (h : On kh lbh Hs step w ca ch r Y M rec ck cv Dm E W) : w.heap.size + 4 ≤ W.heap.size := by
  have := (Array.getElem?_eq_some_iff.1 h.loop).1
  omega
theorem On.far (hk : HoldsOk kh lbh Hs step) (hI : ∀ k, Y k → k < w.heap.size) (h : On kh lbh Hs step w ca ch r Y M rec ck cv Dm E W) (hca : Y ca) (hch : Y ch) (hs : W.heap.size ≤ W'.heap.size) (ho : W'.os = W.os ∧ W'.tape = W.tape ∧ W'.output = W.output)
    (hb : ∀ k, k < W.heap.size → k ≠ w.heap.size + 3 → k ≠ w.heap.size → k ≠ w.heap.size + 1 → W'.heap[k]? = W.heap[k]?)
    (hl : W'.heap[w.heap.size + 3]? = some (.loop rec')) (h0 : W'.heap[w.heap.size]? = some (.cells ck' 28 (0, 0))) (h1 : W'.heap[w.heap.size + 1]? = some (.cells cv' 4 (0, 0))) :
    On kh lbh Hs step w ca ch r Y M rec' ck' cv' Dm E W' := by
  have hz := h.size
  have hsame : ∀ k, k < W.heap.size → (Y k ∨ w.heap.size + 4 ≤ k) → W'.heap[k]? = W.heap[k]? := fun k hk e => by
    rcases e with e | e
    · have := hI k e; exact hb k hk (by omega) (by omega) (by omega)
    · exact hb k hk (by omega) (by omega) (by omega)
  have hold : ∀ k, k < w.heap.size → W'.heap[k]? = W.heap[k]? := fun k hk => hb k (by omega) (by omega) (by omega) (by omega)
  refine ⟨hl, (hb _ (by omega) (by omega) (by omega) (by omega)).trans h.defs, h0, h1, (World.cell?_of_block (a := ⟨ca, 0, none⟩) (hold ca (hI _ hca))).trans h.ha, (World.cell?_of_block (a := ⟨ch, 0, none⟩) (hold ch (hI _ hch))).trans h.hh, ?_, ?_⟩
  · have hu := h.upd
    refine ⟨ho.1.trans hu.os, ho.2.1.trans hu.tape, ho.2.2.trans hu.output, Nat.le_trans hu.size hs, fun x o hx hn => (World.cell?_of_block (a := ⟨x, o, none⟩) (hold x hx)).trans (hu.cell x o hx hn), fun x t n hx => (hu.kind x t n hx).of_heap (hold x hx.lt), fun x hx hn => (hold x hx).trans (hu.block x hx hn)⟩
  · obtain ⟨s, Yr, Yh, m1, m2, m3, m4, m5⟩ := h.st
    exact ⟨s, Yr, Yh, m1.keep hs (fun k e => hsame k (m1.inside k e) (m3 k e).1.1), hk.keep m2 hs (fun k e => hsame k (hk.inside m2 k e) (m4 k e).1), m3, m4, m5⟩
theorem On.alloc (hk : HoldsOk kh lbh Hs step) (hI : ∀ k, Y k → k < w.heap.size) (h : On kh lbh Hs step w ca ch r Y M rec ck cv Dm E W) (hca : Y ca) (hch : Y ch) (o : Obj) : On kh lbh Hs step w ca ch r Y M rec ck cv Dm E (W.alloc o) := by
  have hz := h.size
  have g : ∀ k, k < W.heap.size → (W.alloc o).heap[k]? = W.heap[k]? := fun k e => Below.heap_alloc _ _ _ (by omega)
  exact h.far hk hI hca hch (by simp) ⟨rfl, rfl, rfl⟩ (fun k e _ _ _ => g k e) ((g _ (by omega)).trans h.loop) ((g _ (by omega)).trans h.r0) ((g _ (by omega)).trans h.r1)
theorem On.drew (hk : HoldsOk kh lbh Hs step) (hI : ∀ k, Y k → k < w.heap.size) (h : On kh lbh Hs step w ca ch r Y M rec ck cv Dm E W) (hca : Y ca) (hch : Y ch) : On kh lbh Hs step w ca ch r Y M rec ck cv Dm E W.drew :=
  h.far hk hI hca hch (Nat.le_refl _) ⟨rfl, rfl, rfl⟩ (fun _ _ _ _ _ => rfl) h.loop h.r0 h.r1
theorem On.put (hk : HoldsOk kh lbh Hs step) (hI : ∀ k, Y k → k < w.heap.size) (h : On kh lbh Hs step w ca ch r Y M rec ck cv Dm E W) (hca : Y ca) (hch : Y ch) (rec' : Loop) : On kh lbh Hs step w ca ch r Y M rec' ck cv Dm E (W.putObj (w.heap.size + 3) (.loop rec')) := by
  have hz := h.size
  refine h.far hk hI hca hch (by simp) ⟨rfl, rfl, rfl⟩ (fun k _ e _ _ => World.putObj_heap_other e) ?_ ((World.putObj_heap_other (by omega)).trans h.r0) ((World.putObj_heap_other (by omega)).trans h.r1)
  simp [World.putObj, show w.heap.size + 3 < W.heap.size by omega]
/-- The cursor has been asked. -/
theorem On.move (hk : HoldsOk kh lbh Hs step) (hI : ∀ k, Y k → k < w.heap.size) (h : On kh lbh Hs step w ca ch r Y M rec ck cv Dm E W) : ∃ Yr, MadeAt Tt r Yr Dm W ∧ ∀ W' Yr' Dm', Upd (allOf Yr) W W' → Sub W.heap.size Yr Yr' → MadeAt Tt r Yr' Dm' W' → On kh lbh Hs step w ca ch r Y M rec ck cv Dm' E W' := by
  have hz := h.size
  obtain ⟨s, Yr, Yh, m1, m2, m3, m4, m5⟩ := h.st
  have hsz := h.upd.size
  have ca' := h.ha
  have ch' := h.hh
  have la := World.block_lt_of_cell? W _ ca'
  have lh := World.block_lt_of_cell? W _ ch'
  refine ⟨Yr, m1, fun W' Yr' Dm' hu hs hm => ?_⟩
  have off : ∀ k, k < W.heap.size → ¬ Yr k → W'.heap[k]? = W.heap[k]? := fun k e hn => hu.block k e (fun _ e' => hn e')
  have nlow : ∀ k, w.heap.size ≤ k → k < w.heap.size + 4 → ¬ Yr k := fun k h1 h2 e => by
    rcases (m3 k e).1.1 with e | e
    · have := hI k e; omega
    · omega
  refine ⟨(off _ (by omega) (nlow _ (by omega) (by omega))).trans h.loop, (off _ (by omega) (nlow _ (by omega) (by omega))).trans h.defs, (off _ (by omega) (nlow _ (by omega) (by omega))).trans h.r0, (off _ (by omega) (nlow _ (by omega) (by omega))).trans h.r1,
    (World.cell?_of_block (a := ⟨ca, 0, none⟩) (off ca la (fun e => (m3 _ e).1.2.1 rfl))).trans h.ha, (World.cell?_of_block (a := ⟨ch, 0, none⟩) (off ch lh (fun e => (m3 _ e).1.2.2 rfl))).trans h.hh, h.upd.then hu (fun x _ hx e => ?_), s, Yr', Yh, hm,
    hk.keep m2 hu.size (fun k e => off k (hk.inside m2 k e) (fun e' => (m3 k e').2 e)), fun k e => ?_, m4, m5⟩
  · rcases (m3 x e).1.1 with e | e
    · exact e
    · omega
  · rcases hs k e with e | e
    · exact m3 k e
    · exact ⟨⟨.inr (by omega), fun e' => by have la' : ca < W.heap.size := la; omega, fun e' => by have lh' : ch < W.heap.size := lh; omega⟩, fun e' => by have := hk.inside m2 k e'; omega⟩
/-- The condition has been asked of the thing ahead. -/
theorem On.ask (hI : ∀ k, Y k → k < w.heap.size) {x : Th} {D : List Th} (h : On kh lbh Hs step w ca ch r Y M rec ck cv D (x :: D) W) {s : σ} {Yr Yh : Nat → Prop} (m1 : MadeAt Tt r Yr D W)
    (m3 : ∀ k, Yr k → ((Y k ∨ w.heap.size + 4 ≤ k) ∧ k ≠ ca ∧ k ≠ ch) ∧ ¬ Yh k) (m4 : ∀ k, Yh k → (Y k ∨ w.heap.size + 4 ≤ k) ∧ k ≠ ca ∧ k ≠ ch) (m5 : M = onlyL step s (x :: D)) : ∀ W' Yh', Upd (allOf Yh) W W' → Sub W.heap.size Yh Yh' → Hs (step s x).2 Yh' W' →
    ((step s x).1 = true → ∃ M', M = x :: M' ∧ On kh lbh Hs step w ca ch r Y M' rec ck cv D D W') ∧ ((step s x).1 = false → On kh lbh Hs step w ca ch r Y M rec ck cv D D W') := by
  have hz := h.size
  have hsz := h.upd.size
  have ca' := h.ha
  have ch' := h.hh
  have la := World.block_lt_of_cell? W _ ca'
  have lh := World.block_lt_of_cell? W _ ch'
  intro W' Yh' hu hs hm
  have off : ∀ k, k < W.heap.size → ¬ Yh k → W'.heap[k]? = W.heap[k]? := fun k e hn => hu.block k e (fun _ e' => hn e')
  have nlow : ∀ k, w.heap.size ≤ k → k < w.heap.size + 4 → ¬ Yh k := fun k h1 h2 e => by
    rcases (m4 k e).1 with e | e
    · have := hI k e; omega
    · omega
  have main : ∀ M', M' = onlyL step (step s x).2 D → On kh lbh Hs step w ca ch r Y M' rec ck cv D D W' := fun M' hM => by
    refine ⟨(off _ (by omega) (nlow _ (by omega) (by omega))).trans h.loop, (off _ (by omega) (nlow _ (by omega) (by omega))).trans h.defs, (off _ (by omega) (nlow _ (by omega) (by omega))).trans h.r0, (off _ (by omega) (nlow _ (by omega) (by omega))).trans h.r1,
      (World.cell?_of_block (a := ⟨ca, 0, none⟩) (off ca la (fun e => (m4 _ e).2.1 rfl))).trans h.ha, (World.cell?_of_block (a := ⟨ch, 0, none⟩) (off ch lh (fun e => (m4 _ e).2.2 rfl))).trans h.hh, h.upd.then hu (fun y _ hy e => ?_), (step s x).2, Yr, Yh',
      m1.keep hu.size (fun k e => off k (m1.inside k e) (fun e' => (m3 k e).2 e')), hm, fun k e => ⟨(m3 k e).1, fun e' => ?_⟩, fun k e => ?_, hM⟩
    · rcases (m4 y e).1 with e | e
      · exact e
      · omega
    · rcases hs k e' with e' | e'
      · exact (m3 k e).2 e'
      · have := m1.inside k e; omega
    · rcases hs k e with e | e
      · exact m4 k e
      · exact ⟨.inr (by omega), fun e' => by have la' : ca < W.heap.size := la; omega, fun e' => by have lh' : ch < W.heap.size := lh; omega⟩
  constructor
  · intro ht
    refine ⟨onlyL step (step s x).2 D, ?_, main _ rfl⟩
    rw [m5]
    conv => lhs; unfold onlyL
    rw [if_pos ht]
  · intro ht
    refine main _ ?_
    rw [m5]
    conv => lhs; unfold onlyL
    rw [if_neg (by rw [ht]; simp)]
/-- The results have been stored. -/
theorem On.res (hk : HoldsOk kh lbh Hs step) (hI : ∀ k, Y k → k < w.heap.size) {x y : Value} {b : Value} (h : On kh lbh Hs step w ca ch r Y M rec #[x, y] #[b] Dm E W) (hca : Y ca) (hch : Y ch) (u v : Value) (b' : Value) :
    On kh lbh Hs step w ca ch r Y M rec #[u, v] #[b'] Dm E (((W.setCell ⟨w.heap.size, 0, none⟩ u).setCell ⟨w.heap.size, 1, none⟩ v).setCell ⟨w.heap.size + 1, 0, none⟩ b') := by
  have hz := h.size
  have n1 := Go.heap_setCell_same W w.heap.size 0 _ _ u h.r0
  have n2 := Go.heap_setCell_same _ w.heap.size 1 _ _ v n1
  have hne : w.heap.size + 1 ≠ w.heap.size := by omega
  have n3 : ((W.setCell ⟨w.heap.size, 0, none⟩ u).setCell ⟨w.heap.size, 1, none⟩ v).heap[w.heap.size + 1]? = some (.cells #[b] 4 (0, 0)) := (Below.heap_setCell _ _ _ _ hne).trans ((Below.heap_setCell _ _ _ _ hne).trans h.r1)
  have n4 := Go.heap_setCell_same _ (w.heap.size + 1) 0 _ _ b' n3
  have g : ∀ k, k ≠ w.heap.size → k ≠ w.heap.size + 1 → (((W.setCell ⟨w.heap.size, 0, none⟩ u).setCell ⟨w.heap.size, 1, none⟩ v).setCell ⟨w.heap.size + 1, 0, none⟩ b').heap[k]? = W.heap[k]? := fun k e1 e2 =>
    (Below.heap_setCell _ _ _ _ e2).trans ((Below.heap_setCell _ _ _ _ e1).trans (Below.heap_setCell _ _ _ _ e1))
  refine h.far hk hI hca hch (by simp [World.setCell]) ⟨rfl, rfl, rfl⟩ (fun k _ _ e1 e2 => g k e1 e2) ((g _ (by omega) (by omega)).trans h.loop) ?_ n4
  exact (Below.heap_setCell _ _ _ _ (Ne.symm hne)).trans n2
/-- What is kept behind the loop. -/
theorem On.done (h : On kh lbh Hs step w ca ch r Y M rec ck cv E E W) (hca : Y ca) (hch : Y ch) (hI : ∀ k, Y k → k < w.heap.size) (hk : HoldsOk kh lbh Hs step) {W' : World} (hs : W.heap.size ≤ W'.heap.size) (ho : W'.os = W.os ∧ W'.tape = W.tape ∧ W'.output = W.output)
    (hb : ∀ k, k < W.heap.size → (k < w.heap.size ∨ w.heap.size + 4 ≤ k) → W'.heap[k]? = W.heap[k]?) : Upd (allOf Y) w W' ∧ ∃ Y', Sub w.heap.size Y Y' ∧ OnJ kh lbh Hs step ca ch r Y' M W' := by
  have hz := h.size
  obtain ⟨s, Yr, Yh, m1, m2, m3, m4, m5⟩ := h.st
  have hsame : ∀ k, k < W.heap.size → (Y k ∨ w.heap.size + 4 ≤ k) → W'.heap[k]? = W.heap[k]? := fun k hk' e => by
    rcases e with e | e
    · exact hb k hk' (.inl (hI k e))
    · exact hb k hk' (.inr e)
  have hold : ∀ k, k < w.heap.size → W'.heap[k]? = W.heap[k]? := fun k hk' => hb k (by omega) (.inl hk')
  have hu := h.upd
  refine ⟨⟨ho.1.trans hu.os, ho.2.1.trans hu.tape, ho.2.2.trans hu.output, Nat.le_trans hu.size hs, fun x o hx hn => (World.cell?_of_block (a := ⟨x, o, none⟩) (hold x hx)).trans (hu.cell x o hx hn), fun x t n hx => (hu.kind x t n hx).of_heap (hold x hx.lt), fun x hx hn => (hold x hx).trans (hu.block x hx hn)⟩,
    fun k => Y k ∨ (w.heap.size + 4 ≤ k ∧ k < W.heap.size), ?_, ?_, .inl hca, .inl hch, (World.cell?_of_block (a := ⟨ca, 0, none⟩) (hold ca (hI _ hca))).trans h.ha, (World.cell?_of_block (a := ⟨ch, 0, none⟩) (hold ch (hI _ hch))).trans h.hh,
    s, E, Yr, Yh, m1.keep hs (fun k e => hsame k (m1.inside k e) (m3 k e).1.1), hk.keep m2 hs (fun k e => hsame k (hk.inside m2 k e) (m4 k e).1), ?_, ?_, m5⟩
  · rintro k (e | e)
    · exact .inl e
    · exact .inr (by omega)
  · rintro k (e | e)
    · have := hI k e; omega
    · omega
  · intro k e
    refine ⟨⟨?_, (m3 k e).1.2⟩, (m3 k e).2⟩
    rcases (m3 k e).1.1 with h | h
    · exact .inl h
    · exact .inr ⟨h, m1.inside k e⟩
  · intro k e
    refine ⟨?_, (m4 k e).2⟩
    rcases (m4 k e).1 with h | h
    · exact .inl h
    · exact .inr ⟨h, hk.inside m2 k e⟩
end
end Go.Proofs.Ytcfnpbmkcdmafaa

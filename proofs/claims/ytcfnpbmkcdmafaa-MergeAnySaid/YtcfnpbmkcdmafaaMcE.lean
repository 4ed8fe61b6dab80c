/-
  merge.Only at counted tuples: words for its closure; the closure of All in a range.
-/
import Derived.Test.YtcfnpbmkcdmafaaMcC
namespace Go.Proofs.Ytcfnpbmkcdmafaa
open Go Go.RowKit Go.Shelf

theorem neqYieldC (l : Nat) (W : World) : (binOp .neq 111 (.func (.yield l) #[] #[]) .nilFunc).run Try.prog W = .ok (.bool true) W := by kernel_rfl
set_option maxRecDepth 100000 in
set_option maxHeartbeats 2000000 in
/-- The closure of All hands each counted tuple that the cursor at r tells to a loop's round. -/
theorem all1_inC (f : Nat) (hf : 2 ≤ f) (l r : Nat) (J : List Ct → World → Prop) (J' : Raw → List Ct → World → Prop) (Jx : World → Prop)
    (hA : ∀ h D W o, J' h D W → J' h D (W.alloc o))
    (hN : ∀ D W, J D W → Calls Try.prog 83 #[.pointer (some ⟨r, 0, none⟩)] W fun e W' => ∃ h, e = .returned (.tuple #[rawV h, .bool (!D.isEmpty)]) ∧ J' h D W')
    (hY : ∀ h x D W, J' h (x :: D) W → YieldAt Fence.wide (f - 1) Try.prog l #[rawV h] W fun e W' => (e = .returned (.bool true) ∧ J D W') ∨ (e = .returned (.bool false) ∧ Jx W'))
    (L : List Ct) (W : World) (h0 : J L W) :
    CallsIn Fence.wide f Try.prog 94 #[.func (.yield l) #[] #[], .pointer (some ⟨r, 0, none⟩)] W fun e W' => (∃ v, e = .returned v) ∧ ((∃ h, J' h [] W') ∨ Jx W') := by
  have HN := Lib.hid hN
  have HY := Lib.hid hY
  have HA := Lib.hid hA
  have q := neqYieldC l
  have h1 : 1 ≤ f := by omega
  have h2 : 1 ≤ f - 1 := by omega
  clear hN hY hA
  refine callsIn_of_wp Try.func94 rfl trivial ?_ rfl
  simp only [Try.ntmps94, List.size_toArray, List.length_cons, List.length_nil, Nat.reduceAdd, Nat.reduceSub, Array.replicate_succ, Array.replicate_zero, List.push_toArray, List.append_toArray, List.nil_append, List.cons_append]
  gi_wp2
  gi_loopw [3] (fun _ wr => ∃ D, Hid (J D wr)) (fun _ wr => leastN fun n => ∃ D, D.length = n ∧ J D wr)
  case atStart => exact ⟨L, Lib.hid h0⟩
  case round =>
    obtain ⟨D0, HD0⟩ := hrel
    obtain ⟨D, hDl, hDj⟩ := (leastN_spec (p := fun n => ∃ D, D.length = n ∧ J D wr) ⟨D0, rfl, HD0.out⟩).1
    have HD := Lib.hid hDl
    have HC := Lib.hid (HN.out D wr hDj)
    clear hDl hDj
    gi_wp2_with fail
    refine ⟨trivial, (callsIn_wide.2 HC.out).mono ?_⟩
    rintro e w1 ⟨⟨⟨hp, hl, hc⟩, hm⟩, rfl, hj⟩
    have HJ := Lib.hid hj
    clear hj HC
    cases D with
    | nil =>
      simp only [List.isEmpty_nil, Bool.not_true]
      gi_wp2_with fail
      refine ⟨fun _ h => (by cases h), ?_⟩
      gi_wp2_with fail
      refine bodyPost_ret (results_none rfl _ _ _) rfl ?_
      exact ⟨⟨_, rfl⟩, .inl ⟨_, HA.out _ _ _ _ HJ.out⟩⟩
    | cons x D =>
      simp only [List.isEmpty_cons, Bool.not_false]
      have HJ2 := Lib.hid (HA.out _ _ _ (.cells #[.slice hp hl hc, .int .i64 hm] 68) HJ.out)
      obtain ⟨fn, tmps, assign, body, hy, hR⟩ := HY.out _ x D _ HJ2.out
      gi_wp2_with fail
      refine hR.mono ?_
      rintro e W3 (⟨rfl, hJ3⟩ | ⟨rfl, hJx3⟩)
      · gi_wp2_with fail
        go_roundw
        case rel => exact ⟨D, Lib.hid hJ3⟩
        case measure =>
          have := (leastN_spec (p := fun n => ∃ D, D.length = n ∧ J D W3) ⟨D, rfl, hJ3⟩).2
          have h3 := HD.out
          simp only [List.length_cons] at h3
          omega
      · gi_wp2_with fail
        refine bodyPost_ret (results_none rfl _ _ _) rfl ?_
        exact ⟨⟨_, rfl⟩, .inr hJx3⟩
/-- A condition that is handed in: it reads blocks of R alone. -/
structure HoldsC (kh : Nat) (lbh : Array Value) (R : Nat → Prop) (Hw : World → Prop) (p : Ct → Bool) : Prop where
  enter : ∀ args w, (callFunc kh args).run Try.prog w = .ok (.enter kh args) w
  inside : ∀ {w}, Hw w → ∀ k, R k → k < w.heap.size
  keep : ∀ {w w'}, Hw w → w.heap.size ≤ w'.heap.size → (∀ k, R k → w'.heap[k]? = w.heap[k]?) → Hw w'
  call : ∀ {w} (h : Raw) (T : List V3), Hw w → TupS (fun _ => True) w (rawS h) T → Calls Try.prog kh (#[rawV h] ++ lbh) w fun e w' => e = .returned (.bool (p (T, h.2))) ∧ Below w.heap.size w w'
abbrev allVC (r : Nat) : Value := .func (.func 94) #[] #[.pointer (some ⟨r, 0, none⟩)]
section
variable (n0 kh : Nat) (lbh : Array Value) (R : Nat → Prop) (Hw : World → Prop) (p : Ct → Bool)
/-- What the closure of Only keeps. -/
def OnJC (ca ch r : Nat) (Y : Nat → Prop) (M : List Ct) (w : World) : Prop :=
  (∀ k, Y k → n0 ≤ k ∧ k < w.heap.size) ∧ Y ca ∧ Y ch ∧ w.cell? ⟨ca, 0, none⟩ = some (allVC r) ∧ w.cell? ⟨ch, 0, none⟩ = some (cloV kh lbh) ∧ Hw w ∧ (∀ k, R k → (Y k ∧ k ≠ ca ∧ k ≠ ch) ∨ k < n0) ∧
  ∃ D Yr, MadeC n0 r Yr D w ∧ (∀ k, Yr k → Y k ∧ k ≠ ca ∧ k ≠ ch ∧ ¬ R k) ∧ M = D.filter p
/-- The same while the loop is under way. -/
structure OnC (w : World) (ca ch r : Nat) (Y : Nat → Prop) (M : List Ct) (rec : Loop) (ck cv : Array Value) (Yr : Nat → Prop) (Dm E : List Ct) (W : World) : Prop where
  loop : W.heap[w.heap.size + 3]? = some (.loop rec)
  defs : W.heap[w.heap.size + 2]? = some (.deferred (some []))
  r0 : W.heap[w.heap.size]? = some (.cells ck 68 (0, 0))
  r1 : W.heap[w.heap.size + 1]? = some (.cells cv 4 (0, 0))
  ha : W.cell? ⟨ca, 0, none⟩ = some (allVC r)
  hh : W.cell? ⟨ch, 0, none⟩ = some (cloV kh lbh)
  upd : Upd (allOf Y) w W
  hw : Hw W
  made : MadeC n0 r Yr Dm W
  foot : ∀ k, Yr k → (Y k ∨ w.heap.size + 4 ≤ k) ∧ k ≠ ca ∧ k ≠ ch ∧ ¬ R k
  left : M = E.filter p
/-- Where the tuple ahead may lie. -/
def SoC (w : World) (ca ch : Nat) (Y Yr : Nat → Prop) : Nat → Prop := fun b => b < n0 ∨ (n0 ≤ b ∧ (Y b ∨ w.heap.size + 4 ≤ b) ∧ ¬ Yr b ∧ b ≠ ca ∧ b ≠ ch ∧ ¬ R b)
variable {n0 kh lbh R Hw p}
variable {w W W' : World} {ca ch r : Nat} {Y Yr : Nat → Prop} {M : List Ct} {rec rec' : Loop} {ck cv ck' cv' : Array Value} {Dm E : List Ct}
theorem OnC.size (h : OnC n0 kh lbh R Hw p w ca ch r Y M rec ck cv Yr Dm E W) : w.heap.size + 4 ≤ W.heap.size := by
  have := (Array.getElem?_eq_some_iff.1 h.loop).1
  omega
/-- What stays while a call is under way. -/
structure OnFix (n0 kh : Nat) (lbh : Array Value) (R : Nat → Prop) (Hw : World → Prop) (p : Ct → Bool) (w : World) (ca ch : Nat) (Y : Nat → Prop) : Prop where
  hk : HoldsC kh lbh R Hw p
  hI : ∀ k, Y k → n0 ≤ k ∧ k < w.heap.size
  hn : n0 ≤ w.heap.size
  hca : Y ca
  hch : Y ch
  hR : ∀ k, R k → (Y k ∧ k ≠ ca ∧ k ≠ ch) ∨ k < n0
theorem OnFix.rlt (F : OnFix n0 kh lbh R Hw p w ca ch Y) : ∀ k, R k → k < w.heap.size := fun k e => by
  rcases F.hR k e with e | e
  · exact (F.hI k e.1).2
  · have := F.hn; omega
theorem OnC.far (F : OnFix n0 kh lbh R Hw p w ca ch Y) (h : OnC n0 kh lbh R Hw p w ca ch r Y M rec ck cv Yr Dm E W) (hs : W.heap.size ≤ W'.heap.size) (ho : W'.os = W.os ∧ W'.tape = W.tape ∧ W'.output = W.output)
    (hb : ∀ k, k < W.heap.size → k ≠ w.heap.size + 3 → k ≠ w.heap.size → k ≠ w.heap.size + 1 → W'.heap[k]? = W.heap[k]?)
    (hl : W'.heap[w.heap.size + 3]? = some (.loop rec')) (h0 : W'.heap[w.heap.size]? = some (.cells ck' 68 (0, 0))) (h1 : W'.heap[w.heap.size + 1]? = some (.cells cv' 4 (0, 0))) :
    OnC n0 kh lbh R Hw p w ca ch r Y M rec' ck' cv' Yr Dm E W' := by
  have hz := h.size
  have hn := F.hn
  have hold : ∀ k, k < w.heap.size → W'.heap[k]? = W.heap[k]? := fun k hk => hb k (by omega) (by omega) (by omega) (by omega)
  have lca := (F.hI _ F.hca).2
  have lch := (F.hI _ F.hch).2
  have hu := h.upd
  refine ⟨hl, (hb _ (by omega) (by omega) (by omega) (by omega)).trans h.defs, h0, h1, (World.cell?_of_block (a := ⟨ca, 0, none⟩) (hold ca lca)).trans h.ha, (World.cell?_of_block (a := ⟨ch, 0, none⟩) (hold ch lch)).trans h.hh,
    ⟨ho.1.trans hu.os, ho.2.1.trans hu.tape, ho.2.2.trans hu.output, Nat.le_trans hu.size hs, fun x o hx hn => (World.cell?_of_block (a := ⟨x, o, none⟩) (hold x hx)).trans (hu.cell x o hx hn), fun x t n hx => (hu.kind x t n hx).of_heap (hold x hx.lt), fun x hx hn => (hold x hx).trans (hu.block x hx hn)⟩,
    F.hk.keep h.hw hs (fun k e => hold k (F.rlt k e)), h.made.keep hs (fun k e => ?_), h.foot, h.left⟩
  rcases e with e | e
  · have hl2 := (h.made.inside k e).2
    rcases (h.foot k e).1 with e' | e'
    · exact hold k (F.hI k e').2
    · exact hb k hl2 (by omega) (by omega) (by omega)
  · exact hold k (by omega)
theorem OnC.below (F : OnFix n0 kh lbh R Hw p w ca ch Y) (h : OnC n0 kh lbh R Hw p w ca ch r Y M rec ck cv Yr Dm E W) (hb : Below W.heap.size W W') : OnC n0 kh lbh R Hw p w ca ch r Y M rec ck cv Yr Dm E W' := by
  have hz := h.size
  exact h.far F hb.size ⟨hb.os, hb.tape, hb.output⟩ (fun k e _ _ _ => hb.block k e) ((hb.block _ (by omega)).trans h.loop) ((hb.block _ (by omega)).trans h.r0) ((hb.block _ (by omega)).trans h.r1)
theorem OnC.alloc (F : OnFix n0 kh lbh R Hw p w ca ch Y) (h : OnC n0 kh lbh R Hw p w ca ch r Y M rec ck cv Yr Dm E W) (o : Obj) : OnC n0 kh lbh R Hw p w ca ch r Y M rec ck cv Yr Dm E (W.alloc o) := h.below F (below_new' W o)
theorem OnC.put (F : OnFix n0 kh lbh R Hw p w ca ch Y) (h : OnC n0 kh lbh R Hw p w ca ch r Y M rec ck cv Yr Dm E W) (rec' : Loop) : OnC n0 kh lbh R Hw p w ca ch r Y M rec' ck cv Yr Dm E (W.putObj (w.heap.size + 3) (.loop rec')) := by
  have hz := h.size
  refine h.far F (by simp) ⟨rfl, rfl, rfl⟩ (fun k _ e _ _ => World.putObj_heap_other e) ?_ ((World.putObj_heap_other (by omega)).trans h.r0) ((World.putObj_heap_other (by omega)).trans h.r1)
  simp [World.putObj, show w.heap.size + 3 < W.heap.size by omega]
/-- The cursor has been asked. -/
theorem OnC.move (F : OnFix n0 kh lbh R Hw p w ca ch Y) (h : OnC n0 kh lbh R Hw p w ca ch r Y M rec ck cv Yr Dm E W) {Yr' : Nat → Prop} {Dm' : List Ct} (hu : Upd (allOf Yr) W W') (hs : Sub W.heap.size Yr Yr') (hm : MadeC n0 r Yr' Dm' W') :
    OnC n0 kh lbh R Hw p w ca ch r Y M rec ck cv Yr' Dm' E W' ∧ ∀ b, SafeC n0 W.heap.size Yr Yr' b → SoC n0 R w ca ch Y Yr' b := by
  have hz := h.size
  have hsz := h.upd.size
  have hn := F.hn
  have lca := (F.hI _ F.hca).2
  have lch := (F.hI _ F.hch).2
  have off : ∀ k, k < W.heap.size → ¬ Yr k → W'.heap[k]? = W.heap[k]? := fun k e hn => hu.block k e (fun _ e' => hn e')
  have nlow : ∀ k, w.heap.size ≤ k → k < w.heap.size + 4 → ¬ Yr k := fun k h1 h2 e => by
    rcases (h.foot k e).1 with e | e
    · have := (F.hI k e).2; omega
    · omega
  refine ⟨⟨(off _ (by omega) (nlow _ (by omega) (by omega))).trans h.loop, (off _ (by omega) (nlow _ (by omega) (by omega))).trans h.defs, (off _ (by omega) (nlow _ (by omega) (by omega))).trans h.r0, (off _ (by omega) (nlow _ (by omega) (by omega))).trans h.r1,
    (World.cell?_of_block (a := ⟨ca, 0, none⟩) (off ca (by omega) (fun e => (h.foot _ e).2.1 rfl))).trans h.ha, (World.cell?_of_block (a := ⟨ch, 0, none⟩) (off ch (by omega) (fun e => (h.foot _ e).2.2.1 rfl))).trans h.hh, h.upd.then hu (fun x _ hx e => ?_),
    F.hk.keep h.hw hu.size (fun k e => off k (by have := F.rlt k e; omega) (fun e' => (h.foot k e').2.2.2 e)), hm, fun k e => ?_, h.left⟩, fun b e => ?_⟩
  · rcases (h.foot x e).1 with e | e
    · exact e
    · omega
  · rcases hs k e with e | e
    · exact h.foot k e
    · exact ⟨.inr (by omega), by omega, by omega, fun e' => by have := F.rlt k e'; omega⟩
  · rcases e with e | ⟨e1, e2, e3⟩
    · exact .inl e
    · refine .inr ⟨e1, ?_, e3, ?_⟩
      · rcases e2 with e2 | e2
        · exact (h.foot b e2).1
        · exact .inr (by omega)
      · rcases e2 with e2 | e2
        · exact (h.foot b e2).2
        · exact ⟨by omega, by omega, fun e' => by have := F.rlt b e'; omega⟩
/-- A tuple that lies there is not touched by what the loop stores. -/
theorem SoC.keep (F : OnFix n0 kh lbh R Hw p w ca ch Y) {v : Value} {T : List V3} (ht : TupS (SoC n0 R w ca ch Y Yr) W v T) (hb : ∀ k, k < W.heap.size → k ≠ w.heap.size + 3 → k ≠ w.heap.size + 2 → k ≠ w.heap.size → k ≠ w.heap.size + 1 → W'.heap[k]? = W.heap[k]?) : TupS (SoC n0 R w ca ch Y Yr) W' v T := by
  refine ht.keep (fun _ e _ => e) (fun k e hk => ?_)
  have hn := F.hn
  have hne : k < w.heap.size ∨ w.heap.size + 4 ≤ k := by
    rcases e with e | ⟨-, e | e, -⟩
    · exact .inl (by omega)
    · exact .inl (F.hI k e).2
    · exact .inr e
  exact hb k hk (by omega) (by omega) (by omega) (by omega)
/-- The results have been stored. -/
theorem OnC.res (F : OnFix n0 kh lbh R Hw p w ca ch Y) {x y : Value} {b : Value} (h : OnC n0 kh lbh R Hw p w ca ch r Y M rec #[x, y] #[b] Yr Dm E W) (u v : Value) (b' : Value) :
    OnC n0 kh lbh R Hw p w ca ch r Y M rec #[u, v] #[b'] Yr Dm E (((W.setCell ⟨w.heap.size, 0, none⟩ u).setCell ⟨w.heap.size, 1, none⟩ v).setCell ⟨w.heap.size + 1, 0, none⟩ b') ∧
      ∀ k, k ≠ w.heap.size → k ≠ w.heap.size + 1 → (((W.setCell ⟨w.heap.size, 0, none⟩ u).setCell ⟨w.heap.size, 1, none⟩ v).setCell ⟨w.heap.size + 1, 0, none⟩ b').heap[k]? = W.heap[k]? := by
  have hz := h.size
  have n1 := Go.heap_setCell_same W w.heap.size 0 _ _ u h.r0
  have n2 := Go.heap_setCell_same _ w.heap.size 1 _ _ v n1
  have hne : w.heap.size + 1 ≠ w.heap.size := by omega
  have n3 : ((W.setCell ⟨w.heap.size, 0, none⟩ u).setCell ⟨w.heap.size, 1, none⟩ v).heap[w.heap.size + 1]? = some (.cells #[b] 4 (0, 0)) := (Below.heap_setCell _ _ _ _ hne).trans ((Below.heap_setCell _ _ _ _ hne).trans h.r1)
  have n4 := Go.heap_setCell_same _ (w.heap.size + 1) 0 _ _ b' n3
  have g : ∀ k, k ≠ w.heap.size → k ≠ w.heap.size + 1 → (((W.setCell ⟨w.heap.size, 0, none⟩ u).setCell ⟨w.heap.size, 1, none⟩ v).setCell ⟨w.heap.size + 1, 0, none⟩ b').heap[k]? = W.heap[k]? := fun k e1 e2 =>
    (Below.heap_setCell _ _ _ _ e2).trans ((Below.heap_setCell _ _ _ _ e1).trans (Below.heap_setCell _ _ _ _ e1))
  refine ⟨h.far F (by simp [World.setCell]) ⟨rfl, rfl, rfl⟩ (fun k _ _ e1 e2 => g k e1 e2) ((g _ (by omega) (by omega)).trans h.loop) ?_ ?_, g⟩
  · exact (Below.heap_setCell _ _ _ _ (show w.heap.size ≠ w.heap.size + 1 by omega)).trans n2
  · exact n4
/-- The state behind the call. -/
theorem OnC.done (F : OnFix n0 kh lbh R Hw p w ca ch Y) (h : OnC n0 kh lbh R Hw p w ca ch r Y M rec ck cv Yr Dm Dm W) (hs : W.heap.size ≤ W'.heap.size) (ho : W'.os = W.os ∧ W'.tape = W.tape ∧ W'.output = W.output) (hb : ∀ k, k < W.heap.size → k ≠ w.heap.size + 2 → W'.heap[k]? = W.heap[k]?) :
    Upd (allOf Y) w W' ∧ ∃ Y', Sub w.heap.size Y Y' ∧ OnJC n0 kh lbh R Hw p ca ch r Y' M W' ∧ ∀ b, SoC n0 R w ca ch Y Yr b → SafeC n0 w.heap.size Y Y' b := by
  have hz := h.size
  have hn := F.hn
  have hold : ∀ k, k < w.heap.size → W'.heap[k]? = W.heap[k]? := fun k hk => hb k (by omega) (by omega)
  have lca := F.hI _ F.hca
  have lch := F.hI _ F.hch
  have hu := h.upd
  refine ⟨⟨ho.1.trans hu.os, ho.2.1.trans hu.tape, ho.2.2.trans hu.output, Nat.le_trans hu.size hs, fun x o hx hn => (World.cell?_of_block (a := ⟨x, o, none⟩) (hold x hx)).trans (hu.cell x o hx hn), fun x t n hx => (hu.kind x t n hx).of_heap (hold x hx.lt), fun x hx hn => (hold x hx).trans (hu.block x hx hn)⟩,
    fun k => k = ca ∨ k = ch ∨ Yr k ∨ (R k ∧ n0 ≤ k), fun k e => ?_, ⟨fun k e => ?_, .inl rfl, .inr (.inl rfl), (World.cell?_of_block (a := ⟨ca, 0, none⟩) (hold ca lca.2)).trans h.ha, (World.cell?_of_block (a := ⟨ch, 0, none⟩) (hold ch lch.2)).trans h.hh, F.hk.keep h.hw hs (fun k e => hold k (F.rlt k e)), fun k e => ?_, Dm, Yr, h.made.keep hs (fun k e => ?_), fun k e => ⟨.inr (.inr (.inl e)), (h.foot k e).2⟩, h.left⟩, fun b e => ?_⟩
  · rcases e with rfl | rfl | e | e
    · exact .inl F.hca
    · exact .inl F.hch
    · exact (h.foot k e).1.imp_right (by omega)
    · rcases F.hR k e.1 with e' | e'
      · exact .inl e'.1
      · omega
  · rcases e with rfl | rfl | e | e
    · omega
    · omega
    · have := h.made.inside k e; omega
    · have := F.rlt k e.1; omega
  · rcases F.hR k e with e' | e'
    · exact .inl ⟨.inr (.inr (.inr ⟨e, (F.hI k e'.1).1⟩)), e'.2⟩
    · exact .inr e'
  · rcases e with e | e
    · refine hb k (h.made.inside k e).2 (fun e' => ?_)
      rcases (h.foot k e).1 with e2 | e2
      · have := (F.hI k e2).2; omega
      · omega
    · exact hold k (by omega)
  · rcases e with e | ⟨e1, e2, e3, e4, e5, e6⟩
    · exact .inl e
    · refine .inr ⟨e1, e2.imp_right (by omega), ?_⟩
      rintro (e | e | e | e)
      · exact e4 e
      · exact e5 e
      · exact e3 e
      · exact e6 e.1
end
end Go.Proofs.Ytcfnpbmkcdmafaa

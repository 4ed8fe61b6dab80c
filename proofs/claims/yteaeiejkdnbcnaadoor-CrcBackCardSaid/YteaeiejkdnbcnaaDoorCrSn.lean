/-
  Contract of crc.Scan.
-/
import Derived.Test.YteaeiejkdnbcnaaDoorCrFr
namespace Go.Proofs.YteaeiejkdnbcnaaDoor
open Go Go.RowKit Go.Shelf

attribute [local go_sem] Oper.semAt_some

theorem keepO {W X : World} {k : Nat} {o : Obj} {row : Option Nat} (h : W.heap[k]? = some o) (hg : W.grownBy X row) (hne : some k ≠ row) : X.heap[k]? = some o :=
  (hg.block k (Array.getElem?_eq_some_iff.1 h).1 hne).trans h
theorem ownsRow_keep {W X : World} {b : Nat} {e : TypeId} {s : Nat} {v : Value} {n : Nat} {xs : List Value} {row : Option Nat} (h : W.ownsRow b e s v n xs) (hg : W.grownBy X row) (hr : ∀ r, row = some r → ∀ ys, W.heap[r]? ≠ some (.cells ys e (0, 0))) : X.ownsRow b e s v n xs := by
  refine h.kept hg ?_
  rcases h.2 with ⟨rfl, _⟩ | ⟨g, cap, cur, rfl, _, hgb, _⟩
  · exact .inl rfl
  · exact .inr fun e' => hr g e'.symm _ hgb
/-- A row of pieces abides the change of a block that holds neither pieces nor bytes. -/
theorem OwnP.keep {B : Nat} {W X : World} {v : Value} {P : List (UInt8 × List UInt8)} {row : Option Nat} (h : OwnP B W v P) (hg : W.grownBy X row) (hB : B ≤ W.heap.size) (hr : ∀ r, row = some r → B ≤ r ∧ ∀ ys, W.heap[r]? ≠ some (.cells ys 35 (0, 0)) ∧ W.heap[r]? ≠ some (.cells ys 5 (0, 0))) : OwnP B X v P := by
  obtain ⟨Q, h1, h2, h3⟩ := h
  refine ⟨Q, h1, ownsRow_keep h2 hg (fun r e ys => ((hr r e).2 ys).1), fun q hq => ⟨(h3 q hq).1, ?_⟩⟩
  rcases (h3 q hq).2 with h | h
  · left
    rcases h with h | ⟨a, cap, ea, h⟩
    · exact .inl h
    · exact .inr ⟨a, cap, ea, fun j hj => ⟨(h j hj).1, (World.cell?_of_block (a := a.add j) (by rw [add_block]; exact hg.block a.block (by have := (h j hj).1; omega) (fun e => by have := (hr _ e.symm).1; have := (h j hj).1; omega))).trans (h j hj).2⟩⟩
  · exact .inr (ownsRow_keep h hg (fun r e ys => ((hr r e).2 ys).2))
theorem OwnP.block {B : Nat} {W : World} {v : Value} {P : List (UInt8 × List UInt8)} (h : OwnP B W v P) : ∀ j, v.ownBlock = some j → B ≤ j ∧ ∃ cur, W.heap[j]? = some (.cells cur 35 (0, 0)) := by
  intro j hj
  obtain ⟨Q, -, h2, -⟩ := h
  rcases h2.2 with ⟨rfl, -⟩ | ⟨g, cap, cur, rfl, hB', hg', -⟩
  · cases hj
  · cases hj
    exact ⟨hB', cur, hg'⟩
theorem OwnP.apart {B : Nat} {W : World} {v : Value} {P : List (UInt8 × List UInt8)} {k : Nat} {o : Obj} (h : OwnP B W v P) (hk : W.heap[k]? = some o) (ho : ∀ ys, o ≠ .cells ys 35 (0, 0)) : some k ≠ v.ownBlock := by
  intro e
  obtain ⟨-, cur, hc⟩ := h.block k e.symm
  rw [hk] at hc
  cases hc
  exact ho cur rfl
theorem OwnP.form {B : Nat} {W : World} {v : Value} {P : List (UInt8 × List UInt8)} (h : OwnP B W v P) (hP : 0 < P.length) : ∃ g cap, v = .slice (some ⟨g, 0, none⟩) P.length cap := by
  obtain ⟨Q, rfl, h2, -⟩ := h
  rw [List.length_map] at hP ⊢
  obtain ⟨g, cap, rfl, -⟩ := World.ownsRow.form h2 hP
  exact ⟨g, cap, rfl⟩
/-- An append of one piece inside a fence. -/
theorem wpListIn_appP {F : Fence} {f : Nat} {ops : Array Oper} {rest : List Oper} {o : Oper} {a : Act} {w : World} {Q : Exit → Act → World → Prop} (hgd : o.guard = none) (s x : Operand)
    (ho : o.op = .call { callee := .builtin .append, args := #[s, x], argTypes := #[40, 40] })
    (B : Nat) (v : Value) (P : List (UInt8 × List UInt8)) (k : UInt8) (u : Value) (l : List UInt8) (ad : Addr) (hs : a.eval s = v) (hx : a.eval x = .slice (some ad) 1 1) (hown : OwnP B w v P) (hb : ReadP B w u l) (hlen : P.length ≤ 1000000000000) (hB : B ≤ w.heap.size)
    (hc0 : w.cell? (ad.add 0) = some (.int .u8 (k.toNat : Int))) (hc1 : w.cell? (ad.add 1) = some u)
    (h : ∀ v' w', OwnP B w' v' (P ++ [(k, l)]) → w.grownBy w' v.ownBlock → wpListIn F f Tryd.prog ops Q rest (a.put o.dst v') w') : wpListIn F f Tryd.prog ops Q (o :: rest) a w := by
  refine wpListIn_plain hgd fun K hK => ?_
  obtain ⟨v', w', hr, h2, h3, h4⟩ := run_appP w B o.type v P k u l hown hb hlen hB ad hc0 hc1
  unfold Oper.wpIn
  refine ⟨?_, ?_⟩
  · simp [Oper.about, ho, resolve, Target.leads, Sem.run_pure]
  · rw [Oper.semAt_plain F _ _ (by rw [ho]; intro c hc'; cases hc')]
    simp [execOp, ho, resolve, invoke, builtin, hs, hx, hr, Result.andThen]
    exact hK _ _ (h v' w' h2 h3)

set_option maxHeartbeats 400000 in
theorem crframes_any (p : Option Addr) (len c : Nat) (w : World) :
    Calls Tryd.prog 43 #[.slice p len c] w fun e w' => e = .returned (.func (.func 46) #[] #[.pointer (some ⟨w.heap.size, 0, none⟩)]) ∧ w.alloc (.cells #[.slice p len c] 22) = w' := by
  go_enter Tryd.func43, Tryd.ntmps43
  go_wp2_with fail
  go_ret
  exact ⟨rfl, rfl⟩

/-- What the range keeps: the rows in the variable's box, the number of bytes in the other, the loop's record, the block of deferred calls. -/
structure ScJ (w0 : World) (B4 B5 l D : Nat) (r : Loop) (P : List (UInt8 × List UInt8)) (t : Nat) (W : World) : Prop where
  rows : ∃ v, W.heap[B4]? = some (.cells #[v] 40 (0, 0)) ∧ OwnP w0.heap.size W v P
  num : W.heap[B5]? = some (.cells #[.int .i64 (t : Nat)] 3 (0, 0))
  loop : W.heap[l]? = some (.loop r)
  defs : W.heap[D]? = some (.deferred (some []))
  below : Below w0.heap.size w0 W
theorem ScJ.keep {w0 : World} {B4 B5 l D : Nat} {r : Loop} {P : List (UInt8 × List UInt8)} {t : Nat} {A B : World} (h : ScJ w0 B4 B5 l D r P t A) (hb : Below A.heap.size A B) : ScJ w0 B4 B5 l D r P t B := by
  obtain ⟨⟨v, h1, h2⟩, h3, h4, h5, h6⟩ := h
  have k : ∀ {k : Nat} {o : Obj}, A.heap[k]? = some o → B.heap[k]? = some o := fun h => (hb.block _ (Array.getElem?_eq_some_iff.1 h).1).trans h
  exact ⟨⟨v, k h1, h2.below hb h6.size⟩, k h3, k h4, k h5, h6.trans (hb.mono h6.size)⟩
theorem ScJ.put {w0 : World} {B4 B5 l D : Nat} {r : Loop} {P : List (UInt8 × List UInt8)} {t : Nat} {A : World} (h : ScJ w0 B4 B5 l D r P t A) (r' : Loop) (hl : w0.heap.size ≤ l) : ScJ w0 B4 B5 l D r' P t (A.putObj l (.loop r')) := by
  obtain ⟨⟨v, h1, h2⟩, h3, h4, h5, h6⟩ := h
  have hg := grownBy_putObj' A l (.loop r')
  have k : ∀ {k : Nat} {o : Obj}, (∀ r, o ≠ .loop r) → A.heap[k]? = some o → (A.putObj l (.loop r')).heap[k]? = some o := fun hne h => keepO h hg (fun e => by cases e; rw [h4] at h; cases h; exact hne _ rfl)
  refine ⟨⟨v, k (fun r => by intro e; cases e) h1, h2.keep hg h6.size ?_⟩, k (fun r => by intro e; cases e) h3, World.putObj_heap_same (Array.getElem?_eq_some_iff.1 h4).1, k (fun r => by intro e; cases e) h5, h6.grown hg h6.size (fun k e => by cases e; exact hl)⟩
  intro r e
  cases e
  exact ⟨hl, fun ys => ⟨fun e => (by rw [h4] at e; cases e), fun e => (by rw [h4] at e; cases e)⟩⟩
theorem below_new (W : World) (o : Obj) : Below W.heap.size W (W.alloc o) := (Below.refl _ _).alloc (Nat.le_refl _) _
theorem heap_setCell_box {W : World} {k B : Nat} {o : Obj} (h : W.heap[k]? = some o) (hne : k ≠ B) (u : Value) : (W.setCell ⟨B, 0, none⟩ u).heap[k]? = some o :=
  keepO h (grownBy_setCell' W B u) (fun e => hne (by cases e; rfl))
/-- Behind the append and the two stores of a round. -/
theorem ScJ.step {w0 W3 w5 : World} {B4 B5 l D : Nat} {r : Loop} {P : List (UInt8 × List UInt8)} {t n : Nat} {vv v5 : Value} {x : UInt8 × List UInt8} {z : Int} (hJ : ScJ w0 B4 B5 l D r P t W3) (hvv : W3.heap[B4]? = some (.cells #[vv] 40 (0, 0))) (ho : OwnP w0.heap.size W3 vv P)
    (hg : W3.grownBy w5 vv.ownBlock) (ho5 : OwnP w0.heap.size w5 v5 (P ++ [x])) (h4 : w0.heap.size ≤ B4) (h5 : w0.heap.size ≤ B5) (h45 : B4 ≠ B5) (hz : z = ((t + n : Nat) : Int)) :
    Boxed w5 B4 40 vv ∧ Boxed (w5.setCell ⟨B4, 0, none⟩ v5) B5 3 (.int .i64 (t : Nat)) ∧ ScJ w0 B4 B5 l D r (P ++ [x]) (t + n) ((w5.setCell ⟨B4, 0, none⟩ v5).setCell ⟨B5, 0, none⟩ (.int .i64 z)) ∧ Below w0.heap.size W3 ((w5.setCell ⟨B4, 0, none⟩ v5).setCell ⟨B5, 0, none⟩ (.int .i64 z)) := by
  subst hz
  have k4 : w5.heap[B4]? = some (.cells #[vv] 40 (0, 0)) := keepO hvv hg (ho.apart hvv (fun ys => by intro e; cases e))
  have k5 : w5.heap[B5]? = some (.cells #[.int .i64 (t : Nat)] 3 (0, 0)) := keepO hJ.num hg (ho.apart hJ.num (fun ys => by intro e; cases e))
  have kl : w5.heap[l]? = some (.loop r) := keepO hJ.loop hg (ho.apart hJ.loop (fun ys => by intro e; cases e))
  have kd : w5.heap[D]? = some (.deferred (some [])) := keepO hJ.defs hg (ho.apart hJ.defs (fun ys => by intro e; cases e))
  have s4 : (w5.setCell ⟨B4, 0, none⟩ v5).heap[B4]? = some (.cells #[v5] 40 (0, 0)) := Boxed.set v5 k4
  have s5 : (w5.setCell ⟨B4, 0, none⟩ v5).heap[B5]? = some (.cells #[.int .i64 (t : Nat)] 3 (0, 0)) := heap_setCell_box k5 h45.symm v5
  have hlB : l ≠ B4 := fun e => by rw [e, k4] at kl; cases kl
  have hlB' : l ≠ B5 := fun e => by rw [e, k5] at kl; cases kl
  have hdB : D ≠ B4 := fun e => by rw [e, k4] at kd; cases kd
  have hdB' : D ≠ B5 := fun e => by rw [e, k5] at kd; cases kd
  have b5 : Below w0.heap.size W3 w5 := (Below.refl _ _).grown hg hJ.below.size (fun j e => (ho.block j e).1)
  have b7 : Below w0.heap.size W3 ((w5.setCell ⟨B4, 0, none⟩ v5).setCell ⟨B5, 0, none⟩ (.int .i64 ((t + n : Nat) : Int))) := (b5.setCell (p := ⟨B4, 0, none⟩) h4 _).setCell (p := ⟨B5, 0, none⟩) h5 _
  have hsz : w0.heap.size ≤ w5.heap.size := Nat.le_trans hJ.below.size b5.size
  refine ⟨k4, s5, ⟨⟨v5, heap_setCell_box s4 h45 _, ?_⟩, Boxed.set _ s5, heap_setCell_box (heap_setCell_box kl hlB _) hlB' _, heap_setCell_box (heap_setCell_box kd hdB _) hdB' _, hJ.below.trans b7⟩, b7⟩
  have o6 : OwnP w0.heap.size (w5.setCell ⟨B4, 0, none⟩ v5) v5 (P ++ [x]) := ho5.keep (grownBy_setCell' w5 B4 v5) hsz (fun r e => by
    cases e
    exact ⟨h4, fun ys => ⟨fun e => (by rw [k4] at e; cases e), fun e => (by rw [k4] at e; cases e)⟩⟩)
  exact o6.keep (grownBy_setCell' _ B5 _) (by rw [show (w5.setCell ⟨B4, 0, none⟩ v5).heap.size = w5.heap.size by simp [World.setCell]]; exact hsz) (fun r e => by
    cases e
    exact ⟨h5, fun ys => ⟨fun e => (by rw [s5] at e; cases e), fun e => (by rw [s5] at e; cases e)⟩⟩)
end Go.Proofs.YteaeiejkdnbcnaaDoor

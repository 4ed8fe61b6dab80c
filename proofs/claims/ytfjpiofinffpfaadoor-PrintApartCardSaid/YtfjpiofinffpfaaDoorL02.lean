/-
  Rows of parts in memory: how a part lies in cells, a row that is read, a row of the call's own, an append of one.
  Structs in memory: their cells, read and set.
  Rows that are read.
  Drawn regions that end in a call; frames; literals.
-/
import Derived.Test.YtfjpiofinffpfaaDoorLxW
import Derived.Test.YtfjpiofinffpfaaDoorL01
import Derived.StillTailTactics
namespace Go.Proofs.YtfjpiofinffpfaaDoor
section
open Go Go.RowKit Go.Shelf

/-- Only blocks of Y are turned. -/
structure Turned (Y : Nat → Prop) (A B : World) : Prop where
  os : B.os = A.os
  tape : B.tape = A.tape
  output : B.output = A.output
  size : A.heap.size ≤ B.heap.size
  block : ∀ k, k < A.heap.size → ¬ Y k → B.heap[k]? = A.heap[k]?
theorem Turned.below {Y : Nat → Prop} {A B : World} (h : Turned Y A B) {n : Nat} (hn : n ≤ A.heap.size) (hY : ∀ k, Y k → n ≤ k) : Below n A B := ⟨h.os, h.tape, h.output, h.size, fun k hk => h.block k (by omega) (fun e => by have := hY k e; omega)⟩
theorem Turned.of_below {Y : Nat → Prop} {A B : World} (h : Below A.heap.size A B) : Turned Y A B := ⟨h.os, h.tape, h.output, h.size, fun k hk _ => h.block k hk⟩
theorem Turned.of_grown {A B : World} {ob : Option Nat} (hg : A.grownBy B ob) : Turned (fun k => ob = some k) A B := by
  have h := (Below.refl 0 A).grown hg (Nat.zero_le _) (fun _ _ => Nat.zero_le _)
  exact ⟨h.os, h.tape, h.output, hg.size, fun k hk hn => hg.block k hk (fun e => hn e.symm)⟩
theorem Turned.refl (Y : Nat → Prop) (A : World) : Turned Y A A := ⟨rfl, rfl, rfl, Nat.le_refl _, fun _ _ _ => rfl⟩
theorem Turned.trans {Y Z : Nat → Prop} {A B C : World} (h : Turned Y A B) (g : Turned Z B C) (hZ : ∀ k, k < A.heap.size → Z k → Y k) : Turned Y A C :=
  ⟨g.os.trans h.os, g.tape.trans h.tape, g.output.trans h.output, Nat.le_trans h.size g.size, fun k hk hn => (g.block k (Nat.lt_of_lt_of_le hk h.size) (fun e => hn (hZ k hk e))).trans (h.block k hk hn)⟩
theorem Turned.mono {Y Z : Nat → Prop} {A B : World} (h : Turned Y A B) (hZ : ∀ k, k < A.heap.size → Y k → Z k) : Turned Z A B := ⟨h.os, h.tape, h.output, h.size, fun k hk hn => h.block k hk (fun e => hn (hZ k hk e))⟩
theorem Turned.set (W : World) (b j : Nat) (u : Value) : Turned (fun k => k = b) W (W.setCell ⟨b, j, none⟩ u) := ⟨rfl, rfl, rfl, by simp, fun k _ hk => heap_setCell_other W ⟨b, j, none⟩ k u hk⟩
theorem Turned.alloc (Y : Nat → Prop) (W : World) (o : Obj) : Turned Y W (W.alloc o) := .of_below ((Below.refl _ W).alloc (Nat.le_refl _) o)
theorem Turned.drew (Y : Nat → Prop) (W : World) (n : Nat) : Turned Y W (W.drewN n) := ⟨rfl, rfl, rfl, Nat.le_refl _, fun _ _ _ => rfl⟩

/-- How things of a kind lie in cells. -/
structure Lay (α : Type) where
  sz : Nat
  is : (Nat → Prop) → World → List Value → α → Prop
  len : ∀ {S : Nat → Prop} {w : World} {us : List Value} {a : α}, is S w us a → us.length = sz
  one : ∀ {S : Nat → Prop} {w : World} {us : List Value} {a : α}, is S w us a → ∀ u ∈ us, u.oneCell' = true
  keep : ∀ {S S' : Nat → Prop} {w w' : World} {us : List Value} {a : α}, is S w us a → w.heap.size ≤ w'.heap.size → (∀ k, S k → k < w.heap.size → S' k ∧ w'.heap[k]? = w.heap[k]?) → is S' w' us a
section
variable {α : Type}
/-- A slice value reads as a row of things; its block is one of S. -/
def RowIn (Y : Lay α) (S : Nat → Prop) (w : World) (v : Value) (L : List α) : Prop :=
  ∃ p c, v = .slice p L.length c ∧ L.length ≤ c ∧ c ≤ maxLen ∧ (L = [] ∨ ∃ b off, p = some ⟨b, off, none⟩ ∧ S b ∧ b < w.heap.size ∧ ∀ j (h : j < L.length), ∃ us, Y.is S w us L[j] ∧ ∀ i u, us[i]? = some u → w.cell? ⟨b, off + (j * Y.sz + i), none⟩ = some u)
theorem RowIn.keep {Y : Lay α} {S S' : Nat → Prop} {w w' : World} {v : Value} {L : List α} (h : RowIn Y S w v L) (hs : w.heap.size ≤ w'.heap.size) (hS : ∀ k, S k → k < w.heap.size → S' k ∧ w'.heap[k]? = w.heap[k]?) : RowIn Y S' w' v L := by
  obtain ⟨p, c, rfl, h1, h2, h⟩ := h
  refine ⟨p, c, rfl, h1, h2, ?_⟩
  rcases h with h | ⟨b, off, rfl, hb, hl, h⟩
  · exact .inl h
  · obtain ⟨g1, g2⟩ := hS b hb hl
    refine .inr ⟨b, off, rfl, g1, by omega, fun j hj => ?_⟩
    obtain ⟨us, hu, hc⟩ := h j hj
    exact ⟨us, Y.keep hu hs hS, fun i u e => (World.cell?_of_block (a := ⟨b, off + (j * Y.sz + i), none⟩) g2).trans (hc i u e)⟩
theorem RowIn.turned {Y : Lay α} {S Z : Nat → Prop} {w w' : World} {v : Value} {L : List α} (h : RowIn Y S w v L) (ht : Turned Z w w') (hZ : ∀ k, S k → ¬ Z k) : RowIn Y S w' v L := h.keep ht.size fun k e hk => ⟨e, ht.block k hk (hZ k e)⟩
theorem RowIn.nil (Y : Lay α) (S : Nat → Prop) (w : World) : RowIn Y S w (.slice none 0 0) [] := ⟨none, 0, rfl, Nat.le_refl _, Nat.zero_le _, .inl rfl⟩
/-- A slice value that the call owns holds a row of things. -/
def RowOwn (Y : Lay α) (et : TypeId) (B : Nat) (w : World) (v : Value) (L : List α) : Prop :=
  ∃ us, w.ownsRow B et Y.sz v L.length us ∧ ∀ j (h : j < L.length), ∃ xs, Y.is (fun k => B ≤ k ∧ v.ownBlock ≠ some k) w xs L[j] ∧ ∀ i u, xs[i]? = some u → us[j * Y.sz + i]? = some u
theorem RowOwn.nil (Y : Lay α) (et : TypeId) (B : Nat) (w : World) : RowOwn Y et B w (.slice none 0 0) [] := ⟨[], World.ownsRow_nil w B _ _, fun j h => by simp at h⟩
theorem RowOwn.lt {Y : Lay α} {et : TypeId} {B : Nat} {w : World} {v : Value} {L : List α} (h : RowOwn Y et B w v L) : ∀ k, v.ownBlock = some k → B ≤ k ∧ k < w.heap.size := by
  obtain ⟨us, h, -⟩ := h
  exact World.ownsRow.lt h
theorem ownsRow_keep {B sz n : Nat} {t : TypeId} {w w' : World} {v : Value} {us : List Value} (h : w.ownsRow B t sz v n us) (hb : ∀ k, v.ownBlock = some k → w'.heap[k]? = w.heap[k]?) : w'.ownsRow B t sz v n us := by
  refine ⟨h.1, ?_⟩
  rcases h.2 with hn | ⟨g, cap, cur, rfl, hB, hg, rest⟩
  · exact .inl hn
  · exact .inr ⟨g, cap, cur, rfl, hB, (hb g rfl).trans hg, rest⟩
theorem RowOwn.keep {Y : Lay α} {et : TypeId} {B : Nat} {w w' : World} {v : Value} {L : List α} (h : RowOwn Y et B w v L) (hs : w.heap.size ≤ w'.heap.size) (hb : ∀ k, B ≤ k → k < w.heap.size → w'.heap[k]? = w.heap[k]?) : RowOwn Y et B w' v L := by
  have hlt := h.lt
  obtain ⟨us, h1, h2⟩ := h
  refine ⟨us, ownsRow_keep h1 fun k e => hb k (hlt k e).1 (hlt k e).2, fun j hj => ?_⟩
  obtain ⟨xs, hx, hc⟩ := h2 j hj
  exact ⟨xs, Y.keep hx hs fun k e hk => ⟨e, hb k e.1 hk⟩, hc⟩
theorem RowOwn.turned {Y : Lay α} {et : TypeId} {B : Nat} {Z : Nat → Prop} {w w' : World} {v : Value} {L : List α} (h : RowOwn Y et B w v L) (ht : Turned Z w w') (hZ : ∀ k, B ≤ k → k < w.heap.size → ¬ Z k) : RowOwn Y et B w' v L := h.keep ht.size fun k hB hk => ht.block k hk (hZ k hB hk)
theorem RowOwn.in_ {Y : Lay α} {et : TypeId} {B : Nat} {w : World} {v : Value} {L : List α} (h : RowOwn Y et B w v L) : RowIn Y (fun k => B ≤ k) w v L := by
  obtain ⟨us, ho, h⟩ := h
  rcases Nat.eq_zero_or_pos L.length with h0 | h0
  · obtain rfl := List.eq_nil_of_length_eq_zero h0
    rcases ho.2 with ⟨rfl, -⟩ | ⟨g, cap, cur, rfl, -, -, hnc, hcm, -⟩
    · exact ⟨none, 0, rfl, by simp, by simp, .inl rfl⟩
    · exact ⟨_, cap, rfl, by simp, hcm, .inl rfl⟩
  · have hcap : ∃ g cap, v = .slice (some ⟨g, 0, none⟩) L.length cap ∧ B ≤ g ∧ L.length ≤ cap ∧ cap ≤ maxLen ∧ g < w.heap.size := by
      rcases ho.2 with ⟨rfl, e⟩ | ⟨g, cap, cur, rfl, hB, hg, hnc, hcm, -⟩
      · omega
      · exact ⟨g, cap, rfl, hB, hnc, hcm, (Array.getElem?_eq_some_iff.1 hg).1⟩
    obtain ⟨g, cap, rfl, g0, g1, g2, g3⟩ := hcap
    refine ⟨_, cap, rfl, g1, g2, .inr ⟨g, 0, rfl, g0, g3, fun j hj => ?_⟩⟩
    obtain ⟨xs, hx, hc⟩ := h j hj
    refine ⟨xs, Y.keep hx (Nat.le_refl _) fun k e _ => ⟨e.1, rfl⟩, fun i u e => ?_⟩
    have hcell := World.ownsRow.cells ho (g := g) rfl (j * Y.sz + i) u (hc i u e)
    rw [addr_add] at hcell
    exact hcell
/-- A row of one thing, laid in a new block. -/
theorem RowOwn.lit {Y : Lay α} {et : TypeId} {B : Nat} {w : World} {us : List Value} {x : α} (hB : B ≤ w.heap.size) (hx : Y.is (fun k => B ≤ k) w us x) :
    RowOwn Y et B (w.alloc (.cells us.toArray et)) (.slice (some ⟨w.heap.size, 0, none⟩) 1 1) [x] := by
  have hl := Y.len hx
  refine ⟨us, ⟨by rw [hl]; simp, .inr ⟨w.heap.size, 1, us.toArray, rfl, hB, heap_alloc_new w _, Nat.le_refl _, by unfold maxLen; omega, by simp [hl], ?_⟩⟩, fun j hj => ?_⟩
  · rw [show ([x] : List α).length * Y.sz = us.length by rw [hl]; simp]
    simp
  · obtain rfl : j = 0 := by simp at hj; omega
    refine ⟨us, Y.keep hx (by simp) fun k e hk => ⟨⟨e, fun e2 => ?_⟩, ?_⟩, fun i u e => by simpa using e⟩
    · simp [Value.ownBlock] at e2
      omega
    · exact Below.heap_alloc _ _ _ hk
theorem run_appY (Y : Lay α) (w : World) (B : Nat) (st et ty : TypeId) (z : Value) (by_ : Nat) (hu : Tryd.prog.underlying st = some (.slice et)) (hi : (Tryd.prog.info? et).map (fun i => (i.zero, i.size, i.bytes)) = some (some z, Y.sz, by_)) (hzc : z.cells.size = Y.sz) (hsz : 0 < Y.sz) (hby : by_ ≤ 1000) (v : Value) (T : List α) (x : α) (us : List Value) (b c : Nat)
    (hown : RowOwn Y et B w v T) (hx : Y.is (fun k => B ≤ k ∧ v.ownBlock ≠ some k) w us x) (hc : ∀ j u, us[j]? = some u → w.cell? ⟨b, 0 + j, none⟩ = some u) (hn : T.length ≤ 1000000) (hB : B ≤ w.heap.size) :
    ∃ v' w', (Builtin.append_ #[st, st] ty #[v, .slice (some ⟨b, 0, none⟩) 1 c]).run Tryd.prog w = .ok v' w' ∧ RowOwn Y et B w' v' (T ++ [x]) ∧ w.grownBy w' v.ownBlock ∧ (v'.ownBlock = v.ownBlock ∨ v'.ownBlock = some w.heap.size) := by
  obtain ⟨i0, hi, hz0, hz1, hz2⟩ := info_parts hi
  have hbytes : (T.length + 1) * by_ ≤ 140737488355328 := by
    have : (T.length + 1) * by_ ≤ 1000001 * 1000 := Nat.mul_le_mul (by omega) hby
    omega
  obtain ⟨xs, ho, hxs⟩ := hown
  obtain ⟨v', w', hr, ho', hg, -, hv⟩ := run_append_own_at (P := Tryd.prog) w B st ty et i0 z Y.sz by_ hu hi hz0 hz1 hz2 hzc hsz v _ xs ho ⟨b, 0, none⟩ 1 c us
    (by rw [Y.len hx]; simp) (fun j u hu => by rw [addr_add]; exact hc j u hu) (Y.one hx) (by unfold maxLen; omega) hbytes hB
  have hlen : xs.length = T.length * Y.sz := ho.1
  have hin : ∀ k, (B ≤ k ∧ v.ownBlock ≠ some k) → k < w.heap.size → (B ≤ k ∧ v'.ownBlock ≠ some k) ∧ w'.heap[k]? = w.heap[k]? := fun k e hk =>
    ⟨⟨e.1, fun e2 => by
      rcases hv with hv | hv
      · exact e.2 (hv.symm.trans e2)
      · rw [hv] at e2; cases e2; omega⟩, hg.block k hk fun e2 => e.2 e2.symm⟩
  refine ⟨v', w', hr, ⟨xs ++ us, by rw [List.length_append]; exact ho', fun j hj => ?_⟩, hg, hv⟩
  by_cases e : j < T.length
  · obtain ⟨ys, hy, hcy⟩ := hxs j e
    rw [List.getElem_append_left e]
    refine ⟨ys, Y.keep hy hg.size hin, fun i u hu => ?_⟩
    have := hcy i u hu
    rw [List.getElem?_append_left (List.getElem?_eq_some_iff.1 this).1]
    exact this
  · obtain rfl : j = T.length := by simp at hj; omega
    rw [List.getElem_append_right (Nat.le_refl _)]
    simp only [Nat.sub_self, List.getElem_cons_zero]
    refine ⟨us, Y.keep hx hg.size hin, fun i u hu => ?_⟩
    rw [List.getElem?_append_right (by omega), hlen, Nat.add_sub_cancel_left]
    exact hu
theorem wpList_appY {ops : Array Oper} {rest : List Oper} {o : Oper} {a : Act} {w : World} {Q : Exit → Act → World → Prop} (Y : Lay α) (hgd : o.guard = none) (s y : Operand) (st et : TypeId)
    (ho : o.op = .call { callee := .builtin .append, args := #[s, y], argTypes := #[st, st] }) (B : Nat) (z : Value) (by_ : Nat) (hu : Tryd.prog.underlying st = some (.slice et)) (hi : (Tryd.prog.info? et).map (fun i => (i.zero, i.size, i.bytes)) = some (some z, Y.sz, by_)) (hzc : z.cells.size = Y.sz) (hsz : 0 < Y.sz) (hby : by_ ≤ 1000) (v : Value) (T : List α) (x : α) (us : List Value) (b c : Nat)
    (hs : a.eval s = v) (hx : a.eval y = .slice (some ⟨b, 0, none⟩) 1 c) (hown : RowOwn Y et B w v T) (hin : Y.is (fun k => B ≤ k ∧ v.ownBlock ≠ some k) w us x) (hc : ∀ j u, us[j]? = some u → w.cell? ⟨b, 0 + j, none⟩ = some u) (hn : T.length ≤ 1000000) (hB : B ≤ w.heap.size)
    (h : ∀ v' w', RowOwn Y et B w' v' (T ++ [x]) → w.grownBy w' v.ownBlock → (v'.ownBlock = v.ownBlock ∨ v'.ownBlock = some w.heap.size) → wpList Tryd.prog ops Q rest (a.put o.dst v') w') : wpList Tryd.prog ops Q (o :: rest) a w := by
  refine wpList_plain hgd fun K hK => ?_
  obtain ⟨v', w', hr, h2, h3, h4⟩ := run_appY Y w B st et o.type z by_ hu hi hzc hsz hby v T x us b c hown hin hc hn hB
  unfold Oper.wp execOp
  simp only [ho, resolve, invoke, builtin, Sem.run_bind, Sem.run_pure, Result.andThen_ok, List.map_toArray, List.map_cons, List.map_nil, hs, hx, hr]
  exact hK _ _ (h v' w' h2 h3 h4)
/-- An append at a step of a drawn region. -/
theorem step_appY {ops : Array Oper} {o : Oper} {a : Act} {w : World} {K : Act → World → Prop} {Q : Exit → Act → World → Prop} {E : Prop} (Y : Lay α) (hgd : o.guard = none) (s y : Operand) (st et : TypeId)
    (ho : o.op = .call { callee := .builtin .append, args := #[s, y], argTypes := #[st, st] }) (B : Nat) (z : Value) (by_ : Nat) (hu : Tryd.prog.underlying st = some (.slice et)) (hi : (Tryd.prog.info? et).map (fun i => (i.zero, i.size, i.bytes)) = some (some z, Y.sz, by_)) (hzc : z.cells.size = Y.sz) (hsz : 0 < Y.sz) (hby : by_ ≤ 1000) (v : Value) (T : List α) (x : α) (us : List Value) (b c : Nat)
    (hs : a.eval s = v) (hx : a.eval y = .slice (some ⟨b, 0, none⟩) 1 c) (hown : RowOwn Y et B w v T) (hin : Y.is (fun k => B ≤ k ∧ v.ownBlock ≠ some k) w us x) (hc : ∀ j u, us[j]? = some u → w.cell? ⟨b, 0 + j, none⟩ = some u) (hn : T.length ≤ 1000000) (hB : B ≤ w.heap.size)
    (h : ∀ v' w', RowOwn Y et B w' v' (T ++ [x]) → w.grownBy w' v.ownBlock → (v'.ownBlock = v.ownBlock ∨ v'.ownBlock = some w.heap.size) → K (a.put o.dst v') w') : if Region.wanted o (yielded ops a.tmps) = true then Oper.wp Tryd.prog o a w K Q else E := by
  have hw : Region.wanted o (yielded ops a.tmps) = true := by simp [Region.wanted, hgd]
  rw [if_pos hw]
  obtain ⟨v', w', hr, h2, h3, h4⟩ := run_appY Y w B st et o.type z by_ hu hi hzc hsz hby v T x us b c hown hin hc hn hB
  unfold Oper.wp execOp
  simp only [ho, resolve, invoke, builtin, Sem.run_bind, Sem.run_pure, Result.andThen_ok, List.map_toArray, List.map_cons, List.map_nil, hs, hx, hr]
  exact h v' w' h2 h3 h4
end

/-! The parts -/
def cellT (t : TmL) : List Value := [.int .i64 t.kind, .string ⟨t.name.toArray⟩, .int .i64 t.val.1, .int .i64 t.val.2.1, .string t.val.2.2]
def tmY : Lay TmL where
  sz := 5
  is := fun _ _ us t => us = cellT t
  len := fun h => by rw [h]; rfl
  one := fun h u hu => by
    subst h
    simp only [cellT, List.mem_cons, List.not_mem_nil, or_false] at hu
    rcases hu with rfl | rfl | rfl | rfl | rfl <;> rfl
  keep := fun h _ _ => h
def tyY : Lay Int where
  sz := 1
  is := fun _ _ us n => us = [.int .i64 n]
  len := fun h => by rw [h]; rfl
  one := fun h u hu => by
    subst h
    simp only [List.mem_cons, List.not_mem_nil, or_false] at hu
    rw [hu]; rfl
  keep := fun h _ _ => h
def paY : Lay (List UInt8 × Int) where
  sz := 2
  is := fun _ _ us p => us = [.string ⟨p.1.toArray⟩, .int .i64 p.2]
  len := fun h => by rw [h]; rfl
  one := fun h u hu => by
    subst h
    simp only [List.mem_cons, List.not_mem_nil, or_false] at hu
    rcases hu with rfl | rfl <;> rfl
  keep := fun h _ _ => h
theorem rowIn_one {α : Type} {Y : Lay α} {S : Nat → Prop} {w : World} {v : Value} {L : List α} (h : RowIn Y S w v L) : v.oneCell' = true := by
  obtain ⟨p, c, rfl, -⟩ := h
  rfl
/-- An atom's two cells. -/
def atC (S : Nat → Prop) (w : World) (us : List Value) (a : AtL) : Prop := ∃ u, us = [.string ⟨a.pred.toArray⟩, u] ∧ RowIn tmY S w u a.args
theorem atC.keep {S S' : Nat → Prop} {w w' : World} {us : List Value} {a : AtL} (h : atC S w us a) (hs : w.heap.size ≤ w'.heap.size) (hS : ∀ k, S k → k < w.heap.size → S' k ∧ w'.heap[k]? = w.heap[k]?) : atC S' w' us a := by
  obtain ⟨u, rfl, h⟩ := h
  exact ⟨u, rfl, h.keep hs hS⟩
def atY : Lay AtL where
  sz := 2
  is := atC
  len := fun h => by obtain ⟨u, rfl, -⟩ := h; rfl
  one := fun h x hx => by
    obtain ⟨u, rfl, h⟩ := h
    simp only [List.mem_cons, List.not_mem_nil, or_false] at hx
    rcases hx with rfl | rfl
    · rfl
    · exact rowIn_one h
  keep := fun h hs hS => h.keep hs hS
def acY : Lay ActL where
  sz := 3
  is := fun S w us c => ∃ u, us = [.bool c.plus, .string ⟨c.atom.pred.toArray⟩, u] ∧ RowIn tmY S w u c.atom.args
  len := fun h => by obtain ⟨u, rfl, -⟩ := h; rfl
  one := fun h x hx => by
    obtain ⟨u, rfl, h⟩ := h
    simp only [List.mem_cons, List.not_mem_nil, or_false] at hx
    rcases hx with rfl | rfl | rfl
    · rfl
    · rfl
    · exact rowIn_one h
  keep := fun h hs hS => by obtain ⟨u, rfl, h⟩ := h; exact ⟨u, rfl, h.keep hs hS⟩
def liY : Lay LiL where
  sz := 14
  is := fun S w us l => ∃ u, us = [.int .i64 l.kind, .string ⟨l.atom.pred.toArray⟩, u, .int .i64 l.op, .int .i64 l.a.kind, .string ⟨l.a.name.toArray⟩, .int .i64 l.a.val.1, .int .i64 l.a.val.2.1, .string l.a.val.2.2, .int .i64 l.b.kind, .string ⟨l.b.name.toArray⟩, .int .i64 l.b.val.1, .int .i64 l.b.val.2.1, .string l.b.val.2.2] ∧ RowIn tmY S w u l.atom.args
  len := fun h => by obtain ⟨u, rfl, -⟩ := h; rfl
  one := fun h x hx => by
    obtain ⟨u, rfl, h⟩ := h
    simp only [List.mem_cons, List.not_mem_nil, or_false] at hx
    rcases hx with rfl | rfl | rfl | rfl | rfl | rfl | rfl | rfl | rfl | rfl | rfl | rfl | rfl | rfl <;> first | rfl | exact rowIn_one h
  keep := fun h hs hS => by obtain ⟨u, rfl, h⟩ := h; exact ⟨u, rfl, h.keep hs hS⟩
def ruY : Lay RuL where
  sz := 3
  is := fun S w us r => ∃ u v, us = [.string ⟨r.head.pred.toArray⟩, u, v] ∧ RowIn tmY S w u r.head.args ∧ RowIn liY S w v r.body
  len := fun h => by obtain ⟨u, v, rfl, -⟩ := h; rfl
  one := fun h x hx => by
    obtain ⟨u, v, rfl, h, h'⟩ := h
    simp only [List.mem_cons, List.not_mem_nil, or_false] at hx
    rcases hx with rfl | rfl | rfl
    · rfl
    · exact rowIn_one h
    · exact rowIn_one h'
  keep := fun h hs hS => by obtain ⟨u, v, rfl, h, h'⟩ := h; exact ⟨u, v, rfl, h.keep hs hS, h'.keep hs hS⟩
def deY : Lay DeL where
  sz := 3
  is := fun S w us d => ∃ u, us = [.string ⟨d.name.toArray⟩, .bool d.base, u] ∧ RowIn tyY S w u d.types
  len := fun h => by obtain ⟨u, rfl, -⟩ := h; rfl
  one := fun h x hx => by
    obtain ⟨u, rfl, h⟩ := h
    simp only [List.mem_cons, List.not_mem_nil, or_false] at hx
    rcases hx with rfl | rfl | rfl
    · rfl
    · rfl
    · exact rowIn_one h
  keep := fun h hs hS => by obtain ⟨u, rfl, h⟩ := h; exact ⟨u, rfl, h.keep hs hS⟩
def onY : Lay OnL where
  sz := 3
  is := fun S w us o => ∃ u v, us = [.string ⟨o.event.toArray⟩, u, v] ∧ RowIn paY S w u o.params ∧ RowIn acY S w v o.acts
  len := fun h => by obtain ⟨u, v, rfl, -⟩ := h; rfl
  one := fun h x hx => by
    obtain ⟨u, v, rfl, h, h'⟩ := h
    simp only [List.mem_cons, List.not_mem_nil, or_false] at hx
    rcases hx with rfl | rfl | rfl
    · rfl
    · exact rowIn_one h
    · exact rowIn_one h'
  keep := fun h hs hS => by obtain ⟨u, v, rfl, h, h'⟩ := h; exact ⟨u, v, rfl, h.keep hs hS, h'.keep hs hS⟩
/-- A program: its declarations, events and rules. -/
structure PrL where
  decls : List DeL
  ons : List OnL
  rules : List RuL
def prY : Lay PrL where
  sz := 3
  is := fun S w us p => ∃ u v x, us = [u, v, x] ∧ RowIn deY S w u p.decls ∧ RowIn onY S w v p.ons ∧ RowIn ruY S w x p.rules
  len := fun h => by obtain ⟨u, v, x, rfl, -⟩ := h; rfl
  one := fun h y hy => by
    obtain ⟨u, v, x, rfl, h, h', h''⟩ := h
    simp only [List.mem_cons, List.not_mem_nil, or_false] at hy
    rcases hy with rfl | rfl | rfl
    · exact rowIn_one h
    · exact rowIn_one h'
    · exact rowIn_one h''
  keep := fun h hs hS => by obtain ⟨u, v, x, rfl, h, h', h''⟩ := h; exact ⟨u, v, x, rfl, h.keep hs hS, h'.keep hs hS, h''.keep hs hS⟩
theorem Tryd.infoTm : (Tryd.prog.info? 53).map (fun i => (i.zero, i.size, i.bytes)) = some (some (.agg #[.int .i64 0, .string ⟨#[]⟩, .int .i64 0, .int .i64 0, .string ⟨#[]⟩]), 5, 56) := by kernel_rfl
theorem Tryd.infoTy : (Tryd.prog.info? 58).map (fun i => (i.zero, i.size, i.bytes)) = some (some (.int .i64 0), 1, 8) := by kernel_rfl
theorem Tryd.infoPa : (Tryd.prog.info? 60).map (fun i => (i.zero, i.size, i.bytes)) = some (some (.agg #[.string ⟨#[]⟩, .int .i64 0]), 2, 24) := by kernel_rfl
theorem Tryd.infoAc : (Tryd.prog.info? 62).map (fun i => (i.zero, i.size, i.bytes)) = some (some (.agg #[.bool false, .string ⟨#[]⟩, .slice none 0 0]), 3, 48) := by kernel_rfl
theorem Tryd.infoLi : (Tryd.prog.info? 57).map (fun i => (i.zero, i.size, i.bytes)) = some (some (.agg #[.int .i64 0, .string ⟨#[]⟩, .slice none 0 0, .int .i64 0, .int .i64 0, .string ⟨#[]⟩, .int .i64 0, .int .i64 0, .string ⟨#[]⟩, .int .i64 0, .string ⟨#[]⟩, .int .i64 0, .int .i64 0, .string ⟨#[]⟩]), 14, 168) := by kernel_rfl
theorem Tryd.infoRu : (Tryd.prog.info? 27).map (fun i => (i.zero, i.size, i.bytes)) = some (some (.agg #[.string ⟨#[]⟩, .slice none 0 0, .slice none 0 0]), 3, 64) := by kernel_rfl
theorem Tryd.infoDe : (Tryd.prog.info? 34).map (fun i => (i.zero, i.size, i.bytes)) = some (some (.agg #[.string ⟨#[]⟩, .bool false, .slice none 0 0]), 3, 48) := by kernel_rfl
theorem Tryd.infoOn : (Tryd.prog.info? 31).map (fun i => (i.zero, i.size, i.bytes)) = some (some (.agg #[.string ⟨#[]⟩, .slice none 0 0, .slice none 0 0]), 3, 64) := by kernel_rfl
end
section
open Go Go.RowKit Go.Shelf

theorem row5_set {w1 : World} {b : Nat} {t : TypeId} {u v x y z u' v' x' y' z' : Value} (h : w1.heap[b]? = some (.cells #[u, v, x, y, z] t (0, 0))) :
    (((((w1.setCell ⟨b, 0, none⟩ u').setCell ⟨b, 1, none⟩ v').setCell ⟨b, 2, none⟩ x').setCell ⟨b, 3, none⟩ y').setCell ⟨b, 4, none⟩ z').heap[b]? = some (.cells #[u', v', x', y', z'] t (0, 0)) := by
  have h1 := Go.heap_setCell_same w1 b 0 _ _ u' h
  have h2 := Go.heap_setCell_same _ b 1 _ _ v' h1
  have h3 := Go.heap_setCell_same _ b 2 _ _ x' h2
  have h4 := Go.heap_setCell_same _ b 3 _ _ y' h3
  exact Go.heap_setCell_same _ b 4 _ _ z' h4
theorem cells5 {W : World} {b : Nat} {u v x y z : Value} {t : TypeId} (h : W.heap[b]? = some (.cells #[u, v, x, y, z] t (0, 0))) :
    (W.cell? ⟨b, 0, none⟩ = some u ∧ W.cell? ⟨b, 1, none⟩ = some v ∧ W.cell? ⟨b, 2, none⟩ = some x ∧ W.cell? ⟨b, 3, none⟩ = some y ∧ W.cell? ⟨b, 4, none⟩ = some z) ∧
    W.frozen? ⟨b, 0, none⟩ = false ∧ W.frozen? ⟨b, 1, none⟩ = false ∧ W.frozen? ⟨b, 2, none⟩ = false ∧ W.frozen? ⟨b, 3, none⟩ = false ∧ W.frozen? ⟨b, 4, none⟩ = false :=
  ⟨⟨(cell_of_row _ b 0 _ _ (0, 0) h).trans rfl, (cell_of_row _ b 1 _ _ (0, 0) h).trans rfl, (cell_of_row _ b 2 _ _ (0, 0) h).trans rfl, (cell_of_row _ b 3 _ _ (0, 0) h).trans rfl, (cell_of_row _ b 4 _ _ (0, 0) h).trans rfl⟩,
    frozen_of_row _ b 0 _ _ h, frozen_of_row _ b 1 _ _ h, frozen_of_row _ b 2 _ _ h, frozen_of_row _ b 3 _ _ h, frozen_of_row _ b 4 _ _ h⟩
theorem cells2 {W : World} {b : Nat} {u v : Value} {t : TypeId} (h : W.heap[b]? = some (.cells #[u, v] t (0, 0))) :
    (W.cell? ⟨b, 0, none⟩ = some u ∧ W.cell? ⟨b, 1, none⟩ = some v) ∧ W.frozen? ⟨b, 0, none⟩ = false ∧ W.frozen? ⟨b, 1, none⟩ = false :=
  ⟨⟨(cell_of_row _ b 0 _ _ (0, 0) h).trans rfl, (cell_of_row _ b 1 _ _ (0, 0) h).trans rfl⟩, frozen_of_row _ b 0 _ _ h, frozen_of_row _ b 1 _ _ h⟩
theorem row2_set {w1 : World} {b : Nat} {t : TypeId} {u v u' v' : Value} (h : w1.heap[b]? = some (.cells #[u, v] t (0, 0))) :
    ((w1.setCell ⟨b, 0, none⟩ u').setCell ⟨b, 1, none⟩ v').heap[b]? = some (.cells #[u', v'] t (0, 0)) := by
  have h1 := Go.heap_setCell_same w1 b 0 _ _ u' h
  exact Go.heap_setCell_same _ b 1 _ _ v' h1
theorem rowS3_set {w1 : World} {b : Nat} {t : TypeId} {x0 x1 x2 y0 y1 y2 : Value} (h : w1.heap[b]? = some (.cells #[x0, x1, x2] t (0, 0))) :
    (((w1.setCell ⟨b, 0, none⟩ y0).setCell ⟨b, 1, none⟩ y1).setCell ⟨b, 2, none⟩ y2).heap[b]? = some (.cells #[y0, y1, y2] t (0, 0)) := by
  have h0 : (w1.setCell ⟨b, 0, none⟩ y0).heap[b]? = some (.cells #[y0, x1, x2] t (0, 0)) := Go.heap_setCell_same _ b 0 _ _ y0 h
  have h1 : ((w1.setCell ⟨b, 0, none⟩ y0).setCell ⟨b, 1, none⟩ y1).heap[b]? = some (.cells #[y0, y1, x2] t (0, 0)) := Go.heap_setCell_same _ b 1 _ _ y1 h0
  have h2 : (((w1.setCell ⟨b, 0, none⟩ y0).setCell ⟨b, 1, none⟩ y1).setCell ⟨b, 2, none⟩ y2).heap[b]? = some (.cells #[y0, y1, y2] t (0, 0)) := Go.heap_setCell_same _ b 2 _ _ y2 h1
  exact h2
theorem cells3 {W : World} {b : Nat} {x0 x1 x2 : Value} {t : TypeId} (h : W.heap[b]? = some (.cells #[x0, x1, x2] t (0, 0))) :
    (W.cell? ⟨b, 0, none⟩ = some x0 ∧ W.cell? ⟨b, 1, none⟩ = some x1 ∧ W.cell? ⟨b, 2, none⟩ = some x2) ∧ W.frozen? ⟨b, 0, none⟩ = false ∧ W.frozen? ⟨b, 1, none⟩ = false ∧ W.frozen? ⟨b, 2, none⟩ = false :=
  ⟨⟨(cell_of_row _ b 0 _ _ (0, 0) h).trans rfl, (cell_of_row _ b 1 _ _ (0, 0) h).trans rfl, (cell_of_row _ b 2 _ _ (0, 0) h).trans rfl⟩, frozen_of_row _ b 0 _ _ h, frozen_of_row _ b 1 _ _ h, frozen_of_row _ b 2 _ _ h⟩
theorem set3_off {w1 : World} {b k : Nat} {y0 y1 y2 : Value} (h : k ≠ b) : (((w1.setCell ⟨b, 0, none⟩ y0).setCell ⟨b, 1, none⟩ y1).setCell ⟨b, 2, none⟩ y2).heap[k]? = w1.heap[k]? := by
  exact (heap_setCell_other _ ⟨b, 2, none⟩ k _ h).trans ((heap_setCell_other _ ⟨b, 1, none⟩ k _ h).trans (heap_setCell_other _ ⟨b, 0, none⟩ k _ h))
theorem rowS14_set {w1 : World} {b : Nat} {t : TypeId} {x0 x1 x2 x3 x4 x5 x6 x7 x8 x9 x10 x11 x12 x13 y0 y1 y2 y3 y4 y5 y6 y7 y8 y9 y10 y11 y12 y13 : Value} (h : w1.heap[b]? = some (.cells #[x0, x1, x2, x3, x4, x5, x6, x7, x8, x9, x10, x11, x12, x13] t (0, 0))) :
    ((((((((((((((w1.setCell ⟨b, 0, none⟩ y0).setCell ⟨b, 1, none⟩ y1).setCell ⟨b, 2, none⟩ y2).setCell ⟨b, 3, none⟩ y3).setCell ⟨b, 4, none⟩ y4).setCell ⟨b, 5, none⟩ y5).setCell ⟨b, 6, none⟩ y6).setCell ⟨b, 7, none⟩ y7).setCell ⟨b, 8, none⟩ y8).setCell ⟨b, 9, none⟩ y9).setCell ⟨b, 10, none⟩ y10).setCell ⟨b, 11, none⟩ y11).setCell ⟨b, 12, none⟩ y12).setCell ⟨b, 13, none⟩ y13).heap[b]? = some (.cells #[y0, y1, y2, y3, y4, y5, y6, y7, y8, y9, y10, y11, y12, y13] t (0, 0)) := by
  have h0 : (w1.setCell ⟨b, 0, none⟩ y0).heap[b]? = some (.cells #[y0, x1, x2, x3, x4, x5, x6, x7, x8, x9, x10, x11, x12, x13] t (0, 0)) := Go.heap_setCell_same _ b 0 _ _ y0 h
  have h1 : ((w1.setCell ⟨b, 0, none⟩ y0).setCell ⟨b, 1, none⟩ y1).heap[b]? = some (.cells #[y0, y1, x2, x3, x4, x5, x6, x7, x8, x9, x10, x11, x12, x13] t (0, 0)) := Go.heap_setCell_same _ b 1 _ _ y1 h0
  have h2 : (((w1.setCell ⟨b, 0, none⟩ y0).setCell ⟨b, 1, none⟩ y1).setCell ⟨b, 2, none⟩ y2).heap[b]? = some (.cells #[y0, y1, y2, x3, x4, x5, x6, x7, x8, x9, x10, x11, x12, x13] t (0, 0)) := Go.heap_setCell_same _ b 2 _ _ y2 h1
  have h3 : ((((w1.setCell ⟨b, 0, none⟩ y0).setCell ⟨b, 1, none⟩ y1).setCell ⟨b, 2, none⟩ y2).setCell ⟨b, 3, none⟩ y3).heap[b]? = some (.cells #[y0, y1, y2, y3, x4, x5, x6, x7, x8, x9, x10, x11, x12, x13] t (0, 0)) := Go.heap_setCell_same _ b 3 _ _ y3 h2
  have h4 : (((((w1.setCell ⟨b, 0, none⟩ y0).setCell ⟨b, 1, none⟩ y1).setCell ⟨b, 2, none⟩ y2).setCell ⟨b, 3, none⟩ y3).setCell ⟨b, 4, none⟩ y4).heap[b]? = some (.cells #[y0, y1, y2, y3, y4, x5, x6, x7, x8, x9, x10, x11, x12, x13] t (0, 0)) := Go.heap_setCell_same _ b 4 _ _ y4 h3
  have h5 : ((((((w1.setCell ⟨b, 0, none⟩ y0).setCell ⟨b, 1, none⟩ y1).setCell ⟨b, 2, none⟩ y2).setCell ⟨b, 3, none⟩ y3).setCell ⟨b, 4, none⟩ y4).setCell ⟨b, 5, none⟩ y5).heap[b]? = some (.cells #[y0, y1, y2, y3, y4, y5, x6, x7, x8, x9, x10, x11, x12, x13] t (0, 0)) := Go.heap_setCell_same _ b 5 _ _ y5 h4
  have h6 : (((((((w1.setCell ⟨b, 0, none⟩ y0).setCell ⟨b, 1, none⟩ y1).setCell ⟨b, 2, none⟩ y2).setCell ⟨b, 3, none⟩ y3).setCell ⟨b, 4, none⟩ y4).setCell ⟨b, 5, none⟩ y5).setCell ⟨b, 6, none⟩ y6).heap[b]? = some (.cells #[y0, y1, y2, y3, y4, y5, y6, x7, x8, x9, x10, x11, x12, x13] t (0, 0)) := Go.heap_setCell_same _ b 6 _ _ y6 h5
  have h7 : ((((((((w1.setCell ⟨b, 0, none⟩ y0).setCell ⟨b, 1, none⟩ y1).setCell ⟨b, 2, none⟩ y2).setCell ⟨b, 3, none⟩ y3).setCell ⟨b, 4, none⟩ y4).setCell ⟨b, 5, none⟩ y5).setCell ⟨b, 6, none⟩ y6).setCell ⟨b, 7, none⟩ y7).heap[b]? = some (.cells #[y0, y1, y2, y3, y4, y5, y6, y7, x8, x9, x10, x11, x12, x13] t (0, 0)) := Go.heap_setCell_same _ b 7 _ _ y7 h6
  have h8 : (((((((((w1.setCell ⟨b, 0, none⟩ y0).setCell ⟨b, 1, none⟩ y1).setCell ⟨b, 2, none⟩ y2).setCell ⟨b, 3, none⟩ y3).setCell ⟨b, 4, none⟩ y4).setCell ⟨b, 5, none⟩ y5).setCell ⟨b, 6, none⟩ y6).setCell ⟨b, 7, none⟩ y7).setCell ⟨b, 8, none⟩ y8).heap[b]? = some (.cells #[y0, y1, y2, y3, y4, y5, y6, y7, y8, x9, x10, x11, x12, x13] t (0, 0)) := Go.heap_setCell_same _ b 8 _ _ y8 h7
  have h9 : ((((((((((w1.setCell ⟨b, 0, none⟩ y0).setCell ⟨b, 1, none⟩ y1).setCell ⟨b, 2, none⟩ y2).setCell ⟨b, 3, none⟩ y3).setCell ⟨b, 4, none⟩ y4).setCell ⟨b, 5, none⟩ y5).setCell ⟨b, 6, none⟩ y6).setCell ⟨b, 7, none⟩ y7).setCell ⟨b, 8, none⟩ y8).setCell ⟨b, 9, none⟩ y9).heap[b]? = some (.cells #[y0, y1, y2, y3, y4, y5, y6, y7, y8, y9, x10, x11, x12, x13] t (0, 0)) := Go.heap_setCell_same _ b 9 _ _ y9 h8
  have h10 : (((((((((((w1.setCell ⟨b, 0, none⟩ y0).setCell ⟨b, 1, none⟩ y1).setCell ⟨b, 2, none⟩ y2).setCell ⟨b, 3, none⟩ y3).setCell ⟨b, 4, none⟩ y4).setCell ⟨b, 5, none⟩ y5).setCell ⟨b, 6, none⟩ y6).setCell ⟨b, 7, none⟩ y7).setCell ⟨b, 8, none⟩ y8).setCell ⟨b, 9, none⟩ y9).setCell ⟨b, 10, none⟩ y10).heap[b]? = some (.cells #[y0, y1, y2, y3, y4, y5, y6, y7, y8, y9, y10, x11, x12, x13] t (0, 0)) := Go.heap_setCell_same _ b 10 _ _ y10 h9
  have h11 : ((((((((((((w1.setCell ⟨b, 0, none⟩ y0).setCell ⟨b, 1, none⟩ y1).setCell ⟨b, 2, none⟩ y2).setCell ⟨b, 3, none⟩ y3).setCell ⟨b, 4, none⟩ y4).setCell ⟨b, 5, none⟩ y5).setCell ⟨b, 6, none⟩ y6).setCell ⟨b, 7, none⟩ y7).setCell ⟨b, 8, none⟩ y8).setCell ⟨b, 9, none⟩ y9).setCell ⟨b, 10, none⟩ y10).setCell ⟨b, 11, none⟩ y11).heap[b]? = some (.cells #[y0, y1, y2, y3, y4, y5, y6, y7, y8, y9, y10, y11, x12, x13] t (0, 0)) := Go.heap_setCell_same _ b 11 _ _ y11 h10
  have h12 : (((((((((((((w1.setCell ⟨b, 0, none⟩ y0).setCell ⟨b, 1, none⟩ y1).setCell ⟨b, 2, none⟩ y2).setCell ⟨b, 3, none⟩ y3).setCell ⟨b, 4, none⟩ y4).setCell ⟨b, 5, none⟩ y5).setCell ⟨b, 6, none⟩ y6).setCell ⟨b, 7, none⟩ y7).setCell ⟨b, 8, none⟩ y8).setCell ⟨b, 9, none⟩ y9).setCell ⟨b, 10, none⟩ y10).setCell ⟨b, 11, none⟩ y11).setCell ⟨b, 12, none⟩ y12).heap[b]? = some (.cells #[y0, y1, y2, y3, y4, y5, y6, y7, y8, y9, y10, y11, y12, x13] t (0, 0)) := Go.heap_setCell_same _ b 12 _ _ y12 h11
  have h13 : ((((((((((((((w1.setCell ⟨b, 0, none⟩ y0).setCell ⟨b, 1, none⟩ y1).setCell ⟨b, 2, none⟩ y2).setCell ⟨b, 3, none⟩ y3).setCell ⟨b, 4, none⟩ y4).setCell ⟨b, 5, none⟩ y5).setCell ⟨b, 6, none⟩ y6).setCell ⟨b, 7, none⟩ y7).setCell ⟨b, 8, none⟩ y8).setCell ⟨b, 9, none⟩ y9).setCell ⟨b, 10, none⟩ y10).setCell ⟨b, 11, none⟩ y11).setCell ⟨b, 12, none⟩ y12).setCell ⟨b, 13, none⟩ y13).heap[b]? = some (.cells #[y0, y1, y2, y3, y4, y5, y6, y7, y8, y9, y10, y11, y12, y13] t (0, 0)) := Go.heap_setCell_same _ b 13 _ _ y13 h12
  exact h13
theorem cells14 {W : World} {b : Nat} {x0 x1 x2 x3 x4 x5 x6 x7 x8 x9 x10 x11 x12 x13 : Value} {t : TypeId} (h : W.heap[b]? = some (.cells #[x0, x1, x2, x3, x4, x5, x6, x7, x8, x9, x10, x11, x12, x13] t (0, 0))) :
    (W.cell? ⟨b, 0, none⟩ = some x0 ∧ W.cell? ⟨b, 1, none⟩ = some x1 ∧ W.cell? ⟨b, 2, none⟩ = some x2 ∧ W.cell? ⟨b, 3, none⟩ = some x3 ∧ W.cell? ⟨b, 4, none⟩ = some x4 ∧ W.cell? ⟨b, 5, none⟩ = some x5 ∧ W.cell? ⟨b, 6, none⟩ = some x6 ∧ W.cell? ⟨b, 7, none⟩ = some x7 ∧ W.cell? ⟨b, 8, none⟩ = some x8 ∧ W.cell? ⟨b, 9, none⟩ = some x9 ∧ W.cell? ⟨b, 10, none⟩ = some x10 ∧ W.cell? ⟨b, 11, none⟩ = some x11 ∧ W.cell? ⟨b, 12, none⟩ = some x12 ∧ W.cell? ⟨b, 13, none⟩ = some x13) ∧ W.frozen? ⟨b, 0, none⟩ = false ∧ W.frozen? ⟨b, 1, none⟩ = false ∧ W.frozen? ⟨b, 2, none⟩ = false ∧ W.frozen? ⟨b, 3, none⟩ = false ∧ W.frozen? ⟨b, 4, none⟩ = false ∧ W.frozen? ⟨b, 5, none⟩ = false ∧ W.frozen? ⟨b, 6, none⟩ = false ∧ W.frozen? ⟨b, 7, none⟩ = false ∧ W.frozen? ⟨b, 8, none⟩ = false ∧ W.frozen? ⟨b, 9, none⟩ = false ∧ W.frozen? ⟨b, 10, none⟩ = false ∧ W.frozen? ⟨b, 11, none⟩ = false ∧ W.frozen? ⟨b, 12, none⟩ = false ∧ W.frozen? ⟨b, 13, none⟩ = false :=
  ⟨⟨(cell_of_row _ b 0 _ _ (0, 0) h).trans rfl, (cell_of_row _ b 1 _ _ (0, 0) h).trans rfl, (cell_of_row _ b 2 _ _ (0, 0) h).trans rfl, (cell_of_row _ b 3 _ _ (0, 0) h).trans rfl, (cell_of_row _ b 4 _ _ (0, 0) h).trans rfl, (cell_of_row _ b 5 _ _ (0, 0) h).trans rfl, (cell_of_row _ b 6 _ _ (0, 0) h).trans rfl, (cell_of_row _ b 7 _ _ (0, 0) h).trans rfl, (cell_of_row _ b 8 _ _ (0, 0) h).trans rfl, (cell_of_row _ b 9 _ _ (0, 0) h).trans rfl, (cell_of_row _ b 10 _ _ (0, 0) h).trans rfl, (cell_of_row _ b 11 _ _ (0, 0) h).trans rfl, (cell_of_row _ b 12 _ _ (0, 0) h).trans rfl, (cell_of_row _ b 13 _ _ (0, 0) h).trans rfl⟩, frozen_of_row _ b 0 _ _ h, frozen_of_row _ b 1 _ _ h, frozen_of_row _ b 2 _ _ h, frozen_of_row _ b 3 _ _ h, frozen_of_row _ b 4 _ _ h, frozen_of_row _ b 5 _ _ h, frozen_of_row _ b 6 _ _ h, frozen_of_row _ b 7 _ _ h, frozen_of_row _ b 8 _ _ h, frozen_of_row _ b 9 _ _ h, frozen_of_row _ b 10 _ _ h, frozen_of_row _ b 11 _ _ h, frozen_of_row _ b 12 _ _ h, frozen_of_row _ b 13 _ _ h⟩
theorem set14_off {w1 : World} {b k : Nat} {y0 y1 y2 y3 y4 y5 y6 y7 y8 y9 y10 y11 y12 y13 : Value} (h : k ≠ b) : ((((((((((((((w1.setCell ⟨b, 0, none⟩ y0).setCell ⟨b, 1, none⟩ y1).setCell ⟨b, 2, none⟩ y2).setCell ⟨b, 3, none⟩ y3).setCell ⟨b, 4, none⟩ y4).setCell ⟨b, 5, none⟩ y5).setCell ⟨b, 6, none⟩ y6).setCell ⟨b, 7, none⟩ y7).setCell ⟨b, 8, none⟩ y8).setCell ⟨b, 9, none⟩ y9).setCell ⟨b, 10, none⟩ y10).setCell ⟨b, 11, none⟩ y11).setCell ⟨b, 12, none⟩ y12).setCell ⟨b, 13, none⟩ y13).heap[k]? = w1.heap[k]? := by
  exact (heap_setCell_other _ ⟨b, 13, none⟩ k _ h).trans ((heap_setCell_other _ ⟨b, 12, none⟩ k _ h).trans ((heap_setCell_other _ ⟨b, 11, none⟩ k _ h).trans ((heap_setCell_other _ ⟨b, 10, none⟩ k _ h).trans ((heap_setCell_other _ ⟨b, 9, none⟩ k _ h).trans ((heap_setCell_other _ ⟨b, 8, none⟩ k _ h).trans ((heap_setCell_other _ ⟨b, 7, none⟩ k _ h).trans ((heap_setCell_other _ ⟨b, 6, none⟩ k _ h).trans ((heap_setCell_other _ ⟨b, 5, none⟩ k _ h).trans ((heap_setCell_other _ ⟨b, 4, none⟩ k _ h).trans ((heap_setCell_other _ ⟨b, 3, none⟩ k _ h).trans ((heap_setCell_other _ ⟨b, 2, none⟩ k _ h).trans ((heap_setCell_other _ ⟨b, 1, none⟩ k _ h).trans (heap_setCell_other _ ⟨b, 0, none⟩ k _ h)))))))))))))
end
section
open Go Go.RowKit Go.Shelf

theorem RowIn.shape {α : Type} {Y : Lay α} {S : Nat → Prop} {w : World} {v : Value} {L : List α} (h : RowIn Y S w v L) : ∃ p c, v = .slice p L.length c := by
  obtain ⟨p, c, rfl, -⟩ := h
  exact ⟨p, c, rfl⟩
theorem RowIn.in_below {α : Type} {Y : Lay α} {S : Nat → Prop} {w w' : World} {v : Value} {L : List α} (h : RowIn Y S w v L) (hb : Below w.heap.size w w') : RowIn Y S w' v L := h.keep hb.size fun k e hk => ⟨e, hb.block k hk⟩
theorem cells5_at {S : Nat → Prop} {w : World} {v : Value} {L : List TmL} (h : RowIn tmY S w v L) {j : Nat} (hj : j < L.length) : ∃ b off c, v = .slice (some ⟨b, off, none⟩) L.length c ∧ b < w.heap.size ∧
    w.cell? ⟨b, off + j * 5, none⟩ = some (.int .i64 L[j].kind) ∧ w.cell? ⟨b, off + j * 5 + 1, none⟩ = some (.string ⟨L[j].name.toArray⟩) ∧ w.cell? ⟨b, off + j * 5 + 2, none⟩ = some (.int .i64 L[j].val.1) ∧ w.cell? ⟨b, off + j * 5 + 3, none⟩ = some (.int .i64 L[j].val.2.1) ∧ w.cell? ⟨b, off + j * 5 + 4, none⟩ = some (.string L[j].val.2.2) := by
  obtain ⟨p, c, rfl, -, -, h⟩ := h
  rcases h with h | ⟨b, off, rfl, -, hb, h⟩
  · subst h; simp at hj
  · obtain ⟨us, hu, hc⟩ := h j hj
    have hu : us = cellT L[j] := hu
    subst hu
    exact ⟨b, off, c, rfl, hb, hc 0 _ rfl, hc 1 _ rfl, hc 2 _ rfl, hc 3 _ rfl, hc 4 _ rfl⟩
theorem two_newA (W : World) (o o' : Obj) : ((W.alloc o).alloc o').heap[W.heap.size]? = some o ∧ ((W.alloc o).alloc o').heap[W.heap.size + 1]? = some o' := by
  refine ⟨(Below.heap_alloc _ _ _ (by simp)).trans (heap_alloc_new W o), ?_⟩
  have := heap_alloc_new (W.alloc o) o'
  rw [show (W.alloc o).heap.size = W.heap.size + 1 by simp] at this
  exact this
theorem len_le {α : Type} {Y : Lay α} {S : Nat → Prop} {w : World} {v : Value} {L : List α} (h : RowIn Y S w v L) : L.length ≤ 9223372036854775807 := by
  obtain ⟨p, c, -, l1, l2, -⟩ := h
  exact Nat.le_trans l1 l2
end
section
open Go Go.RowKit Go.Shelf

/-- A drawn region whose head only reads and whose tail comes in one order. -/
theorem region_tail {P : Program} {id : Nat} {Q : Exit → Act → World → Prop} {a : Act} {w : World} {l : List Oper} (n : Nat) (hm : P.follows .mixedOrders = true) (hB : Region.lexTailB .any l.toArray n = true)
    (h : wpStill P l.toArray w.drew (fun a' => wpList P l.toArray Q (l.drop n) a' w.drew) (l.take n) a) : (Code.region id l.toArray true).wp P Q a w := wp_region_still_tail n hm hB h
theorem still_no {P : Program} {ops : Array Oper} {w : World} {Q : Act → Prop} {a a' : Act} {o : Oper} {rest : List Oper} (hw : Region.wanted o (yielded ops a.tmps) = false) (ha : a.put o.dst undef = a') (h : wpStill P ops w Q rest a') : wpStill P ops w Q (o :: rest) a :=
  wpStill_step fun K hK => by rw [if_neg (by rw [hw]; simp), ha]; exact hK _ h
/-- A frame into which a value has been put, laid out anew: one name for all the steps. -/
theorem put_norm : (∀ (t : Array Value) (ds : List Deferred) (d : Tmp) (v : Value), (⟨t, ds⟩ : Act).put (some d) v = ⟨t.setIfInBounds d v, ds⟩) ∧ (∀ (a : Act) (v : Value), a.put none v = a) ∧ (∀ (l : List Value) (i : Nat) (v : Value), l.toArray.setIfInBounds i v = (l.set i v).toArray) ∧
    (∀ (l : List Value) (x v : Value), (x :: l).set 0 v = v :: l) ∧ (∀ (l : List Value) (x v : Value) (n : Nat), (x :: l).set (n + 1) v = x :: l.set n v) :=
  ⟨fun _ _ _ _ => rfl, fun _ _ => rfl, fun l i v => List.setIfInBounds_toArray l i v, fun _ _ _ => rfl, fun _ _ _ _ => rfl⟩
/-- Cells laid in a new block. -/
theorem lit_rowcells (w : World) (us : List Value) (t : TypeId) : ∀ j u, us[j]? = some u → (w.alloc (.cells us.toArray t)).cell? ⟨w.heap.size, 0 + j, none⟩ = some u := by
  intro j u hu
  rw [Nat.zero_add, cell_of_row _ w.heap.size _ _ _ (0, 0) (heap_alloc_new w _)]
  simpa using hu
end
end Go.Proofs.YtfjpiofinffpfaaDoor

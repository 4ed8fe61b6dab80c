/-
  Rows of parts in memory: how a part lies in cells, a row that is read, a row of the call's own, an append of one.
  The program's reader of tokens in memory: next, need.
  slices.Index at a row of texts; the program's reader: take.
  The program's reader: which, must, may.
  The program's reader: reserved, name.
  The program's reader: term.
-/
import Derived.Test.YtnbaemfkpfmheaaGreatDoorLxW
import Derived.Test.YtnbaemfkpfmheaaGreatDoorG01
import Derived.Deep.QuietTactic
import Derived.BigQuiet
import Derived.Laws.Unary
import Derived.StillTailTactics
namespace Go.Proofs.YtnbaemfkpfmheaaGreatDoor
section
open Go Go.RowKit Go.Shelf

/-- Only blocks of Y are turned. -/
structure Turned (Y : Nat → Prop) (A B : World) : Prop where
  os : B.os = A.os
  tape : B.tape = A.tape
  output : B.output = A.output
  size : A.heap.size ≤ B.heap.size
  block : ∀ k, k < A.heap.size → ¬ Y k → B.heap[k]? = A.heap[k]?
theorem Turned.below {Y : Nat → Prop} {A B : World} (h : Turned Y A B) {n : Nat} (hn : n ≤ A.heap.size) (hY : ∀ k, Y k → n ≤ k) : Below n A B := ⟨h.os, h.tape, h.output, h.size, fun k hk => h.block k (by omega) (fun e => by have := hY k e; omega)⟩
theorem Turned.of_below {Y : Nat → Prop} {A B : World} (h : Below A.heap.size A B) : Turned Y A B := ⟨h.os, h.tape, h.output, h.size, fun k hk _ => h.block k hk⟩
theorem Turned.of_grown {A B : World} {ob : Option Nat} (hg : A.grownBy B ob) : Turned (fun k => ob = some k) A B := by
  have h := (Below.refl 0 A).grown hg (Nat.zero_le _) (fun _ _ => Nat.zero_le _)
  exact ⟨h.os, h.tape, h.output, hg.size, fun k hk hn => hg.block k hk (fun e => hn e.symm)⟩
theorem Turned.refl (Y : Nat → Prop) (A : World) : Turned Y A A := ⟨rfl, rfl, rfl, Nat.le_refl _, fun _ _ _ => rfl⟩
theorem Turned.trans {Y Z : Nat → Prop} {A B C : World} (h : Turned Y A B) (g : Turned Z B C) (hZ : ∀ k, k < A.heap.size → Z k → Y k) : Turned Y A C :=
  ⟨g.os.trans h.os, g.tape.trans h.tape, g.output.trans h.output, Nat.le_trans h.size g.size, fun k hk hn => (g.block k (Nat.lt_of_lt_of_le hk h.size) (fun e => hn (hZ k hk e))).trans (h.block k hk hn)⟩
theorem Turned.mono {Y Z : Nat → Prop} {A B : World} (h : Turned Y A B) (hZ : ∀ k, k < A.heap.size → Y k → Z k) : Turned Z A B := ⟨h.os, h.tape, h.output, h.size, fun k hk hn => h.block k hk (fun e => hn (hZ k hk e))⟩
theorem Turned.set (W : World) (b j : Nat) (u : Value) : Turned (fun k => k = b) W (W.setCell ⟨b, j, none⟩ u) := ⟨rfl, rfl, rfl, by simp, fun k _ hk => heap_setCell_other W ⟨b, j, none⟩ k u hk⟩
theorem Turned.alloc (Y : Nat → Prop) (W : World) (o : Obj) : Turned Y W (W.alloc o) := .of_below ((Below.refl _ W).alloc (Nat.le_refl _) o)
theorem Turned.drew (Y : Nat → Prop) (W : World) (n : Nat) : Turned Y W (W.drewN n) := ⟨rfl, rfl, rfl, Nat.le_refl _, fun _ _ _ => rfl⟩

/-- How things of a kind lie in cells. -/
structure Lay (α : Type) where
  sz : Nat
  is : (Nat → Prop) → World → List Value → α → Prop
  len : ∀ {S : Nat → Prop} {w : World} {us : List Value} {a : α}, is S w us a → us.length = sz
  one : ∀ {S : Nat → Prop} {w : World} {us : List Value} {a : α}, is S w us a → ∀ u ∈ us, u.oneCell' = true
  keep : ∀ {S S' : Nat → Prop} {w w' : World} {us : List Value} {a : α}, is S w us a → w.heap.size ≤ w'.heap.size → (∀ k, S k → k < w.heap.size → S' k ∧ w'.heap[k]? = w.heap[k]?) → is S' w' us a
section
variable {α : Type}
/-- A slice value reads as a row of things; its block is one of S. -/
def RowIn (Y : Lay α) (S : Nat → Prop) (w : World) (v : Value) (L : List α) : Prop :=
  ∃ p c, v = .slice p L.length c ∧ L.length ≤ c ∧ c ≤ maxLen ∧ (L = [] ∨ ∃ b off, p = some ⟨b, off, none⟩ ∧ S b ∧ b < w.heap.size ∧ ∀ j (h : j < L.length), ∃ us, Y.is S w us L[j] ∧ ∀ i u, us[i]? = some u → w.cell? ⟨b, off + (j * Y.sz + i), none⟩ = some u)
theorem RowIn.keep {Y : Lay α} {S S' : Nat → Prop} {w w' : World} {v : Value} {L : List α} (h : RowIn Y S w v L) (hs : w.heap.size ≤ w'.heap.size) (hS : ∀ k, S k → k < w.heap.size → S' k ∧ w'.heap[k]? = w.heap[k]?) : RowIn Y S' w' v L := by
  obtain ⟨p, c, rfl, h1, h2, h⟩ := h
  refine ⟨p, c, rfl, h1, h2, ?_⟩
  rcases h with h | ⟨b, off, rfl, hb, hl, h⟩
  · exact .inl h
  · obtain ⟨g1, g2⟩ := hS b hb hl
    refine .inr ⟨b, off, rfl, g1, by omega, fun j hj => ?_⟩
    obtain ⟨us, hu, hc⟩ := h j hj
    exact ⟨us, Y.keep hu hs hS, fun i u e => (World.cell?_of_block (a := ⟨b, off + (j * Y.sz + i), none⟩) g2).trans (hc i u e)⟩
theorem RowIn.turned {Y : Lay α} {S Z : Nat → Prop} {w w' : World} {v : Value} {L : List α} (h : RowIn Y S w v L) (ht : Turned Z w w') (hZ : ∀ k, S k → ¬ Z k) : RowIn Y S w' v L := h.keep ht.size fun k e hk => ⟨e, ht.block k hk (hZ k e)⟩
theorem RowIn.nil (Y : Lay α) (S : Nat → Prop) (w : World) : RowIn Y S w (.slice none 0 0) [] := ⟨none, 0, rfl, Nat.le_refl _, Nat.zero_le _, .inl rfl⟩
/-- A slice value that the call owns holds a row of things. -/
def RowOwn (Y : Lay α) (et : TypeId) (B : Nat) (w : World) (v : Value) (L : List α) : Prop :=
  ∃ us, w.ownsRow B et Y.sz v L.length us ∧ ∀ j (h : j < L.length), ∃ xs, Y.is (fun k => B ≤ k ∧ v.ownBlock ≠ some k) w xs L[j] ∧ ∀ i u, xs[i]? = some u → us[j * Y.sz + i]? = some u
theorem RowOwn.nil (Y : Lay α) (et : TypeId) (B : Nat) (w : World) : RowOwn Y et B w (.slice none 0 0) [] := ⟨[], World.ownsRow_nil w B _ _, fun j h => by simp at h⟩
theorem RowOwn.lt {Y : Lay α} {et : TypeId} {B : Nat} {w : World} {v : Value} {L : List α} (h : RowOwn Y et B w v L) : ∀ k, v.ownBlock = some k → B ≤ k ∧ k < w.heap.size := by
  obtain ⟨us, h, -⟩ := h
  exact World.ownsRow.lt h
theorem ownsRow_keep {B sz n : Nat} {t : TypeId} {w w' : World} {v : Value} {us : List Value} (h : w.ownsRow B t sz v n us) (hb : ∀ k, v.ownBlock = some k → w'.heap[k]? = w.heap[k]?) : w'.ownsRow B t sz v n us := by
  refine ⟨h.1, ?_⟩
  rcases h.2 with hn | ⟨g, cap, cur, rfl, hB, hg, rest⟩
  · exact .inl hn
  · exact .inr ⟨g, cap, cur, rfl, hB, (hb g rfl).trans hg, rest⟩
theorem RowOwn.keep {Y : Lay α} {et : TypeId} {B : Nat} {w w' : World} {v : Value} {L : List α} (h : RowOwn Y et B w v L) (hs : w.heap.size ≤ w'.heap.size) (hb : ∀ k, B ≤ k → k < w.heap.size → w'.heap[k]? = w.heap[k]?) : RowOwn Y et B w' v L := by
  have hlt := h.lt
  obtain ⟨us, h1, h2⟩ := h
  refine ⟨us, ownsRow_keep h1 fun k e => hb k (hlt k e).1 (hlt k e).2, fun j hj => ?_⟩
  obtain ⟨xs, hx, hc⟩ := h2 j hj
  exact ⟨xs, Y.keep hx hs fun k e hk => ⟨e, hb k e.1 hk⟩, hc⟩
theorem RowOwn.turned {Y : Lay α} {et : TypeId} {B : Nat} {Z : Nat → Prop} {w w' : World} {v : Value} {L : List α} (h : RowOwn Y et B w v L) (ht : Turned Z w w') (hZ : ∀ k, B ≤ k → k < w.heap.size → ¬ Z k) : RowOwn Y et B w' v L := h.keep ht.size fun k hB hk => ht.block k hk (hZ k hB hk)
theorem RowOwn.in_ {Y : Lay α} {et : TypeId} {B : Nat} {w : World} {v : Value} {L : List α} (h : RowOwn Y et B w v L) : RowIn Y (fun k => B ≤ k) w v L := by
  obtain ⟨us, ho, h⟩ := h
  rcases Nat.eq_zero_or_pos L.length with h0 | h0
  · obtain rfl := List.eq_nil_of_length_eq_zero h0
    rcases ho.2 with ⟨rfl, -⟩ | ⟨g, cap, cur, rfl, -, -, hnc, hcm, -⟩
    · exact ⟨none, 0, rfl, by simp, by simp, .inl rfl⟩
    · exact ⟨_, cap, rfl, by simp, hcm, .inl rfl⟩
  · have hcap : ∃ g cap, v = .slice (some ⟨g, 0, none⟩) L.length cap ∧ B ≤ g ∧ L.length ≤ cap ∧ cap ≤ maxLen ∧ g < w.heap.size := by
      rcases ho.2 with ⟨rfl, e⟩ | ⟨g, cap, cur, rfl, hB, hg, hnc, hcm, -⟩
      · omega
      · exact ⟨g, cap, rfl, hB, hnc, hcm, (Array.getElem?_eq_some_iff.1 hg).1⟩
    obtain ⟨g, cap, rfl, g0, g1, g2, g3⟩ := hcap
    refine ⟨_, cap, rfl, g1, g2, .inr ⟨g, 0, rfl, g0, g3, fun j hj => ?_⟩⟩
    obtain ⟨xs, hx, hc⟩ := h j hj
    refine ⟨xs, Y.keep hx (Nat.le_refl _) fun k e _ => ⟨e.1, rfl⟩, fun i u e => ?_⟩
    have hcell := World.ownsRow.cells ho (g := g) rfl (j * Y.sz + i) u (hc i u e)
    rw [addr_add] at hcell
    exact hcell
/-- A row of one thing, laid in a new block. -/
theorem RowOwn.lit {Y : Lay α} {et : TypeId} {B : Nat} {w : World} {us : List Value} {x : α} (hB : B ≤ w.heap.size) (hx : Y.is (fun k => B ≤ k) w us x) :
    RowOwn Y et B (w.alloc (.cells us.toArray et)) (.slice (some ⟨w.heap.size, 0, none⟩) 1 1) [x] := by
  have hl := Y.len hx
  refine ⟨us, ⟨by rw [hl]; simp, .inr ⟨w.heap.size, 1, us.toArray, rfl, hB, heap_alloc_new w _, Nat.le_refl _, by unfold maxLen; omega, by simp [hl], ?_⟩⟩, fun j hj => ?_⟩
  · rw [show ([x] : List α).length * Y.sz = us.length by rw [hl]; simp]
    simp
  · obtain rfl : j = 0 := by simp at hj; omega
    refine ⟨us, Y.keep hx (by simp) fun k e hk => ⟨⟨e, fun e2 => ?_⟩, ?_⟩, fun i u e => by simpa using e⟩
    · simp [Value.ownBlock] at e2
      omega
    · exact Below.heap_alloc _ _ _ hk
theorem run_appY (Y : Lay α) (w : World) (B : Nat) (st et ty : TypeId) (z : Value) (by_ : Nat) (hu : Tryz.prog.underlying st = some (.slice et)) (hi : (Tryz.prog.info? et).map (fun i => (i.zero, i.size, i.bytes)) = some (some z, Y.sz, by_)) (hzc : z.cells.size = Y.sz) (hsz : 0 < Y.sz) (hby : by_ ≤ 1000) (v : Value) (T : List α) (x : α) (us : List Value) (b c : Nat)
    (hown : RowOwn Y et B w v T) (hx : Y.is (fun k => B ≤ k ∧ v.ownBlock ≠ some k) w us x) (hc : ∀ j u, us[j]? = some u → w.cell? ⟨b, 0 + j, none⟩ = some u) (hn : T.length ≤ 1000000) (hB : B ≤ w.heap.size) :
    ∃ v' w', (Builtin.append_ #[st, st] ty #[v, .slice (some ⟨b, 0, none⟩) 1 c]).run Tryz.prog w = .ok v' w' ∧ RowOwn Y et B w' v' (T ++ [x]) ∧ w.grownBy w' v.ownBlock ∧ (v'.ownBlock = v.ownBlock ∨ v'.ownBlock = some w.heap.size) := by
  obtain ⟨i0, hi, hz0, hz1, hz2⟩ := info_parts hi
  have hbytes : (T.length + 1) * by_ ≤ 140737488355328 := by
    have : (T.length + 1) * by_ ≤ 1000001 * 1000 := Nat.mul_le_mul (by omega) hby
    omega
  obtain ⟨xs, ho, hxs⟩ := hown
  obtain ⟨v', w', hr, ho', hg, -, hv⟩ := run_append_own_at (P := Tryz.prog) w B st ty et i0 z Y.sz by_ hu hi hz0 hz1 hz2 hzc hsz v _ xs ho ⟨b, 0, none⟩ 1 c us
    (by rw [Y.len hx]; simp) (fun j u hu => by rw [addr_add]; exact hc j u hu) (Y.one hx) (by unfold maxLen; omega) hbytes hB
  have hlen : xs.length = T.length * Y.sz := ho.1
  have hin : ∀ k, (B ≤ k ∧ v.ownBlock ≠ some k) → k < w.heap.size → (B ≤ k ∧ v'.ownBlock ≠ some k) ∧ w'.heap[k]? = w.heap[k]? := fun k e hk =>
    ⟨⟨e.1, fun e2 => by
      rcases hv with hv | hv
      · exact e.2 (hv.symm.trans e2)
      · rw [hv] at e2; cases e2; omega⟩, hg.block k hk fun e2 => e.2 e2.symm⟩
  refine ⟨v', w', hr, ⟨xs ++ us, by rw [List.length_append]; exact ho', fun j hj => ?_⟩, hg, hv⟩
  by_cases e : j < T.length
  · obtain ⟨ys, hy, hcy⟩ := hxs j e
    rw [List.getElem_append_left e]
    refine ⟨ys, Y.keep hy hg.size hin, fun i u hu => ?_⟩
    have := hcy i u hu
    rw [List.getElem?_append_left (List.getElem?_eq_some_iff.1 this).1]
    exact this
  · obtain rfl : j = T.length := by simp at hj; omega
    rw [List.getElem_append_right (Nat.le_refl _)]
    simp only [Nat.sub_self, List.getElem_cons_zero]
    refine ⟨us, Y.keep hx hg.size hin, fun i u hu => ?_⟩
    rw [List.getElem?_append_right (by omega), hlen, Nat.add_sub_cancel_left]
    exact hu
theorem wpList_appY {ops : Array Oper} {rest : List Oper} {o : Oper} {a : Act} {w : World} {Q : Exit → Act → World → Prop} (Y : Lay α) (hgd : o.guard = none) (s y : Operand) (st et : TypeId)
    (ho : o.op = .call { callee := .builtin .append, args := #[s, y], argTypes := #[st, st] }) (B : Nat) (z : Value) (by_ : Nat) (hu : Tryz.prog.underlying st = some (.slice et)) (hi : (Tryz.prog.info? et).map (fun i => (i.zero, i.size, i.bytes)) = some (some z, Y.sz, by_)) (hzc : z.cells.size = Y.sz) (hsz : 0 < Y.sz) (hby : by_ ≤ 1000) (v : Value) (T : List α) (x : α) (us : List Value) (b c : Nat)
    (hs : a.eval s = v) (hx : a.eval y = .slice (some ⟨b, 0, none⟩) 1 c) (hown : RowOwn Y et B w v T) (hin : Y.is (fun k => B ≤ k ∧ v.ownBlock ≠ some k) w us x) (hc : ∀ j u, us[j]? = some u → w.cell? ⟨b, 0 + j, none⟩ = some u) (hn : T.length ≤ 1000000) (hB : B ≤ w.heap.size)
    (h : ∀ v' w', RowOwn Y et B w' v' (T ++ [x]) → w.grownBy w' v.ownBlock → (v'.ownBlock = v.ownBlock ∨ v'.ownBlock = some w.heap.size) → wpList Tryz.prog ops Q rest (a.put o.dst v') w') : wpList Tryz.prog ops Q (o :: rest) a w := by
  refine wpList_plain hgd fun K hK => ?_
  obtain ⟨v', w', hr, h2, h3, h4⟩ := run_appY Y w B st et o.type z by_ hu hi hzc hsz hby v T x us b c hown hin hc hn hB
  unfold Oper.wp execOp
  simp only [ho, resolve, invoke, builtin, Sem.run_bind, Sem.run_pure, Result.andThen_ok, List.map_toArray, List.map_cons, List.map_nil, hs, hx, hr]
  exact hK _ _ (h v' w' h2 h3 h4)
/-- An append at a step of a drawn region. -/
theorem step_appY {ops : Array Oper} {o : Oper} {a : Act} {w : World} {K : Act → World → Prop} {Q : Exit → Act → World → Prop} {E : Prop} (Y : Lay α) (hgd : o.guard = none) (s y : Operand) (st et : TypeId)
    (ho : o.op = .call { callee := .builtin .append, args := #[s, y], argTypes := #[st, st] }) (B : Nat) (z : Value) (by_ : Nat) (hu : Tryz.prog.underlying st = some (.slice et)) (hi : (Tryz.prog.info? et).map (fun i => (i.zero, i.size, i.bytes)) = some (some z, Y.sz, by_)) (hzc : z.cells.size = Y.sz) (hsz : 0 < Y.sz) (hby : by_ ≤ 1000) (v : Value) (T : List α) (x : α) (us : List Value) (b c : Nat)
    (hs : a.eval s = v) (hx : a.eval y = .slice (some ⟨b, 0, none⟩) 1 c) (hown : RowOwn Y et B w v T) (hin : Y.is (fun k => B ≤ k ∧ v.ownBlock ≠ some k) w us x) (hc : ∀ j u, us[j]? = some u → w.cell? ⟨b, 0 + j, none⟩ = some u) (hn : T.length ≤ 1000000) (hB : B ≤ w.heap.size)
    (h : ∀ v' w', RowOwn Y et B w' v' (T ++ [x]) → w.grownBy w' v.ownBlock → (v'.ownBlock = v.ownBlock ∨ v'.ownBlock = some w.heap.size) → K (a.put o.dst v') w') : if Region.wanted o (yielded ops a.tmps) = true then Oper.wp Tryz.prog o a w K Q else E := by
  have hw : Region.wanted o (yielded ops a.tmps) = true := by simp [Region.wanted, hgd]
  rw [if_pos hw]
  obtain ⟨v', w', hr, h2, h3, h4⟩ := run_appY Y w B st et o.type z by_ hu hi hzc hsz hby v T x us b c hown hin hc hn hB
  unfold Oper.wp execOp
  simp only [ho, resolve, invoke, builtin, Sem.run_bind, Sem.run_pure, Result.andThen_ok, List.map_toArray, List.map_cons, List.map_nil, hs, hx, hr]
  exact h v' w' h2 h3 h4
end

/-! The parts -/
def cellT (t : TmL) : List Value := [.int .i64 t.kind, .string ⟨t.name.toArray⟩, .int .i64 t.val.1, .int .i64 t.val.2.1, .string t.val.2.2]
def tmY : Lay TmL where
  sz := 5
  is := fun _ _ us t => us = cellT t
  len := fun h => by rw [h]; rfl
  one := fun h u hu => by
    subst h
    simp only [cellT, List.mem_cons, List.not_mem_nil, or_false] at hu
    rcases hu with rfl | rfl | rfl | rfl | rfl <;> rfl
  keep := fun h _ _ => h
def tyY : Lay Int where
  sz := 1
  is := fun _ _ us n => us = [.int .i64 n]
  len := fun h => by rw [h]; rfl
  one := fun h u hu => by
    subst h
    simp only [List.mem_cons, List.not_mem_nil, or_false] at hu
    rw [hu]; rfl
  keep := fun h _ _ => h
def paY : Lay (List UInt8 × Int) where
  sz := 2
  is := fun _ _ us p => us = [.string ⟨p.1.toArray⟩, .int .i64 p.2]
  len := fun h => by rw [h]; rfl
  one := fun h u hu => by
    subst h
    simp only [List.mem_cons, List.not_mem_nil, or_false] at hu
    rcases hu with rfl | rfl <;> rfl
  keep := fun h _ _ => h
theorem rowIn_one {α : Type} {Y : Lay α} {S : Nat → Prop} {w : World} {v : Value} {L : List α} (h : RowIn Y S w v L) : v.oneCell' = true := by
  obtain ⟨p, c, rfl, -⟩ := h
  rfl
/-- An atom's two cells. -/
def atC (S : Nat → Prop) (w : World) (us : List Value) (a : AtL) : Prop := ∃ u, us = [.string ⟨a.pred.toArray⟩, u] ∧ RowIn tmY S w u a.args
theorem atC.keep {S S' : Nat → Prop} {w w' : World} {us : List Value} {a : AtL} (h : atC S w us a) (hs : w.heap.size ≤ w'.heap.size) (hS : ∀ k, S k → k < w.heap.size → S' k ∧ w'.heap[k]? = w.heap[k]?) : atC S' w' us a := by
  obtain ⟨u, rfl, h⟩ := h
  exact ⟨u, rfl, h.keep hs hS⟩
def atY : Lay AtL where
  sz := 2
  is := atC
  len := fun h => by obtain ⟨u, rfl, -⟩ := h; rfl
  one := fun h x hx => by
    obtain ⟨u, rfl, h⟩ := h
    simp only [List.mem_cons, List.not_mem_nil, or_false] at hx
    rcases hx with rfl | rfl
    · rfl
    · exact rowIn_one h
  keep := fun h hs hS => h.keep hs hS
def acY : Lay ActL where
  sz := 3
  is := fun S w us c => ∃ u, us = [.bool c.plus, .string ⟨c.atom.pred.toArray⟩, u] ∧ RowIn tmY S w u c.atom.args
  len := fun h => by obtain ⟨u, rfl, -⟩ := h; rfl
  one := fun h x hx => by
    obtain ⟨u, rfl, h⟩ := h
    simp only [List.mem_cons, List.not_mem_nil, or_false] at hx
    rcases hx with rfl | rfl | rfl
    · rfl
    · rfl
    · exact rowIn_one h
  keep := fun h hs hS => by obtain ⟨u, rfl, h⟩ := h; exact ⟨u, rfl, h.keep hs hS⟩
def liY : Lay LiL where
  sz := 14
  is := fun S w us l => ∃ u, us = [.int .i64 l.kind, .string ⟨l.atom.pred.toArray⟩, u, .int .i64 l.op, .int .i64 l.a.kind, .string ⟨l.a.name.toArray⟩, .int .i64 l.a.val.1, .int .i64 l.a.val.2.1, .string l.a.val.2.2, .int .i64 l.b.kind, .string ⟨l.b.name.toArray⟩, .int .i64 l.b.val.1, .int .i64 l.b.val.2.1, .string l.b.val.2.2] ∧ RowIn tmY S w u l.atom.args
  len := fun h => by obtain ⟨u, rfl, -⟩ := h; rfl
  one := fun h x hx => by
    obtain ⟨u, rfl, h⟩ := h
    simp only [List.mem_cons, List.not_mem_nil, or_false] at hx
    rcases hx with rfl | rfl | rfl | rfl | rfl | rfl | rfl | rfl | rfl | rfl | rfl | rfl | rfl | rfl <;> first | rfl | exact rowIn_one h
  keep := fun h hs hS => by obtain ⟨u, rfl, h⟩ := h; exact ⟨u, rfl, h.keep hs hS⟩
def ruY : Lay RuL where
  sz := 3
  is := fun S w us r => ∃ u v, us = [.string ⟨r.head.pred.toArray⟩, u, v] ∧ RowIn tmY S w u r.head.args ∧ RowIn liY S w v r.body
  len := fun h => by obtain ⟨u, v, rfl, -⟩ := h; rfl
  one := fun h x hx => by
    obtain ⟨u, v, rfl, h, h'⟩ := h
    simp only [List.mem_cons, List.not_mem_nil, or_false] at hx
    rcases hx with rfl | rfl | rfl
    · rfl
    · exact rowIn_one h
    · exact rowIn_one h'
  keep := fun h hs hS => by obtain ⟨u, v, rfl, h, h'⟩ := h; exact ⟨u, v, rfl, h.keep hs hS, h'.keep hs hS⟩
def deY : Lay DeL where
  sz := 3
  is := fun S w us d => ∃ u, us = [.string ⟨d.name.toArray⟩, .bool d.base, u] ∧ RowIn tyY S w u d.types
  len := fun h => by obtain ⟨u, rfl, -⟩ := h; rfl
  one := fun h x hx => by
    obtain ⟨u, rfl, h⟩ := h
    simp only [List.mem_cons, List.not_mem_nil, or_false] at hx
    rcases hx with rfl | rfl | rfl
    · rfl
    · rfl
    · exact rowIn_one h
  keep := fun h hs hS => by obtain ⟨u, rfl, h⟩ := h; exact ⟨u, rfl, h.keep hs hS⟩
def onY : Lay OnL where
  sz := 3
  is := fun S w us o => ∃ u v, us = [.string ⟨o.event.toArray⟩, u, v] ∧ RowIn paY S w u o.params ∧ RowIn acY S w v o.acts
  len := fun h => by obtain ⟨u, v, rfl, -⟩ := h; rfl
  one := fun h x hx => by
    obtain ⟨u, v, rfl, h, h'⟩ := h
    simp only [List.mem_cons, List.not_mem_nil, or_false] at hx
    rcases hx with rfl | rfl | rfl
    · rfl
    · exact rowIn_one h
    · exact rowIn_one h'
  keep := fun h hs hS => by obtain ⟨u, v, rfl, h, h'⟩ := h; exact ⟨u, v, rfl, h.keep hs hS, h'.keep hs hS⟩
/-- A program: its declarations, events and rules. -/
structure PrL where
  decls : List DeL
  ons : List OnL
  rules : List RuL
def prY : Lay PrL where
  sz := 3
  is := fun S w us p => ∃ u v x, us = [u, v, x] ∧ RowIn deY S w u p.decls ∧ RowIn onY S w v p.ons ∧ RowIn ruY S w x p.rules
  len := fun h => by obtain ⟨u, v, x, rfl, -⟩ := h; rfl
  one := fun h y hy => by
    obtain ⟨u, v, x, rfl, h, h', h''⟩ := h
    simp only [List.mem_cons, List.not_mem_nil, or_false] at hy
    rcases hy with rfl | rfl | rfl
    · exact rowIn_one h
    · exact rowIn_one h'
    · exact rowIn_one h''
  keep := fun h hs hS => by obtain ⟨u, v, x, rfl, h, h', h''⟩ := h; exact ⟨u, v, x, rfl, h.keep hs hS, h'.keep hs hS, h''.keep hs hS⟩
theorem Tryz.infoTm : (Tryz.prog.info? 84).map (fun i => (i.zero, i.size, i.bytes)) = some (some (.agg #[.int .i64 0, .string ⟨#[]⟩, .int .i64 0, .int .i64 0, .string ⟨#[]⟩]), 5, 56) := by kernel_rfl
theorem Tryz.infoTy : (Tryz.prog.info? 112).map (fun i => (i.zero, i.size, i.bytes)) = some (some (.int .i64 0), 1, 8) := by kernel_rfl
theorem Tryz.infoPa : (Tryz.prog.info? 116).map (fun i => (i.zero, i.size, i.bytes)) = some (some (.agg #[.string ⟨#[]⟩, .int .i64 0]), 2, 24) := by kernel_rfl
theorem Tryz.infoAc : (Tryz.prog.info? 118).map (fun i => (i.zero, i.size, i.bytes)) = some (some (.agg #[.bool false, .string ⟨#[]⟩, .slice none 0 0]), 3, 48) := by kernel_rfl
theorem Tryz.infoLi : (Tryz.prog.info? 86).map (fun i => (i.zero, i.size, i.bytes)) = some (some (.agg #[.int .i64 0, .string ⟨#[]⟩, .slice none 0 0, .int .i64 0, .int .i64 0, .string ⟨#[]⟩, .int .i64 0, .int .i64 0, .string ⟨#[]⟩, .int .i64 0, .string ⟨#[]⟩, .int .i64 0, .int .i64 0, .string ⟨#[]⟩]), 14, 168) := by kernel_rfl
theorem Tryz.infoRu : (Tryz.prog.info? 41).map (fun i => (i.zero, i.size, i.bytes)) = some (some (.agg #[.string ⟨#[]⟩, .slice none 0 0, .slice none 0 0]), 3, 64) := by kernel_rfl
theorem Tryz.infoDe : (Tryz.prog.info? 67).map (fun i => (i.zero, i.size, i.bytes)) = some (some (.agg #[.string ⟨#[]⟩, .bool false, .slice none 0 0]), 3, 48) := by kernel_rfl
theorem Tryz.infoOn : (Tryz.prog.info? 72).map (fun i => (i.zero, i.size, i.bytes)) = some (some (.agg #[.string ⟨#[]⟩, .slice none 0 0, .slice none 0 0]), 3, 64) := by kernel_rfl
end
section
open Go Go.RowKit Go.Shelf

/-- The reader at block b: the tokens that are left, and the text's end; the tokens lie below n. -/
structure Rp (n : Nat) (W : World) (b : Nat) (L : List Wd) (e : Nat) : Prop where
  row : ∃ v, W.heap[b]? = some (.cells #[v, .int .i64 e] 104 (0, 0)) ∧ WIn (fun k => k ≠ b ∧ k < n) W v L
  tidy : ∀ w ∈ L, TidyW w
  len : L.length ≤ 100000
  at_ : b < n
  below_ : n ≤ W.heap.size
theorem Rp.lt {n : Nat} {W : World} {b e : Nat} {L : List Wd} (h : Rp n W b L e) : b < W.heap.size := Nat.lt_of_lt_of_le h.at_ h.below_
theorem Rp.keep {n : Nat} {W W' : World} {b e : Nat} {L : List Wd} (h : Rp n W b L e) (hs : W.heap.size ≤ W'.heap.size) (hb : ∀ k, k < n → W'.heap[k]? = W.heap[k]?) : Rp n W' b L e := by
  obtain ⟨⟨v, h1, h2⟩, h3, h4, h5, h6⟩ := h
  exact ⟨⟨v, (hb b h5).trans h1, h2.keep hs fun k e hk => ⟨e, hb k e.2⟩⟩, h3, h4, h5, by omega⟩
theorem Rp.below {n : Nat} {W W' : World} {b e : Nat} {L : List Wd} (h : Rp n W b L e) (hb : Below W.heap.size W W') : Rp n W' b L e := h.keep hb.size fun k hk => hb.block k (Nat.lt_of_lt_of_le hk h.below_)
theorem Rp.alloc {n : Nat} {W : World} {b e : Nat} {L : List Wd} (h : Rp n W b L e) (o : Obj) : Rp n (W.alloc o) b L e := h.below ((Below.refl _ W).alloc (Nat.le_refl _) o)
/-- Other blocks may turn. -/
theorem Rp.turned {n : Nat} {W W' : World} {b e : Nat} {L : List Wd} {Z : Nat → Prop} (h : Rp n W b L e) (ht : Turned Z W W') (hZ : ∀ k, Z k → n ≤ k) : Rp n W' b L e := h.keep ht.size fun k hk => ht.block k (Nat.lt_of_lt_of_le hk h.below_) fun e => by have := hZ k e; omega
theorem Rp.set {n : Nat} {W : World} {b e : Nat} {L : List Wd} (h : Rp n W b L e) {k : Nat} (hk : n ≤ k) (j : Nat) (u : Value) : Rp n (W.setCell ⟨k, j, none⟩ u) b L e := h.turned (Turned.set W k j u) fun _ e => by rw [e]; exact hk
theorem Rp.drew {n : Nat} {W : World} {b e : Nat} {L : List Wd} (h : Rp n W b L e) : Rp n W.drew b L e := h.keep (Nat.le_refl _) fun _ _ => rfl
/-- The next token; at the end one of no kind. -/
def headW (e : Nat) : List Wd → Wd
  | [] => ⟨0, [], zeroL, e⟩
  | w :: _ => w
theorem headW_text (e : Nat) (L : List Wd) : (headW e L).text = txt L := by cases L <;> rfl
theorem headW_kind (e : Nat) (L : List Wd) : (headW e L).kind = knd L := by cases L <;> rfl
theorem headW_pos (e : Nat) (L : List Wd) : (headW e L).pos = hereW e L := by cases L <;> rfl
abbrev rdp (b : Nat) : Value := .pointer (some ⟨b, 0, none⟩)
set_option maxRecDepth 100000 in
set_option maxHeartbeats 1000000 in
theorem pnext_any {W : World} {n b e : Nat} {L : List Wd} (h : Rp n W b L e) :
    Calls Tryz.prog 47 #[rdp b] W fun x w' => x = .returned (wordV (headW e L)) ∧ Below W.heap.size W w' := by
  obtain ⟨W0, hW0⟩ : ∃ W0, W0 = W.alloc (.cells #[.int .i64 0, .string ⟨#[]⟩, .int .i64 0, .int .i64 0, .string ⟨#[]⟩, .int .i64 0] 107) := ⟨_, rfl⟩
  have hb0 : Below W.heap.size W W0 := by rw [hW0]; exact (Below.refl _ W).alloc (Nat.le_refl _) _
  have hs0 : W0.heap.size = W.heap.size + 1 := by rw [hW0]; simp
  have hr0 : W0.heap[W.heap.size]? = some (.cells #[.int .i64 0, .string ⟨#[]⟩, .int .i64 0, .int .i64 0, .string ⟨#[]⟩, .int .i64 0] 107 (0, 0)) := by rw [hW0]; exact heap_alloc_new W _
  have h0 := h.below hb0
  obtain ⟨v, hb, hv⟩ := h0.row
  have c0 : W0.cell? ⟨b, 0, none⟩ = some v := cell_of_row W0 b 0 _ _ (0, 0) hb
  have c1 : W0.cell? ⟨b, 1, none⟩ = some (.int .i64 e) := cell_of_row W0 b 1 _ _ (0, 0) hb
  have hz : W.heap.size < W0.heap.size := by omega
  have HB := Lib.hid hb0
  have HR := Lib.hid hr0
  clear hb hb0 h h0 hr0
  have HA : ∀ o, Below W.heap.size W (W.alloc o) := fun o => (Below.refl _ W).alloc (Nat.le_refl _) o
  cases L with
  | nil =>
    obtain ⟨p, cq, rfl, -⟩ := hv
    subst hW0
    have hl0 : ((([] : List Wd).length : Nat) : Int) = 0 := rfl
    go_enter Tryz.func47, Tryz.ntmps47
    go_wp2_with fail
    exact bodyPost_ret (results_cell_row (by rfl) _ _ _ _ _ _ _ rfl (heap_alloc_new W _) Tryz.underlying107 rfl (by kernel_rfl)) rfl ⟨rfl, HA _⟩
  | cons x L => 
    obtain ⟨bq, off, cq, rfl, h1, h2, hbl, -, hat⟩ := hv.at_ (by simp)
    obtain ⟨a0, a1, a2, a3, a4, a5⟩ := hat 0 (by simp)
    subst hW0
    simp only [Nat.zero_mul, Nat.add_zero, List.getElem_cons_zero] at a0 a1 a2 a3 a4 a5
    have hl0 : (((x :: L).length : Nat) : Int) = (L.length : Int) + 1 := by simp
    clear hat hv
    go_enter Tryz.func47, Tryz.ntmps47
    go_wp2_with fail
    exact bodyPost_ret (results_cell_row (by rfl) _ _ _ _ _ _ _ rfl (heap_alloc_new W _) Tryz.underlying107 rfl (by kernel_rfl)) rfl ⟨rfl, HA _⟩
/-- A panic of the reader's. -/
abbrev misP (n : Nat) : List PanicEntry := [{ v := .iface 100 (.int .i64 n), recovered := false }]
theorem pneed_yes (b : Nat) (W : World) : Calls Tryz.prog 46 #[rdp b, .bool true] W fun x w' => x = .returned (.tuple #[]) ∧ W = w' := by
  go_enter Tryz.func46, Tryz.ntmps46
  go_wp2_with fail
  exact bodyPost_end (results_none rfl _ _ _) rfl ⟨rfl, rfl⟩
/-- The fields of a token. -/
theorem wf0 (a b c d x y : Value) (W : World) : (Instr.field 107 (.agg #[a, b, c, d, x, y]) 0).run Tryz.prog W = .ok a W := by kernel_rfl
theorem wf1 (a b c d x y : Value) (W : World) : (Instr.field 107 (.agg #[a, b, c, d, x, y]) 1).run Tryz.prog W = .ok b W := by kernel_rfl
theorem wf3 (a b c d x y : Value) (W : World) : (Instr.field 107 (.agg #[a, b, c, d, x, y]) 3).run Tryz.prog W = .ok y W := by kernel_rfl
set_option maxRecDepth 100000 in
theorem pneed_no {W : World} {n b e : Nat} {L : List Wd} (h : Rp n W b L e) : Calls Tryz.prog 46 #[rdp b, .bool false] W fun x w' => x = .panicked (misP (hereW e L)) ∧ Below W.heap.size W w' := by
  have HN := Lib.hid (pnext_any h)
  have HP := Lib.hid (headW_pos e L)
  go_enter Tryz.func46, Tryz.ntmps46
  go_wp2_with fail
  refine HN.out.mono ?_
  rintro x w1 ⟨rfl, hb⟩
  unfold wordV
  rw [HP.out]
  have F3 := wf3
  go_wp2_with fail
  exact ⟨rfl, rfl, hb⟩
end
section
open Go Go.RowKit Go.Shelf

/-- A row of texts that is read. -/
def TxsIn (w : World) (v : Value) (S : List (List UInt8)) : Prop :=
  ∃ b cap, v = .slice (some ⟨b, 0, none⟩) S.length cap ∧ S.length ≤ 1000 ∧ ∀ j (h : j < S.length), w.cell? ⟨b, 0 + j, none⟩ = some (.string ⟨S[j].toArray⟩)
/-- Where a text stands first. -/
def textAt : List (List UInt8) → List UInt8 → Int → Int
  | [], _, _ => -1
  | x :: r, s, k => if s = x then k else textAt r s (k + 1)
theorem textAt_drop {S : List (List UInt8)} {s : List UInt8} {i : Nat} (h : i < S.length) : textAt (S.drop i) s i = if s = S[i] then (i : Int) else textAt (S.drop (i + 1)) s ((i + 1 : Nat) : Int) := by
  rw [List.drop_eq_getElem_cons h]
  rfl
set_option maxHeartbeats 1000000 in
set_option maxRecDepth 100000 in
theorem sindex_any (v : Value) (S : List (List UInt8)) (s : List UInt8) (w : World) (h : TxsIn w v S) :
    Calls Tryz.prog 95 #[v, .string ⟨s.toArray⟩] w fun e w' => e = .returned (.int .i64 (textAt S s 0)) ∧ w' = w := by
  obtain ⟨b, cap, rfl, hl, hc⟩ := h
  have HC := Lib.hid hc
  clear hc
  go_enter Tryz.func95, Tryz.ntmps95
  go_wp2_with fail
  go_loopw [8] (fun i wr => ∃ k : Nat, k ≤ S.length ∧ i = .int .i64 k ∧ Hid (textAt S s 0 = textAt (S.drop k) s k) ∧ wr = w) (fun i _ => S.length - (intOf i).toNat)
  case atStart => exact ⟨0, Nat.zero_le _, rfl, Lib.hid rfl, rfl⟩
  case round =>
    obtain ⟨k, hk, rfl, hE, rfl⟩ := hrel
    have h0 : (0 : Int) ≤ (k : Int) := by omega
    by_cases hlt : k < S.length
    · have hlt' : (k : Int) < (S.length : Int) := by omega
      have hx := HC.out k hlt
      have HD := Lib.hid (textAt_drop (s := s) hlt)
      generalize S[k] = x at hx HD
      rw [Nat.zero_add] at hx
      by_cases e : s = x
      · have HF := Lib.hid (show textAt S s 0 = (k : Int) by rw [hE.out, HD.out, if_pos e])
        have e1 : (s == x) = true := by simp [e]
        clear HD e
        go_wp2_with fail
        go_ret
        exact ⟨by rw [HF.out]; rfl, rfl⟩
      · have HF := Lib.hid (show textAt S s 0 = textAt (S.drop (k + 1)) s ((k + 1 : Nat) : Int) by rw [hE.out, HD.out, if_neg e])
        have e1 : (s == x) = false := by simp [e]
        clear e
        go_wp2_with fail
        go_roundw
        case rel => exact ⟨k + 1, by omega, by go_num, HF, trivial⟩
        case measure => simp [intOf]; omega
    · have hlt' : (S.length : Int) ≤ (k : Int) := by omega
      obtain rfl : k = S.length := by omega
      have HF := Lib.hid (show textAt S s 0 = -1 by rw [hE.out, List.drop_length]; rfl)
      go_wp2_with fail
      go_ret
      exact ⟨by rw [HF.out]; rfl, rfl⟩
theorem win_tail {S : Nat → Prop} {W : World} {x : Wd} {L : List Wd} {b off cq : Nat} (hS : S b) (hb : b < W.heap.size) (h1 : L.length + 1 ≤ cq) (h2 : cq ≤ maxLen) (hat : ∀ j (h : j < (x :: L).length) i u, (cellW (x :: L)[j])[i]? = some u → W.cell? ⟨b, off + (j * 6 + i), none⟩ = some u) : WIn S W (.slice (some ⟨b, off + 6, none⟩) L.length (cq - 1)) L :=
  ⟨_, _, rfl, by omega, by omega, .inr ⟨b, off + 6, rfl, hS, hb, fun j hj i u hu => by
    have := hat (j + 1) (by simp; omega) i u (by simpa using hu)
    rw [show off + 6 + (j * 6 + i) = off + ((j + 1) * 6 + i) by omega]
    exact this⟩⟩
theorem two_at (W : World) (a : Addr) (v : Value) (o o' : Obj) : (((W.setCell a v).alloc o).alloc o').heap[W.heap.size]? = some o := by
  have h1 := heap_alloc_new (W.setCell a v) o
  rw [show (W.setCell a v).heap.size = W.heap.size by simp] at h1
  exact (Below.heap_alloc _ _ _ (by simp)).trans h1
theorem rp_tail {W : World} {n b e : Nat} {x : Wd} {L : List Wd} (h : Rp n W b (x :: L) e) (vv : Value) (hv : WIn (fun k => k ≠ b ∧ k < n) W vv L) (o o' : Obj) : Turned (fun k => k = b) W (((W.setCell ⟨b, 0, none⟩ vv).alloc o).alloc o') ∧ Rp n (((W.setCell ⟨b, 0, none⟩ vv).alloc o).alloc o') b L e := by
  have ht : Turned (fun k => k = b) W (((W.setCell ⟨b, 0, none⟩ vv).alloc o).alloc o') := ((Turned.set W b 0 vv).trans (Turned.alloc (fun _ => False) _ o) (fun _ _ e => e.elim)).trans (Turned.alloc (fun _ => False) _ o') (fun _ _ e => e.elim)
  have hlt := h.lt
  obtain ⟨v, hb, -⟩ := h.row
  refine ⟨ht, ⟨⟨vv, ?_, hv.keep ht.size fun k e hk => ⟨e, ht.block k hk e.1⟩⟩, fun w hw => h.tidy w (List.mem_cons_of_mem _ hw), by have := h.len; simp at this; omega, h.at_, Nat.le_trans h.below_ ht.size⟩⟩
  have h1 := heap_setCell_same W b 0 _ _ vv hb
  exact (Below.heap_alloc _ _ _ (by simp; omega)).trans ((Below.heap_alloc _ _ _ (by simp; omega)).trans h1)
set_option maxRecDepth 100000 in
set_option maxHeartbeats 1000000 in
theorem ptake_yes {W : World} {n b e : Nat} {x : Wd} {L : List Wd} (h : Rp n W b (x :: L) e) :
    Calls Tryz.prog 90 #[rdp b, .bool true] W fun y w' => y = .returned (wordV x) ∧ Turned (fun k => k = b) W w' ∧ Rp n w' b L e := by
  have hlt := h.lt
  have HZ : Hid (Rp n (W.alloc (.cells #[.int .i64 0, .string ⟨#[]⟩, .int .i64 0, .int .i64 0, .string ⟨#[]⟩, .int .i64 0] 107)) b (x :: L) e) := Lib.hid (h.below ((Below.refl _ W).alloc (Nat.le_refl _) _))
  obtain ⟨v, hb, hv⟩ := HZ.out.row
  have c0 : (W.alloc (.cells #[.int .i64 0, .string ⟨#[]⟩, .int .i64 0, .int .i64 0, .string ⟨#[]⟩, .int .i64 0] 107)).cell? ⟨b, 0, none⟩ = some v := cell_of_row _ b 0 _ _ (0, 0) hb
  have f0 : (W.alloc (.cells #[.int .i64 0, .string ⟨#[]⟩, .int .i64 0, .int .i64 0, .string ⟨#[]⟩, .int .i64 0] 107)).frozen? ⟨b, 0, none⟩ = false := frozen_of_row _ b 0 _ _ hb
  obtain ⟨bq, off, cq, rfl, h1, h2, hbl, hne, hat⟩ := hv.at_ (by simp)
  obtain ⟨a0, a1, a2, a3, a4, a5⟩ := hat 0 (by simp)
  simp only [Nat.zero_mul, Nat.add_zero, List.getElem_cons_zero] at a0 a1 a2 a3 a4 a5
  have hl0 : (((x :: L).length : Nat) : Int) = (L.length : Int) + 1 := by simp
  have HY := Lib.hid (pneed_yes b (W.alloc (.cells #[.int .i64 0, .string ⟨#[]⟩, .int .i64 0, .int .i64 0, .string ⟨#[]⟩, .int .i64 0] 107)))
  have hz2 : cq ≤ 9223372036854775807 := h2
  have k1 : (1 : Int) ≤ (cq : Int) := by simp at h1; omega
  have k2 : (1 : Int) ≤ (L.length : Int) + 1 := by omega
  have k3 : (L.length : Int) + 1 ≤ (cq : Int) := by simp at h1; omega
  obtain ⟨v', hb', hv'⟩ := h.row
  have HE : Hid (∀ cap, (cap = cq ∧ cq = 1 → ∀ o o', Turned (fun k => k = b) W (((W.setCell ⟨b, 0, none⟩ (.slice (some ⟨bq, off, none⟩) L.length 0)).alloc o).alloc o') ∧ Rp n (((W.setCell ⟨b, 0, none⟩ (.slice (some ⟨bq, off, none⟩) L.length 0)).alloc o).alloc o') b L e) ∧ (cq ≠ 1 → ∀ o o', Turned (fun k => k = b) W (((W.setCell ⟨b, 0, none⟩ (.slice (some ⟨bq, off + 6, none⟩) L.length (cq - 1))).alloc o).alloc o') ∧ Rp n (((W.setCell ⟨b, 0, none⟩ (.slice (some ⟨bq, off + 6, none⟩) L.length (cq - 1))).alloc o).alloc o') b L e)) := Lib.hid (by
    have e0 := (Below.heap_alloc (w := W) (.cells #[.int .i64 0, .string ⟨#[]⟩, .int .i64 0, .int .i64 0, .string ⟨#[]⟩, .int .i64 0] 107) b hlt).trans hb'
    rw [hb] at e0
    have e1 : v' = .slice (some ⟨bq, off, none⟩) (x :: L).length cq := by
      simp only [Option.some.injEq, Obj.cells.injEq, Array.mk.injEq, List.cons.injEq] at e0
      exact e0.1.1.symm
    subst e1
    obtain ⟨p, c, e2, g1, g2, g⟩ := hv'
    injection e2 with e3 _ e4
    subst e3
    subst e4
    rcases g with g | ⟨b2, off2, e5, g3, g4, g5⟩
    · cases g
    injection e5 with e5
    injection e5 with e5 e6
    subst e5
    subst e6
    refine fun cap => ⟨fun hc o o' => rp_tail h _ ?_ o o', fun hc o o' => rp_tail h _ (win_tail g3 g4 (by simpa using g1) g2 g5) o o'⟩
    obtain rfl : L = [] := List.eq_nil_of_length_eq_zero (by simp at g1; omega)
    exact ⟨_, 0, rfl, Nat.le_refl _, Nat.zero_le _, .inl rfl⟩)
  clear hat hv hb h hb' hv'
  by_cases hcq : cq = 1
  · have HE1 := Lib.hid ((HE.out cq).1 ⟨rfl, hcq⟩)
    clear HE
    go_enter Tryz.func90, Tryz.ntmps90
    go_wp2_with fail
    refine HY.out.mono ?_
    rintro y w1 ⟨rfl, rfl⟩
    go_wp2_with fail
    exact bodyPost_ret (results_cell_row (by rfl) _ _ _ _ _ _ _ rfl (two_at _ _ _ _ _) Tryz.underlying107 rfl (by kernel_rfl)) rfl ⟨rfl, HE1.out _ _⟩
  · have HE1 := Lib.hid ((HE.out cq).2 hcq)
    have hcq' : (1 : Int) < (cq : Int) := by omega
    have hcq2 : ¬ (cq : Int) = 1 := by omega
    clear HE
    go_enter Tryz.func90, Tryz.ntmps90
    go_wp2_with fail
    refine HY.out.mono ?_
    rintro y w1 ⟨rfl, rfl⟩
    go_wp2_with fail
    exact bodyPost_ret (results_cell_row (by rfl) _ _ _ _ _ _ _ rfl (two_at _ _ _ _ _) Tryz.underlying107 rfl (by kernel_rfl)) rfl ⟨rfl, HE1.out _ _⟩
/-- What a reader answers: what it read, and the tokens that are left; or it panics with the place. -/
def PEnd {α : Type} (p : Rd α) (T : (Nat → Prop) → World → Value → α → Prop) (n b e : Nat) (L : List Wd) (w : World) (x : Ending) (w' : World) : Prop :=
  Turned (fun k => k = b) w w' ∧ ((∃ a L' v, p (keys L) = .ok a (keys L') ∧ L' <:+ L ∧ x = .returned v ∧ T (fun k => w.heap.size ≤ k) w' v a ∧ Rp n w' b L' e) ∨ ∃ L', p (keys L) = .bad (keys L') ∧ L' <:+ L ∧ x = .panicked (misP (hereW e L')))
theorem ptake_no {W : World} {n b e : Nat} {L : List Wd} (h : Rp n W b L e) : Calls Tryz.prog 90 #[rdp b, .bool false] W fun y w' => y = .panicked (misP (hereW e L)) ∧ Below W.heap.size W w' := by
  have HY := Lib.hid (pneed_no (h.below ((Below.refl _ W).alloc (Nat.le_refl _) (.cells #[.int .i64 0, .string ⟨#[]⟩, .int .i64 0, .int .i64 0, .string ⟨#[]⟩, .int .i64 0] 107))))
  have HB := Lib.hid ((Below.refl W.heap.size W).alloc (Nat.le_refl _) (.cells #[.int .i64 0, .string ⟨#[]⟩, .int .i64 0, .int .i64 0, .string ⟨#[]⟩, .int .i64 0] 107))
  go_enter Tryz.func90, Tryz.ntmps90
  go_wp2_with fail
  refine HY.out.mono ?_
  rintro y w1 ⟨rfl, hb⟩
  go_wp2_with fail
  exact ⟨rfl, rfl, HB.out.trans (hb.mono (by simp))⟩
end
section
open Go Go.RowKit Go.Shelf

theorem TxsIn.keep {W W' : World} {v : Value} {S : List (List UInt8)} (h : TxsIn W v S) (hb : Below W.heap.size W W') : TxsIn W' v S := by
  obtain ⟨b, cap, rfl, h1, h2⟩ := h
  exact ⟨b, cap, rfl, h1, fun j hj => (hb.cell (p := ⟨b, 0 + j, none⟩) (World.block_lt_of_cell? W _ (h2 j hj))).trans (h2 j hj)⟩
theorem textAt_neg : ∀ (S : List (List UInt8)) (s : List UInt8) (k : Int), s ∉ S → textAt S s k = -1
  | [], _, _, _ => rfl
  | x :: r, s, k, h => by
    unfold textAt
    rw [if_neg (fun e => h (by simp [e])), textAt_neg r s (k + 1) (fun e => h (List.mem_cons_of_mem _ e))]
theorem txt_cons {L : List Wd} (h : txt L ≠ []) : ∃ x L', L = x :: L' ∧ txt L = x.text := by
  cases L with
  | nil => exact absurd rfl h
  | cons x L => exact ⟨x, L, rfl, rfl⟩
/-- How which ends. -/
def WhEnd (S : List (List UInt8)) (n b e : Nat) (L : List Wd) (W : World) (y : Ending) (w' : World) : Prop :=
  Turned (fun k => k = b) W w' ∧ ((∃ x L', L = x :: L' ∧ 0 ≤ textAt S x.text 0 ∧ y = .returned (.int .i64 (textAt S x.text 0)) ∧ Rp n w' b L' e) ∨ (textAt S (txt L) 0 < 0 ∧ y = .panicked (misP (hereW e L))))
set_option maxRecDepth 100000 in
set_option maxHeartbeats 1000000 in
theorem pwhich_any {W : World} {n b e : Nat} {L : List Wd} {S : List (List UInt8)} {v : Value} (h : Rp n W b L e) (hv : TxsIn W v S) (hS : [] ∉ S) :
    Calls Tryz.prog 75 #[rdp b, v] W (WhEnd S n b e L W) := by
  have HN := Lib.hid (pnext_any h)
  have HTx := Lib.hid (headW_text e L)
  have HR := Lib.hid h
  have HV := Lib.hid hv
  have F1 := wf1
  have HK := Lib.hid (show ∀ x L', L = x :: L' → txt L = x.text by rintro x L' rfl; rfl)
  obtain ⟨T, hT⟩ : ∃ T, T = txt L := ⟨_, rfl⟩
  obtain ⟨k, hk⟩ : ∃ k, k = textAt S T 0 := ⟨_, rfl⟩
  by_cases h0 : 0 ≤ k
  · have hne : T ≠ [] := by
      intro e
      rw [e, textAt_neg S [] 0 hS] at hk
      omega
    rw [hT] at hne
    obtain ⟨x, L', rfl, -⟩ := txt_cons hne
    have HKk := Lib.hid hk
    have HT := Lib.hid hT
    have HY : ∀ w1, Below W.heap.size W w1 → _ := fun w1 hb => ptake_yes (HR.out.below hb)
    have HYH := Lib.hid HY
    clear h hv hk hT hne HY
    go_enter Tryz.func75, Tryz.ntmps75
    go_wp2_with fail
    refine HN.out.mono ?_
    rintro y w1 ⟨rfl, hb⟩
    unfold wordV
    rw [HTx.out, ← HT.out]
    have HB := Lib.hid hb
    clear hb
    go_wp2_with fail
    refine (sindex_any _ _ T w1 (HV.out.keep HB.out)).mono ?_
    rintro y w2 ⟨rfl, rfl⟩
    rw [← HKk.out]
    go_wp2_with fail
    refine (HYH.out _ HB.out).mono ?_
    rintro y w3 ⟨rfl, ht, hr⟩
    have HE := Lib.hid (And.intro ht hr)
    clear ht hr
    unfold wordV
    go_wp2_with fail
    go_ret
    obtain ⟨ht, hr⟩ := HE.out
    have e1 : textAt S x.text 0 = k := by rw [HKk.out, HT.out]; rfl
    exact ⟨(Turned.of_below HB.out).trans ht (fun _ _ e => e), .inl ⟨x, L', rfl, by omega, by rw [e1]; rfl, hr⟩⟩
  · have h0' : k < 0 := by omega
    have HKk := Lib.hid hk
    have HT := Lib.hid hT
    clear h hv hk hT
    go_enter Tryz.func75, Tryz.ntmps75
    go_wp2_with fail
    refine HN.out.mono ?_
    rintro y w1 ⟨rfl, hb⟩
    unfold wordV
    rw [HTx.out, ← HT.out]
    have HB := Lib.hid hb
    clear hb
    go_wp2_with fail
    refine (sindex_any _ _ T w1 (HV.out.keep HB.out)).mono ?_
    rintro y w2 ⟨rfl, rfl⟩
    rw [← HKk.out]
    go_wp2_with fail
    rw [show decide (0 ≤ k) = false from decide_eq_false (by omega)]
    refine (ptake_no (HR.out.below HB.out)).mono ?_
    rintro y w3 ⟨rfl, hb3⟩
    go_wp2_with fail
    exact ⟨rfl, .of_below (HB.out.trans (hb3.mono HB.out.size)), .inr ⟨by rw [← HT.out, ← HKk.out]; omega, rfl⟩⟩
theorem txs_new (W : World) (S : List (List UInt8)) (hS : S.length ≤ 1000) (cap : Nat) : TxsIn (W.alloc (.cells (S.map fun t => .string ⟨t.toArray⟩).toArray 9)) (.slice (some ⟨W.heap.size, 0, none⟩) S.length cap) S := by
  refine ⟨_, cap, rfl, hS, fun j hj => ?_⟩
  rw [Nat.zero_add]
  have := cell_of_row (W.alloc (.cells (S.map fun t => Value.string ⟨t.toArray⟩).toArray 9)) W.heap.size j _ _ (0, 0) (heap_alloc_new W _)
  rw [this]
  simp [hj]
/-- The next token has this text and is taken; or it panics. -/
def MuEnd (m : List UInt8) (n b e : Nat) (L : List Wd) (W : World) (y : Ending) (w' : World) : Prop :=
  Turned (fun k => k = b) W w' ∧ ((∃ x L', L = x :: L' ∧ x.text = m ∧ y = .returned (.tuple #[]) ∧ Rp n w' b L' e) ∨ (txt L ≠ m ∧ y = .panicked (misP (hereW e L))))
theorem textAt_one (m s : List UInt8) : textAt [m] s 0 = if s = m then 0 else -1 := rfl
set_option maxRecDepth 100000 in
theorem pmust_any {W : World} {n b e : Nat} {L : List Wd} (m : List UInt8) (hm : m ≠ []) (h : Rp n W b L e) :
    Calls Tryz.prog 62 #[rdp b, .string ⟨m.toArray⟩] W (MuEnd m n b e L W) := by
  have hb0 : Below W.heap.size W (W.alloc (.cells #[.string ⟨m.toArray⟩] 9)) := (Below.refl _ W).alloc (Nat.le_refl _) _
  have HW := Lib.hid (pwhich_any (S := [m]) (h.below hb0) (txs_new W [m] (by simp) 1) (by simpa using hm.symm))
  have HB := Lib.hid hb0
  clear hb0
  go_enter Tryz.func62, Tryz.ntmps62
  go_wp2_with fail
  refine HW.out.mono ?_
  rintro y w1 ⟨ht, ⟨x, L', rfl, h0, rfl, hr⟩ | ⟨h0, rfl⟩⟩
  · have HE := Lib.hid (And.intro ht hr)
    rw [textAt_one] at h0
    have e1 : x.text = m := by
      by_cases e : x.text = m
      · exact e
      · rw [if_neg e] at h0; omega
    clear ht hr h0
    go_wp2_with fail
    exact bodyPost_end (results_none rfl _ _ _) rfl ⟨(Turned.of_below HB.out).trans HE.out.1 (fun _ _ e => e), .inl ⟨x, L', rfl, e1, rfl, HE.out.2⟩⟩
  · have HE := Lib.hid ht
    rw [textAt_one] at h0
    have e1 : txt L ≠ m := by
      intro e
      rw [if_pos e] at h0; omega
    clear ht h0
    go_wp2_with fail
    exact ⟨rfl, (Turned.of_below HB.out).trans HE.out (fun _ _ e => e), .inr ⟨e1, rfl⟩⟩
/-- Whether the next token has this text; then it is taken. -/
def MaEnd (m : List UInt8) (n b e : Nat) (L : List Wd) (W : World) (y : Ending) (w' : World) : Prop :=
  Turned (fun k => k = b) W w' ∧ ((∃ x L', L = x :: L' ∧ x.text = m ∧ y = .returned (.bool true) ∧ Rp n w' b L' e) ∨ (txt L ≠ m ∧ y = .returned (.bool false) ∧ Rp n w' b L e))
set_option maxRecDepth 100000 in
theorem pmay_any {W : World} {n b e : Nat} {L : List Wd} (m : List UInt8) (hm : m ≠ []) (h : Rp n W b L e) :
    Calls Tryz.prog 59 #[rdp b, .string ⟨m.toArray⟩] W (MaEnd m n b e L W) := by
  have HN := Lib.hid (pnext_any h)
  have HTx := Lib.hid (headW_text e L)
  have HR := Lib.hid h
  have F1 := wf1
  obtain ⟨T, hT⟩ : ∃ T, T = txt L := ⟨_, rfl⟩
  have HT := Lib.hid hT
  by_cases hTm : T = m
  · have e1 : (T == m) = true := by simp [hTm]
    clear h hT
    go_enter Tryz.func59, Tryz.ntmps59
    go_wp2_with fail
    refine HN.out.mono ?_
    rintro y w1 ⟨rfl, hb⟩
    unfold wordV
    rw [HTx.out, ← HT.out]
    have HB := Lib.hid hb
    have HM := Lib.hid hTm
    clear hb hTm
    go_wp2_with fail
    refine (pmust_any m hm (HR.out.below HB.out)).mono ?_
    rintro y w2 ⟨ht, ⟨x, L', rfl, h0, rfl, hr⟩ | ⟨h0, rfl⟩⟩
    · have HE := Lib.hid (And.intro ht hr)
      clear ht hr
      go_wp2_with fail
      go_ret
      exact ⟨(Turned.of_below HB.out).trans HE.out.1 (fun _ _ e => e), .inl ⟨x, L', rfl, h0, rfl, HE.out.2⟩⟩
    · exact absurd (HT.out.symm.trans HM.out) h0
  · have e1 : (T == m) = false := by simp [hTm]
    have HM := Lib.hid hTm
    clear h hT hTm
    go_enter Tryz.func59, Tryz.ntmps59
    go_wp2_with fail
    refine HN.out.mono ?_
    rintro y w1 ⟨rfl, hb⟩
    unfold wordV
    rw [HTx.out, ← HT.out]
    have HB := Lib.hid hb
    clear hb
    go_wp2_with fail
    go_ret
    exact ⟨.of_below HB.out, .inr ⟨by rw [← HT.out]; exact HM.out, rfl, HR.out.below HB.out⟩⟩
end
section
open Go Go.RowKit Go.Shelf

/-- A drawn region whose head only reads and whose tail comes in one order. -/
theorem region_tail {P : Program} {id : Nat} {Q : Exit → Act → World → Prop} {a : Act} {w : World} {l : List Oper} (n : Nat) (hm : P.follows .mixedOrders = true) (hB : Region.lexTailB .any l.toArray n = true)
    (h : wpStill P l.toArray w.drew (fun a' => wpList P l.toArray Q (l.drop n) a' w.drew) (l.take n) a) : (Code.region id l.toArray true).wp P Q a w := wp_region_still_tail n hm hB h
theorem still_no {P : Program} {ops : Array Oper} {w : World} {Q : Act → Prop} {a a' : Act} {o : Oper} {rest : List Oper} (hw : Region.wanted o (yielded ops a.tmps) = false) (ha : a.put o.dst undef = a') (h : wpStill P ops w Q rest a') : wpStill P ops w Q (o :: rest) a :=
  wpStill_step fun K hK => by rw [if_neg (by rw [hw]; simp), ha]; exact hK _ h
/-- A frame into which a value has been put, laid out anew: one name for all the steps. -/
theorem put_norm : (∀ (t : Array Value) (ds : List Deferred) (d : Tmp) (v : Value), (⟨t, ds⟩ : Act).put (some d) v = ⟨t.setIfInBounds d v, ds⟩) ∧ (∀ (a : Act) (v : Value), a.put none v = a) ∧ (∀ (l : List Value) (i : Nat) (v : Value), l.toArray.setIfInBounds i v = (l.set i v).toArray) ∧
    (∀ (l : List Value) (x v : Value), (x :: l).set 0 v = v :: l) ∧ (∀ (l : List Value) (x v : Value) (n : Nat), (x :: l).set (n + 1) v = x :: l.set n v) :=
  ⟨fun _ _ _ _ => rfl, fun _ _ => rfl, fun l i v => List.setIfInBounds_toArray l i v, fun _ _ _ => rfl, fun _ _ _ _ => rfl⟩
set_option maxRecDepth 100000 in
theorem preserved_any (T : List UInt8) (W : World) : Calls Tryz.prog 91 #[.string ⟨T.toArray⟩] W fun x w' => x = .returned (.bool (reservedL T)) ∧ W = w' := by
  have hr : reservedL T = (T == [98, 97, 115, 101] || T == [118, 105, 101, 119] || T == [111, 110] || T == [110, 111, 116]) := rfl
  cases h1 : (T == [98, 97, 115, 101])
  · cases h2 : (T == [118, 105, 101, 119])
    · cases h3 : (T == [111, 110])
      · cases h4 : (T == [110, 111, 116])
        all_goals
          rw [h1, h2, h3, h4] at hr
          have HR := Lib.hid hr
          clear hr
          go_enter Tryz.func91, Tryz.ntmps91
          go_wp2_with fail
          go_ret
          exact ⟨by rw [HR.out]; rfl, rfl⟩
      · rw [h1, h2, h3] at hr
        have HR := Lib.hid hr
        clear hr
        go_enter Tryz.func91, Tryz.ntmps91
        go_wp2_with fail
        go_ret
        exact ⟨by rw [HR.out]; rfl, rfl⟩
    · rw [h1, h2] at hr
      have HR := Lib.hid hr
      clear hr
      go_enter Tryz.func91, Tryz.ntmps91
      go_wp2_with fail
      go_ret
      exact ⟨by rw [HR.out]; rfl, rfl⟩
  · rw [h1] at hr
    have HR := Lib.hid hr
    clear hr
    go_enter Tryz.func91, Tryz.ntmps91
    go_wp2_with fail
    go_ret
    exact ⟨by rw [HR.out]; rfl, rfl⟩
theorem nxt_name (L : List Wd) : nxt isName (keys L) = (knd L == 1 && !reservedL (txt L)) := by cases L <;> rfl
/-- A text as a value. -/
def strT (_ : Nat → Prop) (_ : World) (v : Value) (a : List UInt8) : Prop := v = .string ⟨a.toArray⟩
theorem knd_range {L : List Wd} (h : ∀ w ∈ L, TidyW w) : knd L = 0 ∨ knd L = 1 ∨ knd L = 2 ∨ knd L = 3 ∨ knd L = 4 ∨ knd L = 5 ∨ knd L = 6 := by
  cases L with
  | nil => exact .inl rfl
  | cons w L => exact .inr (h w List.mem_cons_self).kinds
/-- A box laid and a draw between two calls. -/
theorem turn_box {Y : Nat → Prop} {W w1 w2 : World} {o : Obj} (h : Below W.heap.size W w1) (g : Turned Y (w1.alloc o).drew w2) : Turned Y W w2 :=
  (Turned.of_below (h.alloc h.size o)).trans (Y := Y) (Z := Y) ⟨g.os, g.tape, g.output, g.size, g.block⟩ (fun _ _ e => e)
theorem Rp.box {n : Nat} {W w1 : World} {b e : Nat} {L : List Wd} (h : Rp n W b L e) (hb : Below W.heap.size W w1) (o : Obj) : Rp n (w1.alloc o).drew b L e := ((h.below hb).alloc o).drew
theorem PEnd.no {α : Type} {p : Rd α} {T : (Nat → Prop) → World → Value → α → Prop} {n b e : Nat} {L : List Wd} {w w' : World} (hp : p (keys L) = .bad (keys L)) (ht : Turned (fun k => k = b) w w') : PEnd p T n b e L w (.panicked (misP (hereW e L))) w' := ⟨ht, .inr ⟨L, hp, List.suffix_refl _, rfl⟩⟩
theorem wordV_head {e : Nat} {L : List Wd} {K : Int} {T : List UInt8} {v1 v2 : Int} {v3 : ByteArray} {P : Nat} (h : (⟨K, T, (v1, v2, v3), P⟩ : Wd) = headW e L) : K = knd L ∧ T = txt L := by
  rw [← headW_kind e L, ← headW_text e L, ← h]
  exact ⟨rfl, rfl⟩
theorem head_cons {e : Nat} {L : List Wd} {x : Wd} (h : x = headW e L) (hk : x.kind ≠ 0) : ∃ L', L = x :: L' := by
  cases L with
  | nil => rw [h] at hk; exact absurd rfl hk
  | cons w L => exact ⟨L, by rw [h]; rfl⟩
set_option maxRecDepth 100000 in
set_option maxHeartbeats 2000000 in
theorem pname_any {W : World} {n b e : Nat} {L : List Wd} (h : Rp n W b L e) : Calls Tryz.prog 64 #[rdp b] W (PEnd nameR strT n b e L W) := by
  have HN := Lib.hid (pnext_any h)
  have HR := Lib.hid h
  have HNx := Lib.hid (nxt_name L)
  have hkr := knd_range h.tidy
  have F1 := wf1
  have mixed : Tryz.prog.follows .mixedOrders = true := by kernel_rfl
  obtain ⟨x, hx⟩ : ∃ x, x = headW e L := ⟨_, rfl⟩
  rw [← hx] at HN
  obtain ⟨K, T, ⟨v1, v2, v3⟩, P⟩ := x
  obtain ⟨hK, hT⟩ := wordV_head hx
  rw [← hK, ← hT] at HNx
  rw [← hK] at hkr
  have HX := Lib.hid hx
  clear h hx hK hT
  clear hkr
  cases hk : (K == 1)
  · have HB0 := Lib.hid (show nxt isName (keys L) = false by rw [HNx.out, hk]; rfl)
    go_enter Tryz.func64, Tryz.ntmps64
    go_wp2_with fail
    refine HN.out.mono ?_
    rintro y w1 ⟨rfl, hb⟩
    unfold wordV
    have HB := Lib.hid hb
    clear hb
    go_wp2_with fail
    refine region_tail 12 mixed (by kernel_rfl) ?_
    simp only [List.take_succ_cons, List.take_zero, List.drop_succ_cons, List.drop_zero]
    iterate 6 still_step
    try simp only [hk]
    still_step
    iterate 4 refine still_no (by kernel_rfl) (by simp only [put_norm]; exact rfl) ?_
    still_step
    refine wpStill_nil ?_
    go_wp2_with fail
    refine (ptake_no (b := b) (e := e) (L := L) (HR.out.box HB.out _)).mono ?_
    rintro y w2 ⟨rfl, hb2⟩
    have HB2 := Lib.hid hb2
    clear hb2
    go_wp2_with fail
    exact ⟨rfl, PEnd.no (bind_bad (tok1_no HB0.out)) (turn_box HB.out (.of_below HB2.out))⟩
  · cases hrv : reservedL T
    · obtain ⟨L', hL⟩ := head_cons HX.out (by simp only; intro e0; rw [e0] at hk; simp at hk)
      have HN0 := Lib.hid (show isName (⟨K, T, (v1, v2, v3), P⟩ : Wd).key = true by show (K == 1 && !reservedL T) = true; rw [hk, hrv]; rfl)
      subst hL
      have HRv := Lib.hid (show ∀ w : World, Calls Tryz.prog 91 #[.string ⟨T.toArray⟩] w fun x w' => x = .returned (.bool false) ∧ w' = w from fun w => (preserved_any T w).mono fun _ _ h => ⟨by rw [← hrv]; exact h.1, h.2.symm⟩)
      go_enter Tryz.func64, Tryz.ntmps64
      go_wp2_with fail
      refine HN.out.mono ?_
      rintro y w1 ⟨rfl, hb⟩
      unfold wordV
      have HB := Lib.hid hb
      clear hb
      go_wp2_with fail
      refine region_tail 12 mixed (by kernel_rfl) ?_
      simp only [List.take_succ_cons, List.take_zero, List.drop_succ_cons, List.drop_zero]
      iterate 6 still_step
      try simp only [hk]
      iterate 3 still_step
      still_call (HRv.out _)
      iterate 2 still_step
      refine wpStill_nil ?_
      go_wp2_with fail
      refine (ptake_yes (b := b) (e := e) (L := L') (x := ⟨K, T, (v1, v2, v3), P⟩) (HR.out.box HB.out _)).mono ?_
      rintro y w2 ⟨rfl, ht2, hr2⟩
      have HE := Lib.hid (And.intro ht2 hr2)
      clear ht2 hr2
      unfold wordV
      go_wp2_with fail
      go_ret
      exact ⟨turn_box HB.out HE.out.1, .inl ⟨T, L', _, bind_ok (tok1_yes HN0.out), ⟨[_], rfl⟩, rfl, rfl, HE.out.2⟩⟩
    · have HB0 := Lib.hid (show nxt isName (keys L) = false by rw [HNx.out, hk, hrv]; rfl)
      have HRv := Lib.hid (show ∀ w : World, Calls Tryz.prog 91 #[.string ⟨T.toArray⟩] w fun x w' => x = .returned (.bool true) ∧ w' = w from fun w => (preserved_any T w).mono fun _ _ h => ⟨by rw [← hrv]; exact h.1, h.2.symm⟩)
      go_enter Tryz.func64, Tryz.ntmps64
      go_wp2_with fail
      refine HN.out.mono ?_
      rintro y w1 ⟨rfl, hb⟩
      unfold wordV
      have HB := Lib.hid hb
      clear hb
      go_wp2_with fail
      refine region_tail 12 mixed (by kernel_rfl) ?_
      simp only [List.take_succ_cons, List.take_zero, List.drop_succ_cons, List.drop_zero]
      iterate 6 still_step
      try simp only [hk]
      iterate 3 still_step
      still_call (HRv.out _)
      iterate 2 still_step
      refine wpStill_nil ?_
      go_wp2_with fail
      refine (ptake_no (b := b) (e := e) (L := L) (HR.out.box HB.out _)).mono ?_
      rintro y w2 ⟨rfl, hb2⟩
      have HB2 := Lib.hid hb2
      clear hb2
      go_wp2_with fail
      exact ⟨rfl, PEnd.no (bind_bad (tok1_no HB0.out)) (turn_box HB.out (.of_below HB2.out))⟩
end
section
open Go Go.RowKit Go.Shelf

/-- A term as a value. -/
def tmT (_ : Nat → Prop) (_ : World) (v : Value) (a : TmL) : Prop := v = .agg (cellT a).toArray
theorem nxt_term {L : List Wd} : nxt isTerm (keys L) = (knd L == 2 || knd L == 4 || knd L == 5 || knd L == 3) := by cases L <;> rfl
abbrev zT : Obj := .cells #[.int .i64 0, .string ⟨#[]⟩, .int .i64 0, .int .i64 0, .string ⟨#[]⟩] 84
theorem row5_set {w1 : World} {b : Nat} {t : TypeId} {u v x y z u' v' x' y' z' : Value} (h : w1.heap[b]? = some (.cells #[u, v, x, y, z] t (0, 0))) :
    (((((w1.setCell ⟨b, 0, none⟩ u').setCell ⟨b, 1, none⟩ v').setCell ⟨b, 2, none⟩ x').setCell ⟨b, 3, none⟩ y').setCell ⟨b, 4, none⟩ z').heap[b]? = some (.cells #[u', v', x', y', z'] t (0, 0)) := by
  have h1 := Go.heap_setCell_same w1 b 0 _ _ u' h
  have h2 := Go.heap_setCell_same _ b 1 _ _ v' h1
  have h3 := Go.heap_setCell_same _ b 2 _ _ x' h2
  have h4 := Go.heap_setCell_same _ b 3 _ _ y' h3
  exact Go.heap_setCell_same _ b 4 _ _ z' h4
/-- Below N only block b has turned. -/
structure Only (N b : Nat) (A B : World) : Prop where
  le : N ≤ A.heap.size
  os : B.os = A.os
  tape : B.tape = A.tape
  output : B.output = A.output
  size : A.heap.size ≤ B.heap.size
  block : ∀ k, k < N → k ≠ b → B.heap[k]? = A.heap[k]?
theorem Only.refl (b : Nat) (A : World) : Only A.heap.size b A A := ⟨Nat.le_refl _, rfl, rfl, rfl, Nat.le_refl _, fun _ _ _ => rfl⟩
theorem Only.turned {b : Nat} {A B : World} (h : Only A.heap.size b A B) : Turned (fun k => k = b) A B := ⟨h.os, h.tape, h.output, h.size, h.block⟩
theorem Only.call {N b : Nat} {A B C : World} {Z : Nat → Prop} (h : Only N b A B) (g : Turned Z B C) (hZ : ∀ k, Z k → k = b ∨ N ≤ k) : Only N b A C :=
  ⟨h.le, g.os.trans h.os, g.tape.trans h.tape, g.output.trans h.output, Nat.le_trans h.size g.size, fun k hk hn => (g.block k (Nat.lt_of_lt_of_le hk (Nat.le_trans h.le h.size)) fun e => by rcases hZ k e with e | e; exact hn e; omega).trans (h.block k hk hn)⟩
theorem Only.on {N b : Nat} {A B C : World} (h : Only N b A B) (g : Turned (fun k => k = b) B C) : Only N b A C := h.call g fun _ e => .inl e
theorem Only.below {N b : Nat} {A B C : World} (h : Only N b A B) (g : Below B.heap.size B C) : Only N b A C := h.call (Turned.of_below (Y := fun _ => False) g) fun _ e => e.elim
theorem Only.alloc {N b : Nat} {A B : World} (h : Only N b A B) (o : Obj) : Only N b A (B.alloc o) := h.below ((Below.refl _ B).alloc (Nat.le_refl _) o)
theorem Only.drew {N b : Nat} {A B : World} (h : Only N b A B) : Only N b A B.drew := ⟨h.le, h.os, h.tape, h.output, h.size, h.block⟩
theorem Only.set {N b : Nat} {A B : World} (h : Only N b A B) {c : Nat} (hc : N ≤ c) (j : Nat) (u : Value) : Only N b A (B.setCell ⟨c, j, none⟩ u) := h.call (Turned.set B c j u) fun _ e => .inr (by rw [e]; exact hc)
theorem name_w {P : Program} {Q : Exit → Act → World → Prop} {c : Code} {a : Act} {w : World} (h : ∀ X, X = w → c.wp P Q a X) : c.wp P Q a w := h w rfl
theorem set5_off {w1 : World} {b k : Nat} {u' v' x' y' z' : Value} (h : k ≠ b) : (((((w1.setCell ⟨b, 0, none⟩ u').setCell ⟨b, 1, none⟩ v').setCell ⟨b, 2, none⟩ x').setCell ⟨b, 3, none⟩ y').setCell ⟨b, 4, none⟩ z').heap[k]? = w1.heap[k]? :=
  (heap_setCell_other _ ⟨b, 4, none⟩ k _ h).trans ((heap_setCell_other _ ⟨b, 3, none⟩ k _ h).trans ((heap_setCell_other _ ⟨b, 2, none⟩ k _ h).trans ((heap_setCell_other _ ⟨b, 1, none⟩ k _ h).trans (heap_setCell_other _ ⟨b, 0, none⟩ k _ h))))
theorem two_new (W : World) (o o' : Obj) : ((W.alloc o).alloc o').heap[W.heap.size]? = some o ∧ ((W.alloc o).alloc o').heap[W.heap.size + 1]? = some o' := by
  refine ⟨(Below.heap_alloc _ _ _ (by simp)).trans (heap_alloc_new W o), ?_⟩
  have := heap_alloc_new (W.alloc o) o'
  rw [show (W.alloc o).heap.size = W.heap.size + 1 by simp] at this
  exact this
theorem cells5 {W : World} {b : Nat} {u v x y z : Value} {t : TypeId} (h : W.heap[b]? = some (.cells #[u, v, x, y, z] t (0, 0))) :
    (W.cell? ⟨b, 0, none⟩ = some u ∧ W.cell? ⟨b, 1, none⟩ = some v ∧ W.cell? ⟨b, 2, none⟩ = some x ∧ W.cell? ⟨b, 3, none⟩ = some y ∧ W.cell? ⟨b, 4, none⟩ = some z) ∧
    W.frozen? ⟨b, 0, none⟩ = false ∧ W.frozen? ⟨b, 1, none⟩ = false ∧ W.frozen? ⟨b, 2, none⟩ = false ∧ W.frozen? ⟨b, 3, none⟩ = false ∧ W.frozen? ⟨b, 4, none⟩ = false :=
  ⟨⟨(cell_of_row _ b 0 _ _ (0, 0) h).trans rfl, (cell_of_row _ b 1 _ _ (0, 0) h).trans rfl, (cell_of_row _ b 2 _ _ (0, 0) h).trans rfl, (cell_of_row _ b 3 _ _ (0, 0) h).trans rfl, (cell_of_row _ b 4 _ _ (0, 0) h).trans rfl⟩,
    frozen_of_row _ b 0 _ _ h, frozen_of_row _ b 1 _ _ h, frozen_of_row _ b 2 _ _ h, frozen_of_row _ b 3 _ _ h, frozen_of_row _ b 4 _ _ h⟩
set_option maxRecDepth 100000 in
set_option maxHeartbeats 2000000 in
theorem pterm_any {W : World} {n b e : Nat} {L : List Wd} (h : Rp n W b L e) : Calls Tryz.prog 68 #[rdp b] W (PEnd termR tmT n b e L W) := by
  have HR := Lib.hid h
  have HNx := Lib.hid (nxt_term (L := L))
  have hkr := knd_range h.tidy
  have mixed : Tryz.prog.follows .mixedOrders = true := by kernel_rfl
  obtain ⟨x, hx⟩ : ∃ x, x = headW e L := ⟨_, rfl⟩
  obtain ⟨K, T, ⟨v1, v2, v3⟩, P⟩ := x
  obtain ⟨hK, hT⟩ := wordV_head hx
  rw [← hK] at HNx hkr
  have HX := Lib.hid hx
  have hlt := h.lt
  have hne1 : ¬ W.heap.size = b := by omega
  have hne2 : ¬ W.heap.size + 1 = b := by omega
  clear h hx hK hT
  rcases hkr with rfl | rfl | rfl | rfl | rfl | rfl | rfl
-- WALK
  · have HN0 := Lib.hid (show nxt isTerm (keys L) = false by rw [HNx.out]; rfl)
    have hnW := HR.out.below_
    go_enter Tryz.func68, Tryz.ntmps68
    go_wp2_with fail
    refine (pnext_any ((HR.out.alloc zT).alloc zT)).mono ?_
    rintro y w1 ⟨rfl, hb⟩
    rw [← HX.out]
    unfold wordV
    have HB := Lib.hid hb
    have hz1 : W.heap.size + 1 < w1.heap.size := by have := hb.size; simp at this; omega
    have q3 : w1.heap[W.heap.size + 1]? = some zT := (hb.block _ (by simp)).trans (two_new W zT zT).2
    have HQ := Lib.hid q3
    clear hb q3
    go_wp2_with fail
    refine name_w fun X hX => ?_
    have HOX : Hid (Only W.heap.size b W X) := Lib.hid (by
      rw [hX]
      repeat with_reducible first | refine Only.drew ?_ | refine Only.alloc ?_ _ | refine Only.set ?_ (by omega) _ _
      exact (((Only.refl b W).alloc zT).alloc zT).below HB.out)
    have HRX : Hid (Rp n X b L e) := Lib.hid (by
      rw [hX]
      repeat with_reducible first | refine Rp.drew ?_ | refine Rp.alloc ?_ _ | refine Rp.set ?_ (by omega) _ _
      exact (((HR.out.alloc zT).alloc zT).below HB.out))
    have HX3 : Hid (X.heap[W.heap.size + 1]? = some zT) := Lib.hid (by rw [hX]; exact (Below.heap_alloc _ _ _ (by omega)).trans HQ.out)
    clear hX hz1 HQ HB HR
    have x0 := cell_of_row X (W.heap.size + 1) 0 _ _ (0, 0) HX3.out
    refine region_tail 6 mixed (by kernel_rfl) ?_
    simp only [List.take_succ_cons, List.take_zero, List.drop_succ_cons, List.drop_zero]
    iterate 6 still_step
    refine wpStill_nil ?_
    go_wp2_with fail
    refine (ptake_no HRX.out.drew).mono ?_
    rintro y w2 ⟨rfl, hb2⟩
    have HO := Lib.hid ((Only.drew HOX.out).below hb2)
    clear hb2 x0
    go_wp2_with fail
    exact ⟨rfl, PEnd.no (bind_bad (tok1_no HN0.out)) (Only.turned HO.out)⟩
  · have HN0 := Lib.hid (show nxt isTerm (keys L) = false by rw [HNx.out]; rfl)
    have hnW := HR.out.below_
    go_enter Tryz.func68, Tryz.ntmps68
    go_wp2_with fail
    refine (pnext_any ((HR.out.alloc zT).alloc zT)).mono ?_
    rintro y w1 ⟨rfl, hb⟩
    rw [← HX.out]
    unfold wordV
    have HB := Lib.hid hb
    have hz1 : W.heap.size + 1 < w1.heap.size := by have := hb.size; simp at this; omega
    have q3 : w1.heap[W.heap.size + 1]? = some zT := (hb.block _ (by simp)).trans (two_new W zT zT).2
    have HQ := Lib.hid q3
    clear hb q3
    go_wp2_with fail
    refine name_w fun X hX => ?_
    have HOX : Hid (Only W.heap.size b W X) := Lib.hid (by
      rw [hX]
      repeat with_reducible first | refine Only.drew ?_ | refine Only.alloc ?_ _ | refine Only.set ?_ (by omega) _ _
      exact (((Only.refl b W).alloc zT).alloc zT).below HB.out)
    have HRX : Hid (Rp n X b L e) := Lib.hid (by
      rw [hX]
      repeat with_reducible first | refine Rp.drew ?_ | refine Rp.alloc ?_ _ | refine Rp.set ?_ (by omega) _ _
      exact (((HR.out.alloc zT).alloc zT).below HB.out))
    have HX3 : Hid (X.heap[W.heap.size + 1]? = some zT) := Lib.hid (by rw [hX]; exact (Below.heap_alloc _ _ _ (by omega)).trans HQ.out)
    clear hX hz1 HQ HB HR
    have x0 := cell_of_row X (W.heap.size + 1) 0 _ _ (0, 0) HX3.out
    refine region_tail 6 mixed (by kernel_rfl) ?_
    simp only [List.take_succ_cons, List.take_zero, List.drop_succ_cons, List.drop_zero]
    iterate 6 still_step
    refine wpStill_nil ?_
    go_wp2_with fail
    refine (ptake_no HRX.out.drew).mono ?_
    rintro y w2 ⟨rfl, hb2⟩
    have HO := Lib.hid ((Only.drew HOX.out).below hb2)
    clear hb2 x0
    go_wp2_with fail
    exact ⟨rfl, PEnd.no (bind_bad (tok1_no HN0.out)) (Only.turned HO.out)⟩
  · obtain ⟨L', hL⟩ := head_cons HX.out (by simp)
    subst hL
    have hnW := HR.out.below_
    go_enter Tryz.func68, Tryz.ntmps68
    go_wp2_with fail
    refine (pnext_any ((HR.out.alloc zT).alloc zT)).mono ?_
    rintro y w1 ⟨rfl, hb⟩
    rw [← HX.out]
    unfold wordV
    have HB := Lib.hid hb
    obtain ⟨hc1, hf1⟩ := bcell hb
    have hz1 : W.heap.size + 1 < w1.heap.size := by have := hb.size; simp at this; omega
    have hz0 : W.heap.size < w1.heap.size := by omega
    have q3 : w1.heap[W.heap.size + 1]? = some zT := (hb.block _ (by simp)).trans (two_new W zT zT).2
    have q2 : w1.heap[W.heap.size]? = some zT := (hb.block _ (by simp; omega)).trans (two_new W zT zT).1
    have HQ := Lib.hid (And.intro q2 q3)
    clear hb q2 q3
    go_wp2_with fail
    refine name_w fun X hX => ?_
    have HOX : Hid (Only W.heap.size b W X) := Lib.hid (by
      rw [hX]
      repeat with_reducible first | refine Only.drew ?_ | refine Only.alloc ?_ _ | refine Only.set ?_ (by omega) _ _
      exact (((Only.refl b W).alloc zT).alloc zT).below HB.out)
    have HRX : Hid (Rp n X b (⟨2, T, (v1, v2, v3), P⟩ :: L') e) := Lib.hid (by
      rw [hX]
      repeat with_reducible first | refine Rp.drew ?_ | refine Rp.alloc ?_ _ | refine Rp.set ?_ (by omega) _ _
      exact (((HR.out.alloc zT).alloc zT).below HB.out))
    have HX3 : Hid (X.heap[W.heap.size + 1]? = some (.cells #[.int .i64 1, .string ⟨T.toArray⟩, .int .i64 0, .int .i64 0, .string ⟨#[]⟩] 84 (0, 0))) := Lib.hid (by rw [hX]; exact (Below.heap_alloc _ _ _ (by simp; omega)).trans (row5_set HQ.out.2))
    have HX2 : Hid (X.heap[W.heap.size]? = some zT) := Lib.hid (by rw [hX]; exact (Below.heap_alloc _ _ _ (by simp; omega)).trans ((set5_off (by omega)).trans HQ.out.1))
    have HXs : Hid (W.heap.size + 1 < X.heap.size) := Lib.hid (by rw [hX]; simp; omega)
    clear hX hc1 hf1 hz0 hz1 HQ HB HR
    have x0 := cell_of_row X (W.heap.size + 1) 0 _ _ (0, 0) HX3.out
    refine region_tail 6 mixed (by kernel_rfl) ?_
    simp only [List.take_succ_cons, List.take_zero, List.drop_succ_cons, List.drop_zero]
    iterate 6 still_step
    refine wpStill_nil ?_
    go_wp2_with fail
    refine (ptake_yes HRX.out.drew).mono ?_
    rintro y w2 ⟨rfl, ht2, hr2⟩
    have HO := Lib.hid ((Only.drew HOX.out).on ht2)
    have HR2 := Lib.hid hr2
    have HX3' := Lib.hid ((ht2.block _ HXs.out hne2).trans HX3.out)
    have HX2' := Lib.hid ((ht2.block _ (show W.heap.size < X.drew.heap.size by have := HXs.out; show W.heap.size < X.heap.size; omega) hne1).trans HX2.out)
    obtain ⟨⟨y0, y1, y2, y3, y4⟩, -⟩ := cells5 HX3'.out
    obtain ⟨⟨z0, z1, z2, z3, z4⟩, g0, g1, g2, g3, g4⟩ := cells5 HX2'.out
    clear ht2 hr2 x0
    unfold wordV
    go_wp2_with fail
    refine bodyPost_ret (results_cell_row (fn := Tryz.f68) (by rfl) _ _ _ _ _ _ _ (by rfl) (row5_set HX2'.out) Tryz.underlying84 (by rfl) (by kernel_rfl)) (by rfl) ?_
    refine ⟨Only.turned (by
      repeat with_reducible refine Only.set ?_ (Nat.le_refl _) _ _
      exact HO.out), .inl ⟨termOf (2, T, (v1, v2, v3)), L', _, bind_ok (tok1_yes (w := ⟨2, T, (v1, v2, v3), P⟩) rfl), ⟨[_], rfl⟩, rfl, rfl, ?_⟩⟩
    repeat with_reducible refine Rp.set ?_ hnW _ _
    exact HR2.out
  · obtain ⟨L', hL⟩ := head_cons HX.out (by simp)
    subst hL
    have hnW := HR.out.below_
    go_enter Tryz.func68, Tryz.ntmps68
    go_wp2_with fail
    refine (pnext_any ((HR.out.alloc zT).alloc zT)).mono ?_
    rintro y w1 ⟨rfl, hb⟩
    rw [← HX.out]
    unfold wordV
    have HB := Lib.hid hb
    obtain ⟨hc1, hf1⟩ := bcell hb
    have hz1 : W.heap.size + 1 < w1.heap.size := by have := hb.size; simp at this; omega
    have hz0 : W.heap.size < w1.heap.size := by omega
    have q3 : w1.heap[W.heap.size + 1]? = some zT := (hb.block _ (by simp)).trans (two_new W zT zT).2
    have q2 : w1.heap[W.heap.size]? = some zT := (hb.block _ (by simp; omega)).trans (two_new W zT zT).1
    have HQ := Lib.hid (And.intro q2 q3)
    clear hb q2 q3
    go_wp2_with fail
    refine name_w fun X hX => ?_
    have HOX : Hid (Only W.heap.size b W X) := Lib.hid (by
      rw [hX]
      repeat with_reducible first | refine Only.drew ?_ | refine Only.alloc ?_ _ | refine Only.set ?_ (by omega) _ _
      exact (((Only.refl b W).alloc zT).alloc zT).below HB.out)
    have HRX : Hid (Rp n X b (⟨3, T, (v1, v2, v3), P⟩ :: L') e) := Lib.hid (by
      rw [hX]
      repeat with_reducible first | refine Rp.drew ?_ | refine Rp.alloc ?_ _ | refine Rp.set ?_ (by omega) _ _
      exact (((HR.out.alloc zT).alloc zT).below HB.out))
    have HX3 : Hid (X.heap[W.heap.size + 1]? = some (.cells #[.int .i64 3, .string ⟨#[]⟩, .int .i64 0, .int .i64 0, .string ⟨#[]⟩] 84 (0, 0))) := Lib.hid (by rw [hX]; exact (Below.heap_alloc _ _ _ (by simp; omega)).trans (row5_set HQ.out.2))
    have HX2 : Hid (X.heap[W.heap.size]? = some zT) := Lib.hid (by rw [hX]; exact (Below.heap_alloc _ _ _ (by simp; omega)).trans ((set5_off (by omega)).trans HQ.out.1))
    have HXs : Hid (W.heap.size + 1 < X.heap.size) := Lib.hid (by rw [hX]; simp; omega)
    clear hX hc1 hf1 hz0 hz1 HQ HB HR
    have x0 := cell_of_row X (W.heap.size + 1) 0 _ _ (0, 0) HX3.out
    refine region_tail 6 mixed (by kernel_rfl) ?_
    simp only [List.take_succ_cons, List.take_zero, List.drop_succ_cons, List.drop_zero]
    iterate 6 still_step
    refine wpStill_nil ?_
    go_wp2_with fail
    refine (ptake_yes HRX.out.drew).mono ?_
    rintro y w2 ⟨rfl, ht2, hr2⟩
    have HO := Lib.hid ((Only.drew HOX.out).on ht2)
    have HR2 := Lib.hid hr2
    have HX3' := Lib.hid ((ht2.block _ HXs.out hne2).trans HX3.out)
    have HX2' := Lib.hid ((ht2.block _ (show W.heap.size < X.drew.heap.size by have := HXs.out; show W.heap.size < X.heap.size; omega) hne1).trans HX2.out)
    obtain ⟨⟨y0, y1, y2, y3, y4⟩, -⟩ := cells5 HX3'.out
    obtain ⟨⟨z0, z1, z2, z3, z4⟩, g0, g1, g2, g3, g4⟩ := cells5 HX2'.out
    clear ht2 hr2 x0
    unfold wordV
    go_wp2_with fail
    refine bodyPost_ret (results_cell_row (fn := Tryz.f68) (by rfl) _ _ _ _ _ _ _ (by rfl) (row5_set HX2'.out) Tryz.underlying84 (by rfl) (by kernel_rfl)) (by rfl) ?_
    refine ⟨Only.turned (by
      repeat with_reducible refine Only.set ?_ (Nat.le_refl _) _ _
      exact HO.out), .inl ⟨termOf (3, T, (v1, v2, v3)), L', _, bind_ok (tok1_yes (w := ⟨3, T, (v1, v2, v3), P⟩) rfl), ⟨[_], rfl⟩, rfl, rfl, ?_⟩⟩
    repeat with_reducible refine Rp.set ?_ hnW _ _
    exact HR2.out
  · obtain ⟨L', hL⟩ := head_cons HX.out (by simp)
    subst hL
    have hnW := HR.out.below_
    go_enter Tryz.func68, Tryz.ntmps68
    go_wp2_with fail
    refine (pnext_any ((HR.out.alloc zT).alloc zT)).mono ?_
    rintro y w1 ⟨rfl, hb⟩
    rw [← HX.out]
    unfold wordV
    have HB := Lib.hid hb
    obtain ⟨hc1, hf1⟩ := bcell hb
    have hz1 : W.heap.size + 1 < w1.heap.size := by have := hb.size; simp at this; omega
    have hz0 : W.heap.size < w1.heap.size := by omega
    have q3 : w1.heap[W.heap.size + 1]? = some zT := (hb.block _ (by simp)).trans (two_new W zT zT).2
    have q2 : w1.heap[W.heap.size]? = some zT := (hb.block _ (by simp; omega)).trans (two_new W zT zT).1
    have HQ := Lib.hid (And.intro q2 q3)
    clear hb q2 q3
    go_wp2_with fail
    refine name_w fun X hX => ?_
    have HOX : Hid (Only W.heap.size b W X) := Lib.hid (by
      rw [hX]
      repeat with_reducible first | refine Only.drew ?_ | refine Only.alloc ?_ _ | refine Only.set ?_ (by omega) _ _
      exact (((Only.refl b W).alloc zT).alloc zT).below HB.out)
    have HRX : Hid (Rp n X b (⟨4, T, (v1, v2, v3), P⟩ :: L') e) := Lib.hid (by
      rw [hX]
      repeat with_reducible first | refine Rp.drew ?_ | refine Rp.alloc ?_ _ | refine Rp.set ?_ (by omega) _ _
      exact (((HR.out.alloc zT).alloc zT).below HB.out))
    have HX3 : Hid (X.heap[W.heap.size + 1]? = some (.cells #[.int .i64 2, .string ⟨#[]⟩, .int .i64 v1, .int .i64 v2, .string v3] 84 (0, 0))) := Lib.hid (by rw [hX]; exact (Below.heap_alloc _ _ _ (by simp; omega)).trans (row5_set HQ.out.2))
    have HX2 : Hid (X.heap[W.heap.size]? = some zT) := Lib.hid (by rw [hX]; exact (Below.heap_alloc _ _ _ (by simp; omega)).trans ((set5_off (by omega)).trans HQ.out.1))
    have HXs : Hid (W.heap.size + 1 < X.heap.size) := Lib.hid (by rw [hX]; simp; omega)
    clear hX hc1 hf1 hz0 hz1 HQ HB HR
    have x0 := cell_of_row X (W.heap.size + 1) 0 _ _ (0, 0) HX3.out
    refine region_tail 6 mixed (by kernel_rfl) ?_
    simp only [List.take_succ_cons, List.take_zero, List.drop_succ_cons, List.drop_zero]
    iterate 6 still_step
    refine wpStill_nil ?_
    go_wp2_with fail
    refine (ptake_yes HRX.out.drew).mono ?_
    rintro y w2 ⟨rfl, ht2, hr2⟩
    have HO := Lib.hid ((Only.drew HOX.out).on ht2)
    have HR2 := Lib.hid hr2
    have HX3' := Lib.hid ((ht2.block _ HXs.out hne2).trans HX3.out)
    have HX2' := Lib.hid ((ht2.block _ (show W.heap.size < X.drew.heap.size by have := HXs.out; show W.heap.size < X.heap.size; omega) hne1).trans HX2.out)
    obtain ⟨⟨y0, y1, y2, y3, y4⟩, -⟩ := cells5 HX3'.out
    obtain ⟨⟨z0, z1, z2, z3, z4⟩, g0, g1, g2, g3, g4⟩ := cells5 HX2'.out
    clear ht2 hr2 x0
    unfold wordV
    go_wp2_with fail
    refine bodyPost_ret (results_cell_row (fn := Tryz.f68) (by rfl) _ _ _ _ _ _ _ (by rfl) (row5_set HX2'.out) Tryz.underlying84 (by rfl) (by kernel_rfl)) (by rfl) ?_
    refine ⟨Only.turned (by
      repeat with_reducible refine Only.set ?_ (Nat.le_refl _) _ _
      exact HO.out), .inl ⟨termOf (4, T, (v1, v2, v3)), L', _, bind_ok (tok1_yes (w := ⟨4, T, (v1, v2, v3), P⟩) rfl), ⟨[_], rfl⟩, rfl, rfl, ?_⟩⟩
    repeat with_reducible refine Rp.set ?_ hnW _ _
    exact HR2.out
  · obtain ⟨L', hL⟩ := head_cons HX.out (by simp)
    subst hL
    have hnW := HR.out.below_
    go_enter Tryz.func68, Tryz.ntmps68
    go_wp2_with fail
    refine (pnext_any ((HR.out.alloc zT).alloc zT)).mono ?_
    rintro y w1 ⟨rfl, hb⟩
    rw [← HX.out]
    unfold wordV
    have HB := Lib.hid hb
    obtain ⟨hc1, hf1⟩ := bcell hb
    have hz1 : W.heap.size + 1 < w1.heap.size := by have := hb.size; simp at this; omega
    have hz0 : W.heap.size < w1.heap.size := by omega
    have q3 : w1.heap[W.heap.size + 1]? = some zT := (hb.block _ (by simp)).trans (two_new W zT zT).2
    have q2 : w1.heap[W.heap.size]? = some zT := (hb.block _ (by simp; omega)).trans (two_new W zT zT).1
    have HQ := Lib.hid (And.intro q2 q3)
    clear hb q2 q3
    go_wp2_with fail
    refine name_w fun X hX => ?_
    have HOX : Hid (Only W.heap.size b W X) := Lib.hid (by
      rw [hX]
      repeat with_reducible first | refine Only.drew ?_ | refine Only.alloc ?_ _ | refine Only.set ?_ (by omega) _ _
      exact (((Only.refl b W).alloc zT).alloc zT).below HB.out)
    have HRX : Hid (Rp n X b (⟨5, T, (v1, v2, v3), P⟩ :: L') e) := Lib.hid (by
      rw [hX]
      repeat with_reducible first | refine Rp.drew ?_ | refine Rp.alloc ?_ _ | refine Rp.set ?_ (by omega) _ _
      exact (((HR.out.alloc zT).alloc zT).below HB.out))
    have HX3 : Hid (X.heap[W.heap.size + 1]? = some (.cells #[.int .i64 2, .string ⟨#[]⟩, .int .i64 v1, .int .i64 v2, .string v3] 84 (0, 0))) := Lib.hid (by rw [hX]; exact (Below.heap_alloc _ _ _ (by simp; omega)).trans (row5_set HQ.out.2))
    have HX2 : Hid (X.heap[W.heap.size]? = some zT) := Lib.hid (by rw [hX]; exact (Below.heap_alloc _ _ _ (by simp; omega)).trans ((set5_off (by omega)).trans HQ.out.1))
    have HXs : Hid (W.heap.size + 1 < X.heap.size) := Lib.hid (by rw [hX]; simp; omega)
    clear hX hc1 hf1 hz0 hz1 HQ HB HR
    have x0 := cell_of_row X (W.heap.size + 1) 0 _ _ (0, 0) HX3.out
    refine region_tail 6 mixed (by kernel_rfl) ?_
    simp only [List.take_succ_cons, List.take_zero, List.drop_succ_cons, List.drop_zero]
    iterate 6 still_step
    refine wpStill_nil ?_
    go_wp2_with fail
    refine (ptake_yes HRX.out.drew).mono ?_
    rintro y w2 ⟨rfl, ht2, hr2⟩
    have HO := Lib.hid ((Only.drew HOX.out).on ht2)
    have HR2 := Lib.hid hr2
    have HX3' := Lib.hid ((ht2.block _ HXs.out hne2).trans HX3.out)
    have HX2' := Lib.hid ((ht2.block _ (show W.heap.size < X.drew.heap.size by have := HXs.out; show W.heap.size < X.heap.size; omega) hne1).trans HX2.out)
    obtain ⟨⟨y0, y1, y2, y3, y4⟩, -⟩ := cells5 HX3'.out
    obtain ⟨⟨z0, z1, z2, z3, z4⟩, g0, g1, g2, g3, g4⟩ := cells5 HX2'.out
    clear ht2 hr2 x0
    unfold wordV
    go_wp2_with fail
    refine bodyPost_ret (results_cell_row (fn := Tryz.f68) (by rfl) _ _ _ _ _ _ _ (by rfl) (row5_set HX2'.out) Tryz.underlying84 (by rfl) (by kernel_rfl)) (by rfl) ?_
    refine ⟨Only.turned (by
      repeat with_reducible refine Only.set ?_ (Nat.le_refl _) _ _
      exact HO.out), .inl ⟨termOf (5, T, (v1, v2, v3)), L', _, bind_ok (tok1_yes (w := ⟨5, T, (v1, v2, v3), P⟩) rfl), ⟨[_], rfl⟩, rfl, rfl, ?_⟩⟩
    repeat with_reducible refine Rp.set ?_ hnW _ _
    exact HR2.out
  · have HN0 := Lib.hid (show nxt isTerm (keys L) = false by rw [HNx.out]; rfl)
    have hnW := HR.out.below_
    go_enter Tryz.func68, Tryz.ntmps68
    go_wp2_with fail
    refine (pnext_any ((HR.out.alloc zT).alloc zT)).mono ?_
    rintro y w1 ⟨rfl, hb⟩
    rw [← HX.out]
    unfold wordV
    have HB := Lib.hid hb
    have hz1 : W.heap.size + 1 < w1.heap.size := by have := hb.size; simp at this; omega
    have q3 : w1.heap[W.heap.size + 1]? = some zT := (hb.block _ (by simp)).trans (two_new W zT zT).2
    have HQ := Lib.hid q3
    clear hb q3
    go_wp2_with fail
    refine name_w fun X hX => ?_
    have HOX : Hid (Only W.heap.size b W X) := Lib.hid (by
      rw [hX]
      repeat with_reducible first | refine Only.drew ?_ | refine Only.alloc ?_ _ | refine Only.set ?_ (by omega) _ _
      exact (((Only.refl b W).alloc zT).alloc zT).below HB.out)
    have HRX : Hid (Rp n X b L e) := Lib.hid (by
      rw [hX]
      repeat with_reducible first | refine Rp.drew ?_ | refine Rp.alloc ?_ _ | refine Rp.set ?_ (by omega) _ _
      exact (((HR.out.alloc zT).alloc zT).below HB.out))
    have HX3 : Hid (X.heap[W.heap.size + 1]? = some zT) := Lib.hid (by rw [hX]; exact (Below.heap_alloc _ _ _ (by omega)).trans HQ.out)
    clear hX hz1 HQ HB HR
    have x0 := cell_of_row X (W.heap.size + 1) 0 _ _ (0, 0) HX3.out
    refine region_tail 6 mixed (by kernel_rfl) ?_
    simp only [List.take_succ_cons, List.take_zero, List.drop_succ_cons, List.drop_zero]
    iterate 6 still_step
    refine wpStill_nil ?_
    go_wp2_with fail
    refine (ptake_no HRX.out.drew).mono ?_
    rintro y w2 ⟨rfl, hb2⟩
    have HO := Lib.hid ((Only.drew HOX.out).below hb2)
    clear hb2 x0
    go_wp2_with fail
    exact ⟨rfl, PEnd.no (bind_bad (tok1_no HN0.out)) (Only.turned HO.out)⟩
end
end Go.Proofs.YtnbaemfkpfmheaaGreatDoor

/-
  The closure of run.pages hands the body each page: its walk.
  Words for tuples that a call makes itself: rows of values of its own; an append of values.
  Rows of spans: where a page lies, and its first tuple.
-/
import Derived.Test.YtdjhfcopnhcljaaGreatDoorW08
import Derived.Test.YtdjhfcopnhcljaaGreatDoorW02
import Derived.Maps.AppendAt
import Derived.Deep.AppendLies
import Derived.OwnWalk
import Derived.Laws.OwnMore
import Derived.RangeFuncBox
namespace Go.Proofs.YtdjhfcopnhcljaaGreatDoor
section
open Go Go.RowKit Go.Shelf

attribute [local go_sem] Oper.semAt_some

/-- Only blocks of Y are turned. -/
structure Turned (Y : Nat → Prop) (A B : World) : Prop where
  os : B.os = A.os
  tape : B.tape = A.tape
  output : B.output = A.output
  size : A.heap.size ≤ B.heap.size
  block : ∀ k, k < A.heap.size → ¬ Y k → B.heap[k]? = A.heap[k]?
theorem Turned.below {Y : Nat → Prop} {A B : World} (h : Turned Y A B) {n : Nat} (hn : n ≤ A.heap.size) (hY : ∀ k, Y k → n ≤ k) : Below n A B := ⟨h.os, h.tape, h.output, h.size, fun k hk => h.block k (by omega) (fun e => by have := hY k e; omega)⟩
theorem Turned.of_below {A B : World} (h : Below A.heap.size A B) : Turned (fun _ => False) A B := ⟨h.os, h.tape, h.output, h.size, fun k hk _ => h.block k hk⟩
theorem Turned.of_grown {A B : World} {ob : Option Nat} (hg : A.grownBy B ob) : Turned (fun k => ob = some k) A B := by
  have h := (Below.refl 0 A).grown hg (Nat.zero_le _) (fun _ _ => Nat.zero_le _)
  exact ⟨h.os, h.tape, h.output, hg.size, fun k hk hn => hg.block k hk (fun e => hn e.symm)⟩
theorem OwnB.off {B : Nat} {A W : World} {Y : Nat → Prop} {v : Value} {l : List UInt8} (h : OwnB B A v l) (ht : Turned Y A W) (hn : ∀ k, v.ownBlock = some k → ¬ Y k) : OwnB B W v l := by
  refine ⟨h.1, ?_⟩
  rcases h.2 with hh | ⟨g, cap, cur, rfl, hB, hg, rest⟩
  · exact .inl hh
  · exact .inr ⟨g, cap, cur, rfl, hB, (ht.block g (Array.getElem?_eq_some_iff.1 hg).1 (hn g rfl)).trans hg, rest⟩
/-- An append of bytes inside a fence. -/
theorem wpListIn_app {F : Fence} {f : Nat} {ops : Array Oper} {rest : List Oper} {o : Oper} {a : Act} {w : World} {Q : Exit → Act → World → Prop} (hgd : o.guard = none) (s x : Operand)
    (ho : o.op = .call { callee := .builtin .append, args := #[s, x], argTypes := #[24, 24] })
    (B n₀ : Nat) (v vx : Value) (l m : List UInt8) (hs : a.eval s = v) (hx : a.eval x = vx) (hown : OwnB B w v l) (hin : BytIn n₀ w vx m) (hlen : l.length + m.length ≤ 100000000000000) (hB : B ≤ w.heap.size)
    (h : ∀ v' w', OwnB B w' v' (l ++ m) → w.grownBy w' v.ownBlock → wpListIn F f Tryz.prog ops Q rest (a.put o.dst v') w') : wpListIn F f Tryz.prog ops Q (o :: rest) a w := by
  refine wpListIn_plain hgd fun K hK => ?_
  obtain ⟨v', w', hr, h2, h3⟩ := run_app w B n₀ o.type v vx l m hown hin hlen hB
  unfold Oper.wpIn
  refine ⟨?_, ?_⟩
  · simp [Oper.about, ho, resolve, Target.leads, Sem.run_pure]
  · rw [Oper.semAt_plain F _ _ (by rw [ho]; intro c hc'; cases hc')]
    simp [execOp, ho, resolve, invoke, builtin, hs, hx, hr, Result.andThen]
    exact hK _ _ (h v' w' h2 h3)
end
section
open Go Go.RowKit

theorem Tryz.infoV : (Tryz.prog.info? 92).map (fun i => (i.zero, i.size, i.bytes)) = some (some (.agg #[.int .i64 0, .int .i64 0, .string ⟨#[]⟩]), 3, 32) := by kernel_rfl
/-- The cells of a row of values. -/
def rowV : List V3 → List Value
  | [] => []
  | x :: r => .int .i64 x.k :: .int .i64 x.n :: .string x.s :: rowV r
theorem rowV_len (T : List V3) : (rowV T).length = T.length * 3 := by
  induction T with
  | nil => rfl
  | cons x r ih => simp only [rowV, List.length_cons, ih]; omega
theorem rowV_append (T X : List V3) : rowV (T ++ X) = rowV T ++ rowV X := by
  induction T with
  | nil => rfl
  | cons x r ih => simp only [rowV, List.cons_append, ih]
theorem rowV_one (T : List V3) : ∀ u ∈ rowV T, u.oneCell' = true := by
  induction T with
  | nil => intro u hu; cases hu
  | cons x r ih =>
    intro u hu
    simp only [rowV, List.mem_cons] at hu
    rcases hu with rfl | rfl | rfl | hu
    · rfl
    · rfl
    · rfl
    · exact ih u hu
theorem rowV_at : ∀ (T : List V3) (j : Nat) (hj : j < T.length), (rowV T)[j * 3]? = some (.int .i64 T[j].k) ∧ (rowV T)[j * 3 + 1]? = some (.int .i64 T[j].n) ∧ (rowV T)[j * 3 + 2]? = some (.string T[j].s)
  | [], j, hj => by simp at hj
  | x :: r, 0, _ => ⟨rfl, rfl, rfl⟩
  | x :: r, j + 1, hj => by
    have h := rowV_at r j (by simpa using hj)
    have e : (j + 1) * 3 = j * 3 + 1 + 1 + 1 := by omega
    simp only [e, rowV, List.getElem?_cons_succ, List.getElem_cons_succ]
    exact h
/-- The cells that a row of values reads, one by one. -/
theorem cells_row {W : World} {b : Nat} : ∀ (T : List V3) (off : Nat), CellsAt W b off T → ∀ j u, (rowV T)[j]? = some u → W.cell? ⟨b, off + j, none⟩ = some u
  | [], _, _ => fun j u hu => by simp [rowV] at hu
  | x :: r, off, h => fun j u hu => by
    have h0 := h 0 (by simp)
    simp only [Nat.zero_mul, Nat.add_zero, List.getElem_cons_zero] at h0
    rcases j with _ | _ | _ | j
    · simp [rowV] at hu; rw [← hu]; exact h0.1
    · simp [rowV] at hu; rw [← hu]; exact h0.2.1
    · simp [rowV] at hu; rw [← hu]; exact h0.2.2
    · have hr : CellsAt W b (off + 3) r := fun i hi => by
        have h1 := h (i + 1) (by simpa using hi)
        rw [show off + (i + 1) * 3 = off + 3 + i * 3 by omega] at h1
        exact h1
      have := cells_row r (off + 3) hr j u (by simpa [rowV] using hu)
      rw [show off + (j + 1 + 1 + 1) = off + 3 + j by omega]
      exact this

/-- A slice value that the call owns holds a row of values. -/
def OwnR (B : Nat) (w : World) (v : Value) (T : List V3) : Prop := w.ownsRow B 92 3 v T.length (rowV T)
theorem OwnR.nil (B : Nat) (w : World) : OwnR B w (.slice none 0 0) [] := World.ownsRow_nil w B _ 3
theorem OwnR.empty (B : Nat) (w : World) (hB : B ≤ w.heap.size) : OwnR B (w.alloc (.cells #[] 92)) (.slice (some ⟨w.heap.size, 0, none⟩) 0 0) [] := World.ownsRow_lit w #[] 0 hB (by decide) rfl
theorem OwnR.alloc {B : Nat} {w : World} {v : Value} {T : List V3} (h : OwnR B w v T) (o : Obj) : OwnR B (w.alloc o) v T := World.ownsRow.alloc h o
theorem OwnR.below {B : Nat} {w w' : World} {v : Value} {T : List V3} (h : OwnR B w v T) (hb : Below w.heap.size w w') : OwnR B w' v T := by
  refine ⟨h.1, ?_⟩
  rcases h.2 with hn | ⟨g, cap, cur, rfl, hB, hg, rest⟩
  · exact .inl hn
  · exact .inr ⟨g, cap, cur, rfl, hB, (hb.block g (Array.getElem?_eq_some_iff.1 hg).1).trans hg, rest⟩
theorem OwnR.in_ {B : Nat} {w : World} {v : Value} {T : List V3} (h : OwnR B w v T) (hl : T.length ≤ 1000000) : TupIn w.heap.size w v T := by
  rcases Nat.eq_zero_or_pos T.length with h0 | h0
  · obtain rfl := List.eq_nil_of_length_eq_zero h0
    rcases h.2 with ⟨rfl, -⟩ | ⟨g, cap, cur, rfl, -⟩
    · exact ⟨none, 0, rfl, by simp, .inl rfl⟩
    · exact ⟨_, cap, rfl, by simp, .inl rfl⟩
  · obtain ⟨g, cap, rfl, -, hg⟩ := World.ownsRow.form h h0
    have at_ : ∀ j u, (rowV T)[j]? = some u → w.cell? ⟨g, 0 + j, none⟩ = some u := fun j u hu => by
      have hc := World.ownsRow.cells h (g := g) rfl j u hu
      have hadd : (⟨g, 0, none⟩ : Addr).add j = ⟨g, 0 + j, none⟩ := by unfold Addr.add; split <;> simp_all
      rw [hadd] at hc
      exact hc
    refine ⟨_, cap, rfl, hl, .inr ⟨g, 0, rfl, hg, fun j hj => ?_⟩⟩
    obtain ⟨h1, h2, h3⟩ := rowV_at T j hj
    exact ⟨at_ _ _ h1, at_ _ _ h2, at_ _ _ h3⟩
/-- The literal of one value, laid in a new block. -/
theorem lit_in (w : World) (x : V3) : TupIn (w.heap.size + 1) (w.alloc (.cells #[.int .i64 x.k, .int .i64 x.n, .string x.s] 92)) (.slice (some ⟨w.heap.size, 0, none⟩) 1 1) [x] := by
  refine ⟨_, 1, rfl, by simp, .inr ⟨w.heap.size, 0, rfl, by omega, fun j hj => ?_⟩⟩
  obtain rfl : j = 0 := by simpa using hj
  refine ⟨?_, ?_, ?_⟩ <;> (rw [cell_of_row _ w.heap.size _ _ _ (0, 0) (heap_alloc_new w _)]; rfl)

theorem run_append_nilR (w : World) (B : Nat) (ty : TypeId) (v : Value) (T : List V3) (hown : OwnR B w v T) (c : Nat) : (Builtin.append_ #[64, 64] ty #[v, .slice none 0 c]).run Tryz.prog w = .ok v w := by
  obtain ⟨i0, hi, -, -, -⟩ := info_parts Tryz.infoV
  rcases hown.2 with ⟨rfl, -⟩ | ⟨g, cap, cur, rfl, -, -, hnc, -⟩
  · simp [Builtin.append_, run_underlying Tryz.underlying64, sizeOf, typeInfo, hi, Builtin.lenOf, Builtin.firstCells]
  · simp [Builtin.append_, run_underlying Tryz.underlying64, sizeOf, typeInfo, hi, Builtin.lenOf, Builtin.firstCells, hnc, storeCells]
/-- An append of values onto a row of the call's own. -/
theorem run_appT (w : World) (B n₀ : Nat) (ty : TypeId) (v vx : Value) (T X : List V3) (hown : OwnR B w v T) (hin : TupIn n₀ w vx X) (hT : T.length ≤ 1000000) (hB : B ≤ w.heap.size) :
    ∃ v' w', (Builtin.append_ #[64, 64] ty #[v, vx]).run Tryz.prog w = .ok v' w' ∧ OwnR B w' v' (T ++ X) ∧ w.grownBy w' v.ownBlock := by
  obtain ⟨i0, hi, hz0, hz1, hz2⟩ := info_parts Tryz.infoV
  obtain ⟨p, c, rfl, hX, hc⟩ := hin
  have nothing : X = [] → p = none → ∃ v' w', (Builtin.append_ #[64, 64] ty #[v, .slice p X.length c]).run Tryz.prog w = .ok v' w' ∧ OwnR B w' v' (T ++ X) ∧ w.grownBy w' v.ownBlock := by
    rintro rfl rfl
    exact ⟨v, w, run_append_nilR w B ty v T hown c, by rw [List.append_nil]; exact hown, World.grownBy.refl w _⟩
  have some_ : ∀ ad, p = some ad → (∀ j u, (rowV X)[j]? = some u → w.cell? (ad.add j) = some u) → ∃ v' w', (Builtin.append_ #[64, 64] ty #[v, .slice p X.length c]).run Tryz.prog w = .ok v' w' ∧ OwnR B w' v' (T ++ X) ∧ w.grownBy w' v.ownBlock := by
    rintro ad rfl hcell
    obtain ⟨v', w', hr, ho, hg, -, -⟩ := run_append_own_at (P := Tryz.prog) w B 64 ty 92 i0 (.agg #[.int .i64 0, .int .i64 0, .string ⟨#[]⟩]) 3 32 Tryz.underlying64 hi hz0 hz1 hz2 rfl (by decide) v _ _ hown ad X.length c (rowV X)
      (rowV_len X) hcell (rowV_one X) (by unfold maxLen; omega) (by omega) hB
    refine ⟨v', w', hr, ?_, hg⟩
    unfold OwnR
    rw [List.length_append, rowV_append]
    exact ho
  rcases hc with rfl | ⟨b, off, rfl, -, hc⟩
  · rcases p with _ | ad
    · exact nothing rfl rfl
    · exact some_ ad rfl fun j u hu => by simp [rowV] at hu
  · exact some_ _ rfl fun j u hu => by
      have hadd : (⟨b, off, none⟩ : Addr).add j = ⟨b, off + j, none⟩ := by unfold Addr.add; split <;> simp_all
      rw [hadd]
      exact cells_row X off hc j u hu
/-- The same at the operation. -/
theorem wpList_appT {ops : Array Oper} {rest : List Oper} {o : Oper} {a : Act} {w : World} {Q : Exit → Act → World → Prop} (hgd : o.guard = none) (s x : Operand)
    (ho : o.op = .call { callee := .builtin .append, args := #[s, x], argTypes := #[64, 64] })
    (B n₀ : Nat) (w0 : World) (v vx : Value) (T X : List V3) (hs : a.eval s = v) (hx : a.eval x = vx) (hown : OwnR B w v T) (hin : TupIn n₀ w vx X) (hlen : T.length ≤ 1000000) (hb : Below B w0 w) (hB : B ≤ w0.heap.size)
    (h : ∀ v' w', OwnR B w' v' (T ++ X) → Below B w0 w' → wpList Tryz.prog ops Q rest (a.put o.dst v') w') : wpList Tryz.prog ops Q (o :: rest) a w := by
  refine wpList_plain hgd fun K hK => ?_
  have hBw : B ≤ w.heap.size := Nat.le_trans hB hb.size
  obtain ⟨v', w', hr, h2, h3⟩ := run_appT w B n₀ o.type v vx T X hown hin hlen hBw
  unfold Oper.wp execOp
  simp only [ho, resolve, invoke, builtin, Sem.run_bind, Sem.run_pure, Result.andThen_ok, List.map_toArray, List.map_cons, List.map_nil, hs, hx, hr]
  exact hK _ _ (h v' w' h2 (hb.grown h3 hBw fun k hk => (World.ownsRow.lt hown k hk).1))
end
section
open Go Go.RowKit Go.Shelf

/-- A page's offset, size and first tuple. -/
abbrev Sp := Nat × Nat × List V3
theorem infoSp : (Tryz.prog.info? 110).map (fun i => (i.zero, i.size, i.bytes)) = some (some (.agg #[.int .i64 0, .int .i64 0, .slice none 0 0]), 3, 40) := by kernel_rfl
def spV : List (Sp × Value) → List Value
  | [] => []
  | x :: r => .int .i64 (x.1.1 : Nat) :: .int .i64 (x.1.2.1 : Nat) :: x.2 :: spV r
theorem spV_len (R : List (Sp × Value)) : (spV R).length = R.length * 3 := by
  induction R with
  | nil => rfl
  | cons x r ih => simp only [spV, List.length_cons, ih]; omega
theorem spV_app (R S : List (Sp × Value)) : spV (R ++ S) = spV R ++ spV S := by
  induction R with
  | nil => rfl
  | cons x r ih => simp only [spV, List.cons_append, ih]
theorem spV_at {R : List (Sp × Value)} : ∀ {j : Nat} (hj : j < R.length), (spV R)[j * 3]? = some (.int .i64 (R[j].1.1 : Nat)) ∧ (spV R)[j * 3 + 1]? = some (.int .i64 (R[j].1.2.1 : Nat)) ∧ (spV R)[j * 3 + 2]? = some R[j].2 := by
  induction R with
  | nil => intro j hj; cases hj
  | cons x r ih =>
    intro j hj
    cases j with
    | zero => exact ⟨rfl, rfl, rfl⟩
    | succ j =>
      have h := ih (j := j) (by simpa using hj)
      rw [show (j + 1) * 3 = j * 3 + 3 by omega]
      exact h
/-- A row of spans of the call's own; each first tuple is a row of its own. -/
def OwnSp (B : Nat) (w : World) (v : Value) (R : List (Sp × Value)) : Prop :=
  w.ownsRow B 110 3 v R.length (spV R) ∧ ∀ x ∈ R, OwnR 0 w x.2 x.1.2.2 ∧ x.1.2.2.length ≤ 8
theorem OwnSp.nil (B : Nat) (w : World) : OwnSp B w (.slice none 0 0) [] := ⟨World.ownsRow_nil w B _ 3, fun x h => by cases h⟩
theorem ownsRow_below {B : Nat} {w w' : World} {e : TypeId} {s n : Nat} {v : Value} {xs : List Value} (h : w.ownsRow B e s v n xs) (hb : Below w.heap.size w w') : w'.ownsRow B e s v n xs := by
  refine ⟨h.1, ?_⟩
  rcases h.2 with hn | ⟨g, cap, cur, rfl, hB, hg, rest⟩
  · exact .inl hn
  · exact .inr ⟨g, cap, cur, rfl, hB, (hb.block g (Array.getElem?_eq_some_iff.1 hg).1).trans hg, rest⟩
theorem ownsRow_off {Y : Nat → Prop} {B : Nat} {w w' : World} {e : TypeId} {s n : Nat} {v : Value} {xs : List Value} (h : w.ownsRow B e s v n xs) (hb : Turned Y w w') (hn : ∀ k, v.ownBlock = some k → ¬ Y k) : w'.ownsRow B e s v n xs := by
  refine ⟨h.1, ?_⟩
  rcases h.2 with hn' | ⟨g, cap, cur, rfl, hB, hg, rest⟩
  · exact .inl hn'
  · exact .inr ⟨g, cap, cur, rfl, hB, (hb.block g (Array.getElem?_eq_some_iff.1 hg).1 (hn g rfl)).trans hg, rest⟩
theorem ownsRow_block {w : World} {B : Nat} {e : TypeId} {s n : Nat} {v : Value} {xs : List Value} (h : w.ownsRow B e s v n xs) : ∀ j, v.ownBlock = some j → B ≤ j ∧ ∃ cur, w.heap[j]? = some (.cells cur e (0, 0)) := by
  intro j hj
  rcases h.2 with ⟨rfl, -⟩ | ⟨g, cap, cur, rfl, hB', hg', -⟩
  · cases hj
  · cases hj
    exact ⟨hB', cur, hg'⟩
theorem OwnSp.below {B : Nat} {w w' : World} {v : Value} {R : List (Sp × Value)} (h : OwnSp B w v R) (hb : Below w.heap.size w w') : OwnSp B w' v R := ⟨ownsRow_below h.1 hb, fun x hx => ⟨(h.2 x hx).1.below hb, (h.2 x hx).2⟩⟩
/-- A change of a block that holds neither spans nor values. -/
theorem OwnSp.other {B b : Nat} {w w' : World} {v : Value} {R : List (Sp × Value)} {o : Obj} (h : OwnSp B w v R) (ht : Turned (fun k => k = b) w w') (ho : w.heap[b]? = some o) (h1 : ∀ cur, o ≠ .cells cur 110 (0, 0)) (h2 : ∀ cur, o ≠ .cells cur 92 (0, 0)) : OwnSp B w' v R := by
  refine ⟨ownsRow_off h.1 ht (fun k hk e => ?_), fun x hx => ⟨ownsRow_off (h.2 x hx).1 ht (fun k hk e => ?_), (h.2 x hx).2⟩⟩
  · obtain ⟨-, cur, hc⟩ := ownsRow_block h.1 k hk
    have e : k = b := e
    rw [e, ho] at hc
    exact h1 cur (Option.some.inj hc)
  · obtain ⟨-, cur, hc⟩ := ownsRow_block (h.2 x hx).1 k hk
    have e : k = b := e
    rw [e, ho] at hc
    exact h2 cur (Option.some.inj hc)
/-- An append of one span. -/
theorem run_appSp (w : World) (B : Nat) (ty : TypeId) (v : Value) (R : List (Sp × Value)) (q : Sp) (u : Value) (ad : Addr) (hown : OwnSp B w v R) (hu : OwnR 0 w u q.2.2) (h8 : q.2.2.length ≤ 8) (hR : R.length ≤ 1000000) (hB : B ≤ w.heap.size)
    (c0 : w.cell? (ad.add 0) = some (.int .i64 (q.1 : Nat))) (c1 : w.cell? (ad.add 1) = some (.int .i64 (q.2.1 : Nat))) (c2 : w.cell? (ad.add 2) = some u) :
    ∃ v' w', (Builtin.append_ #[80, 80] ty #[v, .slice (some ad) 1 1]).run Tryz.prog w = .ok v' w' ∧ OwnSp B w' v' (R ++ [(q, u)]) ∧ w.grownBy w' v.ownBlock ∧ (v'.ownBlock = v.ownBlock ∨ v'.ownBlock = some w.heap.size) := by
  obtain ⟨i0, hi, hz0, hz1, hz2⟩ := info_parts infoSp
  obtain ⟨pu, cu, rfl⟩ : ∃ p c, u = .slice p q.2.2.length c := by
    rcases hu.2 with ⟨rfl, h0⟩ | ⟨g, cap, cur, rfl, -⟩
    · exact ⟨none, 0, by rw [show q.2.2.length = 0 from h0]⟩
    · exact ⟨_, cap, rfl⟩
  obtain ⟨v', w', hr, ho, hg, -, hv⟩ := run_append_own_at (P := Tryz.prog) w B 80 ty 110 i0 (.agg #[.int .i64 0, .int .i64 0, .slice none 0 0]) 3 40 Tryz.underlying80 hi hz0 hz1 hz2 rfl (by decide) v _ _ hown.1 ad 1 1 [.int .i64 (q.1 : Nat), .int .i64 (q.2.1 : Nat), .slice pu q.2.2.length cu]
    rfl (fun j x hx => by
      rcases j with _ | _ | _ | j
      · cases hx; exact c0
      · cases hx; exact c1
      · cases hx; exact c2
      · simp at hx) (fun x hx => by simp at hx; rcases hx with rfl | rfl | rfl <;> rfl) (by unfold maxLen; omega) (by omega) hB
  have ht := Turned.of_grown hg
  refine ⟨v', w', hr, ⟨?_, ?_⟩, hg, hv⟩
  · rw [List.length_append, spV_app]
    exact ho
  · have keep : ∀ y T, OwnR 0 w y T → OwnR 0 w' y T := fun y T hy => ownsRow_off hy ht (fun k hk e => by
      obtain ⟨-, cur, hc⟩ := ownsRow_block hy k hk
      obtain ⟨-, cur', hc'⟩ := ownsRow_block hown.1 k e
      rw [hc] at hc'
      injection hc' with hc'
      injection hc' with _ hc' _
      exact absurd hc' (by decide))
    intro x hx
    rcases List.mem_append.1 hx with hx | hx
    · exact ⟨keep _ _ (hown.2 x hx).1, (hown.2 x hx).2⟩
    · obtain rfl := List.mem_singleton.1 hx
      exact ⟨keep _ _ hu, h8⟩
/-- The same at the operation. -/
theorem wpList_appSp {ops : Array Oper} {rest : List Oper} {o : Oper} {a : Act} {w : World} {Q : Exit → Act → World → Prop} (hgd : o.guard = none) (s x : Operand)
    (ho : o.op = .call { callee := .builtin .append, args := #[s, x], argTypes := #[80, 80] })
    (B : Nat) (v : Value) (R : List (Sp × Value)) (q : Sp) (u : Value) (ad : Addr) (hs : a.eval s = v) (hx : a.eval x = .slice (some ad) 1 1) (hown : OwnSp B w v R) (hu : OwnR 0 w u q.2.2) (h8 : q.2.2.length ≤ 8) (hR : R.length ≤ 1000000) (hB : B ≤ w.heap.size)
    (c0 : w.cell? (ad.add 0) = some (.int .i64 (q.1 : Nat))) (c1 : w.cell? (ad.add 1) = some (.int .i64 (q.2.1 : Nat))) (c2 : w.cell? (ad.add 2) = some u)
    (h : ∀ v' w', OwnSp B w' v' (R ++ [(q, u)]) → w.grownBy w' v.ownBlock → (v'.ownBlock = v.ownBlock ∨ v'.ownBlock = some w.heap.size) → wpList Tryz.prog ops Q rest (a.put o.dst v') w') : wpList Tryz.prog ops Q (o :: rest) a w := by
  refine wpList_plain hgd fun K hK => ?_
  obtain ⟨v', w', hr, h2, h3, h4⟩ := run_appSp w B o.type v R q u ad hown hu h8 hR hB c0 c1 c2
  unfold Oper.wp execOp
  simp only [ho, resolve, invoke, builtin, Sem.run_bind, Sem.run_pure, Result.andThen_ok, List.map_toArray, List.map_cons, List.map_nil, hs, hx, hr]
  exact hK _ _ (h v' w' h2 h3 h4)
end
end Go.Proofs.YtdjhfcopnhcljaaGreatDoor

/-
  Words for tuples that a call makes itself: rows of values of its own; an append of values.
-/
import Derived.Test.YtcfnpbmkcdmafaaTupB
import Derived.Maps.AppendAt
import Derived.Deep.AppendLies
import Derived.OwnWalk
import Derived.Laws.OwnMore
namespace Go.Proofs.Ytcfnpbmkcdmafaa
open Go Go.RowKit

theorem Try.infoV : (Try.prog.info? 102).map (fun i => (i.zero, i.size, i.bytes)) = some (some (.agg #[.int .i64 0, .int .i64 0, .string ⟨#[]⟩]), 3, 32) := by kernel_rfl
/-- The cells of a row of values. -/
def rowV : List V3 → List Value
  | [] => []
  | x :: r => .int .i64 x.k :: .int .i64 x.n :: .string x.s :: rowV r
theorem rowV_len (T : List V3) : (rowV T).length = T.length * 3 := by
  induction T with
  | nil => rfl
  | cons x r ih => simp only [rowV, List.length_cons, ih]; omega
theorem rowV_append (T X : List V3) : rowV (T ++ X) = rowV T ++ rowV X := by
  induction T with
  | nil => rfl
  | cons x r ih => simp only [rowV, List.cons_append, ih]
theorem rowV_one (T : List V3) : ∀ u ∈ rowV T, u.oneCell' = true := by
  induction T with
  | nil => intro u hu; cases hu
  | cons x r ih =>
    intro u hu
    simp only [rowV, List.mem_cons] at hu
    rcases hu with rfl | rfl | rfl | hu
    · rfl
    · rfl
    · rfl
    · exact ih u hu
theorem rowV_at : ∀ (T : List V3) (j : Nat) (hj : j < T.length), (rowV T)[j * 3]? = some (.int .i64 T[j].k) ∧ (rowV T)[j * 3 + 1]? = some (.int .i64 T[j].n) ∧ (rowV T)[j * 3 + 2]? = some (.string T[j].s)
  | [], j, hj => by simp at hj
  | x :: r, 0, _ => ⟨rfl, rfl, rfl⟩
  | x :: r, j + 1, hj => by
    have h := rowV_at r j (by simpa using hj)
    have e : (j + 1) * 3 = j * 3 + 1 + 1 + 1 := by omega
    simp only [e, rowV, List.getElem?_cons_succ, List.getElem_cons_succ]
    exact h
/-- The cells that a row of values reads, one by one. -/
theorem cells_row {W : World} {b : Nat} : ∀ (T : List V3) (off : Nat), CellsAt W b off T → ∀ j u, (rowV T)[j]? = some u → W.cell? ⟨b, off + j, none⟩ = some u
  | [], _, _ => fun j u hu => by simp [rowV] at hu
  | x :: r, off, h => fun j u hu => by
    have h0 := h 0 (by simp)
    simp only [Nat.zero_mul, Nat.add_zero, List.getElem_cons_zero] at h0
    rcases j with _ | _ | _ | j
    · simp [rowV] at hu; rw [← hu]; exact h0.1
    · simp [rowV] at hu; rw [← hu]; exact h0.2.1
    · simp [rowV] at hu; rw [← hu]; exact h0.2.2
    · have hr : CellsAt W b (off + 3) r := fun i hi => by
        have h1 := h (i + 1) (by simpa using hi)
        rw [show off + (i + 1) * 3 = off + 3 + i * 3 by omega] at h1
        exact h1
      have := cells_row r (off + 3) hr j u (by simpa [rowV] using hu)
      rw [show off + (j + 1 + 1 + 1) = off + 3 + j by omega]
      exact this

/-- A slice value that the call owns holds a row of values. -/
def OwnR (B : Nat) (w : World) (v : Value) (T : List V3) : Prop := w.ownsRow B 102 3 v T.length (rowV T)
theorem OwnR.nil (B : Nat) (w : World) : OwnR B w (.slice none 0 0) [] := World.ownsRow_nil w B _ 3
theorem OwnR.empty (B : Nat) (w : World) (hB : B ≤ w.heap.size) : OwnR B (w.alloc (.cells #[] 102)) (.slice (some ⟨w.heap.size, 0, none⟩) 0 0) [] := World.ownsRow_lit w #[] 0 hB (by decide) rfl
theorem OwnR.alloc {B : Nat} {w : World} {v : Value} {T : List V3} (h : OwnR B w v T) (o : Obj) : OwnR B (w.alloc o) v T := World.ownsRow.alloc h o
theorem OwnR.below {B : Nat} {w w' : World} {v : Value} {T : List V3} (h : OwnR B w v T) (hb : Below w.heap.size w w') : OwnR B w' v T := by
  refine ⟨h.1, ?_⟩
  rcases h.2 with hn | ⟨g, cap, cur, rfl, hB, hg, rest⟩
  · exact .inl hn
  · exact .inr ⟨g, cap, cur, rfl, hB, (hb.block g (Array.getElem?_eq_some_iff.1 hg).1).trans hg, rest⟩
theorem OwnR.in_ {B : Nat} {w : World} {v : Value} {T : List V3} (h : OwnR B w v T) (hl : T.length ≤ 1000000) : TupIn w.heap.size w v T := by
  rcases Nat.eq_zero_or_pos T.length with h0 | h0
  · obtain rfl := List.eq_nil_of_length_eq_zero h0
    rcases h.2 with ⟨rfl, -⟩ | ⟨g, cap, cur, rfl, -⟩
    · exact ⟨none, 0, rfl, by simp, .inl rfl⟩
    · exact ⟨_, cap, rfl, by simp, .inl rfl⟩
  · obtain ⟨g, cap, rfl, -, hg⟩ := World.ownsRow.form h h0
    have at_ : ∀ j u, (rowV T)[j]? = some u → w.cell? ⟨g, 0 + j, none⟩ = some u := fun j u hu => by
      have hc := World.ownsRow.cells h (g := g) rfl j u hu
      have hadd : (⟨g, 0, none⟩ : Addr).add j = ⟨g, 0 + j, none⟩ := by unfold Addr.add; split <;> simp_all
      rw [hadd] at hc
      exact hc
    refine ⟨_, cap, rfl, hl, .inr ⟨g, 0, rfl, hg, fun j hj => ?_⟩⟩
    obtain ⟨h1, h2, h3⟩ := rowV_at T j hj
    exact ⟨at_ _ _ h1, at_ _ _ h2, at_ _ _ h3⟩
/-- The literal of one value, laid in a new block. -/
theorem lit_in (w : World) (x : V3) : TupIn (w.heap.size + 1) (w.alloc (.cells #[.int .i64 x.k, .int .i64 x.n, .string x.s] 102)) (.slice (some ⟨w.heap.size, 0, none⟩) 1 1) [x] := by
  refine ⟨_, 1, rfl, by simp, .inr ⟨w.heap.size, 0, rfl, by omega, fun j hj => ?_⟩⟩
  obtain rfl : j = 0 := by simpa using hj
  refine ⟨?_, ?_, ?_⟩ <;> (rw [cell_of_row _ w.heap.size _ _ _ (0, 0) (heap_alloc_new w _)]; rfl)

theorem run_append_nilR (w : World) (B : Nat) (ty : TypeId) (v : Value) (T : List V3) (hown : OwnR B w v T) (c : Nat) : (Builtin.append_ #[66, 66] ty #[v, .slice none 0 c]).run Try.prog w = .ok v w := by
  obtain ⟨i0, hi, -, -, -⟩ := info_parts Try.infoV
  rcases hown.2 with ⟨rfl, -⟩ | ⟨g, cap, cur, rfl, -, -, hnc, -⟩
  · simp [Builtin.append_, run_underlying Try.underlying66, sizeOf, typeInfo, hi, Builtin.lenOf, Builtin.firstCells]
  · simp [Builtin.append_, run_underlying Try.underlying66, sizeOf, typeInfo, hi, Builtin.lenOf, Builtin.firstCells, hnc, storeCells]
/-- An append of values onto a row of the call's own. -/
theorem run_appT (w : World) (B n₀ : Nat) (ty : TypeId) (v vx : Value) (T X : List V3) (hown : OwnR B w v T) (hin : TupIn n₀ w vx X) (hT : T.length ≤ 1000000) (hB : B ≤ w.heap.size) :
    ∃ v' w', (Builtin.append_ #[66, 66] ty #[v, vx]).run Try.prog w = .ok v' w' ∧ OwnR B w' v' (T ++ X) ∧ w.grownBy w' v.ownBlock := by
  obtain ⟨i0, hi, hz0, hz1, hz2⟩ := info_parts Try.infoV
  obtain ⟨p, c, rfl, hX, hc⟩ := hin
  have nothing : X = [] → p = none → ∃ v' w', (Builtin.append_ #[66, 66] ty #[v, .slice p X.length c]).run Try.prog w = .ok v' w' ∧ OwnR B w' v' (T ++ X) ∧ w.grownBy w' v.ownBlock := by
    rintro rfl rfl
    exact ⟨v, w, run_append_nilR w B ty v T hown c, by rw [List.append_nil]; exact hown, World.grownBy.refl w _⟩
  have some_ : ∀ ad, p = some ad → (∀ j u, (rowV X)[j]? = some u → w.cell? (ad.add j) = some u) → ∃ v' w', (Builtin.append_ #[66, 66] ty #[v, .slice p X.length c]).run Try.prog w = .ok v' w' ∧ OwnR B w' v' (T ++ X) ∧ w.grownBy w' v.ownBlock := by
    rintro ad rfl hcell
    obtain ⟨v', w', hr, ho, hg, -, -⟩ := run_append_own_at (P := Try.prog) w B 66 ty 102 i0 (.agg #[.int .i64 0, .int .i64 0, .string ⟨#[]⟩]) 3 32 Try.underlying66 hi hz0 hz1 hz2 rfl (by decide) v _ _ hown ad X.length c (rowV X)
      (rowV_len X) hcell (rowV_one X) (by unfold maxLen; omega) (by omega) hB
    refine ⟨v', w', hr, ?_, hg⟩
    unfold OwnR
    rw [List.length_append, rowV_append]
    exact ho
  rcases hc with rfl | ⟨b, off, rfl, -, hc⟩
  · rcases p with _ | ad
    · exact nothing rfl rfl
    · exact some_ ad rfl fun j u hu => by simp [rowV] at hu
  · exact some_ _ rfl fun j u hu => by
      have hadd : (⟨b, off, none⟩ : Addr).add j = ⟨b, off + j, none⟩ := by unfold Addr.add; split <;> simp_all
      rw [hadd]
      exact cells_row X off hc j u hu
/-- The same at the operation. -/
theorem wpList_appT {ops : Array Oper} {rest : List Oper} {o : Oper} {a : Act} {w : World} {Q : Exit → Act → World → Prop} (hgd : o.guard = none) (s x : Operand)
    (ho : o.op = .call { callee := .builtin .append, args := #[s, x], argTypes := #[66, 66] })
    (B n₀ : Nat) (w0 : World) (v vx : Value) (T X : List V3) (hs : a.eval s = v) (hx : a.eval x = vx) (hown : OwnR B w v T) (hin : TupIn n₀ w vx X) (hlen : T.length ≤ 1000000) (hb : Below B w0 w) (hB : B ≤ w0.heap.size)
    (h : ∀ v' w', OwnR B w' v' (T ++ X) → Below B w0 w' → wpList Try.prog ops Q rest (a.put o.dst v') w') : wpList Try.prog ops Q (o :: rest) a w := by
  refine wpList_plain hgd fun K hK => ?_
  have hBw : B ≤ w.heap.size := Nat.le_trans hB hb.size
  obtain ⟨v', w', hr, h2, h3⟩ := run_appT w B n₀ o.type v vx T X hown hin hlen hBw
  unfold Oper.wp execOp
  simp only [ho, resolve, invoke, builtin, Sem.run_bind, Sem.run_pure, Result.andThen_ok, List.map_toArray, List.map_cons, List.map_nil, hs, hx, hr]
  exact hK _ _ (h v' w' h2 (hb.grown h3 hBw fun k hk => (World.ownsRow.lt hown k hk).1))
end Go.Proofs.Ytcfnpbmkcdmafaa

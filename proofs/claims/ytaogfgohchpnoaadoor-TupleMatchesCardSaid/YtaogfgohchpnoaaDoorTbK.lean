/-
  Words for rows of bindings and of terms that a call makes itself; an append of one.
-/
import Derived.Test.YtaogfgohchpnoaaDoorTbM
namespace Go.Proofs.YtaogfgohchpnoaaDoor
open Go Go.RowKit

theorem Tryd.infoK : (Tryd.prog.info? 72).map (fun i => (i.zero, i.size, i.bytes)) = some (some (.agg #[.string ⟨#[]⟩, .int .i64 0, .int .i64 0, .string ⟨#[]⟩]), 4, 48) := by kernel_rfl
def rowK : List Bd → List Value
  | [] => []
  | x :: r => .string x.nm :: .int .i64 x.v.k :: .int .i64 x.v.n :: .string x.v.s :: rowK r
theorem rowK_len (T : List Bd) : (rowK T).length = T.length * 4 := by
  induction T with
  | nil => rfl
  | cons x r ih => simp only [rowK, List.length_cons, ih]; omega
theorem rowK_append (T X : List Bd) : rowK (T ++ X) = rowK T ++ rowK X := by
  induction T with
  | nil => rfl
  | cons x r ih => simp only [rowK, List.cons_append, ih]
theorem rowK_one (T : List Bd) : ∀ u ∈ rowK T, u.oneCell' = true := by
  induction T with
  | nil => intro u hu; cases hu
  | cons x r ih =>
    intro u hu
    simp only [rowK, List.mem_cons] at hu
    rcases hu with rfl | rfl | rfl | rfl | hu
    · rfl
    · rfl
    · rfl
    · rfl
    · exact ih u hu
theorem rowK_at : ∀ (T : List Bd) (j : Nat) (hj : j < T.length), (rowK T)[j * 4]? = some (.string T[j].nm) ∧ (rowK T)[j * 4 + 1]? = some (.int .i64 T[j].v.k) ∧ (rowK T)[j * 4 + 2]? = some (.int .i64 T[j].v.n) ∧ (rowK T)[j * 4 + 3]? = some (.string T[j].v.s)
  | [], j, hj => by simp at hj
  | x :: r, 0, _ => ⟨rfl, rfl, rfl, rfl⟩
  | x :: r, j + 1, hj => by
    have h := rowK_at r j (by simpa using hj)
    have e : (j + 1) * 4 = j * 4 + 1 + 1 + 1 + 1 := by omega
    simp only [e, rowK, List.getElem?_cons_succ, List.getElem_cons_succ]
    exact h
/-- The cells from a place on hold such a row. -/
def AtK (W : World) (b off : Nat) (T : List Bd) : Prop :=
  ∀ j (h : j < T.length), W.cell? ⟨b, off + j * 4, none⟩ = some (.string T[j].nm) ∧ W.cell? ⟨b, off + j * 4 + 1, none⟩ = some (.int .i64 T[j].v.k) ∧ W.cell? ⟨b, off + j * 4 + 2, none⟩ = some (.int .i64 T[j].v.n) ∧ W.cell? ⟨b, off + j * 4 + 3, none⟩ = some (.string T[j].v.s)
theorem AtK.below {n₀ : Nat} {W W' : World} {b off : Nat} {T : List Bd} (h : AtK W b off T) (hb : Below n₀ W W') (hl : b < n₀) : AtK W' b off T := fun j hj => by
  obtain ⟨h0, h1, h2, h3⟩ := h j hj
  exact ⟨(hb.cell hl).trans h0, (hb.cell hl).trans h1, (hb.cell hl).trans h2, (hb.cell hl).trans h3⟩
/-- A slice value that the call owns holds such a row. -/
def OwnK (B : Nat) (w : World) (v : Value) (T : List Bd) : Prop := w.ownsRow B 72 4 v T.length (rowK T)
theorem OwnK.nil (B : Nat) (w : World) : OwnK B w (.slice none 0 0) [] := World.ownsRow_nil w B _ 4
theorem OwnK.alloc {B : Nat} {w : World} {v : Value} {T : List Bd} (h : OwnK B w v T) (o : Obj) : OwnK B (w.alloc o) v T := World.ownsRow.alloc h o
theorem OwnK.below {B : Nat} {w w' : World} {v : Value} {T : List Bd} (h : OwnK B w v T) (hb : Below w.heap.size w w') : OwnK B w' v T := by
  refine ⟨h.1, ?_⟩
  rcases h.2 with hn | ⟨g, cap, cur, rfl, hB, hg, rest⟩
  · exact .inl hn
  · exact .inr ⟨g, cap, cur, rfl, hB, (hb.block g (Array.getElem?_eq_some_iff.1 hg).1).trans hg, rest⟩
theorem OwnK.mono {B B' : Nat} {w : World} {v : Value} {T : List Bd} (h : OwnK B w v T) (hB : B' ≤ B) : OwnK B' w v T := by
  refine ⟨h.1, ?_⟩
  rcases h.2 with hn | ⟨g, cap, cur, rfl, hB', rest⟩
  · exact .inl hn
  · exact .inr ⟨g, cap, cur, rfl, by omega, rest⟩
theorem OwnK.shape {B : Nat} {w : World} {v : Value} {T : List Bd} (h : OwnK B w v T) : (T = [] ∧ ∃ p cap, v = .slice p T.length cap) ∨ ∃ g cap, v = .slice (some ⟨g, 0, none⟩) T.length cap ∧ g < w.heap.size ∧ T.length ≤ cap ∧ cap ≤ maxLen ∧ AtK w g 0 T := by
  rcases Nat.eq_zero_or_pos T.length with h0 | h0
  · obtain rfl := List.eq_nil_of_length_eq_zero h0
    rcases h.2 with ⟨rfl, -⟩ | ⟨g, cap, cur, rfl, -⟩
    · exact .inl ⟨rfl, none, 0, rfl⟩
    · exact .inl ⟨rfl, _, cap, rfl⟩
  · obtain ⟨g, cap, rfl, -, hg⟩ := World.ownsRow.form h h0
    have at_ : ∀ j u, (rowK T)[j]? = some u → w.cell? ⟨g, 0 + j, none⟩ = some u := fun j u hu => by
      have hc := World.ownsRow.cells h (g := g) rfl j u hu
      have hadd : (⟨g, 0, none⟩ : Addr).add j = ⟨g, 0 + j, none⟩ := by unfold Addr.add; split <;> simp_all
      rw [hadd] at hc
      exact hc
    refine .inr ⟨g, cap, rfl, hg, ?_, ?_, fun j hj => ?_⟩
    · rcases h.2 with ⟨e, -⟩ | ⟨g', cap', cur, e, -, -, hc, -⟩
      · cases e
      · injection e with _ _ e; subst e; exact hc
    · rcases h.2 with ⟨e, -⟩ | ⟨g', cap', cur, e, -, -, -, hm, -⟩
      · cases e
      · injection e with _ _ e; subst e; exact hm
    obtain ⟨h0, h1, h2, h3⟩ := rowK_at T j hj
    exact ⟨at_ _ _ h0, at_ _ _ h1, at_ _ _ h2, at_ _ _ h3⟩
/-- An append of one, laid as a literal, onto a row of the call's own. -/
theorem run_appK (w : World) (B g : Nat) (ty : TypeId) (v : Value) (T : List Bd) (x : Bd) (hown : OwnK B w v T) (hin : w.heap[g]? = some (.cells #[.string x.nm, .int .i64 x.v.k, .int .i64 x.v.n, .string x.v.s] 72 (0, 0))) (hT : T.length ≤ 1000000) (hB : B ≤ w.heap.size) :
    ∃ v' w', (Builtin.append_ #[35, 35] ty #[v, .slice (some ⟨g, 0, none⟩) 1 1]).run Tryd.prog w = .ok v' w' ∧ OwnK B w' v' (T ++ [x]) ∧ w.grownBy w' v.ownBlock := by
  obtain ⟨i0, hi, hz0, hz1, hz2⟩ := info_parts Tryd.infoK
  obtain ⟨v', w', hr, ho, hg, -, -⟩ := run_append_own_at (P := Tryd.prog) w B 35 ty 72 i0 (.agg #[.string ⟨#[]⟩, .int .i64 0, .int .i64 0, .string ⟨#[]⟩]) 4 48 Tryd.underlying35 hi hz0 hz1 hz2 rfl (by decide) v _ _ hown ⟨g, 0, none⟩ 1 1 (rowK [x])
    (rowK_len [x]) (fun j u hu => by
      have hadd : (⟨g, 0, none⟩ : Addr).add j = ⟨g, j, none⟩ := by unfold Addr.add; split <;> simp_all
      rw [hadd, cell_of_row w g j _ _ (0, 0) hin, ← Array.getElem?_toList]
      exact hu) (rowK_one [x]) (by unfold maxLen; omega) (by omega) hB
  refine ⟨v', w', hr, ?_, hg⟩
  unfold OwnK
  rw [List.length_append, rowK_append]
  exact ho
theorem wpList_appK {ops : Array Oper} {rest : List Oper} {o : Oper} {a : Act} {w : World} {Q : Exit → Act → World → Prop} (hgd : o.guard = none) (s x : Operand)
    (ho : o.op = .call { callee := .builtin .append, args := #[s, x], argTypes := #[35, 35] })
    (B g : Nat) (w0 : World) (v vx : Value) (T : List Bd) (y : Bd) (hs : a.eval s = v) (hx : a.eval x = vx) (hv : vx = .slice (some ⟨g, 0, none⟩) 1 1) (hown : OwnK B w v T) (hin : w.heap[g]? = some (.cells #[.string y.nm, .int .i64 y.v.k, .int .i64 y.v.n, .string y.v.s] 72 (0, 0))) (hlen : T.length ≤ 1000000) (hb : Below B w0 w) (hB : B ≤ w0.heap.size)
    (h : ∀ v' w', OwnK B w' v' (T ++ [y]) → Below B w0 w' → w.grownBy w' v.ownBlock → wpList Tryd.prog ops Q rest (a.put o.dst v') w') : wpList Tryd.prog ops Q (o :: rest) a w := by
  refine wpList_plain hgd fun K hK => ?_
  have hBw : B ≤ w.heap.size := Nat.le_trans hB hb.size
  obtain ⟨v', w', hr, h2, h3⟩ := run_appK w B g o.type v T y hown hin hlen hBw
  rw [hv] at hx
  unfold Oper.wp execOp
  simp only [ho, resolve, invoke, builtin, Sem.run_bind, Sem.run_pure, Result.andThen_ok, List.map_toArray, List.map_cons, List.map_nil, hs, hx, hr]
  exact hK _ _ (h v' w' h2 (hb.grown h3 hBw fun k hk => (World.ownsRow.lt hown k hk).1) h3)
theorem Tryd.infoQ : (Tryd.prog.info? 51).map (fun i => (i.zero, i.size, i.bytes)) = some (some (.agg #[.int .i64 0, .string ⟨#[]⟩, .int .i64 0, .int .i64 0, .string ⟨#[]⟩]), 5, 56) := by kernel_rfl
def rowQ : List Tm → List Value
  | [] => []
  | x :: r => .int .i64 x.k :: .string x.nm :: .int .i64 x.v.k :: .int .i64 x.v.n :: .string x.v.s :: rowQ r
theorem rowQ_len (T : List Tm) : (rowQ T).length = T.length * 5 := by
  induction T with
  | nil => rfl
  | cons x r ih => simp only [rowQ, List.length_cons, ih]; omega
theorem rowQ_append (T X : List Tm) : rowQ (T ++ X) = rowQ T ++ rowQ X := by
  induction T with
  | nil => rfl
  | cons x r ih => simp only [rowQ, List.cons_append, ih]
theorem rowQ_one (T : List Tm) : ∀ u ∈ rowQ T, u.oneCell' = true := by
  induction T with
  | nil => intro u hu; cases hu
  | cons x r ih =>
    intro u hu
    simp only [rowQ, List.mem_cons] at hu
    rcases hu with rfl | rfl | rfl | rfl | rfl | hu
    · rfl
    · rfl
    · rfl
    · rfl
    · rfl
    · exact ih u hu
theorem rowQ_at : ∀ (T : List Tm) (j : Nat) (hj : j < T.length), (rowQ T)[j * 5]? = some (.int .i64 T[j].k) ∧ (rowQ T)[j * 5 + 1]? = some (.string T[j].nm) ∧ (rowQ T)[j * 5 + 2]? = some (.int .i64 T[j].v.k) ∧ (rowQ T)[j * 5 + 3]? = some (.int .i64 T[j].v.n) ∧ (rowQ T)[j * 5 + 4]? = some (.string T[j].v.s)
  | [], j, hj => by simp at hj
  | x :: r, 0, _ => ⟨rfl, rfl, rfl, rfl, rfl⟩
  | x :: r, j + 1, hj => by
    have h := rowQ_at r j (by simpa using hj)
    have e : (j + 1) * 5 = j * 5 + 1 + 1 + 1 + 1 + 1 := by omega
    simp only [e, rowQ, List.getElem?_cons_succ, List.getElem_cons_succ]
    exact h
/-- The cells from a place on hold such a row. -/
def AtQ (W : World) (b off : Nat) (T : List Tm) : Prop :=
  ∀ j (h : j < T.length), W.cell? ⟨b, off + j * 5, none⟩ = some (.int .i64 T[j].k) ∧ W.cell? ⟨b, off + j * 5 + 1, none⟩ = some (.string T[j].nm) ∧ W.cell? ⟨b, off + j * 5 + 2, none⟩ = some (.int .i64 T[j].v.k) ∧ W.cell? ⟨b, off + j * 5 + 3, none⟩ = some (.int .i64 T[j].v.n) ∧ W.cell? ⟨b, off + j * 5 + 4, none⟩ = some (.string T[j].v.s)
theorem AtQ.below {n₀ : Nat} {W W' : World} {b off : Nat} {T : List Tm} (h : AtQ W b off T) (hb : Below n₀ W W') (hl : b < n₀) : AtQ W' b off T := fun j hj => by
  obtain ⟨h0, h1, h2, h3, h4⟩ := h j hj
  exact ⟨(hb.cell hl).trans h0, (hb.cell hl).trans h1, (hb.cell hl).trans h2, (hb.cell hl).trans h3, (hb.cell hl).trans h4⟩
/-- A slice value that the call owns holds such a row. -/
def OwnQ (B : Nat) (w : World) (v : Value) (T : List Tm) : Prop := w.ownsRow B 51 5 v T.length (rowQ T)
theorem OwnQ.nil (B : Nat) (w : World) : OwnQ B w (.slice none 0 0) [] := World.ownsRow_nil w B _ 5
theorem OwnQ.alloc {B : Nat} {w : World} {v : Value} {T : List Tm} (h : OwnQ B w v T) (o : Obj) : OwnQ B (w.alloc o) v T := World.ownsRow.alloc h o
theorem OwnQ.below {B : Nat} {w w' : World} {v : Value} {T : List Tm} (h : OwnQ B w v T) (hb : Below w.heap.size w w') : OwnQ B w' v T := by
  refine ⟨h.1, ?_⟩
  rcases h.2 with hn | ⟨g, cap, cur, rfl, hB, hg, rest⟩
  · exact .inl hn
  · exact .inr ⟨g, cap, cur, rfl, hB, (hb.block g (Array.getElem?_eq_some_iff.1 hg).1).trans hg, rest⟩
theorem OwnQ.mono {B B' : Nat} {w : World} {v : Value} {T : List Tm} (h : OwnQ B w v T) (hB : B' ≤ B) : OwnQ B' w v T := by
  refine ⟨h.1, ?_⟩
  rcases h.2 with hn | ⟨g, cap, cur, rfl, hB', rest⟩
  · exact .inl hn
  · exact .inr ⟨g, cap, cur, rfl, by omega, rest⟩
theorem OwnQ.shape {B : Nat} {w : World} {v : Value} {T : List Tm} (h : OwnQ B w v T) : (T = [] ∧ ∃ p cap, v = .slice p T.length cap) ∨ ∃ g cap, v = .slice (some ⟨g, 0, none⟩) T.length cap ∧ g < w.heap.size ∧ T.length ≤ cap ∧ cap ≤ maxLen ∧ AtQ w g 0 T := by
  rcases Nat.eq_zero_or_pos T.length with h0 | h0
  · obtain rfl := List.eq_nil_of_length_eq_zero h0
    rcases h.2 with ⟨rfl, -⟩ | ⟨g, cap, cur, rfl, -⟩
    · exact .inl ⟨rfl, none, 0, rfl⟩
    · exact .inl ⟨rfl, _, cap, rfl⟩
  · obtain ⟨g, cap, rfl, -, hg⟩ := World.ownsRow.form h h0
    have at_ : ∀ j u, (rowQ T)[j]? = some u → w.cell? ⟨g, 0 + j, none⟩ = some u := fun j u hu => by
      have hc := World.ownsRow.cells h (g := g) rfl j u hu
      have hadd : (⟨g, 0, none⟩ : Addr).add j = ⟨g, 0 + j, none⟩ := by unfold Addr.add; split <;> simp_all
      rw [hadd] at hc
      exact hc
    refine .inr ⟨g, cap, rfl, hg, ?_, ?_, fun j hj => ?_⟩
    · rcases h.2 with ⟨e, -⟩ | ⟨g', cap', cur, e, -, -, hc, -⟩
      · cases e
      · injection e with _ _ e; subst e; exact hc
    · rcases h.2 with ⟨e, -⟩ | ⟨g', cap', cur, e, -, -, -, hm, -⟩
      · cases e
      · injection e with _ _ e; subst e; exact hm
    obtain ⟨h0, h1, h2, h3, h4⟩ := rowQ_at T j hj
    exact ⟨at_ _ _ h0, at_ _ _ h1, at_ _ _ h2, at_ _ _ h3, at_ _ _ h4⟩
/-- An append of one, laid as a literal, onto a row of the call's own. -/
theorem run_appQ (w : World) (B g : Nat) (ty : TypeId) (v : Value) (T : List Tm) (x : Tm) (hown : OwnQ B w v T) (hin : w.heap[g]? = some (.cells #[.int .i64 x.k, .string x.nm, .int .i64 x.v.k, .int .i64 x.v.n, .string x.v.s] 51 (0, 0))) (hT : T.length ≤ 1000000) (hB : B ≤ w.heap.size) :
    ∃ v' w', (Builtin.append_ #[31, 31] ty #[v, .slice (some ⟨g, 0, none⟩) 1 1]).run Tryd.prog w = .ok v' w' ∧ OwnQ B w' v' (T ++ [x]) ∧ w.grownBy w' v.ownBlock := by
  obtain ⟨i0, hi, hz0, hz1, hz2⟩ := info_parts Tryd.infoQ
  obtain ⟨v', w', hr, ho, hg, -, -⟩ := run_append_own_at (P := Tryd.prog) w B 31 ty 51 i0 (.agg #[.int .i64 0, .string ⟨#[]⟩, .int .i64 0, .int .i64 0, .string ⟨#[]⟩]) 5 56 Tryd.underlying31 hi hz0 hz1 hz2 rfl (by decide) v _ _ hown ⟨g, 0, none⟩ 1 1 (rowQ [x])
    (rowQ_len [x]) (fun j u hu => by
      have hadd : (⟨g, 0, none⟩ : Addr).add j = ⟨g, j, none⟩ := by unfold Addr.add; split <;> simp_all
      rw [hadd, cell_of_row w g j _ _ (0, 0) hin, ← Array.getElem?_toList]
      exact hu) (rowQ_one [x]) (by unfold maxLen; omega) (by omega) hB
  refine ⟨v', w', hr, ?_, hg⟩
  unfold OwnQ
  rw [List.length_append, rowQ_append]
  exact ho
theorem wpList_appQ {ops : Array Oper} {rest : List Oper} {o : Oper} {a : Act} {w : World} {Q : Exit → Act → World → Prop} (hgd : o.guard = none) (s x : Operand)
    (ho : o.op = .call { callee := .builtin .append, args := #[s, x], argTypes := #[31, 31] })
    (B g : Nat) (w0 : World) (v vx : Value) (T : List Tm) (y : Tm) (hs : a.eval s = v) (hx : a.eval x = vx) (hv : vx = .slice (some ⟨g, 0, none⟩) 1 1) (hown : OwnQ B w v T) (hin : w.heap[g]? = some (.cells #[.int .i64 y.k, .string y.nm, .int .i64 y.v.k, .int .i64 y.v.n, .string y.v.s] 51 (0, 0))) (hlen : T.length ≤ 1000000) (hb : Below B w0 w) (hB : B ≤ w0.heap.size)
    (h : ∀ v' w', OwnQ B w' v' (T ++ [y]) → Below B w0 w' → w.grownBy w' v.ownBlock → wpList Tryd.prog ops Q rest (a.put o.dst v') w') : wpList Tryd.prog ops Q (o :: rest) a w := by
  refine wpList_plain hgd fun K hK => ?_
  have hBw : B ≤ w.heap.size := Nat.le_trans hB hb.size
  obtain ⟨v', w', hr, h2, h3⟩ := run_appQ w B g o.type v T y hown hin hlen hBw
  rw [hv] at hx
  unfold Oper.wp execOp
  simp only [ho, resolve, invoke, builtin, Sem.run_bind, Sem.run_pure, Result.andThen_ok, List.map_toArray, List.map_cons, List.map_nil, hs, hx, hr]
  exact hK _ _ (h v' w' h2 (hb.grown h3 hBw fun k hk => (World.ownsRow.lt hown k hk).1) h3)
end Go.Proofs.YtaogfgohchpnoaaDoor

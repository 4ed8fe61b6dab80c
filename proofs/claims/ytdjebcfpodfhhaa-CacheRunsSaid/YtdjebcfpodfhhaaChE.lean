/-
  Contract of copies: entries in memory of their own.
-/
import Derived.Test.YtdjebcfpodfhhaaChB
import Derived.Test.YtdjebcfpodfhhaaTupO
namespace Go.Proofs.Ytdjebcfpodfhhaa
open Go Go.RowKit Go.Maps

theorem infoC : (Try.prog.info? 76).map (fun i => (i.zero, i.size, i.bytes)) = some (some (.agg #[.slice none 0 0, .int .i64 0]), 2, 32) := by kernel_rfl
/-- The cells of a row of entries. -/
def rowQ (Q : List (Value × (List V3 × Int))) : List Value := Q.flatMap fun q => [q.1, .int .i64 q.2.2]
theorem rowQ_len (Q : List (Value × (List V3 × Int))) : (rowQ Q).length = Q.length * 2 := by
  induction Q with
  | nil => rfl
  | cons q Q ih => simp only [rowQ, List.flatMap_cons, List.length_append, List.length_cons, List.length_nil] at ih ⊢; omega
theorem rowQ_cons (q : Value × (List V3 × Int)) (Q : List (Value × (List V3 × Int))) : rowQ (q :: Q) = q.1 :: .int .i64 q.2.2 :: rowQ Q := rfl
theorem rowQ_at : ∀ (Q : List (Value × (List V3 × Int))) (j : Nat) (q : Value × (List V3 × Int)), Q[j]? = some q → (rowQ Q)[j * 2]? = some q.1 ∧ (rowQ Q)[j * 2 + 1]? = some (.int .i64 q.2.2)
  | [], j, q, h => by simp at h
  | x :: r, 0, q, h => by
    simp at h
    subst h
    exact ⟨rfl, rfl⟩
  | x :: r, j + 1, q, h => by
    have := rowQ_at r j q (by simpa using h)
    rw [rowQ_cons, show (j + 1) * 2 = j * 2 + 1 + 1 by omega]
    exact this
theorem rowQ_cell {W : World} {b : Nat} : ∀ (Q : List (Value × (List V3 × Int))) (off : Nat), CellsQ W b off Q → ∀ j u, (rowQ Q)[j]? = some u → W.cell? ⟨b, off + j, none⟩ = some u
  | [], _, _ => fun j u hu => by simp [rowQ] at hu
  | q :: r, off, h => fun j u hu => by
    have h0 := h 0 q rfl
    simp only [Nat.zero_mul, Nat.add_zero] at h0
    rw [rowQ_cons] at hu
    rcases j with _ | _ | j
    · simp at hu; rw [← hu]; exact h0.1
    · simp at hu; rw [← hu]; exact h0.2
    · have hr : CellsQ W b (off + 2) r := fun i q hi => by
        have h1 := h (i + 1) q (by simpa using hi)
        rw [show off + (i + 1) * 2 = off + 2 + i * 2 by omega] at h1
        exact h1
      have := rowQ_cell r (off + 2) hr j u (by simpa using hu)
      rw [show off + (j + 1 + 1) = off + 2 + j by omega]
      exact this
theorem addr_add (b off j : Nat) : (⟨b, off, none⟩ : Addr).add j = ⟨b, off + j, none⟩ := by unfold Addr.add; split <;> simp_all
theorem TupS.slice {S : Nat → Prop} {W : World} {v : Value} {T : List V3} (h : TupS S W v T) : ∃ p c, v = .slice p T.length c := by
  obtain ⟨p, c, rfl, -⟩ := h
  exact ⟨p, c, rfl⟩
/-- A tuple copied into new memory. -/
theorem run_copyT (w : World) (S : Nat → Prop) (ty : TypeId) (vx : Value) (X : List V3) (hin : TupS S w vx X) :
    ∃ v' w', (Builtin.append_ #[74, 74] ty #[.slice none 0 0, vx]).run Try.prog w = .ok v' w' ∧ TupS (fun k => w.heap.size ≤ k) w' v' X ∧ Below w.heap.size w w' := by
  obtain ⟨i0, hi, hz0, hz1, hz2⟩ := info_parts Try.infoV
  obtain ⟨p, c, rfl, hX, hc⟩ := hin
  have fin : ∀ v' w', w'.ownsRow w.heap.size 87 3 v' X.length (rowV X) → w.grownBy w' none → TupS (fun k => w.heap.size ≤ k) w' v' X ∧ Below w.heap.size w w' := fun v' w' ho hg => by
    refine ⟨?_, (Below.refl _ _).grown hg (Nat.le_refl _) (fun k e => by cases e)⟩
    rcases Nat.eq_zero_or_pos X.length with h0 | h0
    · obtain rfl := List.eq_nil_of_length_eq_zero h0
      rcases ho.2 with ⟨rfl, -⟩ | ⟨g, cap, cur, rfl, -⟩
      · exact ⟨none, 0, rfl, by simp, .inl rfl⟩
      · exact ⟨_, cap, rfl, by simp, .inl rfl⟩
    · obtain ⟨g, cap, rfl, hB, hg'⟩ := World.ownsRow.form ho h0
      have at_ : ∀ j u, (rowV X)[j]? = some u → w'.cell? ⟨g, 0 + j, none⟩ = some u := fun j u hu => by
        have hc := World.ownsRow.cells ho (g := g) rfl j u hu
        rw [addr_add] at hc
        exact hc
      refine ⟨_, cap, rfl, hX, .inr ⟨g, 0, rfl, hB, fun j hj => ?_⟩⟩
      obtain ⟨h1, h2, h3⟩ := rowV_at X j hj
      exact ⟨at_ _ _ h1, at_ _ _ h2, at_ _ _ h3⟩
  have some_ : ∀ ad, p = some ad → (∀ j u, (rowV X)[j]? = some u → w.cell? (ad.add j) = some u) → ∃ v' w', (Builtin.append_ #[74, 74] ty #[.slice none 0 0, .slice p X.length c]).run Try.prog w = .ok v' w' ∧ TupS (fun k => w.heap.size ≤ k) w' v' X ∧ Below w.heap.size w w' := by
    rintro ad rfl hcell
    obtain ⟨v', w', hr, ho, hg, -, -⟩ := run_append_own_at (P := Try.prog) w w.heap.size 74 ty 87 i0 (.agg #[.int .i64 0, .int .i64 0, .string ⟨#[]⟩]) 3 32 Try.underlying74 hi hz0 hz1 hz2 rfl (by decide) (.slice none 0 0) 0 [] (World.ownsRow_nil _ _ _ _) ad X.length c (rowV X)
      (rowV_len X) hcell (rowV_one X) (by unfold maxLen; omega) (by omega) (Nat.le_refl _)
    rw [Nat.zero_add, List.nil_append] at ho
    exact ⟨v', w', hr, fin v' w' ho hg⟩
  rcases hc with rfl | ⟨b, off, rfl, -, hc⟩
  · rcases p with _ | ad
    · exact ⟨.slice none 0 0, w, run_append_nilR w w.heap.size ty (.slice none 0 0) [] (World.ownsRow_nil _ _ _ _) c, fin _ _ (World.ownsRow_nil _ _ _ _) (World.grownBy.refl w _)⟩
    · exact some_ ad rfl fun j u hu => by simp [rowV] at hu
  · exact some_ _ rfl fun j u hu => by
      rw [addr_add]
      exact cells_row X off hc j u hu
theorem wpList_copyT {ops : Array Oper} {rest : List Oper} {o : Oper} {a : Act} {w : World} {Q : Exit → Act → World → Prop} (hgd : o.guard = none) (s x : Operand)
    (ho : o.op = .call { callee := .builtin .append, args := #[s, x], argTypes := #[74, 74] })
    (S : Nat → Prop) (vx : Value) (X : List V3) (hs : a.eval s = .slice none 0 0) (hx : a.eval x = vx) (hin : TupS S w vx X)
    (h : ∀ v' w', TupS (fun k => w.heap.size ≤ k) w' v' X → Below w.heap.size w w' → wpList Try.prog ops Q rest (a.put o.dst v') w') : wpList Try.prog ops Q (o :: rest) a w := by
  refine wpList_plain hgd fun K hK => ?_
  obtain ⟨v', w', hr, h2, h3⟩ := run_copyT w S o.type vx X hin
  unfold Oper.wp execOp
  simp only [ho, resolve, invoke, builtin, Sem.run_bind, Sem.run_pure, Result.andThen_ok, List.map_toArray, List.map_cons, List.map_nil, hs, hx, hr]
  exact hK _ _ (h v' w' h2 h3)
/-- A row of entries in a new block: its cells are there and may be written. -/
structure RowQ (w : World) (n0 : Nat) (v : Value) (Q : List (Value × (List V3 × Int))) : Prop where
  form : (Q = [] ∧ v = .slice none 0 0) ∨ ∃ g cap m, v = .slice (some ⟨g, 0, none⟩) Q.length cap ∧ n0 ≤ g ∧ Bk w g 76 m ∧ Q.length * 2 ≤ m ∧ CellsQ w g 0 Q
theorem RowQ.slice {w : World} {n0 : Nat} {v : Value} {Q : List (Value × (List V3 × Int))} (h : RowQ w n0 v Q) : ∃ p cap, v = .slice p Q.length cap := by
  rcases h.form with ⟨rfl, rfl⟩ | ⟨g, cap, m, rfl, -⟩
  · exact ⟨_, _, rfl⟩
  · exact ⟨_, _, rfl⟩
theorem rowQ_one {Q : List (Value × (List V3 × Int))} {S : Nat → Prop} {W : World} (h : ∀ q ∈ Q, TupS S W q.1 q.2.1) : ∀ u ∈ rowQ Q, u.oneCell' = true := by
  intro u hu
  simp only [rowQ, List.mem_flatMap] at hu
  obtain ⟨q, hq, hu⟩ := hu
  obtain ⟨p, c, e, -⟩ := h q hq
  simp only [List.mem_cons, List.not_mem_nil, or_false] at hu
  rcases hu with rfl | rfl
  · rw [e]; rfl
  · rfl
theorem run_append_nilC (w : World) (ty : TypeId) (c : Nat) : (Builtin.append_ #[34, 34] ty #[.slice none 0 0, .slice none 0 c]).run Try.prog w = .ok (.slice none 0 0) w := by
  obtain ⟨i0, hi, -, -, -⟩ := info_parts infoC
  simp [Builtin.append_, run_underlying Try.underlying34, sizeOf, typeInfo, hi, Builtin.lenOf, Builtin.firstCells]
theorem run_copyC (w : World) (S : Nat → Prop) (ty : TypeId) (p : Option Addr) (c : Nat) (Q : List (Value × (List V3 × Int))) (hl : Q.length ≤ 100) (ht : ∀ q ∈ Q, TupS S w q.1 q.2.1) (hc : Q = [] ∨ ∃ b off, p = some ⟨b, off, none⟩ ∧ S b ∧ CellsQ w b off Q) :
    ∃ v' w', (Builtin.append_ #[34, 34] ty #[.slice none 0 0, .slice p Q.length c]).run Try.prog w = .ok v' w' ∧ RowQ w' w.heap.size v' Q ∧ Below w.heap.size w w' := by
  obtain ⟨i0, hi, hz0, hz1, hz2⟩ := info_parts infoC
  have some_ : ∀ ad, p = some ad → (∀ j u, (rowQ Q)[j]? = some u → w.cell? (ad.add j) = some u) → ∃ v' w', (Builtin.append_ #[34, 34] ty #[.slice none 0 0, .slice p Q.length c]).run Try.prog w = .ok v' w' ∧ RowQ w' w.heap.size v' Q ∧ Below w.heap.size w w' := by
    rintro ad rfl hcell
    obtain ⟨v', w', hr, ho, hg, hn, -⟩ := run_append_own_at (P := Try.prog) w w.heap.size 34 ty 76 i0 (.agg #[.slice none 0 0, .int .i64 0]) 2 32 Try.underlying34 hi hz0 hz1 hz2 rfl (by decide) (.slice none 0 0) 0 [] (World.ownsRow_nil _ _ _ _) ad Q.length c (rowQ Q)
      (rowQ_len Q) hcell (rowQ_one ht) (by unfold maxLen; omega) (by omega) (Nat.le_refl _)
    rw [Nat.zero_add, List.nil_append] at ho
    refine ⟨v', w', hr, ⟨?_⟩, (Below.refl _ _).grown hg (Nat.le_refl _) (fun k e => by cases e)⟩
    rcases ho.2 with ⟨rfl, h0⟩ | ⟨g, cap, cur, rfl, hB, hg', h1, h2, h3, h4⟩
    · exact .inl ⟨List.eq_nil_of_length_eq_zero h0, rfl⟩
    · refine .inr ⟨g, cap, cur.size, rfl, hB, ⟨cur, hg', rfl⟩, by omega, fun j q hj => ?_⟩
      obtain ⟨q1, q2⟩ := rowQ_at Q j q hj
      have c1 := World.ownsRow.cells ho (g := g) rfl _ _ q1
      have c2 := World.ownsRow.cells ho (g := g) rfl _ _ q2
      rw [addr_add] at c1 c2
      exact ⟨c1, c2⟩
  rcases hc with rfl | ⟨b, off, rfl, -, hc⟩
  · rcases p with _ | ad
    · exact ⟨.slice none 0 0, w, run_append_nilC w ty c, ⟨.inl ⟨rfl, rfl⟩⟩, Below.refl _ _⟩
    · exact some_ ad rfl fun j u hu => by simp [rowQ] at hu
  · exact some_ _ rfl fun j u hu => by
      rw [addr_add]
      exact rowQ_cell Q off hc j u hu
theorem wpList_copyC {ops : Array Oper} {rest : List Oper} {o : Oper} {a : Act} {w : World} {K : Exit → Act → World → Prop} (hgd : o.guard = none) (s x : Operand)
    (ho : o.op = .call { callee := .builtin .append, args := #[s, x], argTypes := #[34, 34] })
    (S : Nat → Prop) (p : Option Addr) (c : Nat) (Q : List (Value × (List V3 × Int))) (hs : a.eval s = .slice none 0 0) (hx : a.eval x = .slice p Q.length c) (hl : Q.length ≤ 100) (ht : ∀ q ∈ Q, TupS S w q.1 q.2.1) (hc : Q = [] ∨ ∃ b off, p = some ⟨b, off, none⟩ ∧ S b ∧ CellsQ w b off Q)
    (h : ∀ v' w', RowQ w' w.heap.size v' Q → Below w.heap.size w w' → wpList Try.prog ops K rest (a.put o.dst v') w') : wpList Try.prog ops K (o :: rest) a w := by
  refine wpList_plain hgd fun K' hK => ?_
  obtain ⟨v', w', hr, h2, h3⟩ := run_copyC w S o.type p c Q hl ht hc
  unfold Oper.wp execOp
  simp only [ho, resolve, invoke, builtin, Sem.run_bind, Sem.run_pure, Result.andThen_ok, List.map_toArray, List.map_cons, List.map_nil, hs, hx, hr]
  exact hK _ _ (h v' w' h2 h3)
/-- How far the copies have come: the first k rows are tuples of their own. -/
structure CoR (w wr : World) (g m k : Nat) (S : Nat → Prop) (Q L : List (Value × (List V3 × Int))) : Prop where
  same : L.map (·.2) = Q.map (·.2)
  below : Below w.heap.size w wr
  new : w.heap.size ≤ g
  blk : Bk wr g 76 m
  cells : CellsQ wr g 0 L
  done : ∀ j q, L[j]? = some q → j < k → TupS (fun b => g < b) wr q.1 q.2.1
  left : ∀ j q, L[j]? = some q → k ≤ j → TupS S w q.1 q.2.1
def CoS (w wr : World) (p1 : Option Addr) (cap1 k : Nat) (Q : List (Value × (List V3 × Int))) : Prop :=
  Below w.heap.size w wr ∧ Q.length ≤ 100 ∧ ((Q = [] ∧ p1 = none ∧ cap1 = 0) ∨ ∃ g m L, p1 = some ⟨g, 0, none⟩ ∧ Q.length * 2 ≤ m ∧ CoR w wr g m k (fun b => b < w.heap.size) Q L)
theorem coS_start {w w1 : World} {p1 : Option Addr} {cap1 : Nat} {Q : List (Value × (List V3 × Int))} (h : RowQ w1 w.heap.size (.slice p1 Q.length cap1) Q) (hb : Below w.heap.size w w1) (hl : Q.length ≤ 100) (ht : ∀ q ∈ Q, TupS (fun k => k < w.heap.size) w q.1 q.2.1) : CoS w w1 p1 cap1 0 Q := by
  refine ⟨hb, hl, ?_⟩
  rcases h.form with ⟨h, e⟩ | ⟨g, cap, m, e, h1, h2, h3, h4⟩
  · injection e with e1 e2 e3
    exact .inl ⟨h, e1, e3⟩
  · injection e with e1 e2 e3
    exact .inr ⟨g, m, Q, e1, h3, rfl, hb, h1, h2, h4, fun j q _ hj => absurd hj (by omega), fun j q hq _ => ht q (List.mem_of_getElem? hq)⟩
theorem CoS.some {w wr : World} {p1 : Option Addr} {cap1 k : Nat} {Q : List (Value × (List V3 × Int))} (h : CoS w wr p1 cap1 k Q) (hk : k < Q.length) : ∃ g m L, p1 = some ⟨g, 0, none⟩ ∧ Q.length ≤ 100 ∧ Q.length * 2 ≤ m ∧ CoR w wr g m k (fun b => b < w.heap.size) Q L := by
  rcases h.2.2 with ⟨rfl, -⟩ | ⟨g, m, L, h1, h2, h3⟩
  · simp at hk
  · exact ⟨g, m, L, h1, h.2.1, h2, h3⟩
theorem CoR.len {w wr : World} {g m k : Nat} {S : Nat → Prop} {Q L : List (Value × (List V3 × Int))} (h : CoR w wr g m k S Q L) : L.length = Q.length := by
  have := congrArg List.length h.same
  simpa using this
theorem CoR.get {w wr : World} {g m k : Nat} {S : Nat → Prop} {Q L : List (Value × (List V3 × Int))} (h : CoR w wr g m k S Q L) (hk : k < Q.length) : ∃ tv T n, L[k]? = some (tv, T, n) := by
  have : k < L.length := by rw [h.len]; exact hk
  exact ⟨L[k].1, L[k].2.1, L[k].2.2, by rw [List.getElem?_eq_getElem this]⟩
theorem CoR.src {w wr : World} {g m k : Nat} {Q L : List (Value × (List V3 × Int))} {tv : Value} {T : List V3} (h : CoR w wr g m k (fun b => b < w.heap.size) Q L) (ht : TupS (fun b => b < w.heap.size) w tv T) (o : Obj) : TupS (fun b => b < w.heap.size) (wr.alloc o) tv T :=
  ht.same (fun _ h => h) (fun b o' hb => (World.cell?_alloc_lt _ _ _ (Nat.lt_of_lt_of_le hb h.below.size)).trans (h.below.cell (p := ⟨b, o', none⟩) hb))
theorem coS_cell {wr w2 : World} {o : Obj} {g j : Nat} {u : Value} (hb : Below (wr.alloc o).heap.size (wr.alloc o) w2) (hg : g < wr.heap.size) (h : wr.cell? ⟨g, j, none⟩ = some u) : w2.cell? ⟨g, j, none⟩ = some u :=
  (hb.cell (p := ⟨g, j, none⟩) (by simp; omega)).trans ((World.cell?_alloc_lt _ _ _ hg).trans h)
theorem CoR.blk2 {w wr w2 : World} {o : Obj} {g m k : Nat} {S : Nat → Prop} {Q L : List (Value × (List V3 × Int))} (h : CoR w wr g m k S Q L) (hb : Below (wr.alloc o).heap.size (wr.alloc o) w2) : Bk w2 g 76 m :=
  h.blk.of_heap ((hb.block g (by have := h.blk.lt; simp; omega)).trans (Below.heap_alloc _ _ _ h.blk.lt))
theorem coS_free {w wr w2 : World} {o : Obj} {g m k j : Nat} {S : Nat → Prop} {Q L : List (Value × (List V3 × Int))} (h : CoR w wr g m k S Q L) (hb : Below (wr.alloc o).heap.size (wr.alloc o) w2) : w2.frozen? ⟨g, j, none⟩ = false := (h.blk2 hb).free j
theorem CoR.step {w wr w2 : World} {o : Obj} {g m k n : Nat} {S : Nat → Prop} {Q L : List (Value × (List V3 × Int))} {tv v2 : Value} {T : List V3} {N : Int} (h : CoR w wr g m k S Q L) (hL : L[k]? = some (tv, T, N)) (hb : Below (wr.alloc o).heap.size (wr.alloc o) w2)
    (ht : TupS (fun b => (wr.alloc o).heap.size ≤ b) w2 v2 T) (hm : Q.length * 2 ≤ m) (hn : n = k + 1) : CoR w (w2.setCell ⟨g, k * 2, none⟩ v2) g m n S Q (L.set k (v2, T, N)) := by
  subst hn
  have hkl : k < L.length := (List.getElem?_eq_some_iff.1 hL).1
  have hkQ : k < Q.length := by rw [← h.len]; exact hkl
  have lt := h.blk.lt
  have hb2 := h.blk2 hb
  have same2 : ∀ b j, b < wr.heap.size → w2.cell? ⟨b, j, none⟩ = wr.cell? ⟨b, j, none⟩ := fun b j hbl => (hb.cell (p := ⟨b, j, none⟩) (by simp; omega)).trans (World.cell?_alloc_lt _ _ _ hbl)
  have far : ∀ b j, b ≠ g → (w2.setCell ⟨g, k * 2, none⟩ v2).cell? ⟨b, j, none⟩ = w2.cell? ⟨b, j, none⟩ := fun b j hne => World.cell?_setCell_other _ _ _ _ (fun e => by injection e with e; exact hne e.symm)
  refine ⟨?_, ?_, h.new, hb2.setCell _ _ _, fun j q hj => ?_, fun j q hj hk => ?_, fun j q hj hk => ?_⟩
  · rw [← h.same]
    have e0 := (List.getElem?_eq_some_iff.1 hL).2
    rw [List.map_set]
    exact List.ext_getElem (by simp) (fun i h1 h2 => by
      rw [List.getElem_set]
      split
      · rename_i e; subst e; rw [List.getElem_map, e0]
      · rfl)
  · have b1 : Below w.heap.size w w2 := (h.below.alloc h.below.size o).trans (hb.mono (by have := h.below.size; simp; omega))
    exact b1.setCell h.new _
  · rw [Nat.zero_add]
    by_cases e : k = j
    · subst e
      rw [List.getElem?_set_self hkl] at hj
      cases hj
      refine ⟨World.cell?_setCell_same' _ _ _ (hb2.there (by omega)), ?_⟩
      rw [World.cell?_setCell_other _ _ _ _ (fun e => by injection e with _ e; omega), same2 g _ lt]
      have := (h.cells k _ hL).2
      rw [Nat.zero_add] at this
      exact this
    · rw [List.getElem?_set_ne e] at hj
      obtain ⟨q1, q2⟩ := h.cells j q hj
      rw [Nat.zero_add] at q1 q2
      rw [World.cell?_setCell_other _ _ _ _ (fun e' => by injection e' with _ e'; omega), World.cell?_setCell_other _ _ _ _ (fun e' => by injection e' with _ e'; omega), same2 g _ lt, same2 g _ lt]
      exact ⟨q1, q2⟩
  · by_cases e : k = j
    · subst e
      rw [List.getElem?_set_self hkl] at hj
      cases hj
      exact ht.same (fun b hb' => by simp at hb'; omega) (fun b o' hb' => far b o' (by simp at hb'; omega))
    · rw [List.getElem?_set_ne e] at hj
      have t := h.done j q hj (by omega)
      exact t.inside.same (fun b hb' => hb'.1) (fun b o' hb' => (far b o' (by have := hb'.1; omega)).trans (same2 b o' hb'.2))
  · rw [List.getElem?_set_ne (by omega)] at hj
    exact h.left j q hj (by omega)
theorem coS_step {w wr w2 : World} {o : Obj} {g m k cap1 : Nat} {Q L : List (Value × (List V3 × Int))} {tv v2 : Value} {T : List V3} {N : Int} (hl : Q.length ≤ 100) (hm : Q.length * 2 ≤ m) (h : CoR w wr g m k (fun b => b < w.heap.size) Q L) (hL : L[k]? = some (tv, T, N)) (hb : Below (wr.alloc o).heap.size (wr.alloc o) w2)
    (ht : TupS (fun b => (wr.alloc o).heap.size ≤ b) w2 v2 T) : CoS w (w2.setCell ⟨g, k * 2, none⟩ v2) (some ⟨g, 0, none⟩) cap1 (k + 1) Q := by
  have hs := h.step hL hb ht hm rfl
  exact ⟨hs.below, hl, .inr ⟨g, m, _, rfl, hm, hs⟩⟩
theorem coS_end {w wr : World} {p1 : Option Addr} {cap1 : Nat} {Q : List (Value × (List V3 × Int))} {E : List (List V3 × Int)} (h : CoS w wr p1 cap1 Q.length Q) (hE : Q.map (·.2) = E) :
    ∃ v', Ending.returned (.slice p1 Q.length cap1) = .returned v' ∧ EntS (fun k => w.heap.size ≤ k) wr v' E ∧ Below w.heap.size w wr ∧ ∃ Q', Q'.map (·.2) = E ∧ RowQ wr w.heap.size v' Q' := by
  obtain ⟨hb, hl, h⟩ := h
  rcases h with ⟨rfl, rfl, rfl⟩ | ⟨g, m, L, rfl, hm, hR⟩
  · exact ⟨_, rfl, ⟨none, 0, [], hE, rfl, by simp, by simp, .inl rfl⟩, hb, [], hE, ⟨.inl ⟨rfl, rfl⟩⟩⟩
  · have e := hR.len
    refine ⟨_, rfl, ⟨some ⟨g, 0, none⟩, cap1, L, hR.same.trans hE, by rw [e], by omega, fun q hq => ?_, .inr ⟨g, 0, rfl, hR.new, hR.cells⟩⟩, hb, L, hR.same.trans hE, ⟨.inr ⟨g, cap1, m, by rw [e], hR.new, hR.blk, by omega, hR.cells⟩⟩⟩
    obtain ⟨j, hj⟩ := List.mem_iff_getElem?.1 hq
    exact (hR.done j q hj (by have := (List.getElem?_eq_some_iff.1 hj).1; omega)).same (fun b hb => by have := hR.new; omega) (fun _ _ _ => rfl)
set_option maxRecDepth 100000 in
set_option maxHeartbeats 2000000 in
theorem copies_any (w : World) (v : Value) (E : List (List V3 × Int)) (h : EntS (fun k => k < w.heap.size) w v E) :
    Calls Try.prog 33 #[v] w fun e w' => ∃ v', e = .returned v' ∧ EntS (fun k => w.heap.size ≤ k) w' v' E ∧ Below w.heap.size w w' ∧ ∃ Q, Q.map (·.2) = E ∧ RowQ w' w.heap.size v' Q := by
  obtain ⟨p, cap, Q, hQ, rfl, hl, ht, hc⟩ := h
  have HQ := Lib.hid hQ
  have HT := Lib.hid ht
  have HC := Lib.hid hc
  have hl' : (Q.length : Int) ≤ 100 := by omega
  clear hQ ht hc
  go_enter Try.func33, Try.ntmps33
  go_wp2_with (first
    | (at_builtin; refine wpList_copyC rfl _ _ rfl (fun k => k < w.heap.size) p cap Q rfl rfl hl HT.out HC.out ?_; intro v1 w1 hr1 hb1
       have HR1 := Lib.hid hr1
       have HB1 := Lib.hid hb1
       obtain ⟨p1, cap1, rfl⟩ := hr1.slice
       clear hr1 hb1))
  go_loopw [10] (fun i wr => ∃ k : Nat, k ≤ Q.length ∧ i = .int .i64 k ∧ Hid (CoS w wr p1 cap1 k Q)) (fun i _ => Q.length - (intOf i).toNat)
  case atStart => exact ⟨0, Nat.zero_le _, rfl, Lib.hid (coS_start HR1.out HB1.out hl HT.out)⟩
  case round =>
    obtain ⟨k, hk, rfl, hS⟩ := hrel
    have h0 : (0 : Int) ≤ (k : Int) := by omega
    by_cases hlt : k < Q.length
    · have hlt' : (k : Int) < (Q.length : Int) := by omega
      obtain ⟨g, m, L, hp, -, hm, hR⟩ := hS.out.some hlt
      subst hp
      obtain ⟨tv, T, n, hL⟩ := hR.get hlt
      obtain ⟨c0, c1⟩ := hR.cells k _ hL
      simp only [Nat.zero_add] at c0 c1
      have HR := Lib.hid hR
      have HM := Lib.hid hm
      clear hm
      have HL := Lib.hid hL
      have HTt := Lib.hid (hR.left k _ hL (Nat.le_refl _))
      obtain ⟨pt, ct, htv⟩ := (hR.left k _ hL (Nat.le_refl _)).slice
      dsimp only at htv
      subst htv
      have hg : g < wr.heap.size := hR.blk.lt
      clear hR hL
      go_wp2_with (first
        | (at_builtin; refine wpList_copyT rfl _ _ rfl (fun b => b < w.heap.size) _ T rfl rfl (HR.out.src HTt.out (.cells #[.slice pt T.length ct, .int .i64 n] 76)) ?_; intro v2 w2 ht2 hb2
           have HT2 := Lib.hid ht2
           obtain ⟨p2, c2, rfl⟩ := ht2.slice
           have HB2 := Lib.hid hb2
           have c0' : w2.cell? ⟨g, k * 2, none⟩ = some (.slice pt T.length ct) := coS_cell hb2 hg c0
           have f0' : w2.frozen? ⟨g, k * 2, none⟩ = false := coS_free HR.out hb2
           clear ht2 hb2))
      go_roundw
      case rel => exact ⟨k + 1, by omega, by go_num, Lib.hid (coS_step hl HM.out HR.out HL.out HB2.out HT2.out)⟩
      case measure => simp [intOf]; omega
    · obtain rfl : k = Q.length := by omega
      go_wp2_with fail
      go_ret
      exact coS_end hS.out HQ.out
end Go.Proofs.Ytdjebcfpodfhhaa

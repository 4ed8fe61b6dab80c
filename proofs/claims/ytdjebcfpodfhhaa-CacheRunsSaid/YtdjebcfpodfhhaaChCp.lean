/-
  The document's Copy of entries.
-/
import Derived.Test.YtdjebcfpodfhhaaChE
import Derived.Deep.RegionHeld3
import Derived.Deep.AppendLies
import Derived.IntWalk
namespace Go.Proofs.Ytdjebcfpodfhhaa
open Go Go.RowKit Go.Maps

/-- A tuple appended to an empty row of the call's own. -/
theorem run_copyT0 (w : World) (B : Nat) (S : Nat → Prop) (ty : TypeId) (v vx : Value) (X : List V3) (hown : OwnR B w v []) (hin : TupS S w vx X) (hB : B ≤ w.heap.size) :
    ∃ p' c' w', (Builtin.append_ #[74, 74] ty #[v, vx]).run Try.prog w = .ok (.slice p' X.length c') w' ∧ TupS (fun k => B ≤ k) w' (.slice p' X.length c') X ∧ w.grownBy w' v.ownBlock := by
  obtain ⟨i0, hi, hz0, hz1, hz2⟩ := info_parts Try.infoV
  obtain ⟨p, c, rfl, hX, hc⟩ := hin
  have fin : ∀ v' w', w'.ownsRow B 87 3 v' X.length (rowV X) → ∃ p' c', v' = .slice p' X.length c' ∧ TupS (fun k => B ≤ k) w' v' X := fun v' w' ho => by
    rcases Nat.eq_zero_or_pos X.length with h0 | h0
    · obtain rfl := List.eq_nil_of_length_eq_zero h0
      rcases ho.2 with ⟨rfl, -⟩ | ⟨g, cap, cur, rfl, -⟩
      · exact ⟨none, 0, rfl, none, 0, rfl, by simp, .inl rfl⟩
      · exact ⟨_, cap, rfl, _, cap, rfl, by simp, .inl rfl⟩
    · obtain ⟨g, cap, rfl, hB, hg'⟩ := World.ownsRow.form ho h0
      have at_ : ∀ j u, (rowV X)[j]? = some u → w'.cell? ⟨g, 0 + j, none⟩ = some u := fun j u hu => by
        have hc := World.ownsRow.cells ho (g := g) rfl j u hu
        rw [addr_add] at hc
        exact hc
      refine ⟨_, cap, rfl, _, cap, rfl, hX, .inr ⟨g, 0, rfl, hB, fun j hj => ?_⟩⟩
      obtain ⟨h1, h2, h3⟩ := rowV_at X j hj
      exact ⟨at_ _ _ h1, at_ _ _ h2, at_ _ _ h3⟩
  have some_ : ∀ ad, p = some ad → (∀ j u, (rowV X)[j]? = some u → w.cell? (ad.add j) = some u) → ∃ p' c' w', (Builtin.append_ #[74, 74] ty #[v, .slice p X.length c]).run Try.prog w = .ok (.slice p' X.length c') w' ∧ TupS (fun k => B ≤ k) w' (.slice p' X.length c') X ∧ w.grownBy w' v.ownBlock := by
    rintro ad rfl hcell
    obtain ⟨v', w', hr, ho, hg, -, -⟩ := run_append_own_at (P := Try.prog) w B 74 ty 87 i0 (.agg #[.int .i64 0, .int .i64 0, .string ⟨#[]⟩]) 3 32 Try.underlying74 hi hz0 hz1 hz2 rfl (by decide) v 0 [] hown ad X.length c (rowV X)
      (rowV_len X) hcell (rowV_one X) (by unfold maxLen; omega) (by omega) hB
    rw [Nat.zero_add, List.nil_append] at ho
    obtain ⟨p', c', rfl, ht⟩ := fin v' w' ho
    exact ⟨p', c', w', hr, ht, hg⟩
  rcases hc with rfl | ⟨b, off, rfl, -, hc⟩
  · rcases p with _ | ad
    · obtain ⟨p', c', e, ht⟩ := fin v w hown
      have hr := run_append_nilR w B ty v [] hown c
      subst e
      exact ⟨p', c', w, hr, ht, World.grownBy.refl w _⟩
    · exact some_ ad rfl fun j u hu => by simp [rowV] at hu
  · exact some_ _ rfl fun j u hu => by
      rw [addr_add]
      exact cells_row X off hc j u hu
theorem step_copyT {ops : Array Oper} {o : Oper} {a : Act} {w : World} {K : Act → World → Prop} {Q : Exit → Act → World → Prop} {E : Prop} (hgd : o.guard = none) (s x : Operand)
    (ho : o.op = .call { callee := .builtin .append, args := #[s, x], argTypes := #[74, 74] }) (B : Nat) (S : Nat → Prop) (v vx : Value) (X : List V3) (hs : a.eval s = v) (hx : a.eval x = vx) (hown : OwnR B w v []) (hin : TupS S w vx X) (hB : B ≤ w.heap.size)
    (h : ∀ p' c' w', TupS (fun k => B ≤ k) w' (.slice p' X.length c') X → w.grownBy w' v.ownBlock → K (a.put o.dst (.slice p' X.length c')) w') :
    if Region.wanted o (yielded ops a.tmps) = true then Oper.wp Try.prog o a w K Q else E := by
  have hw : Region.wanted o (yielded ops a.tmps) = true := by simp [Region.wanted, hgd]
  rw [if_pos hw]
  obtain ⟨p', c', w', hr, h2, h3⟩ := run_copyT0 w B S o.type v vx X hown hin hB
  unfold Oper.wp execOp
  simp only [ho, resolve, invoke, builtin, Sem.run_bind, Sem.run_pure, Result.andThen_ok, List.map_toArray, List.map_cons, List.map_nil, hs, hx, hr]
  exact h p' c' w' h2 h3
/-- One entry appended to a row of the call's own. -/
theorem step_appQ {ops : Array Oper} {o : Oper} {a : Act} {w : World} {K : Act → World → Prop} {Q : Exit → Act → World → Prop} {E : Prop} (hgd : o.guard = none) (s x : Operand)
    (ho : o.op = .call { callee := .builtin .append, args := #[s, x], argTypes := #[34, 34] }) (B n : Nat) (v : Value) (xs : List Value) (ad : Addr) (pt : Option Addr) (lt ct : Nat) (N : Int) (hs : a.eval s = v) (hx : a.eval x = .slice (some ad) 1 1)
    (hown : w.ownsRow B 76 2 v n xs) (hl : n ≤ 1000) (hB : B ≤ w.heap.size) (hc0 : w.cell? (ad.add 0) = some (.slice pt lt ct)) (hc1 : w.cell? (ad.add 1) = some (.int .i64 N))
    (h : ∀ p' c' w', w'.ownsRow B 76 2 (.slice p' (n + 1) c') (n + 1) (xs ++ [.slice pt lt ct, .int .i64 N]) → w.grownBy w' v.ownBlock → ((Value.slice p' (n + 1) c').ownBlock = v.ownBlock ∨ (Value.slice p' (n + 1) c').ownBlock = some w.heap.size) → K (a.put o.dst (.slice p' (n + 1) c')) w') :
    if Region.wanted o (yielded ops a.tmps) = true then Oper.wp Try.prog o a w K Q else E := by
  have hw : Region.wanted o (yielded ops a.tmps) = true := by simp [Region.wanted, hgd]
  rw [if_pos hw]
  obtain ⟨i0, hi, hz0, hz1, hz2⟩ := info_parts infoC
  obtain ⟨v', w', hr, ho', hg, -, hb⟩ := run_append_own_at (P := Try.prog) w B 34 o.type 76 i0 (.agg #[.slice none 0 0, .int .i64 0]) 2 32 Try.underlying34 hi hz0 hz1 hz2 rfl (by decide) v n xs hown ad 1 1 [.slice pt lt ct, .int .i64 N]
    rfl (fun j u hu => by
      match j, hu with
      | 0, hu => cases hu; exact hc0
      | 1, hu => cases hu; exact hc1) (fun u hu => by
      simp only [List.mem_cons, List.not_mem_nil, or_false] at hu
      rcases hu with rfl | rfl <;> rfl) (by unfold maxLen; omega) (by omega) hB
  obtain ⟨g, cap, e, -⟩ := World.ownsRow.form ho' (by omega)
  subst e
  unfold Oper.wp execOp
  simp only [ho, resolve, invoke, builtin, Sem.run_bind, Sem.run_pure, Result.andThen_ok, List.map_toArray, List.map_cons, List.map_nil, hs, hx, hr]
  exact h _ _ w' ho' hg hb
/-- How far Copy has come. -/
structure CpJ (w wr : World) (v : Value) (k : Nat) (E : List (List V3 × Int)) (D : List (Value × (List V3 × Int))) : Prop where
  eq : D.map (·.2) = E.take k
  row : wr.ownsRow w.heap.size 76 2 v k (rowQ D)
  tup : ∀ q ∈ D, TupS (fun b => w.heap.size ≤ b ∧ v.ownBlock ≠ some b) wr q.1 q.2.1
  below : Below w.heap.size w wr
theorem rowQ_snoc (D : List (Value × (List V3 × Int))) (q : Value × (List V3 × Int)) : rowQ (D ++ [q]) = rowQ D ++ [q.1, .int .i64 q.2.2] := by simp [rowQ]
theorem grown_cell {w w' : World} {row : Option Nat} (h : w.grownBy w' row) {b o : Nat} (hb : b < w.heap.size) (hne : row ≠ some b) : w'.cell? ⟨b, o, none⟩ = w.cell? ⟨b, o, none⟩ :=
  World.cell?_of_block (a := ⟨b, o, none⟩) (h.block b hb (fun e => hne e.symm))
theorem cpJ_end {w wr : World} {v : Value} {E : List (List V3 × Int)} {D : List (Value × (List V3 × Int))} (h : CpJ w wr v E.length E D) (hl : E.length ≤ 100) : EntS (fun k => w.heap.size ≤ k) wr v E ∧ D.map (·.2) = E ∧ RowQ wr w.heap.size v D := by
  have e := h.eq
  rw [List.take_length] at e
  have hD : D.length = E.length := by rw [← e]; simp
  have hr := h.row
  rw [← hD] at hr
  rcases hr.2 with ⟨rfl, h0⟩ | ⟨g, cap, cur, rfl, hB, hg, h1, h2, h3, h4⟩
  · have hD0 := List.eq_nil_of_length_eq_zero h0
    subst hD0
    exact ⟨⟨none, 0, [], e, rfl, by simp, by simp, .inl rfl⟩, e, ⟨.inl ⟨rfl, rfl⟩⟩⟩
  · have hc : CellsQ wr g 0 D := fun j q hj => by
      obtain ⟨q1, q2⟩ := rowQ_at D j q hj
      have c1 := World.ownsRow.cells hr (g := g) rfl _ _ q1
      have c2 := World.ownsRow.cells hr (g := g) rfl _ _ q2
      rw [addr_add] at c1 c2
      exact ⟨c1, c2⟩
    exact ⟨⟨_, cap, D, e, rfl, by omega, fun q hq => (h.tup q hq).same (fun _ hk => hk.1) (fun _ _ _ => rfl), .inr ⟨g, 0, rfl, hB, hc⟩⟩, e, ⟨.inr ⟨g, cap, cur.size, rfl, hB, ⟨cur, hg, rfl⟩, by omega, hc⟩⟩⟩
end Go.Proofs.Ytdjebcfpodfhhaa

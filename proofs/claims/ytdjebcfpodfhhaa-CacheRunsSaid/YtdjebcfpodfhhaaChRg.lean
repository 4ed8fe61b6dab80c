/-
  The document's cache: front.
-/
import Derived.Test.YtdjebcfpodfhhaaChRf
namespace Go.Proofs.Ytdjebcfpodfhhaa
open Go Go.RowKit Go.Maps Go.WideMaps

theorem rowH_snoc (Q : List (Value × Pg)) (x : Value × Pg) : rowH (Q ++ [x]) = rowH Q ++ [.string x.2.1, .int .i64 x.2.2.1, x.1] := by simp [rowH]
/-- An append of one held page to a row of the function's own. -/
theorem wpList_appH1 {ops : Array Oper} {rest : List Oper} {o : Oper} {a : Act} {w : World} {Q : Exit → Act → World → Prop} (hgd : o.guard = none) (s x : Operand)
    (ho : o.op = .call { callee := .builtin .append, args := #[s, x], argTypes := #[44, 44] })
    (B : Nat) (v : Value) (K : List (Value × Pg)) (k : Value × Pg) (ad : Addr) (hs : a.eval s = v) (hx : a.eval x = .slice (some ad) 1 1) (hown : w.ownsRow B 52 3 v K.length (rowH K)) (hl : K.length ≤ 2000) (hB : B ≤ w.heap.size)
    (hc0 : w.cell? (ad.add 0) = some (.string k.2.1)) (hc1 : w.cell? (ad.add 1) = some (.int .i64 k.2.2.1)) (hc2 : w.cell? (ad.add 2) = some k.1) (hsl : ∃ p l c, k.1 = .slice p l c)
    (h : ∀ p' cap' w', w'.ownsRow B 52 3 (.slice p' (K.length + 1) cap') (K ++ [k]).length (rowH (K ++ [k])) → w.grownBy w' v.ownBlock → wpList Try.prog ops Q rest (a.put o.dst (.slice p' (K.length + 1) cap')) w') : wpList Try.prog ops Q (o :: rest) a w := by
  refine wpList_plain hgd fun K' hK => ?_
  obtain ⟨i0, hi, hz0, hz1, hz2⟩ := info_parts infoH
  obtain ⟨sp, sl, sc, hsl⟩ := hsl
  obtain ⟨v', w', hr, hown', hg, -, -⟩ := run_append_own_at (P := Try.prog) w B 44 o.type 52 i0 (.agg #[.string ⟨#[]⟩, .int .i64 0, .slice none 0 0]) 3 48 Try.underlying44 hi hz0 hz1 hz2 rfl (by decide) v _ _ hown ad 1 1 [.string k.2.1, .int .i64 k.2.2.1, k.1]
    rfl (fun j u hu => by
      match j, hu with
      | 0, hu => cases hu; exact hc0
      | 1, hu => cases hu; exact hc1
      | 2, hu => cases hu; exact hc2) (fun u hu => by
      simp only [List.mem_cons, List.not_mem_nil, or_false] at hu
      rcases hu with rfl | rfl | rfl
      · rfl
      · rfl
      · rw [hsl]; rfl) (by unfold maxLen; omega) (by omega) hB
  unfold Oper.wp execOp
  simp only [ho, resolve, invoke, builtin, Sem.run_bind, Sem.run_pure, Result.andThen_ok, List.map_toArray, List.map_cons, List.map_nil, hs, hx, hr]
  have h2 : w'.ownsRow B 52 3 v' (K ++ [k]).length (rowH (K ++ [k])) := by
    rw [List.length_append, rowH_snoc]
    exact hown'
  obtain ⟨p', cap', e⟩ : ∃ p' cap', v' = .slice p' (K.length + 1) cap' := by
    obtain ⟨g, cap, e, -⟩ := World.ownsRow.form h2 (by simp)
    rw [List.length_append, List.length_singleton] at e
    exact ⟨_, _, e⟩
  subst e
  exact hK _ _ (h p' cap' w' h2 hg)
/-- A row of the function's own reads as pages that are held. -/
theorem HeB.own {S : Nat → Prop} {W : World} {B : Nat} {v : Value} {K : List (Value × Pg)} (ho : W.ownsRow B 52 3 v K.length (rowH K)) (hS : ∀ k, B ≤ k → k < W.heap.size → S k) (hE : ∀ q ∈ K, EntS S W q.1 q.2.2.2) : HeB S W v (K.map (·.2)) := by
  rcases Nat.eq_zero_or_pos K.length with h0 | h0
  · obtain rfl := List.eq_nil_of_length_eq_zero h0
    rcases ho.2 with ⟨rfl, -⟩ | ⟨g, cap, cur, rfl, -⟩
    · exact ⟨none, 0, [], rfl, rfl, Nat.le_refl _, hE, .inl rfl⟩
    · exact ⟨_, cap, [], rfl, rfl, Nat.zero_le _, hE, .inl rfl⟩
  · obtain ⟨g, cap, rfl, hlo, hg⟩ := World.ownsRow.form ho h0
    have hcap : K.length ≤ cap := by
      rcases ho.2 with ⟨e, -⟩ | ⟨g', cap', cur, e, -, -, hc, -⟩
      · cases e
      · injection e with e1 e2 e3
        omega
    refine ⟨_, cap, K, rfl, rfl, hcap, hE, .inr ⟨g, 0, rfl, hS g hlo hg, hg, fun j x hj => ?_⟩⟩
    obtain ⟨q1, q2, q3⟩ := rowH_at _ j x hj
    have c1 := World.ownsRow.cells ho (g := g) rfl _ _ q1
    have c2 := World.ownsRow.cells ho (g := g) rfl _ _ q2
    have c3 := World.ownsRow.cells ho (g := g) rfl _ _ q3
    rw [addr_add] at c1 c2 c3
    exact ⟨c1, c2, c3⟩
/-- What a function of the document's cache leaves. -/
def RfE (Y : Nat → Prop) (w : World) (b : Nat) (room h m g : Int) (L : List Pg) (w' : World) : Prop :=
  Upd (fun k _ => k = b) w w' ∧ RfA (fun k => Y k ∨ (w.heap.size ≤ k ∧ k < w'.heap.size)) w' b room h m g L
/-- The new list is stored. -/
theorem RfA.setL {Y : Nat → Prop} {w wr : World} {b : Nat} {room h m g : Int} {L L' : List Pg} (H : RfA Y w b room h m g L) (hb : Below w.heap.size w wr) {v : Value} (hv : HeB (fun k => (Y k ∨ (w.heap.size ≤ k ∧ k < wr.heap.size)) ∧ k ≠ b) wr v L') :
    RfE Y w b room h m g L' (wr.setCell ⟨b, 1, none⟩ v) := by
  have hu : Upd (fun k _ => k = b) w (wr.setCell ⟨b, 1, none⟩ v) := (Upd.of_below hb).setCell b 1 v (fun _ => rfl)
  have hk := (Upd.of_below (C := fun _ _ => False) hb).kind _ _ _ H.kind
  have H1 := H.below hb
  have oth : ∀ o, o ≠ 1 → (wr.setCell ⟨b, 1, none⟩ v).cell? ⟨b, o, none⟩ = wr.cell? ⟨b, o, none⟩ := fun o ho => World.cell?_setCell_other _ _ _ _ (fun e => by injection e with _ e; exact ho e.symm)
  have sz : (wr.setCell ⟨b, 1, none⟩ v).heap.size = wr.heap.size := by simp [World.setCell]
  refine ⟨hu, (oth 0 (by decide)).trans H1.c0, ⟨v, ?_, ?_⟩, (oth 2 (by decide)).trans H1.c2, (oth 3 (by decide)).trans H1.c3, (oth 4 (by decide)).trans H1.c4, hk.setCell b 1 v, .inl H.inb, ?_⟩
  · exact World.cell?_setCell_same' _ _ _ (hk.there (by decide))
  · rw [sz]
    exact hv.same (Nat.le_of_eq sz.symm) (fun _ h => h) (fun x o hx => World.cell?_setCell_other _ _ _ _ (fun e => by injection e with e; exact hx.2 e.symm))
  · rintro k (hk | hk)
    · rw [sz]; exact Nat.lt_of_lt_of_le (H.lt k hk) hb.size
    · exact hk.2
end Go.Proofs.Ytdjebcfpodfhhaa

/-
  Rows of pieces in memory; contract of the document's Scan.
-/
import Derived.Test.YteaeiejkdnbcnaaDoorCrH
namespace Go.Proofs.YteaeiejkdnbcnaaDoor
open Go Go.RowKit

theorem unfE_ok {l : List UInt8} (h : (unfE l).1 = 0) : 13 ≤ (unfE l).2.1 ∧ (unfE l).2.1 ≤ l.length := by
  unfold unfE at h ⊢
  by_cases h1 : l.length < 9
  · rw [if_pos h1] at h; simp at h
  rw [if_neg h1] at h ⊢
  by_cases h2 : openB (l.take 9) = false
  · rw [if_pos h2] at h; simp at h
  rw [if_neg h2] at h ⊢
  by_cases h3 : 1048576 < decN ((l.take 5).drop 1)
  · rw [if_pos h3] at h; simp at h
  rw [if_neg h3] at h ⊢
  by_cases h4 : l.length < 13 + decN ((l.take 5).drop 1)
  · rw [if_pos h4] at h; simp at h
  rw [if_neg h4] at h ⊢
  by_cases h5 : openB ((l.drop 9).take (4 + decN ((l.take 5).drop 1))) = false
  · rw [if_pos h5] at h; simp at h
  rw [if_neg h5]
  show 13 ≤ 13 + _ ∧ 13 + _ ≤ _
  omega
/-- The pieces of the frames with which bytes begin, and how many bytes they have. -/
def scanL (l : List UInt8) : List (UInt8 × List UInt8) × Nat :=
  if _h : (unfE l).1 = 0 then ((unfE l).2.2 :: (scanL (l.drop (unfE l).2.1)).1, (unfE l).2.1 + (scanL (l.drop (unfE l).2.1)).2) else ([], 0)
termination_by l.length
decreasing_by all_goals (have := unfE_ok _h; rw [List.length_drop]; omega)
theorem scanL_ok {l : List UInt8} (h : (unfE l).1 = 0) : scanL l = ((unfE l).2.2 :: (scanL (l.drop (unfE l).2.1)).1, (unfE l).2.1 + (scanL (l.drop (unfE l).2.1)).2) := by
  rw [scanL, dif_pos h]
theorem scanL_no {l : List UInt8} (h : (unfE l).1 ≠ 0) : scanL l = ([], 0) := by
  rw [scanL, dif_neg h]

theorem Tryd.infoP : (Tryd.prog.info? 35).map (fun i => (i.zero, i.size, i.bytes)) = some (some (.agg #[.int .u8 0, .slice none 0 0]), 2, 32) := by kernel_rfl
/-- Pieces, with their bodies' values, as cells. -/
def cellsP (Q : List (UInt8 × Value × List UInt8)) : List Value := Q.flatMap fun q => [.int .u8 (q.1.toNat : Int), q.2.1]
theorem cellsP_len (Q : List (UInt8 × Value × List UInt8)) : (cellsP Q).length = Q.length * 2 := by
  induction Q with
  | nil => rfl
  | cons q Q ih => simp only [cellsP, List.flatMap_cons, List.length_append, List.length_cons, List.length_nil] at ih ⊢; omega
/-- Bytes that an append onto a row from block B on leaves alone: they lie below B, or in a row of bytes. -/
def ReadP (B : Nat) (w : World) (s : Value) (l : List UInt8) : Prop := (∃ p c, s = .slice p l.length c) ∧ (BytIn B w s l ∨ OwnB 0 w s l)
theorem ReadP.in_ {B : Nat} {w : World} {s : Value} {l : List UInt8} (h : ReadP B w s l) (hB : B ≤ w.heap.size) : BytIn w.heap.size w s l := by
  rcases h.2 with h | h
  · exact h.mono hB
  · exact h.in_
theorem ReadP.below {B : Nat} {w w' : World} {s : Value} {l : List UInt8} (h : ReadP B w s l) (hb : Below w.heap.size w w') (hB : B ≤ w.heap.size) : ReadP B w' s l := by
  refine ⟨h.1, ?_⟩
  rcases h.2 with h | h
  · exact .inl (h.below (hb.mono hB))
  · exact .inr (h.below hb)
theorem OwnB.readP {B B' : Nat} {w : World} {s : Value} {l : List UInt8} (h : OwnB B w s l) : ReadP B' w s l := by
  refine ⟨h.byC.1.shape, .inr (h.mono (Nat.zero_le _))⟩
/-- A slice value that the call owns holds pieces, whose bytes read. -/
def OwnP (B : Nat) (w : World) (v : Value) (P : List (UInt8 × List UInt8)) : Prop :=
  ∃ Q : List (UInt8 × Value × List UInt8), Q.map (fun q => (q.1, q.2.2)) = P ∧ w.ownsRow B 35 2 v Q.length (cellsP Q) ∧ ∀ q ∈ Q, ReadP B w q.2.1 q.2.2
theorem OwnP.nil (B : Nat) (w : World) : OwnP B w (.slice none 0 0) [] := ⟨[], rfl, World.ownsRow_nil w B _ 2, fun _ h => by cases h⟩
theorem ownsRow_below {B : Nat} {w w' : World} {e : TypeId} {s n : Nat} {v : Value} {xs : List Value} (h : w.ownsRow B e s v n xs) (hb : Below w.heap.size w w') : w'.ownsRow B e s v n xs := by
  refine ⟨h.1, ?_⟩
  rcases h.2 with hn | ⟨g, cap, cur, rfl, hB, hg, rest⟩
  · exact .inl hn
  · exact .inr ⟨g, cap, cur, rfl, hB, (hb.block g (Array.getElem?_eq_some_iff.1 hg).1).trans hg, rest⟩
theorem OwnP.below {B : Nat} {w w' : World} {v : Value} {P : List (UInt8 × List UInt8)} (h : OwnP B w v P) (hb : Below w.heap.size w w') (hB : B ≤ w.heap.size) : OwnP B w' v P := by
  obtain ⟨Q, h1, h2, h3⟩ := h
  exact ⟨Q, h1, ownsRow_below h2 hb, fun q hq => (h3 q hq).below hb hB⟩
/-- An append of one piece, laid in a block of its own, onto such a row. -/
theorem run_appP (w : World) (B : Nat) (ty : TypeId) (v : Value) (P : List (UInt8 × List UInt8)) (k : UInt8) (s : Value) (l : List UInt8) (hown : OwnP B w v P) (hb : ReadP B w s l) (hlen : P.length ≤ 1000000000000) (hB : B ≤ w.heap.size) (o : Addr)
    (hc0 : w.cell? (o.add 0) = some (.int .u8 (k.toNat : Int))) (hc1 : w.cell? (o.add 1) = some s) :
    ∃ v' w', (Builtin.append_ #[40, 40] ty #[v, .slice (some o) 1 1]).run Tryd.prog w = .ok v' w' ∧ OwnP B w' v' (P ++ [(k, l)]) ∧ w.grownBy w' v.ownBlock ∧ ∀ j, v.ownBlock = some j → B ≤ j := by
  obtain ⟨Q, rfl, h2, h3⟩ := hown
  obtain ⟨i0, hi, hz0, hz1, hz2⟩ := info_parts Tryd.infoP
  have hlQ : Q.length ≤ 1000000000000 := by rw [List.length_map] at hlen; exact hlen
  obtain ⟨p, c, rfl⟩ := hb.1
  obtain ⟨v', w', hr, ho, hg, -, -⟩ := run_append_own_at (P := Tryd.prog) w B 40 ty 35 i0 (.agg #[.int .u8 0, .slice none 0 0]) 2 32 Tryd.underlying40 hi hz0 hz1 hz2 rfl (by decide) v _ _ h2 o 1 1 [.int .u8 (k.toNat : Int), .slice p l.length c]
    rfl (fun j u hu => by
      match j, hu with
      | 0, hu => cases hu; exact hc0
      | 1, hu => cases hu; exact hc1) (fun u hu => by
      simp only [List.mem_cons, List.not_mem_nil, or_false] at hu
      rcases hu with rfl | rfl <;> rfl) (by unfold maxLen; omega) (by omega) hB
  have hrow : ∀ j, v.ownBlock = some j → B ≤ j ∧ ∃ cur, w.heap[j]? = some (.cells cur 35 (0, 0)) := by
    intro j hj
    rcases h2.2 with ⟨rfl, -⟩ | ⟨g, cap, cur, rfl, hB', hg', -⟩
    · cases hj
    · cases hj
      exact ⟨hB', cur, hg'⟩
  have hkeep : ∀ (s : Value) (l : List UInt8), ReadP B w s l → ReadP B w' s l := by
    intro s l hq
    refine ⟨hq.1, ?_⟩
    rcases hq.2 with h | h
    · left
      rcases h with h | ⟨a, cap, rfl, h⟩
      · exact .inl h
      · exact .inr ⟨a, cap, rfl, fun j hj => ⟨(h j hj).1, (World.cell?_of_block (a := a.add j) (by rw [add_block]; exact hg.block a.block (by have := (h j hj).1; omega) (fun e => by have := (hrow _ e.symm).1; have := (h j hj).1; omega))).trans (h j hj).2⟩⟩
    · right
      refine ⟨h.1, ?_⟩
      rcases h.2 with hn | ⟨g, cap, cur, rfl, hB', hgr, rest⟩
      · exact .inl hn
      · refine .inr ⟨g, cap, cur, rfl, hB', (hg.block g (Array.getElem?_eq_some_iff.1 hgr).1 (fun e => ?_)).trans hgr, rest⟩
        obtain ⟨-, cur', hcur⟩ := hrow g e.symm
        rw [hgr] at hcur
        simp only [Option.some.injEq, Obj.cells.injEq] at hcur
        exact absurd hcur.2.1 (by decide)
  refine ⟨v', w', hr, ⟨Q ++ [(k, .slice p l.length c, l)], by simp, ?_, ?_⟩, hg, fun j hj => (hrow j hj).1⟩
  · have e : cellsP (Q ++ [(k, .slice p l.length c, l)]) = cellsP Q ++ [.int .u8 (k.toNat : Int), .slice p l.length c] := by unfold cellsP; simp
    rw [List.length_append, e]
    exact ho
  · intro q hq
    rcases List.mem_append.1 hq with hq | hq
    · exact hkeep _ _ (h3 q hq)
    · simp only [List.mem_singleton] at hq
      subst hq
      exact hkeep _ _ hb
/-- The same at the operation. -/
theorem wpList_appP {ops : Array Oper} {rest : List Oper} {o : Oper} {a : Act} {w : World} {Q : Exit → Act → World → Prop} (hgd : o.guard = none) (s x : Operand)
    (ho : o.op = .call { callee := .builtin .append, args := #[s, x], argTypes := #[40, 40] })
    (B : Nat) (v : Value) (P : List (UInt8 × List UInt8)) (k : UInt8) (u : Value) (l : List UInt8) (ad : Addr) (hs : a.eval s = v) (hx : a.eval x = .slice (some ad) 1 1) (hown : OwnP B w v P) (hb : ReadP B w u l) (hlen : P.length ≤ 1000000000000) (hB : B ≤ w.heap.size)
    (hc0 : w.cell? (ad.add 0) = some (.int .u8 (k.toNat : Int))) (hc1 : w.cell? (ad.add 1) = some u)
    (h : ∀ v' w', OwnP B w' v' (P ++ [(k, l)]) → Below B w w' → wpList Tryd.prog ops Q rest (a.put o.dst v') w') : wpList Tryd.prog ops Q (o :: rest) a w := by
  refine wpList_plain hgd fun K hK => ?_
  obtain ⟨v', w', hr, h2, h3, h4⟩ := run_appP w B o.type v P k u l hown hb hlen hB ad hc0 hc1
  unfold Oper.wp execOp
  simp only [ho, resolve, invoke, builtin, Sem.run_bind, Sem.run_pure, Result.andThen_ok, List.map_toArray, List.map_cons, List.map_nil, hs, hx, hr]
  exact hK _ _ (h v' w' h2 ((Below.refl B w).grown h3 hB h4))
end Go.Proofs.YteaeiejkdnbcnaaDoor

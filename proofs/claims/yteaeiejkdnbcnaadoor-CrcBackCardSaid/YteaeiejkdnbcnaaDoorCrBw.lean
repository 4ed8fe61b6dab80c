/-
  Words for the law CrcBack: rows of pieces whose bodies an argument brings; how a round stands.
-/
import Derived.Test.YteaeiejkdnbcnaaDoorCrFl
import Derived.Test.YteaeiejkdnbcnaaDoorCrBp
namespace Go.Proofs.YteaeiejkdnbcnaaDoor
open Go Go.RowKit

theorem Tryd.infoI : (Tryd.prog.info? 3).map (fun i => (i.zero, i.size, i.bytes)) = some (some (.int .i64 0), 1, 8) := by kernel_rfl
/-- A slice value that the call owns holds pieces, whose bytes lie below B. -/
def OwnA (B : Nat) (w : World) (v : Value) (P : List (UInt8 × List UInt8)) : Prop :=
  ∃ Q : List (UInt8 × Value × List UInt8), Q.map (fun q => (q.1, q.2.2)) = P ∧ w.ownsRow B 35 2 v Q.length (cellsP Q) ∧ ∀ q ∈ Q, (∃ p c, q.2.1 = .slice p q.2.2.length c) ∧ BytIn B w q.2.1 q.2.2
theorem OwnA.nil (B : Nat) (w : World) : OwnA B w (.slice none 0 0) [] := ⟨[], rfl, World.ownsRow_nil w B _ 2, fun _ h => by cases h⟩
theorem OwnA.toP {B : Nat} {w : World} {v : Value} {P : List (UInt8 × List UInt8)} (h : OwnA B w v P) : OwnP B w v P := by
  obtain ⟨Q, h1, h2, h3⟩ := h
  exact ⟨Q, h1, h2, fun q hq => ⟨(h3 q hq).1, .inl (h3 q hq).2⟩⟩
theorem OwnA.keep {B : Nat} {W X : World} {v : Value} {P : List (UInt8 × List UInt8)} {row : Option Nat} (h : OwnA B W v P) (hg : W.grownBy X row) (hB : B ≤ W.heap.size) (hr : ∀ r, row = some r → B ≤ r ∧ ∀ ys, W.heap[r]? ≠ some (.cells ys 35 (0, 0))) : OwnA B X v P := by
  obtain ⟨Q, h1, h2, h3⟩ := h
  exact ⟨Q, h1, ownsRow_keep h2 hg (fun r e => (hr r e).2), fun q hq => ⟨(h3 q hq).1, (h3 q hq).2.below ((Below.refl B W).grown hg hB (fun k e => (hr k e).1))⟩⟩
theorem OwnA.keep' {B : Nat} {W X : World} {v : Value} {P : List (UInt8 × List UInt8)} {row : Option Nat} (h : OwnA B W v P) (hg : W.grownBy X row) (hB : B ≤ W.heap.size) (hne : row ≠ v.ownBlock) (hr : ∀ r, row = some r → B ≤ r) : OwnA B X v P := by
  obtain ⟨Q, h1, h2, h3⟩ := h
  refine ⟨Q, h1, h2.kept hg ?_, fun q hq => ⟨(h3 q hq).1, (h3 q hq).2.below ((Below.refl B W).grown hg hB hr)⟩⟩
  rcases hv : v.ownBlock with _ | j
  · exact .inl rfl
  · exact .inr (fun e => hne (by rw [hv, e]))
theorem OwnA.below {B : Nat} {w w' : World} {v : Value} {P : List (UInt8 × List UInt8)} (h : OwnA B w v P) (hb : Below w.heap.size w w') (hB : B ≤ w.heap.size) : OwnA B w' v P := by
  obtain ⟨Q, h1, h2, h3⟩ := h
  exact ⟨Q, h1, ownsRow_below h2 hb, fun q hq => ⟨(h3 q hq).1, (h3 q hq).2.below (hb.mono hB)⟩⟩
theorem run_appA (w : World) (B : Nat) (ty : TypeId) (v : Value) (P : List (UInt8 × List UInt8)) (k : UInt8) (p : Option Addr) (c : Nat) (l : List UInt8) (hown : OwnA B w v P) (hb : BytIn B w (.slice p l.length c) l) (hlen : P.length ≤ 1000000000000) (hB : B ≤ w.heap.size) (o : Addr)
    (hc0 : w.cell? (o.add 0) = some (.int .u8 (k.toNat : Int))) (hc1 : w.cell? (o.add 1) = some (.slice p l.length c)) :
    ∃ v' w', (Builtin.append_ #[40, 40] ty #[v, .slice (some o) 1 1]).run Tryd.prog w = .ok v' w' ∧ OwnA B w' v' (P ++ [(k, l)]) ∧ w.grownBy w' v.ownBlock := by
  obtain ⟨Q, rfl, h2, h3⟩ := hown
  obtain ⟨i0, hi, hz0, hz1, hz2⟩ := info_parts Tryd.infoP
  have hlQ : Q.length ≤ 1000000000000 := by rw [List.length_map] at hlen; exact hlen
  obtain ⟨v', w', hr, ho, hg, -, -⟩ := run_append_own_at (P := Tryd.prog) w B 40 ty 35 i0 (.agg #[.int .u8 0, .slice none 0 0]) 2 32 Tryd.underlying40 hi hz0 hz1 hz2 rfl (by decide) v _ _ h2 o 1 1 [.int .u8 (k.toNat : Int), .slice p l.length c]
    rfl (fun j u hu => by
      match j, hu with
      | 0, hu => cases hu; exact hc0
      | 1, hu => cases hu; exact hc1) (fun u hu => by
      simp only [List.mem_cons, List.not_mem_nil, or_false] at hu
      rcases hu with rfl | rfl <;> rfl) (by unfold maxLen; omega) (by omega) hB
  have hrow : ∀ j, v.ownBlock = some j → B ≤ j := fun j hj => (World.ownsRow.lt h2 j hj).1
  have hbl := (Below.refl B w).grown hg hB hrow
  refine ⟨v', w', hr, ⟨Q ++ [(k, .slice p l.length c, l)], by simp, ?_, ?_⟩, hg⟩
  · have e : cellsP (Q ++ [(k, .slice p l.length c, l)]) = cellsP Q ++ [.int .u8 (k.toNat : Int), .slice p l.length c] := by unfold cellsP; simp
    rw [List.length_append, e]
    exact ho
  · intro q hq
    rcases List.mem_append.1 hq with hq | hq
    · exact ⟨(h3 q hq).1, (h3 q hq).2.below hbl⟩
    · simp only [List.mem_singleton] at hq
      subst hq
      exact ⟨⟨p, c, rfl⟩, hb.below hbl⟩
/-- An append of one piece at a step of a region that draws its order. -/
theorem step_appA {w : World} {ops : Array Oper} {o : Oper} {a : Act} {K : Act → World → Prop} {Q : Exit → Act → World → Prop} {E : Prop} (hgd : o.guard = none) (s x : Operand)
    (ho : o.op = .call { callee := .builtin .append, args := #[s, x], argTypes := #[40, 40] })
    (B : Nat) (v : Value) (P : List (UInt8 × List UInt8)) (k : UInt8) (p : Option Addr) (c : Nat) (l : List UInt8) (ad : Addr) (hs : a.eval s = v) (hx : a.eval x = .slice (some ad) 1 1) (hown : OwnA B w v P) (hb : BytIn B w (.slice p l.length c) l) (hlen : P.length ≤ 1000000000000) (hB : B ≤ w.heap.size)
    (hc0 : w.cell? (ad.add 0) = some (.int .u8 (k.toNat : Int))) (hc1 : w.cell? (ad.add 1) = some (.slice p l.length c))
    (h : ∀ v' w', OwnA B w' v' (P ++ [(k, l)]) → w.grownBy w' v.ownBlock → K (a.put o.dst v') w') : if Region.wanted o (yielded ops a.tmps) = true then Oper.wp Tryd.prog o a w K Q else E := by
  have hw : Region.wanted o (yielded ops a.tmps) = true := by simp [Region.wanted, hgd]
  rw [if_pos hw]
  obtain ⟨v', w', hr, h2, h3⟩ := run_appA w B o.type v P k p c l hown hb hlen hB ad hc0 hc1
  unfold Oper.wp execOp
  simp only [ho, resolve, invoke, builtin, Sem.run_bind, Sem.run_pure, Result.andThen_ok, List.map_toArray, List.map_cons, List.map_nil, hs, hx, hr]
  exact h v' w' h2 h3
/-- An append of bytes at such a step, told by the row that grew. -/
theorem step_appB {w : World} {ops : Array Oper} {o : Oper} {a : Act} {K : Act → World → Prop} {Q : Exit → Act → World → Prop} {E : Prop} (hgd : o.guard = none) (s x : Operand)
    (ho : o.op = .call { callee := .builtin .append, args := #[s, x], argTypes := #[22, 22] })
    (B n₀ : Nat) (v vx : Value) (l m : List UInt8) (hs : a.eval s = v) (hx : a.eval x = vx) (hown : OwnB B w v l) (hin : BytIn n₀ w vx m) (hlen : l.length + m.length ≤ 100000000000000) (hB : B ≤ w.heap.size)
    (h : ∀ v' w', OwnB B w' v' (l ++ m) → w.grownBy w' v.ownBlock → K (a.put o.dst v') w') : if Region.wanted o (yielded ops a.tmps) = true then Oper.wp Tryd.prog o a w K Q else E := by
  have hw : Region.wanted o (yielded ops a.tmps) = true := by simp [Region.wanted, hgd]
  rw [if_pos hw]
  obtain ⟨v', w', hr, h2, h3⟩ := run_app w B n₀ o.type v vx l m hown hin hlen hB
  unfold Oper.wp execOp
  simp only [ho, resolve, invoke, builtin, Sem.run_bind, Sem.run_pure, Result.andThen_ok, List.map_toArray, List.map_cons, List.map_nil, hs, hx, hr]
  exact h v' w' h2 h3
theorem row_block {W : World} {b : Nat} {e : TypeId} {s : Nat} {v : Value} {n : Nat} {xs : List Value} (h : W.ownsRow b e s v n xs) : ∀ j, v.ownBlock = some j → b ≤ j ∧ ∃ cur, W.heap[j]? = some (.cells cur e (0, 0)) := by
  intro j hj
  rcases h.2 with ⟨rfl, -⟩ | ⟨g, cap, cur, rfl, hB', hg', -⟩
  · cases hj
  · cases hj
    exact ⟨hB', cur, hg'⟩
/-- How a round of CrcBack stands: all bytes, the pieces, the ends, and the piece at hand. -/
structure BkS (w W : World) (va : Value) (A : List UInt8) (vs : Value) (P : List (UInt8 × List UInt8)) (ve : Value) (E : List Value) : Prop where
  all_ : OwnB w.heap.size W va A
  some_ : OwnA w.heap.size W vs P
  ends_ : W.ownsRow w.heap.size 3 1 ve E.length E
  below_ : Below w.heap.size w W
theorem BkS.on {w W X : World} {va vs ve : Value} {A : List UInt8} {P : List (UInt8 × List UInt8)} {E : List Value} (h : BkS w W va A vs P ve E) (hb : Below W.heap.size W X) : BkS w X va A vs P ve E :=
  ⟨h.all_.below hb, h.some_.below hb h.below_.size, ownsRow_below h.ends_ hb, h.below_.trans (hb.mono h.below_.size)⟩
theorem BkS.bytes {w W X : World} {va vs ve v' : Value} {A A' : List UInt8} {P : List (UInt8 × List UInt8)} {E : List Value} (h : BkS w W va A vs P ve E) (ho : OwnB w.heap.size X v' A') (hg : W.grownBy X va.ownBlock) : BkS w X v' A' vs P ve E := by
  have hr := row_block h.all_
  refine ⟨ho, h.some_.keep hg h.below_.size (fun r e => ⟨(hr r e).1, fun ys e' => ?_⟩), ownsRow_keep h.ends_ hg (fun r e ys e' => ?_), h.below_.grown hg h.below_.size (fun k e => (hr k e).1)⟩
  · obtain ⟨-, cur, hc⟩ := hr r e
    rw [hc] at e'
    cases e'
  · obtain ⟨-, cur, hc⟩ := hr r e
    rw [hc] at e'
    cases e'
theorem BkS.pcs {w W X : World} {va vs ve v' : Value} {A : List UInt8} {P P' : List (UInt8 × List UInt8)} {E : List Value} (h : BkS w W va A vs P ve E) (ho : OwnA w.heap.size X v' P') (hg : W.grownBy X vs.ownBlock) : BkS w X va A v' P' ve E := by
  have hr := h.some_.toP.block
  refine ⟨ownsRow_keep h.all_ hg (fun r e ys e' => ?_), ho, ownsRow_keep h.ends_ hg (fun r e ys e' => ?_), h.below_.grown hg h.below_.size (fun k e => (hr k e).1)⟩
  · obtain ⟨-, cur, hc⟩ := hr r e
    rw [hc] at e'
    cases e'
  · obtain ⟨-, cur, hc⟩ := hr r e
    rw [hc] at e'
    cases e'
theorem BkS.ends {w W X : World} {va vs ve v' : Value} {A : List UInt8} {P : List (UInt8 × List UInt8)} {E E' : List Value} (h : BkS w W va A vs P ve E) (ho : X.ownsRow w.heap.size 3 1 v' E'.length E') (hg : W.grownBy X ve.ownBlock) : BkS w X va A vs P v' E' := by
  have hr := row_block h.ends_
  refine ⟨ownsRow_keep h.all_ hg (fun r e ys e' => ?_), h.some_.keep hg h.below_.size (fun r e => ⟨(hr r e).1, fun ys e' => ?_⟩), ho, h.below_.grown hg h.below_.size (fun k e => (hr k e).1)⟩
  · obtain ⟨-, cur, hc⟩ := hr r e
    rw [hc] at e'
    cases e'
  · obtain ⟨-, cur, hc⟩ := hr r e
    rw [hc] at e'
    cases e'
/-- The pieces that the law takes: the first 300 bytes of each. -/
def pcsL (L : List (UInt8 × List UInt8)) (k : Nat) : List (UInt8 × List UInt8) := (L.take k).map fun q => (q.1, q.2.take 300)
theorem pcsL_succ (L : List (UInt8 × List UInt8)) (k : Nat) (h : k < L.length) : pcsL L (k + 1) = pcsL L k ++ [(L[k].1, L[k].2.take 300)] := by
  unfold pcsL
  rw [List.take_succ_eq_append_getElem h, List.map_append]
  rfl
theorem pcsL_len (L : List (UInt8 × List UInt8)) (k : Nat) (h : k ≤ L.length) : (pcsL L k).length = k := by
  unfold pcsL
  rw [List.length_map, List.length_take]
  omega
theorem framesL_len : ∀ P : List (UInt8 × List UInt8), (∀ q ∈ P, q.2.length ≤ 300) → (framesL P).length ≤ 313 * P.length
  | [], _ => by simp [framesL]
  | q :: P, h => by
    have h1 := framesL_len P (fun x hx => h x (by simp [hx]))
    have h2 := h q (by simp)
    rw [framesL_cons, List.length_append, frameL_len, List.length_cons]
    omega
/-- Where the frames end. -/
def endsL (P : List (UInt8 × List UInt8)) : List Value := (List.range P.length).map fun i => .int .i64 ((framesL (P.take (i + 1))).length : Nat)
theorem endsL_len (P : List (UInt8 × List UInt8)) : (endsL P).length = P.length := by unfold endsL; simp
theorem endsL_snoc (P : List (UInt8 × List UInt8)) (q : UInt8 × List UInt8) : endsL (P ++ [q]) = endsL P ++ [.int .i64 ((framesL (P ++ [q])).length : Nat)] := by
  unfold endsL
  rw [List.length_append, List.length_singleton, List.range_succ, List.map_append]
  congr 1
  · refine List.map_congr_left fun i hi => ?_
    have := List.mem_range.1 hi
    rw [List.take_append_of_le_length (by omega)]
  · rw [List.map_singleton, List.take_of_length_le (by simp)]
theorem ends_shape {B : Nat} {W : World} {v : Value} {P : List (UInt8 × List UInt8)} (h : W.ownsRow B 3 1 v (endsL P).length (endsL P)) :
    ∃ pe ce, v = .slice pe P.length ce ∧ ∀ j, j < P.length → ∃ g, pe = some ⟨g, 0, none⟩ ∧ W.cell? ⟨g, j, none⟩ = some (.int .i64 ((framesL (P.take (j + 1))).length : Nat)) := by
  rw [endsL_len] at h
  rcases Nat.eq_zero_or_pos P.length with h0 | h0
  · rcases h.2 with ⟨rfl, -⟩ | ⟨g, cap, cur, rfl, -⟩
    · exact ⟨none, 0, by rw [h0], fun j hj => by omega⟩
    · exact ⟨_, cap, rfl, fun j hj => by omega⟩
  · obtain ⟨g, cap, rfl, -, hg⟩ := World.ownsRow.form h h0
    refine ⟨_, cap, rfl, fun j hj => ⟨g, rfl, ?_⟩⟩
    have hadd : (⟨g, 0, none⟩ : Addr).add j = ⟨g, 0 + j, none⟩ := by unfold Addr.add; split <;> simp_all
    have k1 := World.ownsRow.cells h (g := g) rfl j (.int .i64 ((framesL (P.take (j + 1))).length : Nat)) (by
      unfold endsL
      rw [List.getElem?_map, List.getElem?_range hj]
      rfl)
    rw [hadd, Nat.zero_add] at k1
    exact k1
theorem OwnA.pre {B : Nat} {w : World} {v : Value} {P : List (UInt8 × List UInt8)} (h : OwnA B w v P) (hB : B ≤ w.heap.size) (hP : P.length ≤ 1000000000000) :
    ∃ pv cv, v = .slice pv P.length cv ∧ P.length ≤ cv ∧ cv ≤ maxLen ∧ ∀ n, n ≤ P.length → RowP w (.slice pv n cv) (P.take n) := by
  have hsh : ∃ pv cv, v = .slice pv P.length cv ∧ P.length ≤ cv ∧ cv ≤ maxLen := by
    obtain ⟨Q, rfl, h2, -⟩ := h
    rw [List.length_map]
    rcases h2.2 with ⟨rfl, h0⟩ | ⟨g, cap, cur, rfl, _, _, hc, hm, rest⟩
    · have h0' : Q.length = 0 := h0
      exact ⟨none, 0, by rw [h0'], by omega, Nat.zero_le _⟩
    · exact ⟨_, cap, rfl, by omega, by omega⟩
  obtain ⟨pv, cv, rfl, h1, h2⟩ := hsh
  refine ⟨pv, cv, rfl, h1, h2, fun n hn => ?_⟩
  obtain ⟨Q, p', c', e1, e2, h3, h4, h5⟩ := h.toP.rowP hB hP
  injection e2 with e2 e3 e4
  subst e2 e4
  have hQ : Q.length = P.length := by rw [← e1, List.length_map]
  refine ⟨Q.take n, _, _, by rw [← e1, List.map_take], by rw [List.length_take, Nat.min_eq_left (by omega)], by rw [List.length_take]; omega, ?_, fun q hq => h5 q (List.mem_of_mem_take hq)⟩
  rcases h4 with h4 | ⟨b, off, e, hb, hx⟩
  · exact .inl (by rw [h4, List.take_nil])
  · refine .inr ⟨b, off, e, hb, fun j hj => ?_⟩
    rw [List.length_take] at hj
    rw [List.getElem_take]
    exact hx j (by omega)
theorem ByC.pre {n₀ : Nat} {w : World} {p : Option Addr} {c : Nat} {l : List UInt8} (h : BytIn n₀ w (.slice p l.length c) l) (hl : l.length ≤ c) (hc : c ≤ maxLen) (t : Nat) (ht : t ≤ l.length) : ByC n₀ w (.slice p t c) (l.take t) := by
  refine ⟨?_, p, c, by rw [List.length_take, Nat.min_eq_left ht], by rw [List.length_take]; omega, hc⟩
  rcases h with ⟨e, rfl⟩ | ⟨a, c', e, hx⟩
  · simp at ht
    subst ht
    injection e with e1 _ e3
    subst e1 e3
    exact .inl ⟨rfl, rfl⟩
  · injection e with e1
    subst e1
    exact BytIn.take (.inr ⟨a, c, rfl, hx⟩) t ht
end Go.Proofs.YteaeiejkdnbcnaaDoor

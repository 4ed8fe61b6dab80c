/-
  Contract of tuple.copies at rows of tuples that are not empty: each tuple in memory of its own.
-/
import Derived.Test.YtdfepeeicbpicaaGreatDoorTupV
import Derived.Maps.AppendAt
import Derived.RangeFuncCalls
import Derived.Stop.RegionWithIn
import Derived.BigRegionIn
import Derived.Shelf.RegionOpenPlain
import Derived.Deep.RegionHeld3
namespace Go.Proofs.YtdfepeeicbpicaaGreatDoor
open Go Go.RowKit Go.Shelf

attribute [local go_sem] Oper.semAt_some

/-- A row of values, cell by cell. -/
def cellsT (T : List V3) : List Value := T.flatMap fun x => [.int .i64 x.k, .int .i64 x.n, .string x.s]
theorem cellsT_len (T : List V3) : (cellsT T).length = T.length * 3 := by
  induction T with
  | nil => rfl
  | cons x r ih => simp only [cellsT, List.flatMap_cons, List.length_append, List.length_cons, List.length_nil] at ih ⊢; omega
/-- A tuple of the call's own, that is not empty. -/
def OwnT (D : Nat) (W : World) (y : Value × List V3) : Prop := W.ownsRow D 37 3 y.1 y.2.length (cellsT y.2) ∧ y.2 ≠ [] ∧ y.2.length ≤ 1000000
/-- A tuple that reads in a world and is not empty. -/
def Ev (n₀ : Nat) (w : World) : Type := { x : Value × List V3 // TupIn n₀ w x.1 x.2 ∧ x.2 ≠ [] }
def encV {n₀ : Nat} {w : World} (x : Ev n₀ w) : Value := x.1.1
def tupV {n₀ : Nat} {w : World} (x : Ev n₀ w) : List V3 := x.1.2
theorem Tryz.infoVal : (Tryz.prog.info? 37).map (fun i => (i.zero, i.size, i.bytes)) = some (some (.agg #[.int .i64 0, .int .i64 0, .string ⟨#[]⟩]), 3, 32) := by kernel_rfl

/-- Rows of two element types lie apart. -/
theorem rows_apart {W : World} {b b' : Nat} {e e' : TypeId} {s s' : Nat} {v v' : Value} {n n' : Nat} {xs xs' : List Value} (h : W.ownsRow b e s v n xs) (h' : W.ownsRow b' e' s' v' n' xs') (hne : e ≠ e') : v.ownBlock = none ∨ v.ownBlock ≠ v'.ownBlock := by
  rcases h.2 with ⟨rfl, _⟩ | ⟨g, cap, cur, rfl, _, hg, _⟩
  · exact .inl rfl
  · right
    rcases h'.2 with ⟨rfl, _⟩ | ⟨g', cap', cur', rfl, _, hg', _⟩
    · simp [Value.ownBlock]
    · intro e2
      obtain rfl : g = g' := by simpa [Value.ownBlock] using e2
      rw [hg] at hg'
      simp only [Option.some.injEq, Obj.cells.injEq] at hg'
      exact hne hg'.2.1
/-- What the loop keeps. -/
def CopI (D B : Nat) (w : World) (pre : List (List V3)) (W : World) : Prop :=
  (∃ (v : Value) (Q : List (Value × List V3)), Boxed W B 50 v ∧ W.ownsRow D 23 1 v Q.length (Q.map (·.1)) ∧ Q.map (·.2) = pre ∧ ∀ y ∈ Q, OwnT D W y) ∧ Below D w W
theorem own_putCells {W X : World} {row : Option Nat} {b : Nat} {e : TypeId} {s : Nat} {v : Value} {n : Nat} {xs : List Value} (h : W.ownsRow b e s v n xs) (hg : W.grownBy X row) (hrow : ∀ B, row = some B → ∃ o, W.heap[B]? = some o ∧ o.isCells = false) : X.ownsRow b e s v n xs := by
  refine h.kept hg ?_
  rcases h.2 with ⟨rfl, _⟩ | ⟨g, cap, cur, rfl, _, hgb, _⟩
  · exact .inl rfl
  · refine .inr fun e' => ?_
    obtain ⟨o, ho, hc⟩ := hrow g (by simpa [Value.ownBlock] using e'.symm)
    rw [hgb] at ho
    cases ho
    cases hc
theorem cellsT_one (T : List V3) : ∀ u ∈ cellsT T, u.oneCell' = true := by
  intro u hu
  simp only [cellsT, List.mem_flatMap, List.mem_cons, List.not_mem_nil, or_false] at hu
  obtain ⟨x, -, rfl | rfl | rfl⟩ := hu <;> rfl
theorem cellsT_at {W : World} {b : Nat} : ∀ (T : List V3) (off : Nat), CellsAt W b off T → ∀ j u, (cellsT T)[j]? = some u → W.cell? ⟨b, off + j, none⟩ = some u
  | [], _, _, j, u, h => by simp [cellsT] at h
  | x :: r, off, hc, j, u, h => by
    have h0 := hc 0 (by simp)
    simp only [Nat.zero_mul, Nat.add_zero, List.getElem_cons_zero] at h0
    have hr : CellsAt W b (off + 3) r := fun i hi => by
      have := hc (i + 1) (by simpa using hi)
      simp only [List.getElem_cons_succ] at this
      rw [show off + 3 + i * 3 = off + (i + 1) * 3 by omega]
      exact this
    have e : cellsT (x :: r) = .int .i64 x.k :: .int .i64 x.n :: .string x.s :: cellsT r := rfl
    rw [e] at h
    match j, h with
    | 0, h => cases h; exact h0.1
    | 1, h => cases h; exact h0.2.1
    | 2, h => cases h; exact h0.2.2
    | j + 3, h =>
      have := cellsT_at r (off + 3) hr j u (by simpa using h)
      rwa [show off + 3 + j = off + (j + 3) by omega] at this
/-- An append to a row of one's own, as a step of a region inside a fence. -/
theorem stepIn_append {F : Fence} {n : Nat} {P : Program} {w : World} {ops : Array Oper} {o : Oper} {a : Act} {K : Act → World → Prop} {Q : Exit → Act → World → Prop} {E : Prop}
    (hg : o.guard = none) (s x : Operand) (t : TypeId) (hop : o.op = Op.call { callee := Callee.builtin Builtin.append, args := #[s, x], argTypes := #[t, t] })
    (base : Nat) (e : TypeId) (i : TypeInfo) (z : Value) (size bytes : Nat) (h1 : P.underlying t = some (.slice e)) (h2 : P.info? e = some i) (h3 : i.zero = some z) (h4 : i.size = size) (h5 : i.bytes = bytes) (h6 : z.cells.size = size) (h7 : 0 < size)
    (v : Value) (k : Nat) (xs : List Value) (hs : a.eval s = v) (hown : w.ownsRow base e size v k xs) (ad : Addr) (m c : Nat) (news : List Value) (hx : a.eval x = .slice (some ad) m c) (hn : news.length = m * size)
    (hc : ∀ j u, news[j]? = some u → w.cell? (ad.add j) = some u) (h1c : ∀ u ∈ news, u.oneCell' = true) (b1 : k + m ≤ maxLen) (b2 : (k + m) * bytes ≤ 140737488355328) (b3 : base ≤ w.heap.size)
    (hK : ∀ v' w', w'.ownsRow base e size v' (k + m) (xs ++ news) → w.grownBy w' v.ownBlock → K (a.put o.dst v') w') :
    if Region.wanted o (yielded ops a.tmps) = true then Oper.wpIn F n P o a w K Q else E := by
  have hw : Region.wanted o (yielded ops a.tmps) = true := by simp [Region.wanted, hg]
  obtain ⟨v', w', hrun, r1, r2, -⟩ := run_append_own (P := P) w base t o.type e i z size bytes h1 h2 h3 h4 h5 h6 h7 v k xs hown ad m c news hn hc h1c b1 b2 b3
  rw [if_pos hw]
  refine ⟨by simp [Oper.about, hop, resolve, Target.leads, Sem.run_pure], ?_⟩
  rw [Oper.semAt_plain F _ _ (by rw [hop]; intro c hc'; cases hc')]
  simp [execOp, hop, resolve, invoke, builtin, hs, hx, hrun, Result.andThen]
  exact hK _ _ r1 r2
theorem own_form {W : World} {base : Nat} {e : TypeId} {size : Nat} {v : Value} {n : Nat} {xs : List Value} (h : W.ownsRow base e size v n xs) (hn : 0 < n) : ∃ g cap, v = .slice (some ⟨g, 0, none⟩) n cap := by
  rcases h.2 with ⟨_, h0⟩ | ⟨g, cap, _, rfl, _⟩
  · omega
  · exact ⟨g, cap, rfl⟩
/-- Behind the copy of a tuple: what stands, stands; the copy is the call's own. -/
theorem cop_inner {D B : Nat} {W w3 : World} {v v3 : Value} {Q : List (Value × List V3)} {T : List V3} (hD : D ≤ W.heap.size) (hv : Boxed W B 50 v) (hrow : W.ownsRow D 23 1 v Q.length (Q.map (·.1))) (ho : ∀ y ∈ Q, OwnT D W y)
    (hne : T ≠ []) (hT : T.length ≤ 1000000) (r1 : w3.ownsRow D 37 3 v3 (0 + T.length) ([] ++ cellsT T)) (r2 : (W.alloc (.cells #[] 37)).drew.grownBy w3 (Value.ownBlock (.slice (some ⟨W.heap.size, 0, none⟩) 0 0))) :
    ∃ g cap, v3 = .slice (some ⟨g, 0, none⟩) T.length cap ∧ Boxed w3 B 50 v ∧ w3.ownsRow D 23 1 v Q.length (Q.map (·.1)) ∧ (∀ y ∈ Q, OwnT D w3 y) ∧ OwnT D w3 (v3, T) ∧ KeepsOthers W w3 ∧ Below D W w3 ∧ W.heap.size ≤ w3.heap.size := by
  rw [Nat.zero_add, List.nil_append] at r1
  obtain ⟨g, cap, rfl⟩ := own_form r1 (List.length_pos_iff.2 hne)
  have keep : ∀ {b : Nat} {e : TypeId} {s : Nat} {u : Value} {k : Nat} {xs : List Value}, W.ownsRow b e s u k xs → w3.ownsRow b e s u k xs := fun h =>
    ((h.alloc (.cells #[] 37)).drew).kept r2 (by
      rcases hb : Value.ownBlock _ with _ | x
      · exact .inl rfl
      · right
        intro e
        have := (h.lt x hb).2
        simp only [Value.ownBlock, Option.some.injEq] at e
        omega)
  refine ⟨g, cap, rfl, ?_, keep hrow, fun y hy => ⟨keep (ho y hy).1, (ho y hy).2⟩, ⟨r1, hne, hT⟩, ?_, ?_, ?_⟩
  · refine (show Boxed (W.alloc (.cells #[] 37)).drew B _ v from hv.alloc _).kept r2 (fun e => ?_)
    have := hv.lt
    simp only [Value.ownBlock, Option.some.injEq] at e
    omega
  · refine ((KeepsOthers.alloc W (.cells #[] 37)).trans (KeepsOthers.drew _)).trans (KeepsOthers.of_grownBy r2 fun j o ej hj => ?_)
    simp only [Value.ownBlock, Option.some.injEq] at ej
    subst ej
    have : (W.alloc (.cells #[] 37)).drew.heap[W.heap.size]? = some (.cells #[] 37) := World.alloc_heap_new W _
    rw [this] at hj
    cases hj
    rfl
  · exact (((Below.refl D W).alloc hD _).drew).grown r2 (by simp; omega) (fun k hk => by simp only [Value.ownBlock, Option.some.injEq] at hk; omega)
  · have := r2.size
    simp at this
    omega
/-- Behind the append: all copies stand. -/
theorem cop_outer {D B : Nat} {w3 w5 : World} {v v5 : Value} {Q : List (Value × List V3)} {y0 : Value × List V3} {tmp : Obj} (hrow : w3.ownsRow D 23 1 v Q.length (Q.map (·.1))) (ho : ∀ y ∈ Q, OwnT D w3 y) (hn : OwnT D w3 y0)
    (r2 : (w3.alloc tmp).grownBy w5 v.ownBlock) (hv5 : Boxed w5 B 50 v) : ∀ y ∈ Q ++ [y0], OwnT D (w5.setCell ⟨B, 0, none⟩ v5) y := by
  have keep : ∀ y, OwnT D w3 y → OwnT D (w5.setCell ⟨B, 0, none⟩ v5) y := fun y hy => by
    have h5 := (hy.1.alloc tmp).kept r2 (rows_apart hy.1 hrow (by decide))
    exact ⟨own_other h5 B 0 v5 (Ne.symm (hv5.not_row (by decide) h5)), hy.2⟩
  intro y hy
  rcases List.mem_append.1 hy with h | h
  · exact keep y (ho y h)
  · obtain rfl := List.mem_singleton.1 h
    exact keep _ hn
theorem cop_rel {D B : Nat} {w W w3 W6 : World} {v6 v3 : Value} {Q : List (Value × List V3)} {T : List V3} {pre Ts : List (List V3)} {xs : List Value} (hB : Below D w W) (hb3 : Below D W w3) (hb6 : Below D w3 W6) (hv6 : Boxed W6 B 50 v6)
    (hr6 : W6.ownsRow D 23 1 v6 (Q.length + 1) xs) (hxs : xs = Q.map (·.1) ++ [v3]) (hq : Q.map (·.2) = pre) (hall : ∀ y ∈ Q ++ [(v3, T)], OwnT D W6 y) (hT : Ts = pre ++ [T]) : CopI D B w Ts W6 := by
  refine ⟨⟨v6, Q ++ [(v3, T)], hv6, ?_, ?_, hall⟩, hB.trans (hb3.trans hb6)⟩
  · subst hxs
    simpa using hr6
  · simp [hq, hT]
theorem copI_own (D B : Nat) (w : World) {α : Type} (f : List α → List (List V3)) (E : Nat) (hD : D ≤ w.heap.size) (hE : D ≤ E) : OwnFrom E (fun pre W => CopI D B w (f pre) W) := by
  rintro s X Y row ⟨⟨v, Q, hv, hr, hq, ho⟩, hb⟩ hg hrow
  have hrow' : ∀ r, row = some r → ∃ o : Obj, X.heap[r]? = some o ∧ o.isCells = false := fun r e => (hrow r e).2
  refine ⟨⟨v, Q, hv.kept hg (fun e' => ?_), own_putCells hr hg hrow', hq, fun y hy => ⟨own_putCells (ho y hy).1 hg hrow', (ho y hy).2⟩⟩, ?_⟩
  · obtain ⟨o, h1, h2⟩ := hrow' B e'.symm
    rw [show X.heap[B]? = _ from hv] at h1
    cases h1
    cases h2
  · exact hb.trans (⟨hg.os, hg.tape, hg.output, hg.size, fun k hk => by
      by_cases e : some k = row
      · have := (hrow k e.symm).1
        omega
      · exact hg.block k (by have := hb.size; omega) e⟩)

/-- What copies leaves. -/
def CopEnd (w : World) (Ts : List (List V3)) (e : Ending) (w' : World) : Prop :=
  ∃ (v : Value) (Q : List (Value × List V3)), e = .returned v ∧ w'.ownsRow w.heap.size 23 1 v Q.length (Q.map (·.1)) ∧ Q.map (·.2) = Ts ∧ (∀ y ∈ Q, OwnT w.heap.size w' y) ∧ Below w.heap.size w w'
set_option maxRecDepth 100000 in
set_option maxHeartbeats 4000000 in
theorem copies_in (F : Fence) (n : Nat) (h3 : F.fn 42) (h5 : F.fn 74) (hro : F.round = none) (hn : 3 ≤ n) (w w₀ : World) (n₀ Bs b cap : Nat) (xs : List (Ev n₀ w₀)) (hlen : xs.length ≤ 1000000) (hB0 : Below n₀ w₀ w) (hn₀ : n₀ ≤ w.heap.size)
    (hBs : Bs < w.heap.size) (hb : b < w.heap.size) (hc0 : w.cell? ⟨Bs, 0, none⟩ = some (.slice (some ⟨b, 0, none⟩) xs.length cap)) (hc : ∀ j (h : j < xs.length), w.cell? ⟨b, 0 + j, none⟩ = some (encV xs[j])) :
    CallsIn F n Tryz.prog 42 #[.func (.func 74) #[] #[.pointer (some ⟨Bs, 0, none⟩)]] w (CopEnd w (xs.map tupV)) := by
  have h1 : 1 ≤ n := by omega
  obtain ⟨i0, hi, hz0, hz1, hz2⟩ := info_parts Tryz.infoTup
  obtain ⟨i3, hi3, hy0, hy1, hy2⟩ := info_parts Tryz.infoVal
  refine callsIn_of_wp_marks Tryz.func42 rfl h3 ?_ hro
  simp only [Tryz.ntmps42, List.size_toArray, List.length_cons, List.length_nil, Nat.reduceAdd, Nat.reduceSub, Array.replicate_succ, Array.replicate_zero, List.push_toArray, List.append_toArray, List.nil_append, List.cons_append]
  gi_wp2
  have bO := Boxed.new w 50 (.slice none 0 0)
  have hB1 : Below w.heap.size w (w.alloc (.cells #[.slice none 0 0] 50)) := below_new _ _
  refine wpIn_rangeFunc_ownG hro h1 (gf := 74) (lb := #[.pointer (some ⟨Bs, 0, none⟩)]) rfl h5 (enters_of Tryz.func74 (by kernel_rfl) rfl)
    (vals_stops encV F (n - 1) h5 hro (by omega) Bs w.heap.size b 0 cap xs hlen _ (by simp; omega) (by simp) hb ((hB1.cell (p := ⟨Bs, 0, none⟩) hBs).trans hc0) (fun j h => (hB1.cell (p := ⟨b, 0 + j, none⟩) hb).trans (hc j h))) belowK_t (belowK_b (by simp)) (Below.refl _ _) (fun _ => rfl)
    (fun (pre : List (Ev n₀ w₀)) W => CopI w.heap.size w.heap.size w (pre.map tupV) W)
    (fun _ _ _ => False)
    (copI_own w.heap.size w.heap.size w (fun pre : List (Ev n₀ w₀) => pre.map tupV) _ (Nat.le_refl _) (by simp))
    (fun _ _ _ _ _ hs _ _ => hs)
    ⟨⟨_, [], bO, World.ownsRow_nil _ _ _ _, rfl, fun _ h => by cases h⟩, hB1⟩
    (fun x => { tmps := #[.func (.func 74) #[] #[.pointer (some ⟨Bs, 0, none⟩)], undef, .slice none 0 0, .pointer (some ⟨w.heap.size, 0, none⟩), encV x, .func (.func 74) #[] #[.pointer (some ⟨Bs, 0, none⟩)], encV x, undef, undef, undef, undef, undef, undef, undef], defers := [] }) ?assign ?body ?done ?stop
  case assign =>
    intro l x W K hK
    gi_wp2
    exact hK
  case body =>
    rintro l pre x W ⟨⟨v, Q, hv, hrow, hq, hown⟩, hB⟩ hlt
    have hc := hv.cell
    have hvl := hv.lt
    obtain ⟨⟨sv, T⟩, ⟨p, cp, hsv, hTl, hTc⟩, hne⟩ := x
    simp only at hsv hTl hTc hne
    rcases hTc with rfl | ⟨bt, ot, rfl, hbt, hcells⟩
    · exact absurd rfl hne
    have hcw : CellsAt W bt ot T := hcells.below (hB0.trans (hB.mono hn₀)) hbt
    subst hsv
    simp only [encV]
    have hD0 : w.heap.size ≤ W.heap.size := hB.size
    have hbW : bt < W.heap.size := by omega
    have hcl : (cellsT T).length = T.length * 3 := cellsT_len T
    have hb1 : 0 + T.length ≤ maxLen := by unfold maxLen; omega
    have hb2 : (0 + T.length) * 32 ≤ 140737488355328 := by omega
    have hD1 : w.heap.size ≤ (W.alloc (.cells #[] 37)).drew.heap.size := by simp; omega
    have hql : Q.length ≤ 1000000 := by
      have := congrArg List.length hq
      simp at this
      omega
    have hb4 : Q.length + 1 ≤ maxLen := by unfold maxLen; omega
    have hb5 : (Q.length + 1) * 24 ≤ 140737488355328 := by omega
    have HCC : Hid (∀ j u, (cellsT T)[j]? = some u → (W.alloc (.cells #[] 37)).drew.cell? ((⟨bt, ot, none⟩ : Addr).add j) = some u) := Lib.hid (fun j u hu => by
      have hadd : (⟨bt, ot, none⟩ : Addr).add j = ⟨bt, ot + j, none⟩ := by unfold Addr.add; split <;> simp_all
      rw [hadd]
      exact ((below_new W (.cells #[] 37)).cell (p := ⟨bt, ot + j, none⟩) hbW).trans (cellsT_at T ot hcw j u hu))
    clear hcw
    gi_wp2_with fail
    refine wpIn_region_any (by kernel_rfl) ?_
    try (change wpAnyIn _ _ _ _ _ _ _ _ _ (World.drew _))
    refine wpAnyIn_ready (rs := [0, 1, 2]) (by kernel_rfl) (by simp) ?_
    refine AllReadyIn.cons rfl (fun K hK => ?_) ?_
    · go_simp
      refine hK _ _ ?_
      clear hK K
      refine wpAnyIn_ready (rs := [1, 2]) (by kernel_rfl) (by simp) ?_
      refine AllReadyIn.cons rfl (fun K hK => ?_) ?_
      · go_simp
        refine hK _ _ ?_
        clear hK K
        refine wpAnyIn_ready (rs := [2]) (by kernel_rfl) (by simp) ?_
        refine AllReadyIn.cons rfl (fun K hK => ?_) ?_
        · go_simp
          refine hK _ _ ?_
          clear hK K
          refine wpAnyIn_ready (rs := [3]) (by kernel_rfl) (by simp) ?_
          refine AllReadyIn.cons rfl (fun K hK => ?_) ?_
          · (refine stepIn_append rfl (.tmp 8) (.tmp 9) 23 rfl w.heap.size 37 i3 _ 3 32 Tryz.underlying23 hi3 hy0 hy1 hy2 rfl (by decide) _ 0 [] rfl (World.ownsRow_lit W #[] 0 hD0 (by decide) rfl).drew ⟨bt, ot, none⟩ T.length cp (cellsT T) rfl hcl HCC.out (cellsT_one T) hb1 hb2 hD1 ?_; intro v3 w3 r1 r2; obtain ⟨g3, cap3, rfl, hv3, hrow3, hown3, hnew3, hk3, hb3, hs3⟩ := cop_inner hD0 hv hrow hown hne hTl r1 r2; have hc3 := hv3.cell; have hvl3 := hv3.lt; clear r1 r2)
            refine hK _ _ ?_
            clear hK K
            refine wpAnyIn_ready (rs := [4]) (by kernel_rfl) (by simp) ?_
            refine AllReadyIn.cons rfl (fun K hK => ?_) ?_
            · go_simp
              refine hK _ _ ?_
              clear hK K
              refine wpAnyIn_ready (rs := [5]) (by kernel_rfl) (by simp) ?_
              refine AllReadyIn.cons rfl (fun K hK => ?_) ?_
              · (refine stepIn_append rfl (.tmp 7) (.tmp 11) 50 rfl w.heap.size 23 i0 _ 1 24 Tryz.underlying50 hi hz0 hz1 hz2 rfl (by decide) _ Q.length (Q.map (·.1)) rfl (hrow3.alloc _) ⟨w3.heap.size, 0, none⟩ 1 1 [.slice (some ⟨g3, 0, none⟩) T.length cap3] rfl rfl (cell_one_new _ _ _) (by simp [Value.oneCell']) hb4 hb5 (by simp; omega) ?_; intro v5 w5 r1 r2; obtain ⟨g5, cap5, rfl⟩ := ownsRow_succ r1; obtain ⟨hv5, hv6, hr6, hk6, hb6⟩ := hv3.appended (by decide) hrow3 (Nat.le_trans hD0 hs3) (Nat.le_refl _) r1 r2; have hc5 := hv5.cell; have hf5 := hv5.frozen)
                refine hK _ _ ?_
                clear hK K
                refine wpAnyIn_ready (rs := [6]) (by kernel_rfl) (by simp) ?_
                refine AllReadyIn.cons rfl (fun K hK => ?_) ?_
                · go_simp
                  refine hK _ _ ?_
                  clear hK K
                  refine wpAnyIn_done (by kernel_rfl) ?_ _
                  (gi_wp2; exact ⟨(hk3.trans hk6).from _, hb3.trans hb6, cop_rel (T := T) hB hb3 hb6 hv6 hr6 rfl hq (cop_outer hrow3 hown3 hnew3 r2 hv5) List.map_append⟩)
                exact AllReadyIn.nil
              exact AllReadyIn.nil
            exact AllReadyIn.nil
          exact AllReadyIn.nil
        exact AllReadyIn.nil
      refine AllReadyIn.cons rfl (fun K hK => ?_) ?_
      · go_simp
        refine hK _ _ ?_
        clear hK K
        refine wpAnyIn_ready (rs := [1]) (by kernel_rfl) (by simp) ?_
        refine AllReadyIn.cons rfl (fun K hK => ?_) ?_
        · go_simp
          refine hK _ _ ?_
          clear hK K
          refine wpAnyIn_ready (rs := [3]) (by kernel_rfl) (by simp) ?_
          refine AllReadyIn.cons rfl (fun K hK => ?_) ?_
          · (refine stepIn_append rfl (.tmp 8) (.tmp 9) 23 rfl w.heap.size 37 i3 _ 3 32 Tryz.underlying23 hi3 hy0 hy1 hy2 rfl (by decide) _ 0 [] rfl (World.ownsRow_lit W #[] 0 hD0 (by decide) rfl).drew ⟨bt, ot, none⟩ T.length cp (cellsT T) rfl hcl HCC.out (cellsT_one T) hb1 hb2 hD1 ?_; intro v3 w3 r1 r2; obtain ⟨g3, cap3, rfl, hv3, hrow3, hown3, hnew3, hk3, hb3, hs3⟩ := cop_inner hD0 hv hrow hown hne hTl r1 r2; have hc3 := hv3.cell; have hvl3 := hv3.lt; clear r1 r2)
            refine hK _ _ ?_
            clear hK K
            refine wpAnyIn_ready (rs := [4]) (by kernel_rfl) (by simp) ?_
            refine AllReadyIn.cons rfl (fun K hK => ?_) ?_
            · go_simp
              refine hK _ _ ?_
              clear hK K
              refine wpAnyIn_ready (rs := [5]) (by kernel_rfl) (by simp) ?_
              refine AllReadyIn.cons rfl (fun K hK => ?_) ?_
              · (refine stepIn_append rfl (.tmp 7) (.tmp 11) 50 rfl w.heap.size 23 i0 _ 1 24 Tryz.underlying50 hi hz0 hz1 hz2 rfl (by decide) _ Q.length (Q.map (·.1)) rfl (hrow3.alloc _) ⟨w3.heap.size, 0, none⟩ 1 1 [.slice (some ⟨g3, 0, none⟩) T.length cap3] rfl rfl (cell_one_new _ _ _) (by simp [Value.oneCell']) hb4 hb5 (by simp; omega) ?_; intro v5 w5 r1 r2; obtain ⟨g5, cap5, rfl⟩ := ownsRow_succ r1; obtain ⟨hv5, hv6, hr6, hk6, hb6⟩ := hv3.appended (by decide) hrow3 (Nat.le_trans hD0 hs3) (Nat.le_refl _) r1 r2; have hc5 := hv5.cell; have hf5 := hv5.frozen)
                refine hK _ _ ?_
                clear hK K
                refine wpAnyIn_ready (rs := [6]) (by kernel_rfl) (by simp) ?_
                refine AllReadyIn.cons rfl (fun K hK => ?_) ?_
                · go_simp
                  refine hK _ _ ?_
                  clear hK K
                  refine wpAnyIn_done (by kernel_rfl) ?_ _
                  (gi_wp2; exact ⟨(hk3.trans hk6).from _, hb3.trans hb6, cop_rel (T := T) hB hb3 hb6 hv6 hr6 rfl hq (cop_outer hrow3 hown3 hnew3 r2 hv5) List.map_append⟩)
                exact AllReadyIn.nil
              exact AllReadyIn.nil
            exact AllReadyIn.nil
          exact AllReadyIn.nil
        exact AllReadyIn.nil
      exact AllReadyIn.nil
    refine AllReadyIn.cons rfl (fun K hK => ?_) ?_
    · go_simp
      refine hK _ _ ?_
      clear hK K
      refine wpAnyIn_ready (rs := [0, 2]) (by kernel_rfl) (by simp) ?_
      refine AllReadyIn.cons rfl (fun K hK => ?_) ?_
      · go_simp
        refine hK _ _ ?_
        clear hK K
        refine wpAnyIn_ready (rs := [2]) (by kernel_rfl) (by simp) ?_
        refine AllReadyIn.cons rfl (fun K hK => ?_) ?_
        · go_simp
          refine hK _ _ ?_
          clear hK K
          refine wpAnyIn_ready (rs := [3]) (by kernel_rfl) (by simp) ?_
          refine AllReadyIn.cons rfl (fun K hK => ?_) ?_
          · (refine stepIn_append rfl (.tmp 8) (.tmp 9) 23 rfl w.heap.size 37 i3 _ 3 32 Tryz.underlying23 hi3 hy0 hy1 hy2 rfl (by decide) _ 0 [] rfl (World.ownsRow_lit W #[] 0 hD0 (by decide) rfl).drew ⟨bt, ot, none⟩ T.length cp (cellsT T) rfl hcl HCC.out (cellsT_one T) hb1 hb2 hD1 ?_; intro v3 w3 r1 r2; obtain ⟨g3, cap3, rfl, hv3, hrow3, hown3, hnew3, hk3, hb3, hs3⟩ := cop_inner hD0 hv hrow hown hne hTl r1 r2; have hc3 := hv3.cell; have hvl3 := hv3.lt; clear r1 r2)
            refine hK _ _ ?_
            clear hK K
            refine wpAnyIn_ready (rs := [4]) (by kernel_rfl) (by simp) ?_
            refine AllReadyIn.cons rfl (fun K hK => ?_) ?_
            · go_simp
              refine hK _ _ ?_
              clear hK K
              refine wpAnyIn_ready (rs := [5]) (by kernel_rfl) (by simp) ?_
              refine AllReadyIn.cons rfl (fun K hK => ?_) ?_
              · (refine stepIn_append rfl (.tmp 7) (.tmp 11) 50 rfl w.heap.size 23 i0 _ 1 24 Tryz.underlying50 hi hz0 hz1 hz2 rfl (by decide) _ Q.length (Q.map (·.1)) rfl (hrow3.alloc _) ⟨w3.heap.size, 0, none⟩ 1 1 [.slice (some ⟨g3, 0, none⟩) T.length cap3] rfl rfl (cell_one_new _ _ _) (by simp [Value.oneCell']) hb4 hb5 (by simp; omega) ?_; intro v5 w5 r1 r2; obtain ⟨g5, cap5, rfl⟩ := ownsRow_succ r1; obtain ⟨hv5, hv6, hr6, hk6, hb6⟩ := hv3.appended (by decide) hrow3 (Nat.le_trans hD0 hs3) (Nat.le_refl _) r1 r2; have hc5 := hv5.cell; have hf5 := hv5.frozen)
                refine hK _ _ ?_
                clear hK K
                refine wpAnyIn_ready (rs := [6]) (by kernel_rfl) (by simp) ?_
                refine AllReadyIn.cons rfl (fun K hK => ?_) ?_
                · go_simp
                  refine hK _ _ ?_
                  clear hK K
                  refine wpAnyIn_done (by kernel_rfl) ?_ _
                  (gi_wp2; exact ⟨(hk3.trans hk6).from _, hb3.trans hb6, cop_rel (T := T) hB hb3 hb6 hv6 hr6 rfl hq (cop_outer hrow3 hown3 hnew3 r2 hv5) List.map_append⟩)
                exact AllReadyIn.nil
              exact AllReadyIn.nil
            exact AllReadyIn.nil
          exact AllReadyIn.nil
        exact AllReadyIn.nil
      refine AllReadyIn.cons rfl (fun K hK => ?_) ?_
      · go_simp
        refine hK _ _ ?_
        clear hK K
        refine wpAnyIn_ready (rs := [0, 3]) (by kernel_rfl) (by simp) ?_
        refine AllReadyIn.cons rfl (fun K hK => ?_) ?_
        · go_simp
          refine hK _ _ ?_
          clear hK K
          refine wpAnyIn_ready (rs := [3]) (by kernel_rfl) (by simp) ?_
          refine AllReadyIn.cons rfl (fun K hK => ?_) ?_
          · (refine stepIn_append rfl (.tmp 8) (.tmp 9) 23 rfl w.heap.size 37 i3 _ 3 32 Tryz.underlying23 hi3 hy0 hy1 hy2 rfl (by decide) _ 0 [] rfl (World.ownsRow_lit W #[] 0 hD0 (by decide) rfl).drew ⟨bt, ot, none⟩ T.length cp (cellsT T) rfl hcl HCC.out (cellsT_one T) hb1 hb2 hD1 ?_; intro v3 w3 r1 r2; obtain ⟨g3, cap3, rfl, hv3, hrow3, hown3, hnew3, hk3, hb3, hs3⟩ := cop_inner hD0 hv hrow hown hne hTl r1 r2; have hc3 := hv3.cell; have hvl3 := hv3.lt; clear r1 r2)
            refine hK _ _ ?_
            clear hK K
            refine wpAnyIn_ready (rs := [4]) (by kernel_rfl) (by simp) ?_
            refine AllReadyIn.cons rfl (fun K hK => ?_) ?_
            · go_simp
              refine hK _ _ ?_
              clear hK K
              refine wpAnyIn_ready (rs := [5]) (by kernel_rfl) (by simp) ?_
              refine AllReadyIn.cons rfl (fun K hK => ?_) ?_
              · (refine stepIn_append rfl (.tmp 7) (.tmp 11) 50 rfl w.heap.size 23 i0 _ 1 24 Tryz.underlying50 hi hz0 hz1 hz2 rfl (by decide) _ Q.length (Q.map (·.1)) rfl (hrow3.alloc _) ⟨w3.heap.size, 0, none⟩ 1 1 [.slice (some ⟨g3, 0, none⟩) T.length cap3] rfl rfl (cell_one_new _ _ _) (by simp [Value.oneCell']) hb4 hb5 (by simp; omega) ?_; intro v5 w5 r1 r2; obtain ⟨g5, cap5, rfl⟩ := ownsRow_succ r1; obtain ⟨hv5, hv6, hr6, hk6, hb6⟩ := hv3.appended (by decide) hrow3 (Nat.le_trans hD0 hs3) (Nat.le_refl _) r1 r2; have hc5 := hv5.cell; have hf5 := hv5.frozen)
                refine hK _ _ ?_
                clear hK K
                refine wpAnyIn_ready (rs := [6]) (by kernel_rfl) (by simp) ?_
                refine AllReadyIn.cons rfl (fun K hK => ?_) ?_
                · go_simp
                  refine hK _ _ ?_
                  clear hK K
                  refine wpAnyIn_done (by kernel_rfl) ?_ _
                  (gi_wp2; exact ⟨(hk3.trans hk6).from _, hb3.trans hb6, cop_rel (T := T) hB hb3 hb6 hv6 hr6 rfl hq (cop_outer hrow3 hown3 hnew3 r2 hv5) List.map_append⟩)
                exact AllReadyIn.nil
              exact AllReadyIn.nil
            exact AllReadyIn.nil
          exact AllReadyIn.nil
        refine AllReadyIn.cons rfl (fun K hK => ?_) ?_
        · (refine stepIn_append rfl (.tmp 8) (.tmp 9) 23 rfl w.heap.size 37 i3 _ 3 32 Tryz.underlying23 hi3 hy0 hy1 hy2 rfl (by decide) _ 0 [] rfl (World.ownsRow_lit W #[] 0 hD0 (by decide) rfl).drew ⟨bt, ot, none⟩ T.length cp (cellsT T) rfl hcl HCC.out (cellsT_one T) hb1 hb2 hD1 ?_; intro v3 w3 r1 r2; obtain ⟨g3, cap3, rfl, hv3, hrow3, hown3, hnew3, hk3, hb3, hs3⟩ := cop_inner hD0 hv hrow hown hne hTl r1 r2; have hc3 := hv3.cell; have hvl3 := hv3.lt; clear r1 r2)
          refine hK _ _ ?_
          clear hK K
          refine wpAnyIn_ready (rs := [0, 4]) (by kernel_rfl) (by simp) ?_
          refine AllReadyIn.cons rfl (fun K hK => ?_) ?_
          · go_simp
            refine hK _ _ ?_
            clear hK K
            refine wpAnyIn_ready (rs := [4]) (by kernel_rfl) (by simp) ?_
            refine AllReadyIn.cons rfl (fun K hK => ?_) ?_
            · go_simp
              refine hK _ _ ?_
              clear hK K
              refine wpAnyIn_ready (rs := [5]) (by kernel_rfl) (by simp) ?_
              refine AllReadyIn.cons rfl (fun K hK => ?_) ?_
              · (refine stepIn_append rfl (.tmp 7) (.tmp 11) 50 rfl w.heap.size 23 i0 _ 1 24 Tryz.underlying50 hi hz0 hz1 hz2 rfl (by decide) _ Q.length (Q.map (·.1)) rfl (hrow3.alloc _) ⟨w3.heap.size, 0, none⟩ 1 1 [.slice (some ⟨g3, 0, none⟩) T.length cap3] rfl rfl (cell_one_new _ _ _) (by simp [Value.oneCell']) hb4 hb5 (by simp; omega) ?_; intro v5 w5 r1 r2; obtain ⟨g5, cap5, rfl⟩ := ownsRow_succ r1; obtain ⟨hv5, hv6, hr6, hk6, hb6⟩ := hv3.appended (by decide) hrow3 (Nat.le_trans hD0 hs3) (Nat.le_refl _) r1 r2; have hc5 := hv5.cell; have hf5 := hv5.frozen)
                refine hK _ _ ?_
                clear hK K
                refine wpAnyIn_ready (rs := [6]) (by kernel_rfl) (by simp) ?_
                refine AllReadyIn.cons rfl (fun K hK => ?_) ?_
                · go_simp
                  refine hK _ _ ?_
                  clear hK K
                  refine wpAnyIn_done (by kernel_rfl) ?_ _
                  (gi_wp2; exact ⟨(hk3.trans hk6).from _, hb3.trans hb6, cop_rel (T := T) hB hb3 hb6 hv6 hr6 rfl hq (cop_outer hrow3 hown3 hnew3 r2 hv5) List.map_append⟩)
                exact AllReadyIn.nil
              exact AllReadyIn.nil
            exact AllReadyIn.nil
          refine AllReadyIn.cons rfl (fun K hK => ?_) ?_
          · go_simp
            refine hK _ _ ?_
            clear hK K
            refine wpAnyIn_ready (rs := [0]) (by kernel_rfl) (by simp) ?_
            refine AllReadyIn.cons rfl (fun K hK => ?_) ?_
            · go_simp
              refine hK _ _ ?_
              clear hK K
              refine wpAnyIn_ready (rs := [5]) (by kernel_rfl) (by simp) ?_
              refine AllReadyIn.cons rfl (fun K hK => ?_) ?_
              · (refine stepIn_append rfl (.tmp 7) (.tmp 11) 50 rfl w.heap.size 23 i0 _ 1 24 Tryz.underlying50 hi hz0 hz1 hz2 rfl (by decide) _ Q.length (Q.map (·.1)) rfl (hrow3.alloc _) ⟨w3.heap.size, 0, none⟩ 1 1 [.slice (some ⟨g3, 0, none⟩) T.length cap3] rfl rfl (cell_one_new _ _ _) (by simp [Value.oneCell']) hb4 hb5 (by simp; omega) ?_; intro v5 w5 r1 r2; obtain ⟨g5, cap5, rfl⟩ := ownsRow_succ r1; obtain ⟨hv5, hv6, hr6, hk6, hb6⟩ := hv3.appended (by decide) hrow3 (Nat.le_trans hD0 hs3) (Nat.le_refl _) r1 r2; have hc5 := hv5.cell; have hf5 := hv5.frozen)
                refine hK _ _ ?_
                clear hK K
                refine wpAnyIn_ready (rs := [6]) (by kernel_rfl) (by simp) ?_
                refine AllReadyIn.cons rfl (fun K hK => ?_) ?_
                · go_simp
                  refine hK _ _ ?_
                  clear hK K
                  refine wpAnyIn_done (by kernel_rfl) ?_ _
                  (gi_wp2; exact ⟨(hk3.trans hk6).from _, hb3.trans hb6, cop_rel (T := T) hB hb3 hb6 hv6 hr6 rfl hq (cop_outer hrow3 hown3 hnew3 r2 hv5) List.map_append⟩)
                exact AllReadyIn.nil
              exact AllReadyIn.nil
            exact AllReadyIn.nil
          exact AllReadyIn.nil
        exact AllReadyIn.nil
      exact AllReadyIn.nil
    refine AllReadyIn.cons rfl (fun K hK => ?_) ?_
    · go_simp
      refine hK _ _ ?_
      clear hK K
      refine wpAnyIn_ready (rs := [0, 1]) (by kernel_rfl) (by simp) ?_
      refine AllReadyIn.cons rfl (fun K hK => ?_) ?_
      · go_simp
        refine hK _ _ ?_
        clear hK K
        refine wpAnyIn_ready (rs := [1]) (by kernel_rfl) (by simp) ?_
        refine AllReadyIn.cons rfl (fun K hK => ?_) ?_
        · go_simp
          refine hK _ _ ?_
          clear hK K
          refine wpAnyIn_ready (rs := [3]) (by kernel_rfl) (by simp) ?_
          refine AllReadyIn.cons rfl (fun K hK => ?_) ?_
          · (refine stepIn_append rfl (.tmp 8) (.tmp 9) 23 rfl w.heap.size 37 i3 _ 3 32 Tryz.underlying23 hi3 hy0 hy1 hy2 rfl (by decide) _ 0 [] rfl (World.ownsRow_lit W #[] 0 hD0 (by decide) rfl).drew ⟨bt, ot, none⟩ T.length cp (cellsT T) rfl hcl HCC.out (cellsT_one T) hb1 hb2 hD1 ?_; intro v3 w3 r1 r2; obtain ⟨g3, cap3, rfl, hv3, hrow3, hown3, hnew3, hk3, hb3, hs3⟩ := cop_inner hD0 hv hrow hown hne hTl r1 r2; have hc3 := hv3.cell; have hvl3 := hv3.lt; clear r1 r2)
            refine hK _ _ ?_
            clear hK K
            refine wpAnyIn_ready (rs := [4]) (by kernel_rfl) (by simp) ?_
            refine AllReadyIn.cons rfl (fun K hK => ?_) ?_
            · go_simp
              refine hK _ _ ?_
              clear hK K
              refine wpAnyIn_ready (rs := [5]) (by kernel_rfl) (by simp) ?_
              refine AllReadyIn.cons rfl (fun K hK => ?_) ?_
              · (refine stepIn_append rfl (.tmp 7) (.tmp 11) 50 rfl w.heap.size 23 i0 _ 1 24 Tryz.underlying50 hi hz0 hz1 hz2 rfl (by decide) _ Q.length (Q.map (·.1)) rfl (hrow3.alloc _) ⟨w3.heap.size, 0, none⟩ 1 1 [.slice (some ⟨g3, 0, none⟩) T.length cap3] rfl rfl (cell_one_new _ _ _) (by simp [Value.oneCell']) hb4 hb5 (by simp; omega) ?_; intro v5 w5 r1 r2; obtain ⟨g5, cap5, rfl⟩ := ownsRow_succ r1; obtain ⟨hv5, hv6, hr6, hk6, hb6⟩ := hv3.appended (by decide) hrow3 (Nat.le_trans hD0 hs3) (Nat.le_refl _) r1 r2; have hc5 := hv5.cell; have hf5 := hv5.frozen)
                refine hK _ _ ?_
                clear hK K
                refine wpAnyIn_ready (rs := [6]) (by kernel_rfl) (by simp) ?_
                refine AllReadyIn.cons rfl (fun K hK => ?_) ?_
                · go_simp
                  refine hK _ _ ?_
                  clear hK K
                  refine wpAnyIn_done (by kernel_rfl) ?_ _
                  (gi_wp2; exact ⟨(hk3.trans hk6).from _, hb3.trans hb6, cop_rel (T := T) hB hb3 hb6 hv6 hr6 rfl hq (cop_outer hrow3 hown3 hnew3 r2 hv5) List.map_append⟩)
                exact AllReadyIn.nil
              exact AllReadyIn.nil
            exact AllReadyIn.nil
          exact AllReadyIn.nil
        exact AllReadyIn.nil
      refine AllReadyIn.cons rfl (fun K hK => ?_) ?_
      · go_simp
        refine hK _ _ ?_
        clear hK K
        refine wpAnyIn_ready (rs := [0, 3]) (by kernel_rfl) (by simp) ?_
        refine AllReadyIn.cons rfl (fun K hK => ?_) ?_
        · go_simp
          refine hK _ _ ?_
          clear hK K
          refine wpAnyIn_ready (rs := [3]) (by kernel_rfl) (by simp) ?_
          refine AllReadyIn.cons rfl (fun K hK => ?_) ?_
          · (refine stepIn_append rfl (.tmp 8) (.tmp 9) 23 rfl w.heap.size 37 i3 _ 3 32 Tryz.underlying23 hi3 hy0 hy1 hy2 rfl (by decide) _ 0 [] rfl (World.ownsRow_lit W #[] 0 hD0 (by decide) rfl).drew ⟨bt, ot, none⟩ T.length cp (cellsT T) rfl hcl HCC.out (cellsT_one T) hb1 hb2 hD1 ?_; intro v3 w3 r1 r2; obtain ⟨g3, cap3, rfl, hv3, hrow3, hown3, hnew3, hk3, hb3, hs3⟩ := cop_inner hD0 hv hrow hown hne hTl r1 r2; have hc3 := hv3.cell; have hvl3 := hv3.lt; clear r1 r2)
            refine hK _ _ ?_
            clear hK K
            refine wpAnyIn_ready (rs := [4]) (by kernel_rfl) (by simp) ?_
            refine AllReadyIn.cons rfl (fun K hK => ?_) ?_
            · go_simp
              refine hK _ _ ?_
              clear hK K
              refine wpAnyIn_ready (rs := [5]) (by kernel_rfl) (by simp) ?_
              refine AllReadyIn.cons rfl (fun K hK => ?_) ?_
              · (refine stepIn_append rfl (.tmp 7) (.tmp 11) 50 rfl w.heap.size 23 i0 _ 1 24 Tryz.underlying50 hi hz0 hz1 hz2 rfl (by decide) _ Q.length (Q.map (·.1)) rfl (hrow3.alloc _) ⟨w3.heap.size, 0, none⟩ 1 1 [.slice (some ⟨g3, 0, none⟩) T.length cap3] rfl rfl (cell_one_new _ _ _) (by simp [Value.oneCell']) hb4 hb5 (by simp; omega) ?_; intro v5 w5 r1 r2; obtain ⟨g5, cap5, rfl⟩ := ownsRow_succ r1; obtain ⟨hv5, hv6, hr6, hk6, hb6⟩ := hv3.appended (by decide) hrow3 (Nat.le_trans hD0 hs3) (Nat.le_refl _) r1 r2; have hc5 := hv5.cell; have hf5 := hv5.frozen)
                refine hK _ _ ?_
                clear hK K
                refine wpAnyIn_ready (rs := [6]) (by kernel_rfl) (by simp) ?_
                refine AllReadyIn.cons rfl (fun K hK => ?_) ?_
                · go_simp
                  refine hK _ _ ?_
                  clear hK K
                  refine wpAnyIn_done (by kernel_rfl) ?_ _
                  (gi_wp2; exact ⟨(hk3.trans hk6).from _, hb3.trans hb6, cop_rel (T := T) hB hb3 hb6 hv6 hr6 rfl hq (cop_outer hrow3 hown3 hnew3 r2 hv5) List.map_append⟩)
                exact AllReadyIn.nil
              exact AllReadyIn.nil
            exact AllReadyIn.nil
          exact AllReadyIn.nil
        refine AllReadyIn.cons rfl (fun K hK => ?_) ?_
        · (refine stepIn_append rfl (.tmp 8) (.tmp 9) 23 rfl w.heap.size 37 i3 _ 3 32 Tryz.underlying23 hi3 hy0 hy1 hy2 rfl (by decide) _ 0 [] rfl (World.ownsRow_lit W #[] 0 hD0 (by decide) rfl).drew ⟨bt, ot, none⟩ T.length cp (cellsT T) rfl hcl HCC.out (cellsT_one T) hb1 hb2 hD1 ?_; intro v3 w3 r1 r2; obtain ⟨g3, cap3, rfl, hv3, hrow3, hown3, hnew3, hk3, hb3, hs3⟩ := cop_inner hD0 hv hrow hown hne hTl r1 r2; have hc3 := hv3.cell; have hvl3 := hv3.lt; clear r1 r2)
          refine hK _ _ ?_
          clear hK K
          refine wpAnyIn_ready (rs := [0, 4]) (by kernel_rfl) (by simp) ?_
          refine AllReadyIn.cons rfl (fun K hK => ?_) ?_
          · go_simp
            refine hK _ _ ?_
            clear hK K
            refine wpAnyIn_ready (rs := [4]) (by kernel_rfl) (by simp) ?_
            refine AllReadyIn.cons rfl (fun K hK => ?_) ?_
            · go_simp
              refine hK _ _ ?_
              clear hK K
              refine wpAnyIn_ready (rs := [5]) (by kernel_rfl) (by simp) ?_
              refine AllReadyIn.cons rfl (fun K hK => ?_) ?_
              · (refine stepIn_append rfl (.tmp 7) (.tmp 11) 50 rfl w.heap.size 23 i0 _ 1 24 Tryz.underlying50 hi hz0 hz1 hz2 rfl (by decide) _ Q.length (Q.map (·.1)) rfl (hrow3.alloc _) ⟨w3.heap.size, 0, none⟩ 1 1 [.slice (some ⟨g3, 0, none⟩) T.length cap3] rfl rfl (cell_one_new _ _ _) (by simp [Value.oneCell']) hb4 hb5 (by simp; omega) ?_; intro v5 w5 r1 r2; obtain ⟨g5, cap5, rfl⟩ := ownsRow_succ r1; obtain ⟨hv5, hv6, hr6, hk6, hb6⟩ := hv3.appended (by decide) hrow3 (Nat.le_trans hD0 hs3) (Nat.le_refl _) r1 r2; have hc5 := hv5.cell; have hf5 := hv5.frozen)
                refine hK _ _ ?_
                clear hK K
                refine wpAnyIn_ready (rs := [6]) (by kernel_rfl) (by simp) ?_
                refine AllReadyIn.cons rfl (fun K hK => ?_) ?_
                · go_simp
                  refine hK _ _ ?_
                  clear hK K
                  refine wpAnyIn_done (by kernel_rfl) ?_ _
                  (gi_wp2; exact ⟨(hk3.trans hk6).from _, hb3.trans hb6, cop_rel (T := T) hB hb3 hb6 hv6 hr6 rfl hq (cop_outer hrow3 hown3 hnew3 r2 hv5) List.map_append⟩)
                exact AllReadyIn.nil
              exact AllReadyIn.nil
            exact AllReadyIn.nil
          refine AllReadyIn.cons rfl (fun K hK => ?_) ?_
          · go_simp
            refine hK _ _ ?_
            clear hK K
            refine wpAnyIn_ready (rs := [0]) (by kernel_rfl) (by simp) ?_
            refine AllReadyIn.cons rfl (fun K hK => ?_) ?_
            · go_simp
              refine hK _ _ ?_
              clear hK K
              refine wpAnyIn_ready (rs := [5]) (by kernel_rfl) (by simp) ?_
              refine AllReadyIn.cons rfl (fun K hK => ?_) ?_
              · (refine stepIn_append rfl (.tmp 7) (.tmp 11) 50 rfl w.heap.size 23 i0 _ 1 24 Tryz.underlying50 hi hz0 hz1 hz2 rfl (by decide) _ Q.length (Q.map (·.1)) rfl (hrow3.alloc _) ⟨w3.heap.size, 0, none⟩ 1 1 [.slice (some ⟨g3, 0, none⟩) T.length cap3] rfl rfl (cell_one_new _ _ _) (by simp [Value.oneCell']) hb4 hb5 (by simp; omega) ?_; intro v5 w5 r1 r2; obtain ⟨g5, cap5, rfl⟩ := ownsRow_succ r1; obtain ⟨hv5, hv6, hr6, hk6, hb6⟩ := hv3.appended (by decide) hrow3 (Nat.le_trans hD0 hs3) (Nat.le_refl _) r1 r2; have hc5 := hv5.cell; have hf5 := hv5.frozen)
                refine hK _ _ ?_
                clear hK K
                refine wpAnyIn_ready (rs := [6]) (by kernel_rfl) (by simp) ?_
                refine AllReadyIn.cons rfl (fun K hK => ?_) ?_
                · go_simp
                  refine hK _ _ ?_
                  clear hK K
                  refine wpAnyIn_done (by kernel_rfl) ?_ _
                  (gi_wp2; exact ⟨(hk3.trans hk6).from _, hb3.trans hb6, cop_rel (T := T) hB hb3 hb6 hv6 hr6 rfl hq (cop_outer hrow3 hown3 hnew3 r2 hv5) List.map_append⟩)
                exact AllReadyIn.nil
              exact AllReadyIn.nil
            exact AllReadyIn.nil
          exact AllReadyIn.nil
        exact AllReadyIn.nil
      exact AllReadyIn.nil
    exact AllReadyIn.nil

  case done =>
    rintro D ys W hD rfl ⟨⟨v, Q, hv, hrow, hq, hown⟩, hB⟩ hK
    have hc := hv.cell
    gi_wp2
    refine ⟨by simp, .inl ⟨_, _, rfl, run_takeDeferred hK, ?_⟩⟩
    exact ⟨_, results_tmp rfl _ _ _, v, Q, rfl, ownsRow_putObj hrow _ hK rfl, hq, fun y hy => ⟨ownsRow_putObj (hown y hy).1 _ hK rfl, (hown y hy).2⟩, hB.trans (belowK_b (w := w) (Nat.le_refl _) W D _ _ (by simp at hD; omega) hK rfl rfl)⟩
  case stop =>
    rintro D c pre W _ _ h _
    exact h.elim
end Go.Proofs.YtdfepeeicbpicaaGreatDoor

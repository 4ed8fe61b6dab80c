/-
  Contract of tuple.copies at any iterator: each tuple that comes, in memory of its own.
-/
import Derived.Test.YtaogfgohchpnoaaDoorTupW
import Derived.Test.YtaogfgohchpnoaaDoorTupO
import Derived.RangeFuncBox
import Derived.RangeFuncLeaves
import Derived.RangeFuncCalls
import Derived.Shelf.Abstract
import Derived.OwnWalkIn
import Derived.TacticsInMore
import Derived.LoopNIn
import Derived.LoopIn
namespace Go.Proofs.YtaogfgohchpnoaaDoor
open Go Go.RowKit Go.Shelf

attribute [local go_sem] Oper.semAt_some

/-- A range over a function with no capture but lb, at the outermost: the function's contract at a record that is laid behind a block for deferred calls. -/
theorem range_wide {f : Nat} {P : Program} {g : Operand} {ps : Array Tmp} {assign body : Code} {Q : Exit → Act → World → Prop} {a : Act} {w : World} {gf : Nat} {lb : Array Value}
    (hg : a.eval g = .func (.func gf) #[] lb) (eg : ∀ args w, (callFunc gf args).run P w = .ok (.enter gf args) w)
    (h : ∀ r : Loop, r.state = .ready → r.pending = none → r.params = ps → r.tmps = a.tmps → r.assign = assign → r.body = body →
      CallsIn Fence.wide (f - 1) P gf (#[.func (.yield (w.heap.size + 1)) #[] #[]] ++ lb) ((w.alloc (.deferred (some []))).alloc (.loop r)) fun e w' => (∃ v, e = .returned v) ∧ w'.heap[w.heap.size + 1]? = some (.loop r) ∧
        Q .normal { a with defers := { target := .collected w.heap.size, args := #[] } :: a.defers } (w'.putObj (w.heap.size + 1) (.loop { r with state := .exhausted }))) :
    (Code.rangeFunc g ps assign body).wpIn Fence.wide f P Q a w := by
  refine wpIn_rangeFunc fun fn hfn => ?_
  obtain ⟨r, hr⟩ : ∃ r : Loop, r = { state := .ready, pending := none, fn := fn, tmps := a.tmps, params := ps, assign := assign, body := body, defers := w.heap.size } := ⟨_, rfl⟩
  have hc := h r (by rw [hr]) (by rw [hr]) (by rw [hr]) (by rw [hr]) (by rw [hr]) (by rw [hr])
  refine ⟨w.heap.size + 1, [{ target := .collected w.heap.size, args := #[] }], (w.alloc (.deferred (some []))).alloc (.loop r), { target := .fn (.func gf) lb, args := #[.func (.yield (w.heap.size + 1)) #[] #[]] }, (w.alloc (.deferred (some []))).alloc (.loop r), gf, #[.func (.yield (w.heap.size + 1)) #[] #[]] ++ lb, (w.alloc (.deferred (some []))).alloc (.loop r), ?_, ?_, fun _ _ => True.intro, ?_, fun hd => ?_, ?_⟩
  · rw [hr]; exact run_enterLoop_outer _ _ _ _ _
  · simp only [resolve, hg]
    simp [go_sem]
  · simp [invoke, go_sem, eg]
  · cases hd
  · refine hc.mono ?_
    rintro e w' ⟨⟨v, rfl⟩, hl, hQ⟩
    refine ⟨none, _, ?_, hQ⟩
    have := run_endLoop (P := P) hl (by rw [hr]; simp)
    rw [this, hr]
/-- A loop's record while a round is under way. -/
def busyR (r : Loop) : Loop := { r with state := .busy }
/-- How a round may be left: off its end, its record as it was laid. -/
def roundOk (l : Nat) (r : Loop) (R : World → Prop) : Exit → Act → World → Prop
  | .normal, _, W => W.heap[l]? = some (.loop (busyR r)) ∧ R (W.putObj l (.loop r))
  | _, _, _ => False
theorem yield_wide {l f : Nat} {P : Program} {r : Loop} {args : Array Value} {W : World} {R : World → Prop} (hl : W.heap[l]? = some (.loop r)) (hr : r.state = .ready) (hp : r.pending = none) (hs : args.size = r.params.size)
    (h : r.assign.wpIn (Fence.wide.inRound l) f P (Exit.then (fun a₁ W₁ => W₁.heap[l]? = some (.loop r) ∧ r.body.wpIn (Fence.wide.inRound l) f P (roundOk l r R) a₁ (W₁.putObj l (.loop (busyR r)))) (fun _ _ _ => False))
      { tmps := (r.params.zip args).foldl (fun tmps (t, a) => tmps.setIfInBounds t a) r.tmps, defers := [] } W) :
    YieldAt Fence.wide f P l args W fun e W' => e = .returned (.bool true) ∧ R W' := by
  refine ⟨r.fn, _, r.assign, r.body, run_yield hl hs, roundIn_of_wpIn trivial (wpIn_mono h ?_)⟩
  rintro e a W1 hq
  cases e with
  | normal =>
    obtain ⟨hl1, hb⟩ := hq
    refine ⟨_, run_beginRound hl1 hr, wpIn_mono hb ?_⟩
    rintro e a W3 hq
    cases e with
    | normal =>
      obtain ⟨hl3, hR⟩ := hq
      refine ⟨_, _, run_endRound none hl3, rfl, ?_⟩
      have e : ({ busyR r with state := if (none : Option Code).isNone then LoopState.ready else LoopState.done, pending := none } : Loop) = r := by
        obtain ⟨s, p, _, _, _, _, _, _⟩ := r
        simp only at hr hp
        rw [hr, hp]
        rfl
      exact e ▸ hR
    | _ => exact hq.elim
  | _ => exact hq.elim


/-- A tuple of the call's own. -/
def OwnU (D : Nat) (W : World) (y : Value × List V3) : Prop := OwnR D W y.1 y.2 ∧ y.2.length ≤ 1000000
theorem own_below {D : Nat} {w w' : World} {e : TypeId} {s : Nat} {v : Value} {n : Nat} {xs : List Value} (h : w.ownsRow D e s v n xs) (hb : Below w.heap.size w w') : w'.ownsRow D e s v n xs := by
  refine ⟨h.1, ?_⟩
  rcases h.2 with hn | ⟨g, cap, cur, rfl, hB, hg, rest⟩
  · exact .inl hn
  · exact .inr ⟨g, cap, cur, rfl, hB, (hb.block g (Array.getElem?_eq_some_iff.1 hg).1).trans hg, rest⟩
theorem OwnR.drew_ {B : Nat} {w : World} {v : Value} {T : List V3} (h : OwnR B w v T) : OwnR B w.drew v T := h
theorem TupIn.on_ {W : World} {v : Value} {T : List V3} (h : TupIn W.heap.size W v T) (o : Obj) : TupIn W.heap.size (W.alloc o).drew v T := by
  have h' := h.below (below_new W o)
  exact h'
theorem tup_put {n₀ l : Nat} {W : World} {v : Value} {T : List V3} {r r' : Loop} (h : TupIn n₀ W v T) (hl : W.heap[l]? = some (.loop r)) : TupIn n₀ (W.putObj l (.loop r')) v T := by
  obtain ⟨p, cap, rfl, h1, h2⟩ := h
  refine ⟨p, cap, rfl, h1, ?_⟩
  rcases h2 with h2 | ⟨b, off, rfl, hb, hc⟩
  · exact .inl h2
  · by_cases hT : T = []
    · exact .inl hT
    · have h0 : 0 < T.length := List.length_pos_iff.2 hT
      have hne : b ≠ l := by
        rintro rfl
        have := (hc 0 h0).1
        simp [World.cell?, hl] at this
      have hbk : ∀ o, (W.putObj l (.loop r')).cell? ⟨b, o, none⟩ = W.cell? ⟨b, o, none⟩ := fun o => World.cell?_of_block (a := ⟨b, o, none⟩) (World.putObj_heap_other hne)
      exact .inr ⟨b, off, rfl, hb, fun j hj => by rw [hbk, hbk, hbk]; exact hc j hj⟩
/-- What the range keeps: the copies in the variable's box, the loop's record, the block of deferred calls. -/
structure CoJ (w0 : World) (B l D : Nat) (r : Loop) (P : List (List V3)) (W : World) : Prop where
  rows : ∃ (v : Value) (Q : List (Value × List V3)), Boxed W B 22 v ∧ W.ownsRow w0.heap.size 33 1 v Q.length (Q.map (·.1)) ∧ Q.map (·.2) = P ∧ ∀ y ∈ Q, OwnU w0.heap.size W y
  loop : W.heap[l]? = some (.loop r)
  defs : W.heap[D]? = some (.deferred (some []))
  below : Below w0.heap.size w0 W
theorem CoJ.keep {w0 : World} {B l D : Nat} {r : Loop} {P : List (List V3)} {A C : World} (h : CoJ w0 B l D r P A) (hb : Below A.heap.size A C) : CoJ w0 B l D r P C := by
  obtain ⟨⟨v, Q, h1, h2, h3, h4⟩, h5, h6, h7⟩ := h
  have k : ∀ {k : Nat} {o : Obj}, A.heap[k]? = some o → C.heap[k]? = some o := fun h => (hb.block _ (Array.getElem?_eq_some_iff.1 h).1).trans h
  exact ⟨⟨v, Q, k h1, own_below h2 hb, h3, fun y hy => ⟨own_below (h4 y hy).1 hb, (h4 y hy).2⟩⟩, k h5, k h6, h7.trans (hb.mono h7.size)⟩
theorem CoJ.put {w0 : World} {B l D : Nat} {r : Loop} {P : List (List V3)} {A : World} (h : CoJ w0 B l D r P A) (r' : Loop) (hl : w0.heap.size ≤ l) : CoJ w0 B l D r' P (A.putObj l (.loop r')) := by
  obtain ⟨⟨v, Q, h1, h2, h3, h4⟩, h5, h6, h7⟩ := h
  have hg := grownBy_putObj' A l (.loop r')
  have hrow : ∀ k, (some l : Option Nat) = some k → ∃ o : Obj, A.heap[k]? = some o ∧ o.isCells = false := fun k e => by cases e; exact ⟨_, h5, rfl⟩
  refine ⟨⟨v, Q, h1.kept hg (fun e => ?_), own_putCells h2 hg hrow, h3, fun y hy => ⟨own_putCells (h4 y hy).1 hg hrow, (h4 y hy).2⟩⟩, World.putObj_heap_same (Array.getElem?_eq_some_iff.1 h5).1, ?_, h7.grown hg h7.size (fun k e => by cases e; exact hl)⟩
  · simp only [Option.some.injEq] at e
    rw [← e] at h5
    rw [show A.heap[B]? = _ from h1] at h5
    cases h5
  · refine (World.putObj_heap_other fun e => ?_).trans h6
    rw [e, h5] at h6
    cases h6
/-- An append of values to a row of the call's own, as a step of a region inside a fence. -/
theorem stepIn_appT {F : Fence} {n : Nat} {w : World} {ops : Array Oper} {o : Oper} {a : Act} {K : Act → World → Prop} {Q : Exit → Act → World → Prop} {E : Prop}
    (hg : o.guard = none) (s x : Operand) (hop : o.op = Op.call { callee := Callee.builtin Builtin.append, args := #[s, x], argTypes := #[33, 33] })
    (B n₀ : Nat) (v vx : Value) (T X : List V3) (hs : a.eval s = v) (hx : a.eval x = vx) (hown : OwnR B w v T) (hin : TupIn n₀ w vx X) (hT : T.length ≤ 1000000) (hB : B ≤ w.heap.size)
    (hK : ∀ v' w', OwnR B w' v' (T ++ X) → w.grownBy w' v.ownBlock → K (a.put o.dst v') w') :
    if Region.wanted o (yielded ops a.tmps) = true then Oper.wpIn F n Tryd.prog o a w K Q else E := by
  have hw : Region.wanted o (yielded ops a.tmps) = true := by simp [Region.wanted, hg]
  obtain ⟨v', w', hrun, r1, r2⟩ := run_appT w B n₀ o.type v vx T X hown hin hT hB
  rw [if_pos hw]
  refine ⟨by simp [Oper.about, hop, resolve, Target.leads, Sem.run_pure], ?_⟩
  rw [Oper.semAt_plain F _ _ (by rw [hop]; intro c hc'; cases hc')]
  simp [execOp, hop, resolve, invoke, builtin, hs, hx, hrun, Result.andThen]
  exact hK _ _ r1 r2
theorem ownR_form {B : Nat} {w : World} {v : Value} {T : List V3} (h : OwnR B w v T) : ∃ p cap, v = .slice p T.length cap := by
  rcases h.2 with ⟨rfl, h0⟩ | ⟨g, cap, cur, rfl, -⟩
  · exact ⟨none, 0, by rw [show T.length = 0 from h0]⟩
  · exact ⟨_, cap, rfl⟩
theorem cop_innerU {D B : Nat} {W w3 : World} {v v3 : Value} {Q : List (Value × List V3)} {T : List V3} (hD : D ≤ W.heap.size) (hv : Boxed W B 22 v) (hrow : W.ownsRow D 33 1 v Q.length (Q.map (·.1))) (ho : ∀ y ∈ Q, OwnU D W y)
    (hT : T.length ≤ 1000000) (r1 : OwnR D w3 v3 ([] ++ T)) (r2 : (W.alloc (.cells #[] 49)).drew.grownBy w3 (Value.ownBlock (.slice (some ⟨W.heap.size, 0, none⟩) 0 0))) :
    ∃ p cap, v3 = .slice p T.length cap ∧ Boxed w3 B 22 v ∧ w3.ownsRow D 33 1 v Q.length (Q.map (·.1)) ∧ (∀ y ∈ Q, OwnU D w3 y) ∧ OwnU D w3 (v3, T) ∧ KeepsOthers W w3 ∧ Below D W w3 ∧ W.heap.size ≤ w3.heap.size := by
  rw [List.nil_append] at r1
  obtain ⟨p, cap, rfl⟩ := ownR_form r1
  have keep : ∀ {b : Nat} {e : TypeId} {s : Nat} {u : Value} {k : Nat} {xs : List Value}, W.ownsRow b e s u k xs → w3.ownsRow b e s u k xs := fun h =>
    ((h.alloc (.cells #[] 49)).drew).kept r2 (by
      rcases hb : Value.ownBlock _ with _ | x
      · exact .inl rfl
      · right
        intro e
        have := (h.lt x hb).2
        simp only [Value.ownBlock, Option.some.injEq] at e
        omega)
  refine ⟨p, cap, rfl, ?_, keep hrow, fun y hy => ⟨keep (ho y hy).1, (ho y hy).2⟩, ⟨r1, hT⟩, ?_, ?_, ?_⟩
  · refine (show Boxed (W.alloc (.cells #[] 49)).drew B _ v from hv.alloc _).kept r2 (fun e => ?_)
    have := hv.lt
    simp only [Value.ownBlock, Option.some.injEq] at e
    omega
  · refine ((KeepsOthers.alloc W (.cells #[] 49)).trans (KeepsOthers.drew _)).trans (KeepsOthers.of_grownBy r2 fun j o ej hj => ?_)
    simp only [Value.ownBlock, Option.some.injEq] at ej
    subst ej
    have : (W.alloc (.cells #[] 49)).drew.heap[W.heap.size]? = some (.cells #[] 49) := World.alloc_heap_new W _
    rw [this] at hj
    cases hj
    rfl
  · exact (((Below.refl D W).alloc hD _).drew).grown r2 (by simp; omega) (fun k hk => by simp only [Value.ownBlock, Option.some.injEq] at hk; omega)
  · have := r2.size
    simp at this
    omega
theorem cop_outerU {D B : Nat} {w3 w5 : World} {v v5 : Value} {Q : List (Value × List V3)} {y0 : Value × List V3} {tmp : Obj} (hrow : w3.ownsRow D 33 1 v Q.length (Q.map (·.1))) (ho : ∀ y ∈ Q, OwnU D w3 y) (hn : OwnU D w3 y0)
    (r2 : (w3.alloc tmp).grownBy w5 v.ownBlock) (hv5 : Boxed w5 B 22 v) : ∀ y ∈ Q ++ [y0], OwnU D (w5.setCell ⟨B, 0, none⟩ v5) y := by
  have keep : ∀ y, OwnU D w3 y → OwnU D (w5.setCell ⟨B, 0, none⟩ v5) y := fun y hy => by
    have h5 := (World.ownsRow.alloc hy.1 tmp).kept r2 (rows_apart hy.1 hrow (by decide))
    exact ⟨own_other h5 B 0 v5 (Ne.symm (hv5.not_row (by decide) h5)), hy.2⟩
  intro y hy
  rcases List.mem_append.1 hy with h | h
  · exact keep y (ho y h)
  · obtain rfl := List.mem_singleton.1 h
    exact keep _ hn
theorem coj_end {w W1 W W6 : World} {B l D : Nat} {r : Loop} {pre : List (List V3)} {T : List V3} {Q : List (Value × List V3)} {v3 v6 : Value} (hJ : CoJ w B l D (busyR r) pre W) (hk : KeepsOthers W W6) (hb : Below w.heap.size W W6) (hv6 : Boxed W6 B 22 v6)
    (hr6 : W6.ownsRow w.heap.size 33 1 v6 (Q.length + 1) (Q.map (·.1) ++ [v3])) (hq : Q.map (·.2) = pre) (hall : ∀ y ∈ Q ++ [(v3, T)], OwnU w.heap.size W6 y) (hl : w.heap.size ≤ l) (h1 : Below w.heap.size W1 W) :
    W6.heap[l]? = some (.loop (busyR r)) ∧ CoJ w B l D r (pre ++ [T]) (W6.putObj l (.loop r)) ∧ Below w.heap.size W1 (W6.putObj l (.loop r)) := by
  have hJ6 : CoJ w B l D (busyR r) (pre ++ [T]) W6 := ⟨⟨v6, Q ++ [(v3, T)], hv6, by simpa using hr6, by simp [hq], hall⟩, hk.same _ _ hJ.loop rfl, hk.same _ _ hJ.defs rfl, hJ.below.trans hb⟩
  exact ⟨hJ6.loop, hJ6.put r hl, (h1.trans hb).trans ((Below.refl _ _).grown (grownBy_putObj' _ _ _) hJ6.below.size (fun k e => by cases e; exact hl))⟩
/-- What copies leaves. -/
def CopG (w : World) (Ts : List (List V3)) (e : Ending) (w' : World) : Prop :=
  ∃ (v : Value) (Q : List (Value × List V3)), e = .returned v ∧ w'.ownsRow w.heap.size 33 1 v Q.length (Q.map (·.1)) ∧ Q.map (·.2) = Ts ∧ (∀ y ∈ Q, OwnU w.heap.size w' y) ∧ Below w.heap.size w w'
/-- An iterator that tells these tuples, each of the world of its round. -/
def SeqT (w : World) (gf : Nat) (lb : Array Value) (Ts : List (List V3)) : Prop :=
  ∀ (l : Nat) (W : World), Below w.heap.size w W → ∀ (J : List (List V3) → World → Prop), (∀ P A B, J P A → Below A.heap.size A B → J P B) →
    (∀ P T v W1, J P W1 → TupIn W1.heap.size W1 v T → P.length < 1000000 → Below w.heap.size w W1 → YieldAt Fence.wide 7 Tryd.prog l #[v] W1 fun e W' => e = .returned (.bool true) ∧ J (P ++ [T]) W' ∧ Below w.heap.size W1 W') →
    J [] W → CallsIn Fence.wide 8 Tryd.prog gf (#[.func (.yield l) #[] #[]] ++ lb) W fun e W' => (∃ v, e = .returned v) ∧ J Ts W'
set_option maxRecDepth 100000 in
set_option maxHeartbeats 4000000 in
theorem copies_any (gf : Nat) (lb : Array Value) (Ts : List (List V3)) (w : World) (eg : ∀ args W, (callFunc gf args).run Tryd.prog W = .ok (.enter gf args) W) (hseq : SeqT w gf lb Ts) :
    Calls Tryd.prog 34 #[.func (.func gf) #[] lb] w (CopG w Ts) := by
  obtain ⟨i0, hi, hz0, hz1, hz2⟩ := info_parts Tryd.infoTup
  have HSEQ := Lib.hid hseq
  clear hseq
  refine (callsIn_wide (n := 9)).1 ?_
  refine callsIn_of_wp_marks Tryd.func34 rfl trivial ?_ rfl
  simp only [Tryd.ntmps34, List.size_toArray, List.length_cons, List.length_nil, Nat.reduceAdd, Nat.reduceSub, Array.replicate_succ, Array.replicate_zero, List.push_toArray, List.append_toArray, List.nil_append, List.cons_append]
  gi_wp2_with fail
  obtain ⟨w3, hw3⟩ : ∃ w3, w3 = w.alloc (.cells #[.slice none 0 0] 22) := ⟨_, rfl⟩
  have hs3 : w3.heap.size = w.heap.size + 1 := by rw [hw3]; simp
  have H0 := Lib.hid (show Boxed w3 w.heap.size 22 (.slice none 0 0) by rw [hw3]; exact Boxed.new w _ _)
  have HB3 := Lib.hid (show Below w.heap.size w w3 by rw [hw3]; exact below_new _ _)
  have HL := Lib.hid (show w.heap.size ≤ w3.heap.size + 1 by omega)
  rw [← hw3]
  clear hw3
  refine range_wide (gf := gf) (lb := lb) rfl eg ?_
  intro r r1 r2 r3 r4 r5 r6
  have hl0 : ((w3.alloc (.deferred (some []))).alloc (.loop r)).heap[w3.heap.size + 1]? = some (.loop r) := by
    have := World.alloc_heap_new (w3.alloc (.deferred (some []))) (.loop r)
    rwa [World.size_alloc] at this
  have hd0 : ((w3.alloc (.deferred (some []))).alloc (.loop r)).heap[w3.heap.size]? = some (.deferred (some [])) := (Below.heap_alloc _ _ _ (by simp)).trans (World.alloc_heap_new w3 _)
  have hbb : Below w3.heap.size w3 ((w3.alloc (.deferred (some []))).alloc (.loop r)) := ((Below.refl _ _).alloc (Nat.le_refl _) _).alloc (by simp) _
  have kk : ∀ {k : Nat} {o : Obj}, w3.heap[k]? = some o → ((w3.alloc (.deferred (some []))).alloc (.loop r)).heap[k]? = some o := fun h => (hbb.block _ (Array.getElem?_eq_some_iff.1 h).1).trans h
  have HBW := Lib.hid (HB3.out.trans (hbb.mono HB3.out.size))
  refine (HSEQ.out (w3.heap.size + 1) _ HBW.out (CoJ w w.heap.size (w3.heap.size + 1) w3.heap.size r) (fun P A B h hb => h.keep hb) ?_
    ⟨⟨_, [], kk H0.out, World.ownsRow_nil _ _ _ _, rfl, fun _ h => by cases h⟩, hl0, hd0, HBW.out⟩).mono ?_
  · clear hl0 hd0 hbb kk HBW H0
    intro P T sv W1 hJ0 hin hPl hbW
    have HJ := Lib.hid hJ0
    have HIN := Lib.hid hin
    refine yield_wide hJ0.loop r1 r2 (by rw [r3]; rfl) ?_
    clear hJ0 hin
    rw [r3, r4, r5, r6]
    clear r1 r2 r3 r4 r5 r6
    gi_wp2_with fail
    refine ⟨HJ.out.loop, ?_⟩
    obtain ⟨W, hW⟩ : ∃ W, W = W1.putObj (w3.heap.size + 1) (.loop (busyR r)) := ⟨_, rfl⟩
    have HJ2 := Lib.hid (show CoJ w w.heap.size (w3.heap.size + 1) w3.heap.size (busyR r) P W by rw [hW]; exact HJ.out.put _ HL.out)
    have HB2 := Lib.hid (show Below w.heap.size W1 W by
      rw [hW]
      exact (Below.refl _ _).grown (grownBy_putObj' _ _ _) hbW.size (fun k e => by cases e; exact HL.out))
    have HTI := Lib.hid (show TupIn W.heap.size W sv T by
      rw [hW]
      exact (tup_put HIN.out HJ.out.loop).mono (by simp))
    have HD0 := Lib.hid (show w.heap.size ≤ W.heap.size from HJ2.out.below.size)
    rw [← hW]
    clear hW hbW HIN HJ
    obtain ⟨v, Q, hv, hrow, hq, hown⟩ := HJ2.out.rows
    have hc := hv.cell
    have hvl := hv.lt
    have hTl : T.length ≤ 1000000 := by obtain ⟨_, _, -, h, -⟩ := HTI.out; exact h
    obtain ⟨pp, cp, rfl, -, -⟩ := HTI.out
    have hql : Q.length ≤ 1000000 := by
      have := congrArg List.length hq
      simp at this
      omega
    have hb4 : Q.length + 1 ≤ maxLen := by unfold maxLen; omega
    have hb5 : (Q.length + 1) * 24 ≤ 140737488355328 := by omega
    clear hql hPl
    gi_wp2_with fail
    refine wpIn_region_any (by kernel_rfl) ?_
    try (change wpAnyIn _ _ _ _ _ _ _ _ _ (World.drew _))
    refine wpAnyIn_ready (rs := [0, 1, 2]) (by kernel_rfl) (by simp) ?_
    refine AllReadyIn.cons rfl (fun K hK => ?_) ?_
    · go_simp
      refine hK _ _ ?_
      clear hK K
      refine wpAnyIn_ready (rs := [1, 2]) (by kernel_rfl) (by simp) ?_
      refine AllReadyIn.cons rfl (fun K hK => ?_) ?_
      · go_simp
        refine hK _ _ ?_
        clear hK K
        refine wpAnyIn_ready (rs := [2]) (by kernel_rfl) (by simp) ?_
        refine AllReadyIn.cons rfl (fun K hK => ?_) ?_
        · go_simp
          refine hK _ _ ?_
          clear hK K
          refine wpAnyIn_ready (rs := [3]) (by kernel_rfl) (by simp) ?_
          refine AllReadyIn.cons rfl (fun K hK => ?_) ?_
          · (refine stepIn_appT rfl (.tmp 8) (.tmp 9) rfl w.heap.size W.heap.size _ _ [] T rfl rfl (OwnR.empty _ W HD0.out).drew_ (HTI.out.on_ _) (by simp) (by have := HD0.out; simp; omega) ?_; intro v3 w3 r1 r2; obtain ⟨p3, cap3, rfl, hv3, hrow3, hown3, hnew3, hk3, hb3, hs3⟩ := cop_innerU HD0.out hv hrow hown hTl r1 r2; have hc3 := hv3.cell; have hvl3 := hv3.lt; clear r1 r2)
            refine hK _ _ ?_
            clear hK K
            refine wpAnyIn_ready (rs := [4]) (by kernel_rfl) (by simp) ?_
            refine AllReadyIn.cons rfl (fun K hK => ?_) ?_
            · go_simp
              refine hK _ _ ?_
              clear hK K
              refine wpAnyIn_ready (rs := [5]) (by kernel_rfl) (by simp) ?_
              refine AllReadyIn.cons rfl (fun K hK => ?_) ?_
              · (refine stepIn_append rfl (.tmp 7) (.tmp 11) 22 rfl w.heap.size 33 i0 _ 1 24 Tryd.underlying22 hi hz0 hz1 hz2 rfl (by decide) _ Q.length (Q.map (·.1)) rfl (hrow3.alloc _) ⟨w3.heap.size, 0, none⟩ 1 1 [.slice p3 T.length cap3] rfl rfl (cell_one_new _ _ _) (by simp [Value.oneCell']) hb4 hb5 (by simp; have := HD0.out; omega) ?_; intro v5 w5 r1 r2; obtain ⟨g5, cap5, rfl⟩ := ownsRow_succ r1; obtain ⟨hv5, hv6, hr6, hk6, hb6⟩ := hv3.appended (by decide) hrow3 (Nat.le_trans HD0.out hs3) (Nat.le_refl _) r1 r2; have hc5 := hv5.cell; have hf5 := hv5.frozen)
                refine hK _ _ ?_
                clear hK K
                refine wpAnyIn_ready (rs := [6]) (by kernel_rfl) (by simp) ?_
                refine AllReadyIn.cons rfl (fun K hK => ?_) ?_
                · go_simp
                  refine hK _ _ ?_
                  clear hK K
                  refine wpAnyIn_done (by kernel_rfl) ?_ _
                  (gi_wp2; exact coj_end HJ2.out (hk3.trans hk6) (hb3.trans hb6) hv6 hr6 hq (cop_outerU hrow3 hown3 hnew3 r2 hv5) HL.out HB2.out)
                exact AllReadyIn.nil
              exact AllReadyIn.nil
            exact AllReadyIn.nil
          exact AllReadyIn.nil
        exact AllReadyIn.nil
      refine AllReadyIn.cons rfl (fun K hK => ?_) ?_
      · go_simp
        refine hK _ _ ?_
        clear hK K
        refine wpAnyIn_ready (rs := [1]) (by kernel_rfl) (by simp) ?_
        refine AllReadyIn.cons rfl (fun K hK => ?_) ?_
        · go_simp
          refine hK _ _ ?_
          clear hK K
          refine wpAnyIn_ready (rs := [3]) (by kernel_rfl) (by simp) ?_
          refine AllReadyIn.cons rfl (fun K hK => ?_) ?_
          · (refine stepIn_appT rfl (.tmp 8) (.tmp 9) rfl w.heap.size W.heap.size _ _ [] T rfl rfl (OwnR.empty _ W HD0.out).drew_ (HTI.out.on_ _) (by simp) (by have := HD0.out; simp; omega) ?_; intro v3 w3 r1 r2; obtain ⟨p3, cap3, rfl, hv3, hrow3, hown3, hnew3, hk3, hb3, hs3⟩ := cop_innerU HD0.out hv hrow hown hTl r1 r2; have hc3 := hv3.cell; have hvl3 := hv3.lt; clear r1 r2)
            refine hK _ _ ?_
            clear hK K
            refine wpAnyIn_ready (rs := [4]) (by kernel_rfl) (by simp) ?_
            refine AllReadyIn.cons rfl (fun K hK => ?_) ?_
            · go_simp
              refine hK _ _ ?_
              clear hK K
              refine wpAnyIn_ready (rs := [5]) (by kernel_rfl) (by simp) ?_
              refine AllReadyIn.cons rfl (fun K hK => ?_) ?_
              · (refine stepIn_append rfl (.tmp 7) (.tmp 11) 22 rfl w.heap.size 33 i0 _ 1 24 Tryd.underlying22 hi hz0 hz1 hz2 rfl (by decide) _ Q.length (Q.map (·.1)) rfl (hrow3.alloc _) ⟨w3.heap.size, 0, none⟩ 1 1 [.slice p3 T.length cap3] rfl rfl (cell_one_new _ _ _) (by simp [Value.oneCell']) hb4 hb5 (by simp; have := HD0.out; omega) ?_; intro v5 w5 r1 r2; obtain ⟨g5, cap5, rfl⟩ := ownsRow_succ r1; obtain ⟨hv5, hv6, hr6, hk6, hb6⟩ := hv3.appended (by decide) hrow3 (Nat.le_trans HD0.out hs3) (Nat.le_refl _) r1 r2; have hc5 := hv5.cell; have hf5 := hv5.frozen)
                refine hK _ _ ?_
                clear hK K
                refine wpAnyIn_ready (rs := [6]) (by kernel_rfl) (by simp) ?_
                refine AllReadyIn.cons rfl (fun K hK => ?_) ?_
                · go_simp
                  refine hK _ _ ?_
                  clear hK K
                  refine wpAnyIn_done (by kernel_rfl) ?_ _
                  (gi_wp2; exact coj_end HJ2.out (hk3.trans hk6) (hb3.trans hb6) hv6 hr6 hq (cop_outerU hrow3 hown3 hnew3 r2 hv5) HL.out HB2.out)
                exact AllReadyIn.nil
              exact AllReadyIn.nil
            exact AllReadyIn.nil
          exact AllReadyIn.nil
        exact AllReadyIn.nil
      exact AllReadyIn.nil
    refine AllReadyIn.cons rfl (fun K hK => ?_) ?_
    · go_simp
      refine hK _ _ ?_
      clear hK K
      refine wpAnyIn_ready (rs := [0, 2]) (by kernel_rfl) (by simp) ?_
      refine AllReadyIn.cons rfl (fun K hK => ?_) ?_
      · go_simp
        refine hK _ _ ?_
        clear hK K
        refine wpAnyIn_ready (rs := [2]) (by kernel_rfl) (by simp) ?_
        refine AllReadyIn.cons rfl (fun K hK => ?_) ?_
        · go_simp
          refine hK _ _ ?_
          clear hK K
          refine wpAnyIn_ready (rs := [3]) (by kernel_rfl) (by simp) ?_
          refine AllReadyIn.cons rfl (fun K hK => ?_) ?_
          · (refine stepIn_appT rfl (.tmp 8) (.tmp 9) rfl w.heap.size W.heap.size _ _ [] T rfl rfl (OwnR.empty _ W HD0.out).drew_ (HTI.out.on_ _) (by simp) (by have := HD0.out; simp; omega) ?_; intro v3 w3 r1 r2; obtain ⟨p3, cap3, rfl, hv3, hrow3, hown3, hnew3, hk3, hb3, hs3⟩ := cop_innerU HD0.out hv hrow hown hTl r1 r2; have hc3 := hv3.cell; have hvl3 := hv3.lt; clear r1 r2)
            refine hK _ _ ?_
            clear hK K
            refine wpAnyIn_ready (rs := [4]) (by kernel_rfl) (by simp) ?_
            refine AllReadyIn.cons rfl (fun K hK => ?_) ?_
            · go_simp
              refine hK _ _ ?_
              clear hK K
              refine wpAnyIn_ready (rs := [5]) (by kernel_rfl) (by simp) ?_
              refine AllReadyIn.cons rfl (fun K hK => ?_) ?_
              · (refine stepIn_append rfl (.tmp 7) (.tmp 11) 22 rfl w.heap.size 33 i0 _ 1 24 Tryd.underlying22 hi hz0 hz1 hz2 rfl (by decide) _ Q.length (Q.map (·.1)) rfl (hrow3.alloc _) ⟨w3.heap.size, 0, none⟩ 1 1 [.slice p3 T.length cap3] rfl rfl (cell_one_new _ _ _) (by simp [Value.oneCell']) hb4 hb5 (by simp; have := HD0.out; omega) ?_; intro v5 w5 r1 r2; obtain ⟨g5, cap5, rfl⟩ := ownsRow_succ r1; obtain ⟨hv5, hv6, hr6, hk6, hb6⟩ := hv3.appended (by decide) hrow3 (Nat.le_trans HD0.out hs3) (Nat.le_refl _) r1 r2; have hc5 := hv5.cell; have hf5 := hv5.frozen)
                refine hK _ _ ?_
                clear hK K
                refine wpAnyIn_ready (rs := [6]) (by kernel_rfl) (by simp) ?_
                refine AllReadyIn.cons rfl (fun K hK => ?_) ?_
                · go_simp
                  refine hK _ _ ?_
                  clear hK K
                  refine wpAnyIn_done (by kernel_rfl) ?_ _
                  (gi_wp2; exact coj_end HJ2.out (hk3.trans hk6) (hb3.trans hb6) hv6 hr6 hq (cop_outerU hrow3 hown3 hnew3 r2 hv5) HL.out HB2.out)
                exact AllReadyIn.nil
              exact AllReadyIn.nil
            exact AllReadyIn.nil
          exact AllReadyIn.nil
        exact AllReadyIn.nil
      refine AllReadyIn.cons rfl (fun K hK => ?_) ?_
      · go_simp
        refine hK _ _ ?_
        clear hK K
        refine wpAnyIn_ready (rs := [0, 3]) (by kernel_rfl) (by simp) ?_
        refine AllReadyIn.cons rfl (fun K hK => ?_) ?_
        · go_simp
          refine hK _ _ ?_
          clear hK K
          refine wpAnyIn_ready (rs := [3]) (by kernel_rfl) (by simp) ?_
          refine AllReadyIn.cons rfl (fun K hK => ?_) ?_
          · (refine stepIn_appT rfl (.tmp 8) (.tmp 9) rfl w.heap.size W.heap.size _ _ [] T rfl rfl (OwnR.empty _ W HD0.out).drew_ (HTI.out.on_ _) (by simp) (by have := HD0.out; simp; omega) ?_; intro v3 w3 r1 r2; obtain ⟨p3, cap3, rfl, hv3, hrow3, hown3, hnew3, hk3, hb3, hs3⟩ := cop_innerU HD0.out hv hrow hown hTl r1 r2; have hc3 := hv3.cell; have hvl3 := hv3.lt; clear r1 r2)
            refine hK _ _ ?_
            clear hK K
            refine wpAnyIn_ready (rs := [4]) (by kernel_rfl) (by simp) ?_
            refine AllReadyIn.cons rfl (fun K hK => ?_) ?_
            · go_simp
              refine hK _ _ ?_
              clear hK K
              refine wpAnyIn_ready (rs := [5]) (by kernel_rfl) (by simp) ?_
              refine AllReadyIn.cons rfl (fun K hK => ?_) ?_
              · (refine stepIn_append rfl (.tmp 7) (.tmp 11) 22 rfl w.heap.size 33 i0 _ 1 24 Tryd.underlying22 hi hz0 hz1 hz2 rfl (by decide) _ Q.length (Q.map (·.1)) rfl (hrow3.alloc _) ⟨w3.heap.size, 0, none⟩ 1 1 [.slice p3 T.length cap3] rfl rfl (cell_one_new _ _ _) (by simp [Value.oneCell']) hb4 hb5 (by simp; have := HD0.out; omega) ?_; intro v5 w5 r1 r2; obtain ⟨g5, cap5, rfl⟩ := ownsRow_succ r1; obtain ⟨hv5, hv6, hr6, hk6, hb6⟩ := hv3.appended (by decide) hrow3 (Nat.le_trans HD0.out hs3) (Nat.le_refl _) r1 r2; have hc5 := hv5.cell; have hf5 := hv5.frozen)
                refine hK _ _ ?_
                clear hK K
                refine wpAnyIn_ready (rs := [6]) (by kernel_rfl) (by simp) ?_
                refine AllReadyIn.cons rfl (fun K hK => ?_) ?_
                · go_simp
                  refine hK _ _ ?_
                  clear hK K
                  refine wpAnyIn_done (by kernel_rfl) ?_ _
                  (gi_wp2; exact coj_end HJ2.out (hk3.trans hk6) (hb3.trans hb6) hv6 hr6 hq (cop_outerU hrow3 hown3 hnew3 r2 hv5) HL.out HB2.out)
                exact AllReadyIn.nil
              exact AllReadyIn.nil
            exact AllReadyIn.nil
          exact AllReadyIn.nil
        refine AllReadyIn.cons rfl (fun K hK => ?_) ?_
        · (refine stepIn_appT rfl (.tmp 8) (.tmp 9) rfl w.heap.size W.heap.size _ _ [] T rfl rfl (OwnR.empty _ W HD0.out).drew_ (HTI.out.on_ _) (by simp) (by have := HD0.out; simp; omega) ?_; intro v3 w3 r1 r2; obtain ⟨p3, cap3, rfl, hv3, hrow3, hown3, hnew3, hk3, hb3, hs3⟩ := cop_innerU HD0.out hv hrow hown hTl r1 r2; have hc3 := hv3.cell; have hvl3 := hv3.lt; clear r1 r2)
          refine hK _ _ ?_
          clear hK K
          refine wpAnyIn_ready (rs := [0, 4]) (by kernel_rfl) (by simp) ?_
          refine AllReadyIn.cons rfl (fun K hK => ?_) ?_
          · go_simp
            refine hK _ _ ?_
            clear hK K
            refine wpAnyIn_ready (rs := [4]) (by kernel_rfl) (by simp) ?_
            refine AllReadyIn.cons rfl (fun K hK => ?_) ?_
            · go_simp
              refine hK _ _ ?_
              clear hK K
              refine wpAnyIn_ready (rs := [5]) (by kernel_rfl) (by simp) ?_
              refine AllReadyIn.cons rfl (fun K hK => ?_) ?_
              · (refine stepIn_append rfl (.tmp 7) (.tmp 11) 22 rfl w.heap.size 33 i0 _ 1 24 Tryd.underlying22 hi hz0 hz1 hz2 rfl (by decide) _ Q.length (Q.map (·.1)) rfl (hrow3.alloc _) ⟨w3.heap.size, 0, none⟩ 1 1 [.slice p3 T.length cap3] rfl rfl (cell_one_new _ _ _) (by simp [Value.oneCell']) hb4 hb5 (by simp; have := HD0.out; omega) ?_; intro v5 w5 r1 r2; obtain ⟨g5, cap5, rfl⟩ := ownsRow_succ r1; obtain ⟨hv5, hv6, hr6, hk6, hb6⟩ := hv3.appended (by decide) hrow3 (Nat.le_trans HD0.out hs3) (Nat.le_refl _) r1 r2; have hc5 := hv5.cell; have hf5 := hv5.frozen)
                refine hK _ _ ?_
                clear hK K
                refine wpAnyIn_ready (rs := [6]) (by kernel_rfl) (by simp) ?_
                refine AllReadyIn.cons rfl (fun K hK => ?_) ?_
                · go_simp
                  refine hK _ _ ?_
                  clear hK K
                  refine wpAnyIn_done (by kernel_rfl) ?_ _
                  (gi_wp2; exact coj_end HJ2.out (hk3.trans hk6) (hb3.trans hb6) hv6 hr6 hq (cop_outerU hrow3 hown3 hnew3 r2 hv5) HL.out HB2.out)
                exact AllReadyIn.nil
              exact AllReadyIn.nil
            exact AllReadyIn.nil
          refine AllReadyIn.cons rfl (fun K hK => ?_) ?_
          · go_simp
            refine hK _ _ ?_
            clear hK K
            refine wpAnyIn_ready (rs := [0]) (by kernel_rfl) (by simp) ?_
            refine AllReadyIn.cons rfl (fun K hK => ?_) ?_
            · go_simp
              refine hK _ _ ?_
              clear hK K
              refine wpAnyIn_ready (rs := [5]) (by kernel_rfl) (by simp) ?_
              refine AllReadyIn.cons rfl (fun K hK => ?_) ?_
              · (refine stepIn_append rfl (.tmp 7) (.tmp 11) 22 rfl w.heap.size 33 i0 _ 1 24 Tryd.underlying22 hi hz0 hz1 hz2 rfl (by decide) _ Q.length (Q.map (·.1)) rfl (hrow3.alloc _) ⟨w3.heap.size, 0, none⟩ 1 1 [.slice p3 T.length cap3] rfl rfl (cell_one_new _ _ _) (by simp [Value.oneCell']) hb4 hb5 (by simp; have := HD0.out; omega) ?_; intro v5 w5 r1 r2; obtain ⟨g5, cap5, rfl⟩ := ownsRow_succ r1; obtain ⟨hv5, hv6, hr6, hk6, hb6⟩ := hv3.appended (by decide) hrow3 (Nat.le_trans HD0.out hs3) (Nat.le_refl _) r1 r2; have hc5 := hv5.cell; have hf5 := hv5.frozen)
                refine hK _ _ ?_
                clear hK K
                refine wpAnyIn_ready (rs := [6]) (by kernel_rfl) (by simp) ?_
                refine AllReadyIn.cons rfl (fun K hK => ?_) ?_
                · go_simp
                  refine hK _ _ ?_
                  clear hK K
                  refine wpAnyIn_done (by kernel_rfl) ?_ _
                  (gi_wp2; exact coj_end HJ2.out (hk3.trans hk6) (hb3.trans hb6) hv6 hr6 hq (cop_outerU hrow3 hown3 hnew3 r2 hv5) HL.out HB2.out)
                exact AllReadyIn.nil
              exact AllReadyIn.nil
            exact AllReadyIn.nil
          exact AllReadyIn.nil
        exact AllReadyIn.nil
      exact AllReadyIn.nil
    refine AllReadyIn.cons rfl (fun K hK => ?_) ?_
    · go_simp
      refine hK _ _ ?_
      clear hK K
      refine wpAnyIn_ready (rs := [0, 1]) (by kernel_rfl) (by simp) ?_
      refine AllReadyIn.cons rfl (fun K hK => ?_) ?_
      · go_simp
        refine hK _ _ ?_
        clear hK K
        refine wpAnyIn_ready (rs := [1]) (by kernel_rfl) (by simp) ?_
        refine AllReadyIn.cons rfl (fun K hK => ?_) ?_
        · go_simp
          refine hK _ _ ?_
          clear hK K
          refine wpAnyIn_ready (rs := [3]) (by kernel_rfl) (by simp) ?_
          refine AllReadyIn.cons rfl (fun K hK => ?_) ?_
          · (refine stepIn_appT rfl (.tmp 8) (.tmp 9) rfl w.heap.size W.heap.size _ _ [] T rfl rfl (OwnR.empty _ W HD0.out).drew_ (HTI.out.on_ _) (by simp) (by have := HD0.out; simp; omega) ?_; intro v3 w3 r1 r2; obtain ⟨p3, cap3, rfl, hv3, hrow3, hown3, hnew3, hk3, hb3, hs3⟩ := cop_innerU HD0.out hv hrow hown hTl r1 r2; have hc3 := hv3.cell; have hvl3 := hv3.lt; clear r1 r2)
            refine hK _ _ ?_
            clear hK K
            refine wpAnyIn_ready (rs := [4]) (by kernel_rfl) (by simp) ?_
            refine AllReadyIn.cons rfl (fun K hK => ?_) ?_
            · go_simp
              refine hK _ _ ?_
              clear hK K
              refine wpAnyIn_ready (rs := [5]) (by kernel_rfl) (by simp) ?_
              refine AllReadyIn.cons rfl (fun K hK => ?_) ?_
              · (refine stepIn_append rfl (.tmp 7) (.tmp 11) 22 rfl w.heap.size 33 i0 _ 1 24 Tryd.underlying22 hi hz0 hz1 hz2 rfl (by decide) _ Q.length (Q.map (·.1)) rfl (hrow3.alloc _) ⟨w3.heap.size, 0, none⟩ 1 1 [.slice p3 T.length cap3] rfl rfl (cell_one_new _ _ _) (by simp [Value.oneCell']) hb4 hb5 (by simp; have := HD0.out; omega) ?_; intro v5 w5 r1 r2; obtain ⟨g5, cap5, rfl⟩ := ownsRow_succ r1; obtain ⟨hv5, hv6, hr6, hk6, hb6⟩ := hv3.appended (by decide) hrow3 (Nat.le_trans HD0.out hs3) (Nat.le_refl _) r1 r2; have hc5 := hv5.cell; have hf5 := hv5.frozen)
                refine hK _ _ ?_
                clear hK K
                refine wpAnyIn_ready (rs := [6]) (by kernel_rfl) (by simp) ?_
                refine AllReadyIn.cons rfl (fun K hK => ?_) ?_
                · go_simp
                  refine hK _ _ ?_
                  clear hK K
                  refine wpAnyIn_done (by kernel_rfl) ?_ _
                  (gi_wp2; exact coj_end HJ2.out (hk3.trans hk6) (hb3.trans hb6) hv6 hr6 hq (cop_outerU hrow3 hown3 hnew3 r2 hv5) HL.out HB2.out)
                exact AllReadyIn.nil
              exact AllReadyIn.nil
            exact AllReadyIn.nil
          exact AllReadyIn.nil
        exact AllReadyIn.nil
      refine AllReadyIn.cons rfl (fun K hK => ?_) ?_
      · go_simp
        refine hK _ _ ?_
        clear hK K
        refine wpAnyIn_ready (rs := [0, 3]) (by kernel_rfl) (by simp) ?_
        refine AllReadyIn.cons rfl (fun K hK => ?_) ?_
        · go_simp
          refine hK _ _ ?_
          clear hK K
          refine wpAnyIn_ready (rs := [3]) (by kernel_rfl) (by simp) ?_
          refine AllReadyIn.cons rfl (fun K hK => ?_) ?_
          · (refine stepIn_appT rfl (.tmp 8) (.tmp 9) rfl w.heap.size W.heap.size _ _ [] T rfl rfl (OwnR.empty _ W HD0.out).drew_ (HTI.out.on_ _) (by simp) (by have := HD0.out; simp; omega) ?_; intro v3 w3 r1 r2; obtain ⟨p3, cap3, rfl, hv3, hrow3, hown3, hnew3, hk3, hb3, hs3⟩ := cop_innerU HD0.out hv hrow hown hTl r1 r2; have hc3 := hv3.cell; have hvl3 := hv3.lt; clear r1 r2)
            refine hK _ _ ?_
            clear hK K
            refine wpAnyIn_ready (rs := [4]) (by kernel_rfl) (by simp) ?_
            refine AllReadyIn.cons rfl (fun K hK => ?_) ?_
            · go_simp
              refine hK _ _ ?_
              clear hK K
              refine wpAnyIn_ready (rs := [5]) (by kernel_rfl) (by simp) ?_
              refine AllReadyIn.cons rfl (fun K hK => ?_) ?_
              · (refine stepIn_append rfl (.tmp 7) (.tmp 11) 22 rfl w.heap.size 33 i0 _ 1 24 Tryd.underlying22 hi hz0 hz1 hz2 rfl (by decide) _ Q.length (Q.map (·.1)) rfl (hrow3.alloc _) ⟨w3.heap.size, 0, none⟩ 1 1 [.slice p3 T.length cap3] rfl rfl (cell_one_new _ _ _) (by simp [Value.oneCell']) hb4 hb5 (by simp; have := HD0.out; omega) ?_; intro v5 w5 r1 r2; obtain ⟨g5, cap5, rfl⟩ := ownsRow_succ r1; obtain ⟨hv5, hv6, hr6, hk6, hb6⟩ := hv3.appended (by decide) hrow3 (Nat.le_trans HD0.out hs3) (Nat.le_refl _) r1 r2; have hc5 := hv5.cell; have hf5 := hv5.frozen)
                refine hK _ _ ?_
                clear hK K
                refine wpAnyIn_ready (rs := [6]) (by kernel_rfl) (by simp) ?_
                refine AllReadyIn.cons rfl (fun K hK => ?_) ?_
                · go_simp
                  refine hK _ _ ?_
                  clear hK K
                  refine wpAnyIn_done (by kernel_rfl) ?_ _
                  (gi_wp2; exact coj_end HJ2.out (hk3.trans hk6) (hb3.trans hb6) hv6 hr6 hq (cop_outerU hrow3 hown3 hnew3 r2 hv5) HL.out HB2.out)
                exact AllReadyIn.nil
              exact AllReadyIn.nil
            exact AllReadyIn.nil
          exact AllReadyIn.nil
        refine AllReadyIn.cons rfl (fun K hK => ?_) ?_
        · (refine stepIn_appT rfl (.tmp 8) (.tmp 9) rfl w.heap.size W.heap.size _ _ [] T rfl rfl (OwnR.empty _ W HD0.out).drew_ (HTI.out.on_ _) (by simp) (by have := HD0.out; simp; omega) ?_; intro v3 w3 r1 r2; obtain ⟨p3, cap3, rfl, hv3, hrow3, hown3, hnew3, hk3, hb3, hs3⟩ := cop_innerU HD0.out hv hrow hown hTl r1 r2; have hc3 := hv3.cell; have hvl3 := hv3.lt; clear r1 r2)
          refine hK _ _ ?_
          clear hK K
          refine wpAnyIn_ready (rs := [0, 4]) (by kernel_rfl) (by simp) ?_
          refine AllReadyIn.cons rfl (fun K hK => ?_) ?_
          · go_simp
            refine hK _ _ ?_
            clear hK K
            refine wpAnyIn_ready (rs := [4]) (by kernel_rfl) (by simp) ?_
            refine AllReadyIn.cons rfl (fun K hK => ?_) ?_
            · go_simp
              refine hK _ _ ?_
              clear hK K
              refine wpAnyIn_ready (rs := [5]) (by kernel_rfl) (by simp) ?_
              refine AllReadyIn.cons rfl (fun K hK => ?_) ?_
              · (refine stepIn_append rfl (.tmp 7) (.tmp 11) 22 rfl w.heap.size 33 i0 _ 1 24 Tryd.underlying22 hi hz0 hz1 hz2 rfl (by decide) _ Q.length (Q.map (·.1)) rfl (hrow3.alloc _) ⟨w3.heap.size, 0, none⟩ 1 1 [.slice p3 T.length cap3] rfl rfl (cell_one_new _ _ _) (by simp [Value.oneCell']) hb4 hb5 (by simp; have := HD0.out; omega) ?_; intro v5 w5 r1 r2; obtain ⟨g5, cap5, rfl⟩ := ownsRow_succ r1; obtain ⟨hv5, hv6, hr6, hk6, hb6⟩ := hv3.appended (by decide) hrow3 (Nat.le_trans HD0.out hs3) (Nat.le_refl _) r1 r2; have hc5 := hv5.cell; have hf5 := hv5.frozen)
                refine hK _ _ ?_
                clear hK K
                refine wpAnyIn_ready (rs := [6]) (by kernel_rfl) (by simp) ?_
                refine AllReadyIn.cons rfl (fun K hK => ?_) ?_
                · go_simp
                  refine hK _ _ ?_
                  clear hK K
                  refine wpAnyIn_done (by kernel_rfl) ?_ _
                  (gi_wp2; exact coj_end HJ2.out (hk3.trans hk6) (hb3.trans hb6) hv6 hr6 hq (cop_outerU hrow3 hown3 hnew3 r2 hv5) HL.out HB2.out)
                exact AllReadyIn.nil
              exact AllReadyIn.nil
            exact AllReadyIn.nil
          refine AllReadyIn.cons rfl (fun K hK => ?_) ?_
          · go_simp
            refine hK _ _ ?_
            clear hK K
            refine wpAnyIn_ready (rs := [0]) (by kernel_rfl) (by simp) ?_
            refine AllReadyIn.cons rfl (fun K hK => ?_) ?_
            · go_simp
              refine hK _ _ ?_
              clear hK K
              refine wpAnyIn_ready (rs := [5]) (by kernel_rfl) (by simp) ?_
              refine AllReadyIn.cons rfl (fun K hK => ?_) ?_
              · (refine stepIn_append rfl (.tmp 7) (.tmp 11) 22 rfl w.heap.size 33 i0 _ 1 24 Tryd.underlying22 hi hz0 hz1 hz2 rfl (by decide) _ Q.length (Q.map (·.1)) rfl (hrow3.alloc _) ⟨w3.heap.size, 0, none⟩ 1 1 [.slice p3 T.length cap3] rfl rfl (cell_one_new _ _ _) (by simp [Value.oneCell']) hb4 hb5 (by simp; have := HD0.out; omega) ?_; intro v5 w5 r1 r2; obtain ⟨g5, cap5, rfl⟩ := ownsRow_succ r1; obtain ⟨hv5, hv6, hr6, hk6, hb6⟩ := hv3.appended (by decide) hrow3 (Nat.le_trans HD0.out hs3) (Nat.le_refl _) r1 r2; have hc5 := hv5.cell; have hf5 := hv5.frozen)
                refine hK _ _ ?_
                clear hK K
                refine wpAnyIn_ready (rs := [6]) (by kernel_rfl) (by simp) ?_
                refine AllReadyIn.cons rfl (fun K hK => ?_) ?_
                · go_simp
                  refine hK _ _ ?_
                  clear hK K
                  refine wpAnyIn_done (by kernel_rfl) ?_ _
                  (gi_wp2; exact coj_end HJ2.out (hk3.trans hk6) (hb3.trans hb6) hv6 hr6 hq (cop_outerU hrow3 hown3 hnew3 r2 hv5) HL.out HB2.out)
                exact AllReadyIn.nil
              exact AllReadyIn.nil
            exact AllReadyIn.nil
          exact AllReadyIn.nil
        exact AllReadyIn.nil
      exact AllReadyIn.nil
    exact AllReadyIn.nil
  · rintro e w4 ⟨⟨vr, rfl⟩, hJ4⟩
    refine ⟨⟨_, rfl⟩, hJ4.loop, ?_⟩
    have HJ5 := Lib.hid (hJ4.put { r with state := .exhausted } HL.out)
    obtain ⟨w5, hw5⟩ : ∃ w5, w5 = w4.putObj (w3.heap.size + 1) (.loop { r with state := .exhausted }) := ⟨_, rfl⟩
    rw [← hw5] at HJ5 ⊢
    clear hw5 hJ4 hl0 hd0 hbb kk HBW H0 r1 r2 r3 r4 r5 r6
    obtain ⟨v5, Q5, hv5, hrow, hq, hall⟩ := HJ5.out.rows
    have HR := Lib.hid (And.intro hrow (And.intro hq hall))
    have c4 := Boxed.cell hv5
    clear hv5 hrow hq hall hs3
    gi_wp2
    refine ⟨by simp, .inl ⟨_, _, rfl, run_takeDeferred (show (World.drew w5).heap[w3.heap.size]? = _ from HJ5.out.defs), ?_⟩⟩
    have hD : (World.drew w5).heap[w3.heap.size]? = some (.deferred (some [])) := HJ5.out.defs
    have hg5 := grownBy_putObj' w5 w3.heap.size (.deferred none)
    have hro : ∀ k, (some w3.heap.size : Option Nat) = some k → ∃ o : Obj, w5.heap[k]? = some o ∧ o.isCells = false := fun k e => by simp only [Option.some.injEq] at e; subst e; exact ⟨_, hD, rfl⟩
    refine ⟨_, by simp [results, Tryd.results34, go_sem], v5, Q5, rfl, ?_, HR.out.2.1, fun y hy => ⟨?_, (HR.out.2.2 y hy).2⟩, ?_⟩
    · exact own_putCells HR.out.1 hg5 hro
    · exact own_putCells (HR.out.2.2 y hy).1 hg5 hro
    · exact HJ5.out.below.trans ((Below.refl _ _).grown hg5 HJ5.out.below.size (fun k e => by cases e; exact HB3.out.size))
end Go.Proofs.YtaogfgohchpnoaaDoor

/-
  Keys of a cache: words, a round.
-/
import Derived.Test.YtdjebcfpodfhhaaChR
namespace Go.Proofs.Ytdjebcfpodfhhaa
open Go Go.RowKit Go.Maps Go.WideMaps Go.Shelf

attribute [local go_sem] Oper.semAt_some

/-- A range over a function at the outermost: the function's contract at a record that is laid behind a block for deferred calls. -/
theorem range_wide {f : Nat} {P : Program} {g : Operand} {ps : Array Tmp} {assign body : Code} {Q : Exit → Act → World → Prop} {a : Act} {w : World} {gf : Nat} {lb : Array Value}
    (hg : a.eval g = .func (.func gf) #[] lb) (eg : ∀ args w, (callFunc gf args).run P w = .ok (.enter gf args) w)
    (h : ∀ r : Loop, r.state = .ready → r.pending = none → r.params = ps → r.tmps = a.tmps → r.assign = assign → r.body = body →
      CallsIn Fence.wide (f - 1) P gf (#[.func (.yield (w.heap.size + 1)) #[] #[]] ++ lb) ((w.alloc (.deferred (some []))).alloc (.loop r)) fun e w' => (∃ v, e = .returned v) ∧ w'.heap[w.heap.size + 1]? = some (.loop r) ∧
        Q .normal { a with defers := { target := .collected w.heap.size, args := #[] } :: a.defers } (w'.putObj (w.heap.size + 1) (.loop { r with state := .exhausted }))) :
    (Code.rangeFunc g ps assign body).wpIn Fence.wide f P Q a w := by
  refine wpIn_rangeFunc fun fn hfn => ?_
  obtain ⟨r, hr⟩ : ∃ r : Loop, r = { state := .ready, pending := none, fn := fn, tmps := a.tmps, params := ps, assign := assign, body := body, defers := w.heap.size } := ⟨_, rfl⟩
  have hc := h r (by rw [hr]) (by rw [hr]) (by rw [hr]) (by rw [hr]) (by rw [hr]) (by rw [hr])
  refine ⟨w.heap.size + 1, [{ target := .collected w.heap.size, args := #[] }], (w.alloc (.deferred (some []))).alloc (.loop r), { target := .fn (.func gf) lb, args := #[.func (.yield (w.heap.size + 1)) #[] #[]] }, (w.alloc (.deferred (some []))).alloc (.loop r), gf, #[.func (.yield (w.heap.size + 1)) #[] #[]] ++ lb, (w.alloc (.deferred (some []))).alloc (.loop r), ?_, ?_, fun _ _ => True.intro, ?_, fun hd => ?_, ?_⟩
  · rw [hr]; exact run_enterLoop_outer _ _ _ _ _
  · simp only [resolve, hg]
    simp [go_sem]
  · simp [invoke, go_sem, eg]
  · cases hd
  · refine hc.mono ?_
    rintro e w' ⟨⟨v, rfl⟩, hl, hQ⟩
    refine ⟨none, _, ?_, hQ⟩
    have := run_endLoop (P := P) hl (by rw [hr]; simp)
    rw [this, hr]
/-- A loop's record while a round is under way. -/
def busyR (r : Loop) : Loop := { r with state := .busy }
/-- How a round may be left: off its end, its record as it was laid. -/
def roundOk (l : Nat) (r : Loop) (R : World → Prop) : Exit → Act → World → Prop
  | .normal, _, W => W.heap[l]? = some (.loop (busyR r)) ∧ R (W.putObj l (.loop r))
  | _, _, _ => False
theorem yield_wide {l f : Nat} {P : Program} {r : Loop} {args : Array Value} {W : World} {R : World → Prop} (hl : W.heap[l]? = some (.loop r)) (hr : r.state = .ready) (hp : r.pending = none) (hs : args.size = r.params.size)
    (h : r.assign.wpIn (Fence.wide.inRound l) f P (Exit.then (fun a₁ W₁ => W₁.heap[l]? = some (.loop r) ∧ r.body.wpIn (Fence.wide.inRound l) f P (roundOk l r R) a₁ (W₁.putObj l (.loop (busyR r)))) (fun _ _ _ => False))
      { tmps := (r.params.zip args).foldl (fun tmps (t, a) => tmps.setIfInBounds t a) r.tmps, defers := [] } W) :
    YieldAt Fence.wide f P l args W fun e W' => e = .returned (.bool true) ∧ R W' := by
  refine ⟨r.fn, _, r.assign, r.body, run_yield hl hs, roundIn_of_wpIn trivial (wpIn_mono h ?_)⟩
  rintro e a W1 hq
  cases e with
  | normal =>
    obtain ⟨hl1, hb⟩ := hq
    refine ⟨_, run_beginRound hl1 hr, wpIn_mono hb ?_⟩
    rintro e a W3 hq
    cases e with
    | normal =>
      obtain ⟨hl3, hR⟩ := hq
      refine ⟨_, _, run_endRound none hl3, rfl, ?_⟩
      have e : ({ busyR r with state := if (none : Option Code).isNone then LoopState.ready else LoopState.done, pending := none } : Loop) = r := by
        obtain ⟨s, p, _, _, _, _, _, _⟩ := r
        simp only at hr hp
        rw [hr, hp]
        rfl
      exact e ▸ hR
    | _ => exact hq.elim
  | _ => exact hq.elim

theorem own_putCells {W X : World} {row : Option Nat} {b : Nat} {e : TypeId} {s : Nat} {v : Value} {n : Nat} {xs : List Value} (h : W.ownsRow b e s v n xs) (hg : W.grownBy X row) (hrow : ∀ B, row = some B → ∃ o, W.heap[B]? = some o ∧ o.isCells = false) : X.ownsRow b e s v n xs := by
  refine h.kept hg ?_
  rcases h.2 with ⟨rfl, _⟩ | ⟨g, cap, cur, rfl, _, hgb, _⟩
  · exact .inl rfl
  · refine .inr fun e' => ?_
    obtain ⟨o, ho, hc⟩ := hrow g (by simpa [Value.ownBlock] using e'.symm)
    rw [hgb] at ho
    cases ho
    cases hc
theorem own_putType {W X : World} {row : Option Nat} {b : Nat} {e : TypeId} {s : Nat} {v : Value} {n : Nat} {xs : List Value} (h : W.ownsRow b e s v n xs) (hg : W.grownBy X row) (hr : ∀ r, row = some r → ∀ ys, W.heap[r]? ≠ some (.cells ys e (0, 0))) : X.ownsRow b e s v n xs := by
  refine h.kept hg ?_
  rcases h.2 with ⟨rfl, _⟩ | ⟨g, cap, cur, rfl, _, hgb, _⟩
  · exact .inl rfl
  · exact .inr fun e' => hr g e'.symm _ hgb
theorem own_belowD {w w' : World} {B : Nat} {e : TypeId} {s n : Nat} {v : Value} {xs : List Value} (h : w.ownsRow B e s v n xs) (hb : Below w.heap.size w w') : w'.ownsRow B e s v n xs := by
  refine ⟨h.1, ?_⟩
  rcases h.2 with hn | ⟨g, cap, cur, rfl, hB, hg, rest⟩
  · exact .inl hn
  · exact .inr ⟨g, cap, cur, rfl, hB, (hb.block g (Array.getElem?_eq_some_iff.1 hg).1).trans hg, rest⟩
theorem own_blockD {w : World} {B : Nat} {e : TypeId} {s n : Nat} {v : Value} {xs : List Value} (h : w.ownsRow B e s v n xs) : ∀ j, v.ownBlock = some j → B ≤ j ∧ ∃ cur, w.heap[j]? = some (.cells cur e (0, 0)) := by
  intro j hj
  rcases h.2 with ⟨rfl, -⟩ | ⟨g, cap, cur, rfl, hB', hg', -⟩
  · cases hj
  · cases hj
    exact ⟨hB', cur, hg'⟩
theorem keepO {W X : World} {k : Nat} {o : Obj} {row : Option Nat} (h : W.heap[k]? = some o) (hg : W.grownBy X row) (hne : some k ≠ row) : X.heap[k]? = some o :=
  (hg.block k (Array.getElem?_eq_some_iff.1 h).1 hne).trans h
theorem heap_setCell_box {W : World} {k B : Nat} {o : Obj} (h : W.heap[k]? = some o) (hne : k ≠ B) (u : Value) : (W.setCell ⟨B, 0, none⟩ u).heap[k]? = some o :=
  keepO h (grownBy_setCell' W B u) (fun e => hne (by cases e; rfl))

theorem stepIn_append {F : Fence} {n : Nat} {P : Program} {w : World} {ops : Array Oper} {o : Oper} {a : Act} {K : Act → World → Prop} {Q : Exit → Act → World → Prop} {E : Prop}
    (hg : o.guard = none) (s x : Operand) (t : TypeId) (hop : o.op = Op.call { callee := Callee.builtin Builtin.append, args := #[s, x], argTypes := #[t, t] })
    (base : Nat) (e : TypeId) (i : TypeInfo) (z : Value) (size bytes : Nat) (h1 : P.underlying t = some (.slice e)) (h2 : P.info? e = some i) (h3 : i.zero = some z) (h4 : i.size = size) (h5 : i.bytes = bytes) (h6 : z.cells.size = size) (h7 : 0 < size)
    (v : Value) (k : Nat) (xs : List Value) (hs : a.eval s = v) (hown : w.ownsRow base e size v k xs) (ad : Addr) (m c : Nat) (news : List Value) (hx : a.eval x = .slice (some ad) m c) (hn : news.length = m * size)
    (hc : ∀ j u, news[j]? = some u → w.cell? (ad.add j) = some u) (h1c : ∀ u ∈ news, u.oneCell' = true) (b1 : k + m ≤ maxLen) (b2 : (k + m) * bytes ≤ 140737488355328) (b3 : base ≤ w.heap.size)
    (hK : ∀ v' w', w'.ownsRow base e size v' (k + m) (xs ++ news) → w.grownBy w' v.ownBlock → K (a.put o.dst v') w') :
    if Region.wanted o (yielded ops a.tmps) = true then Oper.wpIn F n P o a w K Q else E := by
  have hw : Region.wanted o (yielded ops a.tmps) = true := by simp [Region.wanted, hg]
  obtain ⟨v', w', hrun, r1, r2, -⟩ := run_append_own (P := P) w base t o.type e i z size bytes h1 h2 h3 h4 h5 h6 h7 v k xs hown ad m c news hn hc h1c b1 b2 b3
  rw [if_pos hw]
  refine ⟨by simp [Oper.about, hop, resolve, Target.leads, Sem.run_pure], ?_⟩
  rw [Oper.semAt_plain F _ _ (by rw [hop]; intro c hc'; cases hc')]
  simp [execOp, hop, resolve, invoke, builtin, hs, hx, hrun, Result.andThen]
  exact hK _ _ r1 r2

theorem infoPk : (Try.prog.info? 33).map (fun i => (i.zero, i.size, i.bytes)) = some (some (.agg #[.string ⟨#[]⟩, .int .i64 0]), 2, 24) := by kernel_rfl
/-- Keys as cells. -/
def rowK (L : List (ByteArray × Int)) : List Value := L.flatMap fun x => [Value.string x.1, Value.int .i64 x.2]
theorem rowK_snoc (L : List (ByteArray × Int)) (x : ByteArray × Int) : rowK (L ++ [x]) = rowK L ++ [.string x.1, .int .i64 x.2] := by simp [rowK]
/-- What the range of Keys keeps: the keys in the variable's box, the box of the list, the loop's record, the block of deferred calls. -/
structure KeJ (w0 : World) (B cb l D s : Nat) (r : Loop) (P : List (ByteArray × Int)) (W : World) : Prop where
  rows : ∃ v, W.heap[B]? = some (.cells #[v] 39 (0, 0)) ∧ W.ownsRow w0.heap.size 33 2 v P.length (rowK P)
  box : W.heap[cb]? = some (.cells #[ptr s] 65 (0, 0))
  loop : W.heap[l]? = some (.loop r)
  defs : W.heap[D]? = some (.deferred (some []))
  below : Below w0.heap.size w0 W
theorem KeJ.keep {w0 : World} {B cb l D s : Nat} {r : Loop} {P : List (ByteArray × Int)} {A C : World} (h : KeJ w0 B cb l D s r P A) (hb : Below A.heap.size A C) : KeJ w0 B cb l D s r P C := by
  obtain ⟨⟨v, h1, h2⟩, h3, h4, h5, h6⟩ := h
  have k : ∀ {k : Nat} {o : Obj}, A.heap[k]? = some o → C.heap[k]? = some o := fun h => (hb.block _ (Array.getElem?_eq_some_iff.1 h).1).trans h
  exact ⟨⟨v, k h1, own_belowD h2 hb⟩, k h3, k h4, k h5, h6.trans (hb.mono h6.size)⟩
theorem KeJ.put {w0 : World} {B cb l D s : Nat} {r : Loop} {P : List (ByteArray × Int)} {A : World} (h : KeJ w0 B cb l D s r P A) (r' : Loop) (hl : w0.heap.size ≤ l) : KeJ w0 B cb l D s r' P (A.putObj l (.loop r')) := by
  obtain ⟨⟨v, h1, h2⟩, h3, h4, h5, h6⟩ := h
  have hg := grownBy_putObj' A l (.loop r')
  have k : ∀ {k : Nat} {o : Obj}, (∀ r, o ≠ .loop r) → A.heap[k]? = some o → (A.putObj l (.loop r')).heap[k]? = some o := fun hne h => keepO h hg (fun e => by cases e; rw [h4] at h; cases h; exact hne _ rfl)
  exact ⟨⟨v, k (fun r => by intro e; cases e) h1, own_putCells h2 hg (fun b e => by cases e; exact ⟨_, h4, rfl⟩)⟩, k (fun r => by intro e; cases e) h3, World.putObj_heap_same (Array.getElem?_eq_some_iff.1 h4).1, k (fun r => by intro e; cases e) h5, h6.grown hg h6.size (fun k e => by cases e; exact hl)⟩
/-- Behind the append and the store of a round. -/
theorem KeJ.step {w0 W3 w5 : World} {B cb l D s : Nat} {r : Loop} {P : List (ByteArray × Int)} {vv v5 : Value} {x : ByteArray × Int} (hJ : KeJ w0 B cb l D s r P W3) (hvv : W3.heap[B]? = some (.cells #[vv] 39 (0, 0))) (ho : W3.ownsRow w0.heap.size 33 2 vv P.length (rowK P))
    (hg : W3.grownBy w5 vv.ownBlock) (ho5 : w5.ownsRow w0.heap.size 33 2 v5 (P ++ [x]).length (rowK (P ++ [x]))) (h4 : w0.heap.size ≤ B) :
    w5.heap[B]? = some (.cells #[vv] 39 (0, 0)) ∧ KeJ w0 B cb l D s r (P ++ [x]) (w5.setCell ⟨B, 0, none⟩ v5) := by
  have ap : ∀ {k : Nat} {o : Obj}, W3.heap[k]? = some o → (∀ ys, o ≠ .cells ys 33 (0, 0)) → some k ≠ vv.ownBlock := by
    intro k o hk hne e
    obtain ⟨-, cur, hc⟩ := own_blockD ho k e.symm
    rw [hk] at hc
    cases hc
    exact hne cur rfl
  have k4 : w5.heap[B]? = some (.cells #[vv] 39 (0, 0)) := keepO hvv hg (ap hvv (fun ys => by intro e; cases e))
  have kc : w5.heap[cb]? = some (.cells #[ptr s] 65 (0, 0)) := keepO hJ.box hg (ap hJ.box (fun ys => by intro e; cases e))
  have kl : w5.heap[l]? = some (.loop r) := keepO hJ.loop hg (ap hJ.loop (fun ys => by intro e; cases e))
  have kd : w5.heap[D]? = some (.deferred (some [])) := keepO hJ.defs hg (ap hJ.defs (fun ys => by intro e; cases e))
  have hlB : l ≠ B := fun e => by rw [e, k4] at kl; cases kl
  have hdB : D ≠ B := fun e => by rw [e, k4] at kd; cases kd
  have hcB : cb ≠ B := fun e => by rw [e, k4] at kc; cases kc
  have b5 : Below w0.heap.size W3 w5 := (Below.refl _ _).grown hg hJ.below.size (fun j e => (own_blockD ho j e).1)
  have b7 : Below w0.heap.size W3 (w5.setCell ⟨B, 0, none⟩ v5) := b5.setCell (p := ⟨B, 0, none⟩) h4 _
  refine ⟨k4, ⟨⟨v5, Boxed.set v5 k4, ?_⟩, heap_setCell_box kc hcB _, heap_setCell_box kl hlB _, heap_setCell_box kd hdB _, hJ.below.trans b7⟩⟩
  exact own_putType ho5 (grownBy_setCell' w5 B v5) (fun r e => by
    cases e
    exact fun ys => fun e => (by rw [k4] at e; cases e))
end Go.Proofs.Ytdjebcfpodfhhaa

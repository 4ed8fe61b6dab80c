/-
  Rows of tokens in memory: read, of the call's own, an append of one; a range over a function whose rounds may return.
-/
import Derived.Test.YtnbaemfkpfmheaaGreatDoorLxC
import Derived.Shelf.Abstract
import Derived.Maps.AppendAt
import Derived.Deep.AppendLies
import Derived.OwnWalk
import Derived.Laws.OwnMore
import Derived.RangeFuncBox
import Derived.RangeFuncLeaves
import Derived.RangeFuncCalls
import Derived.OwnWalkIn
import Derived.TacticsInMore
import Derived.LoopNIn
import Derived.LoopIn
namespace Go.Proofs.YtnbaemfkpfmheaaGreatDoor
open Go Go.RowKit Go.Shelf

attribute [local go_sem] Oper.semAt_some

theorem addr_add (b off j : Nat) : (⟨b, off, none⟩ : Addr).add j = ⟨b, off + j, none⟩ := by unfold Addr.add; split <;> simp_all
/-- A token's cells. -/
def cellW (x : Wd) : List Value := [.int .i64 x.kind, .string ⟨x.text.toArray⟩, .int .i64 x.val.1, .int .i64 x.val.2.1, .string x.val.2.2, .int .i64 x.pos]
def cellsW : List Wd → List Value
  | [] => []
  | x :: r => cellW x ++ cellsW r
theorem cellsW_len (L : List Wd) : (cellsW L).length = L.length * 6 := by
  induction L with
  | nil => rfl
  | cons x r ih => simp only [cellsW, cellW, List.length_append, List.length_cons, List.length_nil, ih]; omega
theorem cellsW_append (L M : List Wd) : cellsW (L ++ M) = cellsW L ++ cellsW M := by
  induction L with
  | nil => rfl
  | cons x r ih => simp only [cellsW, List.cons_append, ih, List.append_assoc]
theorem cellsW_one (L : List Wd) : ∀ u ∈ cellsW L, u.oneCell' = true := by
  induction L with
  | nil => intro u hu; cases hu
  | cons x r ih =>
    intro u hu
    simp only [cellsW, List.mem_append] at hu
    rcases hu with hu | hu
    · simp only [cellW, List.mem_cons, List.not_mem_nil, or_false] at hu
      rcases hu with rfl | rfl | rfl | rfl | rfl | rfl <;> rfl
    · exact ih u hu
theorem cellsW_at : ∀ (L : List Wd) (j : Nat) (hj : j < L.length) (i : Nat) (u : Value), (cellW L[j])[i]? = some u → (cellsW L)[j * 6 + i]? = some u
  | [], j, hj, _, _, _ => by simp at hj
  | x :: r, 0, _, i, u, h => by
    have hi : i < (cellW x).length := (List.getElem?_eq_some_iff.1 h).1
    simp only [cellsW, Nat.zero_mul, Nat.zero_add]
    rw [List.getElem?_append_left hi]
    exact h
  | x :: r, j + 1, hj, i, u, h => by
    have hx := cellsW_at r j (by simpa using hj) i u (by simpa using h)
    have e : (j + 1) * 6 + i = (cellW x).length + (j * 6 + i) := by simp only [cellW, List.length_cons, List.length_nil]; omega
    simp only [cellsW]
    rw [e, List.getElem?_append_right (by omega), Nat.add_sub_cancel_left]
    exact hx
/-- A slice value reads as these tokens; its block is one of S. -/
def WIn (S : Nat → Prop) (w : World) (v : Value) (L : List Wd) : Prop :=
  ∃ p c, v = .slice p L.length c ∧ L.length ≤ c ∧ c ≤ maxLen ∧ (L = [] ∨ ∃ b off, p = some ⟨b, off, none⟩ ∧ S b ∧ b < w.heap.size ∧ ∀ j (h : j < L.length) i u, (cellW L[j])[i]? = some u → w.cell? ⟨b, off + (j * 6 + i), none⟩ = some u)
theorem WIn.keep {S S' : Nat → Prop} {w w' : World} {v : Value} {L : List Wd} (h : WIn S w v L) (hs : w.heap.size ≤ w'.heap.size) (hS : ∀ k, S k → k < w.heap.size → S' k ∧ w'.heap[k]? = w.heap[k]?) : WIn S' w' v L := by
  obtain ⟨p, c, rfl, h1, h2, h⟩ := h
  refine ⟨p, c, rfl, h1, h2, ?_⟩
  rcases h with h | ⟨b, off, rfl, hb, hl, h⟩
  · exact .inl h
  · obtain ⟨g1, g2⟩ := hS b hb hl
    exact .inr ⟨b, off, rfl, g1, by omega, fun j hj i u hu => (World.cell?_of_block (a := ⟨b, off + (j * 6 + i), none⟩) g2).trans (h j hj i u hu)⟩
theorem WIn.below {S : Nat → Prop} {n : Nat} {w w' : World} {v : Value} {L : List Wd} (h : WIn S w v L) (hS : ∀ k, S k → k < n) (hb : Below n w w') : WIn S w' v L := h.keep hb.size fun k e _ => ⟨e, hb.block k (hS k e)⟩
/-- The six cells of a token of the row. -/
theorem WIn.at_ {S : Nat → Prop} {w : World} {v : Value} {L : List Wd} (h : WIn S w v L) (h0 : 0 < L.length) : ∃ b off c, v = .slice (some ⟨b, off, none⟩) L.length c ∧ L.length ≤ c ∧ c ≤ maxLen ∧ b < w.heap.size ∧ S b ∧ ∀ j (h : j < L.length),
    w.cell? ⟨b, off + j * 6, none⟩ = some (.int .i64 L[j].kind) ∧ w.cell? ⟨b, off + j * 6 + 1, none⟩ = some (.string ⟨L[j].text.toArray⟩) ∧ w.cell? ⟨b, off + j * 6 + 2, none⟩ = some (.int .i64 L[j].val.1) ∧
    w.cell? ⟨b, off + j * 6 + 3, none⟩ = some (.int .i64 L[j].val.2.1) ∧ w.cell? ⟨b, off + j * 6 + 4, none⟩ = some (.string L[j].val.2.2) ∧ w.cell? ⟨b, off + j * 6 + 5, none⟩ = some (.int .i64 L[j].pos) := by
  obtain ⟨p, c, rfl, h1, h2, h⟩ := h
  rcases h with rfl | ⟨b, off, rfl, hb, hl, h⟩
  · simp at h0
  · refine ⟨b, off, c, rfl, h1, h2, hl, hb, fun j hj => ⟨?_, ?_, ?_, ?_, ?_, ?_⟩⟩
    · exact h j hj 0 _ rfl
    · exact h j hj 1 _ rfl
    · exact h j hj 2 _ rfl
    · exact h j hj 3 _ rfl
    · exact h j hj 4 _ rfl
    · exact h j hj 5 _ rfl
theorem Tryz.infoW : (Tryz.prog.info? 107).map (fun i => (i.zero, i.size, i.bytes)) = some (some (.agg #[.int .i64 0, .string ⟨#[]⟩, .int .i64 0, .int .i64 0, .string ⟨#[]⟩, .int .i64 0]), 6, 64) := by kernel_rfl
/-- A slice value that the call owns holds a row of tokens. -/
def OwnW (B : Nat) (w : World) (v : Value) (L : List Wd) : Prop := w.ownsRow B 107 6 v L.length (cellsW L)
theorem OwnW.nil (B : Nat) (w : World) : OwnW B w (.slice none 0 0) [] := World.ownsRow_nil w B _ 6
theorem OwnW.alloc {B : Nat} {w : World} {v : Value} {L : List Wd} (h : OwnW B w v L) (o : Obj) : OwnW B (w.alloc o) v L := World.ownsRow.alloc h o
theorem OwnW.keep {B : Nat} {w w' : World} {v : Value} {L : List Wd} (h : OwnW B w v L) (hb : ∀ k, v.ownBlock = some k → w'.heap[k]? = w.heap[k]?) : OwnW B w' v L := by
  refine ⟨h.1, ?_⟩
  rcases h.2 with hn | ⟨g, cap, cur, rfl, hB, hg, rest⟩
  · exact .inl hn
  · exact .inr ⟨g, cap, cur, rfl, hB, (hb g rfl).trans hg, rest⟩
theorem OwnW.mono {B B' : Nat} {w : World} {v : Value} {L : List Wd} (h : OwnW B w v L) (hB : B' ≤ B) : OwnW B' w v L := by
  refine ⟨h.1, ?_⟩
  rcases h.2 with hn | ⟨g, cap, cur, rfl, hB', rest⟩
  · exact .inl hn
  · exact .inr ⟨g, cap, cur, rfl, by omega, rest⟩
theorem OwnW.lt {B : Nat} {w : World} {v : Value} {L : List Wd} (h : OwnW B w v L) : ∀ k, v.ownBlock = some k → B ≤ k ∧ k < w.heap.size := World.ownsRow.lt h
theorem OwnW.below {B : Nat} {w w' : World} {v : Value} {L : List Wd} (h : OwnW B w v L) (hb : Below w.heap.size w w') : OwnW B w' v L := h.keep fun k e => hb.block k (h.lt k e).2
theorem OwnW.in_ {B : Nat} {w : World} {v : Value} {L : List Wd} (h : OwnW B w v L) (S : Nat → Prop) (hS : ∀ k, v.ownBlock = some k → S k) : WIn S w v L := by
  rcases Nat.eq_zero_or_pos L.length with h0 | h0
  · obtain rfl := List.eq_nil_of_length_eq_zero h0
    rcases h.2 with ⟨rfl, -⟩ | ⟨g, cap, cur, rfl, -, -, hnc, hcm, -⟩
    · exact ⟨none, 0, rfl, by simp, by simp, .inl rfl⟩
    · exact ⟨_, cap, rfl, by simp, hcm, .inl rfl⟩
  · obtain ⟨g, cap, rfl, -, hg⟩ := World.ownsRow.form h h0
    have hcap : L.length ≤ cap ∧ cap ≤ maxLen := by
      rcases h.2 with ⟨e, -⟩ | ⟨g', cap', cur, e, -, -, hnc, hcm, -⟩
      · cases e
      · cases e; exact ⟨hnc, hcm⟩
    refine ⟨_, cap, rfl, hcap.1, hcap.2, .inr ⟨g, 0, rfl, hS g rfl, hg, fun j hj i u hu => ?_⟩⟩
    have hc := World.ownsRow.cells h (g := g) rfl (j * 6 + i) u (cellsW_at L j hj i u hu)
    rw [addr_add] at hc
    exact hc
/-- An append of one token, laid in a block of its own, onto a row of the call's own. -/
theorem run_appW (w : World) (B : Nat) (ty : TypeId) (v : Value) (T : List Wd) (x : Wd) (b c : Nat) (hown : OwnW B w v T) (hx : ∀ j u, (cellW x)[j]? = some u → w.cell? ⟨b, 0 + j, none⟩ = some u) (hT : T.length ≤ 1000000) (hB : B ≤ w.heap.size) :
    ∃ v' w', (Builtin.append_ #[60, 60] ty #[v, .slice (some ⟨b, 0, none⟩) 1 c]).run Tryz.prog w = .ok v' w' ∧ OwnW B w' v' (T ++ [x]) ∧ w.grownBy w' v.ownBlock ∧ (v'.ownBlock = v.ownBlock ∨ v'.ownBlock = some w.heap.size) := by
  obtain ⟨i0, hi, hz0, hz1, hz2⟩ := info_parts Tryz.infoW
  obtain ⟨v', w', hr, ho, hg, -, hv⟩ := run_append_own_at (P := Tryz.prog) w B 60 ty 107 i0 _ 6 64 Tryz.underlying60 hi hz0 hz1 hz2 rfl (by decide) v _ _ hown ⟨b, 0, none⟩ 1 c (cellsW [x])
    (cellsW_len [x]) (fun j u hu => by rw [addr_add]; exact hx j u (by simpa [cellsW] using hu)) (cellsW_one [x]) (by unfold maxLen; omega) (by omega) hB
  refine ⟨v', w', hr, ?_, hg, hv⟩
  unfold OwnW
  rw [List.length_append, cellsW_append]
  exact ho
theorem wpListIn_appW {F : Fence} {f : Nat} {ops : Array Oper} {rest : List Oper} {o : Oper} {a : Act} {w : World} {Q : Exit → Act → World → Prop} (hgd : o.guard = none) (s y : Operand)
    (ho : o.op = .call { callee := .builtin .append, args := #[s, y], argTypes := #[60, 60] })
    (B : Nat) (v : Value) (T : List Wd) (x : Wd) (b c : Nat) (hs : a.eval s = v) (hx : a.eval y = .slice (some ⟨b, 0, none⟩) 1 c) (hown : OwnW B w v T) (hin : ∀ j u, (cellW x)[j]? = some u → w.cell? ⟨b, 0 + j, none⟩ = some u) (hlen : T.length ≤ 1000000) (hB : B ≤ w.heap.size)
    (h : ∀ v' w', OwnW B w' v' (T ++ [x]) → w.grownBy w' v.ownBlock → (v'.ownBlock = v.ownBlock ∨ v'.ownBlock = some w.heap.size) → wpListIn F f Tryz.prog ops Q rest (a.put o.dst v') w') : wpListIn F f Tryz.prog ops Q (o :: rest) a w := by
  refine wpListIn_plain hgd fun K hK => ?_
  obtain ⟨v', w', hr, h2, h3, h4⟩ := run_appW w B o.type v T x b c hown hin hlen hB
  unfold Oper.wpIn
  refine ⟨?_, ?_⟩
  · simp [Oper.about, ho, resolve, Target.leads, Sem.run_pure]
  · rw [Oper.semAt_plain F _ _ (by rw [ho]; intro c hc'; cases hc')]
    simp [execOp, ho, resolve, invoke, builtin, hs, hx, hr, Result.andThen]
    exact hK _ _ (h v' w' h2 h3 h4)
theorem wpList_appW {ops : Array Oper} {rest : List Oper} {o : Oper} {a : Act} {w : World} {Q : Exit → Act → World → Prop} (hgd : o.guard = none) (s y : Operand)
    (ho : o.op = .call { callee := .builtin .append, args := #[s, y], argTypes := #[60, 60] })
    (B : Nat) (v : Value) (T : List Wd) (x : Wd) (b c : Nat) (hs : a.eval s = v) (hx : a.eval y = .slice (some ⟨b, 0, none⟩) 1 c) (hown : OwnW B w v T) (hin : ∀ j u, (cellW x)[j]? = some u → w.cell? ⟨b, 0 + j, none⟩ = some u) (hlen : T.length ≤ 1000000) (hB : B ≤ w.heap.size)
    (h : ∀ v' w', OwnW B w' v' (T ++ [x]) → w.grownBy w' v.ownBlock → (v'.ownBlock = v.ownBlock ∨ v'.ownBlock = some w.heap.size) → wpList Tryz.prog ops Q rest (a.put o.dst v') w') : wpList Tryz.prog ops Q (o :: rest) a w := by
  refine wpList_plain hgd fun K hK => ?_
  obtain ⟨v', w', hr, h2, h3, h4⟩ := run_appW w B o.type v T x b c hown hin hlen hB
  unfold Oper.wp execOp
  simp only [ho, resolve, invoke, builtin, Sem.run_bind, Sem.run_pure, Result.andThen_ok, List.map_toArray, List.map_cons, List.map_nil, hs, hx, hr]
  exact hK _ _ (h v' w' h2 h3 h4)
/-- A token laid in a new block. -/
theorem litW_in (w : World) (x : Wd) : ∀ j u, (cellW x)[j]? = some u → (w.alloc (.cells #[.int .i64 x.kind, .string ⟨x.text.toArray⟩, .int .i64 x.val.1, .int .i64 x.val.2.1, .string x.val.2.2, .int .i64 x.pos] 107)).cell? ⟨w.heap.size, 0 + j, none⟩ = some u := by
  intro j u hu
  rw [Nat.zero_add, cell_of_row _ w.heap.size _ _ _ (0, 0) (heap_alloc_new w _)]
  simpa [cellW] using hu
/-- A range over a function, at the outermost: the function's contract at a record that is laid behind a block for deferred calls; a round may have left a return. -/
theorem range_ret {f : Nat} {P : Program} {g : Operand} {ps : Array Tmp} {assign body : Code} {Q : Exit → Act → World → Prop} {a : Act} {w : World} {gf : Nat} {lb : Array Value}
    (hg : a.eval g = .func (.func gf) #[] lb) (eg : ∀ args w, (callFunc gf args).run P w = .ok (.enter gf args) w)
    (h : ∀ r : Loop, r.state = .ready → r.pending = none → r.params = ps → r.tmps = a.tmps → r.assign = assign → r.body = body →
      CallsIn Fence.wide (f - 1) P gf (#[.func (.yield (w.heap.size + 1)) #[] #[]] ++ lb) ((w.alloc (.deferred (some []))).alloc (.loop r)) fun e w' => (∃ v, e = .returned v) ∧ ∃ r', w'.heap[w.heap.size + 1]? = some (.loop r') ∧ r'.state ≠ .busy ∧
        ((r'.pending = none ∧ Q .normal { a with defers := { target := .collected w.heap.size, args := #[] } :: a.defers } (w'.putObj (w.heap.size + 1) (.loop { r' with state := .exhausted }))) ∨
         (r'.pending = some .ret ∧ Code.ret.wpIn Fence.wide f P Q { a with defers := { target := .collected w.heap.size, args := #[] } :: a.defers } (w'.putObj (w.heap.size + 1) (.loop { r' with state := .exhausted }))))) :
    (Code.rangeFunc g ps assign body).wpIn Fence.wide f P Q a w := by
  refine wpIn_rangeFunc fun fn hfn => ?_
  obtain ⟨r, hr⟩ : ∃ r : Loop, r = { state := .ready, pending := none, fn := fn, tmps := a.tmps, params := ps, assign := assign, body := body, defers := w.heap.size } := ⟨_, rfl⟩
  have hc := h r (by rw [hr]) (by rw [hr]) (by rw [hr]) (by rw [hr]) (by rw [hr]) (by rw [hr])
  refine ⟨w.heap.size + 1, [{ target := .collected w.heap.size, args := #[] }], (w.alloc (.deferred (some []))).alloc (.loop r), { target := .fn (.func gf) lb, args := #[.func (.yield (w.heap.size + 1)) #[] #[]] }, (w.alloc (.deferred (some []))).alloc (.loop r), gf, #[.func (.yield (w.heap.size + 1)) #[] #[]] ++ lb, (w.alloc (.deferred (some []))).alloc (.loop r), ?_, ?_, fun _ _ => True.intro, ?_, fun hd => ?_, ?_⟩
  · rw [hr]; exact run_enterLoop_outer _ _ _ _ _
  · simp only [resolve, hg]
    simp [go_sem]
  · simp [invoke, go_sem, eg]
  · cases hd
  · refine hc.mono ?_
    rintro e w' ⟨⟨v, rfl⟩, r', hl, hb, hQ⟩
    have hend := run_endLoop (P := P) hl hb
    rcases hQ with ⟨hp, hQ⟩ | ⟨hp, hQ⟩
    · exact ⟨none, _, by rw [hend, hp], hQ⟩
    · exact ⟨some .ret, _, by rw [hend, hp], hQ⟩
/-- A loop's record while a round is under way. -/
def busyR (r : Loop) : Loop := { r with state := .busy }
/-- A loop's record behind a round that has returned. -/
def doneR (r : Loop) : Loop := { r with state := .done, pending := some .ret }
/-- How a round may be left: off its end, or by a return. -/
def roundRet (l : Nat) (r : Loop) (R Rx : World → Prop) : Exit → Act → World → Prop
  | .normal, _, W => W.heap[l]? = some (.loop (busyR r)) ∧ R (W.putObj l (.loop r))
  | .ret, _, W => W.heap[l]? = some (.loop (busyR r)) ∧ Rx (W.putObj l (.loop (doneR r)))
  | _, _, _ => False
theorem yield_ret {l f : Nat} {P : Program} {r : Loop} {args : Array Value} {W : World} {R Rx : World → Prop} (hl : W.heap[l]? = some (.loop r)) (hr : r.state = .ready) (hp : r.pending = none) (hs : args.size = r.params.size)
    (h : r.assign.wpIn (Fence.wide.inRound l) f P (Exit.then (fun a₁ W₁ => W₁.heap[l]? = some (.loop r) ∧ r.body.wpIn (Fence.wide.inRound l) f P (roundRet l r R Rx) a₁ (W₁.putObj l (.loop (busyR r)))) (fun _ _ _ => False))
      { tmps := (r.params.zip args).foldl (fun tmps (t, a) => tmps.setIfInBounds t a) r.tmps, defers := [] } W) :
    YieldAt Fence.wide f P l args W fun e W' => (e = .returned (.bool true) ∧ R W') ∨ (e = .returned (.bool false) ∧ Rx W') := by
  refine ⟨r.fn, _, r.assign, r.body, run_yield hl hs, roundIn_of_wpIn trivial (wpIn_mono h ?_)⟩
  rintro e a W1 hq
  cases e with
  | normal =>
    obtain ⟨hl1, hb⟩ := hq
    refine ⟨_, run_beginRound hl1 hr, wpIn_mono hb ?_⟩
    rintro e a W3 hq
    cases e with
    | normal =>
      obtain ⟨hl3, hR⟩ := hq
      refine ⟨_, _, run_endRound none hl3, .inl ⟨rfl, ?_⟩⟩
      have e : ({ busyR r with state := if (none : Option Code).isNone then LoopState.ready else LoopState.done, pending := none } : Loop) = r := by
        obtain ⟨s, p, _, _, _, _, _, _⟩ := r
        simp only at hr hp
        rw [hr, hp]
        rfl
      exact e ▸ hR
    | ret =>
      obtain ⟨hl3, hR⟩ := hq
      exact ⟨_, _, run_endRound (some .ret) hl3, .inr ⟨rfl, hR⟩⟩
    | _ => exact hq.elim
  | _ => exact hq.elim
theorem min_of {p : Nat → Prop} : ∀ n, p n → ∃ m, p m ∧ ∀ k, p k → m ≤ k := fun n => by
  induction n using Nat.strongRecOn with
  | ind n ih =>
    intro h
    by_cases e : ∃ k, k < n ∧ p k
    · obtain ⟨k, hk, hp⟩ := e
      exact ih k hk hp
    · exact ⟨n, h, fun k hk => Nat.le_of_not_lt fun hlt => e ⟨k, hlt, hk⟩⟩
open Classical in
/-- The least number of which something holds, and 0. -/
noncomputable def leastN (p : Nat → Prop) : Nat := if h : ∃ m, p m ∧ ∀ k, p k → m ≤ k then h.choose else 0
theorem leastN_spec {p : Nat → Prop} {n : Nat} (h : p n) : p (leastN p) ∧ leastN p ≤ n := by
  have hx := min_of n h
  unfold leastN
  rw [dif_pos hx]
  exact ⟨hx.choose_spec.1, hx.choose_spec.2 n h⟩
end Go.Proofs.YtnbaemfkpfmheaaGreatDoor

/-
  A range over a function whose rounds may return; the closure of merge.All in such a range.
-/
import Derived.Test.YtcfnpbmkcdmafaaMgO
import Derived.RangeFuncBox
import Derived.RangeFuncLeaves
import Derived.RangeFuncCalls
import Derived.OwnWalkIn
import Derived.TacticsInMore
import Derived.LoopNIn
import Derived.LoopIn
namespace Go.Proofs.Ytcfnpbmkcdmafaa
open Go Go.RowKit Go.Shelf

attribute [local go_sem] Oper.semAt_some

/-- A range over a function, at the outermost: the function's contract at a record that is laid behind a block for deferred calls; a round may have left a return. -/
theorem range_ret {f : Nat} {P : Program} {g : Operand} {ps : Array Tmp} {assign body : Code} {Q : Exit → Act → World → Prop} {a : Act} {w : World} {gf : Nat} {lb : Array Value}
    (hg : a.eval g = .func (.func gf) #[] lb) (eg : ∀ args w, (callFunc gf args).run P w = .ok (.enter gf args) w)
    (h : ∀ r : Loop, r.state = .ready → r.pending = none → r.params = ps → r.tmps = a.tmps → r.assign = assign → r.body = body →
      CallsIn Fence.wide (f - 1) P gf (#[.func (.yield (w.heap.size + 1)) #[] #[]] ++ lb) ((w.alloc (.deferred (some []))).alloc (.loop r)) fun e w' => (∃ v, e = .returned v) ∧ ∃ r', w'.heap[w.heap.size + 1]? = some (.loop r') ∧ r'.state ≠ .busy ∧
        ((r'.pending = none ∧ Q .normal { a with defers := { target := .collected w.heap.size, args := #[] } :: a.defers } (w'.putObj (w.heap.size + 1) (.loop { r' with state := .exhausted }))) ∨
         (r'.pending = some .ret ∧ Code.ret.wpIn Fence.wide f P Q { a with defers := { target := .collected w.heap.size, args := #[] } :: a.defers } (w'.putObj (w.heap.size + 1) (.loop { r' with state := .exhausted }))))) :
    (Code.rangeFunc g ps assign body).wpIn Fence.wide f P Q a w := by
  refine wpIn_rangeFunc fun fn hfn => ?_
  obtain ⟨r, hr⟩ : ∃ r : Loop, r = { state := .ready, pending := none, fn := fn, tmps := a.tmps, params := ps, assign := assign, body := body, defers := w.heap.size } := ⟨_, rfl⟩
  have hc := h r (by rw [hr]) (by rw [hr]) (by rw [hr]) (by rw [hr]) (by rw [hr]) (by rw [hr])
  refine ⟨w.heap.size + 1, [{ target := .collected w.heap.size, args := #[] }], (w.alloc (.deferred (some []))).alloc (.loop r), { target := .fn (.func gf) lb, args := #[.func (.yield (w.heap.size + 1)) #[] #[]] }, (w.alloc (.deferred (some []))).alloc (.loop r), gf, #[.func (.yield (w.heap.size + 1)) #[] #[]] ++ lb, (w.alloc (.deferred (some []))).alloc (.loop r), ?_, ?_, fun _ _ => True.intro, ?_, fun hd => ?_, ?_⟩
  · rw [hr]; exact run_enterLoop_outer _ _ _ _ _
  · simp only [resolve, hg]
    simp [go_sem]
  · simp [invoke, go_sem, eg]
  · cases hd
  · refine hc.mono ?_
    rintro e w' ⟨⟨v, rfl⟩, r', hl, hb, hQ⟩
    have hend := run_endLoop (P := P) hl hb
    rcases hQ with ⟨hp, hQ⟩ | ⟨hp, hQ⟩
    · exact ⟨none, _, by rw [hend, hp], hQ⟩
    · exact ⟨some .ret, _, by rw [hend, hp], hQ⟩
/-- A loop's record while a round is under way. -/
def busyR (r : Loop) : Loop := { r with state := .busy }
/-- A loop's record behind a round that has returned. -/
def doneR (r : Loop) : Loop := { r with state := .done, pending := some .ret }
/-- How a round may be left: off its end, or by a return. -/
def roundRet (l : Nat) (r : Loop) (R Rx : World → Prop) : Exit → Act → World → Prop
  | .normal, _, W => W.heap[l]? = some (.loop (busyR r)) ∧ R (W.putObj l (.loop r))
  | .ret, _, W => W.heap[l]? = some (.loop (busyR r)) ∧ Rx (W.putObj l (.loop (doneR r)))
  | _, _, _ => False
theorem yield_ret {l f : Nat} {P : Program} {r : Loop} {args : Array Value} {W : World} {R Rx : World → Prop} (hl : W.heap[l]? = some (.loop r)) (hr : r.state = .ready) (hp : r.pending = none) (hs : args.size = r.params.size)
    (h : r.assign.wpIn (Fence.wide.inRound l) f P (Exit.then (fun a₁ W₁ => W₁.heap[l]? = some (.loop r) ∧ r.body.wpIn (Fence.wide.inRound l) f P (roundRet l r R Rx) a₁ (W₁.putObj l (.loop (busyR r)))) (fun _ _ _ => False))
      { tmps := (r.params.zip args).foldl (fun tmps (t, a) => tmps.setIfInBounds t a) r.tmps, defers := [] } W) :
    YieldAt Fence.wide f P l args W fun e W' => (e = .returned (.bool true) ∧ R W') ∨ (e = .returned (.bool false) ∧ Rx W') := by
  refine ⟨r.fn, _, r.assign, r.body, run_yield hl hs, roundIn_of_wpIn trivial (wpIn_mono h ?_)⟩
  rintro e a W1 hq
  cases e with
  | normal =>
    obtain ⟨hl1, hb⟩ := hq
    refine ⟨_, run_beginRound hl1 hr, wpIn_mono hb ?_⟩
    rintro e a W3 hq
    cases e with
    | normal =>
      obtain ⟨hl3, hR⟩ := hq
      refine ⟨_, _, run_endRound none hl3, .inl ⟨rfl, ?_⟩⟩
      have e : ({ busyR r with state := if (none : Option Code).isNone then LoopState.ready else LoopState.done, pending := none } : Loop) = r := by
        obtain ⟨s, p, _, _, _, _, _, _⟩ := r
        simp only at hr hp
        rw [hr, hp]
        rfl
      exact e ▸ hR
    | ret =>
      obtain ⟨hl3, hR⟩ := hq
      exact ⟨_, _, run_endRound (some .ret) hl3, .inr ⟨rfl, hR⟩⟩
    | _ => exact hq.elim
  | _ => exact hq.elim
theorem min_of {p : Nat → Prop} : ∀ n, p n → ∃ m, p m ∧ ∀ k, p k → m ≤ k := fun n => by
  induction n using Nat.strongRecOn with
  | ind n ih =>
    intro h
    by_cases e : ∃ k, k < n ∧ p k
    · obtain ⟨k, hk, hp⟩ := e
      exact ih k hk hp
    · exact ⟨n, h, fun k hk => Nat.le_of_not_lt fun hlt => e ⟨k, hlt, hk⟩⟩
open Classical in
/-- The least number of which something holds, and 0. -/
noncomputable def leastN (p : Nat → Prop) : Nat := if h : ∃ m, p m ∧ ∀ k, p k → m ≤ k then h.choose else 0
theorem leastN_spec {p : Nat → Prop} {n : Nat} (h : p n) : p (leastN p) ∧ leastN p ≤ n := by
  have hx := min_of n h
  unfold leastN
  rw [dif_pos hx]
  exact ⟨hx.choose_spec.1, hx.choose_spec.2 n h⟩
theorem neqYield (l : Nat) (W : World) : (binOp .neq 36 (.func (.yield l) #[] #[]) .nilFunc).run Try.prog W = .ok (.bool true) W := by kernel_rfl
set_option maxRecDepth 100000 in
set_option maxHeartbeats 2000000 in
/-- The closure of All hands each thing that the cursor at r tells to a loop's round. -/
theorem all1_in (f : Nat) (hf : 2 ≤ f) (l r : Nat) (J J' : List Th → World → Prop) (Jx : World → Prop)
    (hA : ∀ D W o, J' D W → J' D (W.alloc o))
    (hN : ∀ D W, J D W → Calls Try.prog 49 #[.pointer (some ⟨r, 0, none⟩)] W fun e W' => e = .returned (headV D) ∧ J' D W')
    (hY : ∀ x D W, J' (x :: D) W → YieldAt Fence.wide (f - 1) Try.prog l #[thV x] W fun e W' => (e = .returned (.bool true) ∧ J D W') ∨ (e = .returned (.bool false) ∧ Jx W'))
    (L : List Th) (W : World) (h0 : J L W) :
    CallsIn Fence.wide f Try.prog 48 #[.func (.yield l) #[] #[], .pointer (some ⟨r, 0, none⟩)] W fun e W' => (∃ v, e = .returned v) ∧ (J' [] W' ∨ Jx W') := by
  have HN := Lib.hid hN
  have HY := Lib.hid hY
  have HA := Lib.hid hA
  have q := neqYield l
  have h1 : 1 ≤ f := by omega
  have h2 : 1 ≤ f - 1 := by omega
  clear hN hY hA
  refine callsIn_of_wp Try.func48 rfl trivial ?_ rfl
  simp only [Try.ntmps48, List.size_toArray, List.length_cons, List.length_nil, Nat.reduceAdd, Nat.reduceSub, Array.replicate_succ, Array.replicate_zero, List.push_toArray, List.append_toArray, List.nil_append, List.cons_append]
  gi_wp2
  gi_loopw [3] (fun _ wr => ∃ D, Hid (J D wr)) (fun _ wr => leastN fun n => ∃ D, D.length = n ∧ J D wr)
  case atStart => exact ⟨L, Lib.hid h0⟩
  case round =>
    obtain ⟨D0, HD0⟩ := hrel
    obtain ⟨D, hDl, hDj⟩ := (leastN_spec (p := fun n => ∃ D, D.length = n ∧ J D wr) ⟨D0, rfl, HD0.out⟩).1
    have HD := Lib.hid hDl
    have HC := Lib.hid (HN.out D wr hDj)
    clear hDl hDj
    gi_wp2_with fail
    refine ⟨trivial, (callsIn_wide.2 HC.out).mono ?_⟩
    rintro e w1 ⟨rfl, hj⟩
    have HJ := Lib.hid hj
    clear hj HC
    cases D with
    | nil =>
      unfold headV
      gi_wp2_with fail
      refine ⟨fun _ h => (by cases h), ?_⟩
      gi_wp2_with fail
      refine bodyPost_ret (results_none rfl _ _ _) rfl ?_
      exact ⟨⟨_, rfl⟩, .inl (HA.out _ _ _ HJ.out)⟩
    | cons x D =>
      unfold headV
      have HJ2 := Lib.hid (HA.out _ _ (.cells #[.int .i8 x.1, .int .i64 x.2] 28) HJ.out)
      obtain ⟨fn, tmps, assign, body, hy, hR⟩ := HY.out x D _ HJ2.out
      gi_wp2_with fail
      refine hR.mono ?_
      rintro e W3 (⟨rfl, hJ3⟩ | ⟨rfl, hJx3⟩)
      · gi_wp2_with fail
        go_roundw
        case rel => exact ⟨D, Lib.hid hJ3⟩
        case measure =>
          have := (leastN_spec (p := fun n => ∃ D, D.length = n ∧ J D W3) ⟨D, rfl, hJ3⟩).2
          have h3 := HD.out
          simp only [List.length_cons] at h3
          omega
      · gi_wp2_with fail
        refine bodyPost_ret (results_none rfl _ _ _) rfl ?_
        exact ⟨⟨_, rfl⟩, .inr hJx3⟩
end Go.Proofs.Ytcfnpbmkcdmafaa

/-
  A region that draws its order and ends in a store: what holds of the world up to that store lets loads be taken first. Such a region in a round of a range over a function.
  Contract of a page's sealed.
  What the range of run.encoded keeps.
-/
import Derived.OrdersHeld
import Derived.Deep.RegionHeld
import Derived.RangeFuncCalls
import Derived.RangeFuncBox
import Derived.RangeFuncLeaves
import Derived.OrdersIn
import Derived.OwnWalkIn
import Derived.Shelf.Abstract
import Derived.Test.YtdjhfcopnhcljaaGreatDoorW08
import Derived.Laws.Bits64
import Derived.Test.YtdjhfcopnhcljaaGreatDoorW21
import Derived.Test.YtdjhfcopnhcljaaGreatDoorW10
namespace Go.Proofs.YtdjhfcopnhcljaaGreatDoor
section
open Go Go.RowKit Go.Shelf

attribute [local go_sem] Oper.semAt_some

section
variable {P : Program} {md : Region.Mode} {ops : Array Oper} {Q : Exit → Act → World → Prop} {S : World → Prop} {z : Nat}
/-- Number z waits for number i. -/
def waitsFor (md : Region.Mode) (ops : Array Oper) (z i : Nat) : Bool := (ops[z]?).any fun o => o.after.any fun e => Region.binds md e && e.on == i
/-- Whatever order is picked from here on; S holds behind all that is carried out but number z. -/
def wpHeld (P : Program) (md : Region.Mode) (ops : Array Oper) (Q : Exit → Act → World → Prop) (S : World → Prop) (z : Nat) : Nat → Array Bool → Act → World → Prop
  | 0, listed, a, w => Region.ready md ops listed = [] ∧ Q .normal a w
  | fuel + 1, listed, a, w => (Region.ready md ops listed = [] → Q .normal a w) ∧ ∀ i ∈ Region.ready md ops listed, wpOp P ops Q i (fun a' w' => (i ≠ z → S w') ∧ wpHeld P md ops Q S z fuel (listed.setIfInBounds i true) a' w') a w
theorem wpHeld.any : ∀ (fuel : Nat) (listed : Array Bool) (a : Act) (w : World), wpHeld P md ops Q S z fuel listed a w → wpAny P md ops Q fuel listed a w
  | 0, _, _, _, h => h
  | fuel + 1, _, _, _, h => ⟨h.1, fun i hi => wpOp_mono (fun a' w' h' => wpHeld.any fuel _ a' w' h'.2) (h.2 i hi)⟩
theorem late {i : Nat} {listed : Array Bool} (hz : waitsFor md ops z i = true) (hi : listed.getD i true = false) : z ∉ Region.ready md ops listed := by
  intro hr
  obtain ⟨-, oz, hoz, hall⟩ := mem_ready.1 hr
  unfold waitsFor at hz
  rw [hoz] at hz
  simp only [Option.any_some] at hz
  obtain ⟨e, he, hb⟩ := Array.any_eq_true'.1 hz
  simp only [Bool.and_eq_true, beq_iff_eq] at hb
  have h1 := hall e he hb.1
  rw [hb.2] at h1
  by_cases hl : i < listed.size
  · simp [hl] at hi h1
    rw [hi] at h1
    cases h1
  · simp [hl] at hi
theorem held_first {i : Nat} {oi : Oper} {v : Value} (hi : ops[i]? = some oi) (hsel : Region.noSelect ops = true) (hz : waitsFor md ops z i = true) (hQ : ∀ c a w, Q (.panic c) (a.put oi.dst v) w → Q (.panic c) a w) :
    ∀ (fuel : Nat) (listed : Array Bool) (a : Act) (w : World),
      (∀ j oj, ops[j]? = some oj → j ≠ i → listed.getD j true = false → (∀ e ∈ oj.after, Region.binds md e = true → e.on ≠ i) → oi.apart ops oj = true) →
      i ∈ Region.ready md ops listed → YieldsIf P ops S oi v a → S w → wpHeld P md ops Q S z fuel (listed.setIfInBounds i true) (a.put oi.dst v) w → wpHeld P md ops Q S z (fuel + 1) listed a w := by
  have hsel' := Region.noSelect_spec hsel
  intro fuel
  induction fuel with
  | zero =>
    intro listed a w _ hr hy hS H
    refine ⟨fun e => absurd hr (by rw [e]; exact List.not_mem_nil), fun j hj => ?_⟩
    rcases Decidable.em (j = i) with rfl | hji
    · exact hy.wpOp hi hS ⟨fun _ => hS, H⟩
    · exact absurd (ready_mono hj hji) (by rw [H.1]; exact List.not_mem_nil)
  | succ fuel ih =>
    intro listed a w hfree hr hy hS H
    refine ⟨fun e => absurd hr (by rw [e]; exact List.not_mem_nil), fun j hj => ?_⟩
    rcases Decidable.em (j = i) with rfl | hji
    · exact hy.wpOp hi hS ⟨fun _ => hS, H⟩
    · have hun : listed.getD i true = false := (mem_ready.1 hr).1
      have hjz : j ≠ z := fun e => late hz hun (e ▸ hj)
      obtain ⟨hjun, oj, hoj, hall⟩ := mem_ready.1 hj
      have hno : ∀ e ∈ oj.after, Region.binds md e = true → e.on ≠ i := fun e he hb heq => by
        have h1 := hall e he hb
        rw [heq] at h1
        by_cases hl : i < listed.size
        · simp [hl] at hun h1
          rw [hun] at h1
          cases h1
        · simp [hl] at hun
      refine wpOp_mono (fun a' w' h => ?_) (wpOp_putIf hoj (hfree j oj hoj hji hjun hno) (hsel' i oi · · hi) (hsel' j oj · · hoj) hQ hy (H.2 j (ready_mono hj hji)))
      obtain ⟨hy', hS', hH⟩ := h
      refine ⟨hS', ih _ a' w' (fun k ok hk hki hkun hkno => hfree k ok hk hki ?_ hkno) (ready_mono hr (fun e => hji e.symm)) hy' (hS' hjz) (by rw [Array.setIfInBounds_comm _ _ hji]; exact hH)⟩
      rcases Decidable.em (j = k) with rfl | hjk
      · exact hjun
      · rwa [getD_set_ne true hjk] at hkun
/-- Number i, a load or what yields anyway, is taken first. -/
theorem held_take {i : Nat} {oi : Oper} {v : Value} {fuel : Nat} {listed : Array Bool} {a : Act} {w : World} (hi : ops[i]? = some oi) (hs : Region.noSelect ops = true) (hz : waitsFor md ops z i = true)
    (hf : Region.free md ops listed i = true) (hr : (Region.ready md ops listed).contains i = true) (hQ : ∀ c a w, Q (.panic c) (a.put oi.dst v) w → Q (.panic c) a w) (hy : YieldsIf P ops S oi v a) (hS : S w)
    (h : wpHeld P md ops Q S z fuel (listed.setIfInBounds i true) (a.put oi.dst v) w) : wpHeld P md ops Q S z (fuel + 1) listed a w :=
  held_first hi hs hz hQ fuel listed a w (Region.free_spec hi hf) (by simpa using hr) hy hS h
theorem held_done {listed : Array Bool} {a : Act} {w : World} (hr : Region.ready md ops listed = []) (h : Q .normal a w) : ∀ fuel, wpHeld P md ops Q S z fuel listed a w
  | 0 => ⟨hr, h⟩
  | _ + 1 => ⟨fun _ => h, by rw [hr]; simp⟩
/-- Number i alone may come up. -/
theorem held_next {i : Nat} {o : Oper} {fuel : Nat} {listed : Array Bool} {a : Act} {w : World} (hr : Region.ready md ops listed = [i]) (ho : ops[i]? = some o)
    (h : ∀ K' : Act → World → Prop, Shut (∀ a w, (i ≠ z → S w) → wpHeld P md ops Q S z fuel (listed.setIfInBounds i true) a w → K' a w) → if Region.wanted o (yielded ops a.tmps) = true then Oper.wp P o a w K' Q else K' (a.put o.dst undef) w) :
    wpHeld P md ops Q S z (fuel + 1) listed a w := by
  refine ⟨fun e => absurd e (by rw [hr]; simp), fun j hj => ?_⟩
  rw [hr, List.mem_singleton] at hj
  subst hj
  exact wpOp_step ho fun K' hK => h K' fun a w hS hH => hK a w ⟨hS, hH⟩
end

theorem upon_round {P : Program} {l n : Nat} {o : Oper} {a : Act} {K : Act → World → Prop} {Q : Exit → Act → World → Prop} {r : Result Next} (h : o.upon P a K Q r) : o.uponIn (Fence.wide.inRound l) n P a K Q r := by
  have hd : (Fence.wide.inRound l).depth.isSome = true → 1 ≤ n := fun e => by cases e
  cases r with
  | ok x w' =>
    cases x with
    | value v => exact h
    | skip => exact h
    | defer d => exact h
    | enter f args => exact ⟨hd, CallsIn.inRound l (callsIn_wide.2 h)⟩
    | row row args => exact ⟨hd, fun c cs _ => let ⟨v, w', r, s⟩ := h c cs; ⟨v, w', r, stepsIn_wide.2 s⟩⟩
    | _ => exact False.elim h
  | halt x w' =>
    cases x with
    | panic v => exact h
    | _ => exact False.elim h
/-- No operation of the region defers. -/
def noDefer (ops : Array Oper) : Bool := ops.all fun o => match o.op with | .defer _ => false | _ => true
theorem noDefer_at {ops : Array Oper} (h : noDefer ops = true) {i : Nat} {o : Oper} (ho : ops[i]? = some o) : ∀ c, o.op ≠ .defer c := by
  intro c e
  obtain ⟨hi, hx⟩ := Array.getElem?_eq_some_iff.1 ho
  have := Array.all_eq_true.1 h i hi
  rw [hx, e] at this
  cases this
theorem op_round {P : Program} {l n : Nat} {ops : Array Oper} {Q : Exit → Act → World → Prop} {K K' : Act → World → Prop} {i : Nat} {a : Act} {w : World} (hd : noDefer ops = true) (hQ : ¬ LetsOut Q) (hK : ∀ a w, K a w → K' a w)
    (h : wpOp P ops Q i K a w) : wpOpIn (Fence.wide.inRound l) n P ops Q i K' a w := by
  unfold wpOp at h
  unfold wpOpIn
  cases ho : ops[i]? with
  | none =>
    rw [ho] at h
    exact hK _ _ h
  | some o =>
    rw [ho] at h
    simp only at h ⊢
    by_cases hw : Region.wanted o (yielded ops a.tmps) = true
    · rw [if_pos hw] at h ⊢
      rcases h with h | ⟨-, h⟩
      · refine ⟨fun _ _ => True.intro, ?_⟩
        rw [Oper.semAt_plain _ _ _ (noDefer_at hd ho)]
        exact upon_round (Oper.wp_mono hK h)
      · exact absurd h hQ
    · rw [if_neg hw] at h ⊢
      exact ⟨fun _ _ => True.intro, hK _ _ h⟩
theorem any_round {P : Program} {l n : Nat} {md : Region.Mode} {ops : Array Oper} {Q : Exit → Act → World → Prop} (hd : noDefer ops = true) (hQ : ¬ LetsOut Q) :
    ∀ (fuel : Nat) (listed : Array Bool) (a : Act) (w : World), wpAny P md ops Q fuel listed a w → wpAnyIn (Fence.wide.inRound l) n P md ops Q fuel listed a w
  | 0, _, _, _, h => h
  | fuel + 1, _, _, _, h => ⟨h.1, fun i hi => op_round hd hQ (fun a w => any_round hd hQ fuel _ a w) (h.2 i hi)⟩
/-- A drawn region in a round, by the plain laws. -/
theorem region_round {P : Program} {l n id : Nat} {ops : Array Oper} {Q : Exit → Act → World → Prop} {a : Act} {w : World} (hm : P.follows .mixedOrders = true) (hd : noDefer ops = true) (hQ : ¬ LetsOut Q)
    (h : wpAny P .any ops Q ops.size (Array.replicate ops.size false) a w.drew) : (Code.region id ops true).wpIn (Fence.wide.inRound l) n P Q a w :=
  wpIn_region_any hm (any_round hd hQ _ _ a _ h)
theorem region_roundH {P : Program} {l n id : Nat} {ops : Array Oper} {Q : Exit → Act → World → Prop} {a : Act} {w : World} (S : World → Prop) (z : Nat) (hm : P.follows .mixedOrders = true) (hd : noDefer ops = true) (hQ : ¬ LetsOut Q)
    (h : wpHeld P .any ops Q S z ops.size (Array.replicate ops.size false) a w.drew) : (Code.region id ops true).wpIn (Fence.wide.inRound l) n P Q a w :=
  region_round hm hd hQ (wpHeld.any _ _ _ _ h)
/-- The same outside of a round. -/
theorem region_held {P : Program} {id : Nat} {ops : Array Oper} {Q : Exit → Act → World → Prop} {a : Act} {w : World} (S : World → Prop) (z : Nat) (hm : P.follows .mixedOrders = true)
    (h : wpHeld P .any ops Q S z ops.size (Array.replicate ops.size false) a w.drew) : (Code.region id ops true).wp P Q a w :=
  wp_region_any hm (wpHeld.any _ _ _ _ h)
/-- A range over a function at the outermost: the function's contract at a record that is laid behind a block for deferred calls. -/
theorem range_wide {f : Nat} {P : Program} {g : Operand} {ps : Array Tmp} {assign body : Code} {Q : Exit → Act → World → Prop} {a : Act} {w : World} {gf : Nat} {lb : Array Value}
    (hg : a.eval g = .func (.func gf) #[] lb) (eg : ∀ args w, (callFunc gf args).run P w = .ok (.enter gf args) w)
    (h : ∀ r : Loop, r.state = .ready → r.pending = none → r.params = ps → r.tmps = a.tmps → r.assign = assign → r.body = body →
      CallsIn Fence.wide (f - 1) P gf (#[.func (.yield (w.heap.size + 1)) #[] #[]] ++ lb) ((w.alloc (.deferred (some []))).alloc (.loop r)) fun e w' => (∃ v, e = .returned v) ∧ w'.heap[w.heap.size + 1]? = some (.loop r) ∧
        Q .normal { a with defers := { target := .collected w.heap.size, args := #[] } :: a.defers } (w'.putObj (w.heap.size + 1) (.loop { r with state := .exhausted }))) :
    (Code.rangeFunc g ps assign body).wpIn Fence.wide f P Q a w := by
  refine wpIn_rangeFunc fun fn hfn => ?_
  obtain ⟨r, hr⟩ : ∃ r : Loop, r = { state := .ready, pending := none, fn := fn, tmps := a.tmps, params := ps, assign := assign, body := body, defers := w.heap.size } := ⟨_, rfl⟩
  have hc := h r (by rw [hr]) (by rw [hr]) (by rw [hr]) (by rw [hr]) (by rw [hr]) (by rw [hr])
  refine ⟨w.heap.size + 1, [{ target := .collected w.heap.size, args := #[] }], (w.alloc (.deferred (some []))).alloc (.loop r), { target := .fn (.func gf) lb, args := #[.func (.yield (w.heap.size + 1)) #[] #[]] }, (w.alloc (.deferred (some []))).alloc (.loop r), gf, #[.func (.yield (w.heap.size + 1)) #[] #[]] ++ lb, (w.alloc (.deferred (some []))).alloc (.loop r), ?_, ?_, fun _ _ => True.intro, ?_, fun hd => ?_, ?_⟩
  · rw [hr]; exact run_enterLoop_outer _ _ _ _ _
  · simp only [resolve, hg]
    simp [go_sem]
  · simp [invoke, go_sem, eg]
  · cases hd
  · refine hc.mono ?_
    rintro e w' ⟨⟨v, rfl⟩, hl, hQ⟩
    refine ⟨none, _, ?_, hQ⟩
    have := run_endLoop (P := P) hl (by rw [hr]; simp)
    rw [this, hr]
/-- A loop's record while a round is under way. -/
def busyR (r : Loop) : Loop := { r with state := .busy }
/-- How a round may be left: off its end, its record as it was laid. -/
def roundOk (l : Nat) (r : Loop) (R : World → Prop) : Exit → Act → World → Prop
  | .normal, _, W => W.heap[l]? = some (.loop (busyR r)) ∧ R (W.putObj l (.loop r))
  | _, _, _ => False
theorem yield_wide {l f : Nat} {P : Program} {r : Loop} {args : Array Value} {W : World} {R : World → Prop} (hl : W.heap[l]? = some (.loop r)) (hr : r.state = .ready) (hp : r.pending = none) (hs : args.size = r.params.size)
    (h : r.assign.wpIn (Fence.wide.inRound l) f P (Exit.then (fun a₁ W₁ => W₁.heap[l]? = some (.loop r) ∧ r.body.wpIn (Fence.wide.inRound l) f P (roundOk l r R) a₁ (W₁.putObj l (.loop (busyR r)))) (fun _ _ _ => False))
      { tmps := (r.params.zip args).foldl (fun tmps (t, a) => tmps.setIfInBounds t a) r.tmps, defers := [] } W) :
    YieldAt Fence.wide f P l args W fun e W' => e = .returned (.bool true) ∧ R W' := by
  refine ⟨r.fn, _, r.assign, r.body, run_yield hl hs, roundIn_of_wpIn trivial (wpIn_mono h ?_)⟩
  rintro e a W1 hq
  cases e with
  | normal =>
    obtain ⟨hl1, hb⟩ := hq
    refine ⟨_, run_beginRound hl1 hr, wpIn_mono hb ?_⟩
    rintro e a W3 hq
    cases e with
    | normal =>
      obtain ⟨hl3, hR⟩ := hq
      refine ⟨_, _, run_endRound none hl3, rfl, ?_⟩
      have e : ({ busyR r with state := if (none : Option Code).isNone then LoopState.ready else LoopState.done, pending := none } : Loop) = r := by
        obtain ⟨s, p, _, _, _, _, _, _⟩ := r
        simp only at hr hp
        rw [hr, hp]
        rfl
      exact e ▸ hR
    | _ => exact hq.elim
  | _ => exact hq.elim
end
section
open Go Go.RowKit

set_option maxRecDepth 100000
theorem wrapU (n : Nat) (h : n < 18446744073709551616) : IntKind.u64.wrap (n : Int) = (n : Int) := by rw [IntKind.wrap_u64]; omega
set_option maxHeartbeats 4000000 in
/-- A page's bytes. -/
theorem sealed_any (v vb : Value) (P : List Ct) (w : World) (h : EnIn w.heap.size w v P) (hb : BytIn w.heap.size w vb (P.flatMap cntL)) (hP : P.length ≤ 100000) (hl : (P.flatMap cntL).length ≤ 1000000000) (G : Glob w) :
    Calls Tryz.prog 91 #[.agg #[v, vb]] w (EndB (pageL P) w) := by
  obtain ⟨p, c, rfl, -⟩ := h
  obtain ⟨pb, cb, rfl⟩ := hb.shape
  obtain ⟨w0, hw0⟩ : ∃ w0, w0 = w.alloc (.cells #[.slice p P.length c, .slice pb (P.flatMap cntL).length cb] 103) := ⟨_, rfl⟩
  have HB0 := Lib.hid (show Below w.heap.size w w0 by rw [hw0]; exact (Below.refl _ _).alloc (Nat.le_refl _) _)
  have HE := Lib.hid (show w0.cell? ⟨w.heap.size, 0, none⟩ = some (.slice p P.length c) ∧ w0.cell? ⟨w.heap.size, 1, none⟩ = some (.slice pb (P.flatMap cntL).length cb) by rw [hw0]; exact box2 _ _ _ _)
  have HS0 := Lib.hid (show w0.heap.size = w.heap.size + 1 by rw [hw0]; simp)
  have HBy := Lib.hid (hb.below HB0.out)
  have HGA := Lib.hid (show ∀ W, Below w.heap.size w W → Glob W from fun W hb => G.below hb)
  have HG := Lib.hid (G.below HB0.out)
  have hP' : (P.length : Int) ≤ 100000 := by omega
  have hP0 : (0 : Int) ≤ (P.length : Int) := by omega
  have HPl := Lib.hid hP
  have HLl := Lib.hid hl
  obtain ⟨L, hL⟩ : ∃ L, L = P.flatMap cntL := ⟨_, rfl⟩
  rw [← hL] at hw0 HE HBy HLl ⊢
  have HL := Lib.hid hL
  have HP2 := Lib.hid (show pageL P = sealL (numL P.length ++ L) by rw [hL]; rfl)
  have hn10 : (numL P.length).length ≤ 10 := numL_len10 (by omega)
  have HN := Lib.hid hn10
  clear hb hl G hP hL hn10
  go_enter Tryz.func91, Tryz.ntmps91
  go_wp2_with fail
  rw [← hw0]
  clear hw0
  have HX0 := Lib.hid (HB0.out.drew)
  have hwr := wrapU P.length (by omega)
  have HSz := Lib.hid (show w.heap.size + 1 ≤ w0.heap.size by have := HS0.out; omega)
  have HSa := Lib.hid (show (numL P.length).length + L.length ≤ 100000000000000 by have := HN.out; have := HLl.out; omega)
  have HSl := Lib.hid (show (numL P.length).length + L.length ≤ 90000000000000 by have := HN.out; have := HLl.out; omega)
  have hx0 := HE.out.1
  have hx1 := HE.out.2
  go_region_law (first
      | (refine step_app rfl (.tmp 7) (.tmp 9) rfl (w.heap.size + 1) w.heap.size w0 v1 (.slice pb L.length cb) (numL P.length) L rfl rfl HO1.out HY1.out HSa.out HC1.out HSz.out ?_; intro v2 w2 ho2 hb2; have HO2 := Lib.hid ho2; have HB2 := Lib.hid (HB0.out.trans (hb2.mono (Nat.le_succ _))); clear ho2 hb2)
      | (go_simp; go_at_call 92; refine (num_any P.length _ ?_).mono ?_; (have := HPl.out; omega); rintro e w1 ⟨v1, rfl, ho1, hb1⟩; have HB1 := Lib.hid (HX0.out.trans (hb1.mono HX0.out.size)); have HO1 := Lib.hid (ho1.mono HSz.out); have HC1 := Lib.hid (show Below (w.heap.size + 1) w0 w1 from (Below.refl _ _).drew.trans (hb1.mono HSz.out)); have j0 := (hb1.cell (p := ⟨w.heap.size, 0, none⟩) HSz.out).trans HE.out.1; have j1 := (hb1.cell (p := ⟨w.heap.size, 1, none⟩) HSz.out).trans HE.out.2; have HY1 := Lib.hid (HBy.out.below (show Below w.heap.size w0 w1 from (Below.refl _ _).drew.trans (hb1.mono HX0.out.size))); clear ho1 hb1)
      | (go_simp; go_at_call 95; refine (seal_any _ (numL P.length ++ L) _ ?_ ?_ ?_).mono ?_; exact HO2.out.in_; (rw [List.length_append]; exact HSl.out); exact HGA.out _ HB2.out; rintro e w3 ⟨v3, rfl, ho3, hb3⟩; have HB3 := Lib.hid (HB2.out.trans (hb3.mono HB2.out.size)); have HO3 := Lib.hid (ho3.mono HB2.out.size); clear ho3 hb3))
  all_goals (go_wp2_with fail; go_ret; rw [HP2.out]; exact ⟨_, rfl, HO3.out, HB3.out⟩)
end
section
open Go Go.RowKit Go.Shelf

/-- An append of bytes: the row is in the block in which it was, or in a new one. -/
theorem run_appN (w : World) (B n₀ : Nat) (ty : TypeId) (v vx : Value) (l m : List UInt8) (hown : OwnB B w v l) (hin : BytIn n₀ w vx m) (hlen : l.length + m.length ≤ 100000000000000) (hB : B ≤ w.heap.size) :
    ∃ v' w', (Builtin.append_ #[24, 24] ty #[v, vx]).run Tryz.prog w = .ok v' w' ∧ OwnB B w' v' (l ++ m) ∧ w.grownBy w' v.ownBlock ∧ (v'.ownBlock = v.ownBlock ∨ v'.ownBlock = some w.heap.size) := by
  obtain ⟨i0, hi, hz0, hz1, hz2⟩ := info_parts Tryz.infoB
  rcases hin with ⟨rfl, rfl⟩ | ⟨ad, c, rfl, hin⟩
  · exact ⟨v, w, run_append_owned_none (P := Tryz.prog) w B _ _ _ i0 1 Tryz.underlying24 hi v _ _ hown, by rw [List.append_nil]; exact hown, World.grownBy.refl w _, .inl rfl⟩
  · obtain ⟨v', w', hr, ho, hg, -, hv⟩ := run_append_own_at (P := Tryz.prog) w B 24 ty 5 i0 (.int .u8 0) 1 1 Tryz.underlying24 hi hz0 hz1 hz2 rfl (by decide) v _ _ hown ad m.length c (bytesV m)
      (by rw [bytesV_len]; omega) (fun j u hu => by obtain ⟨hj, rfl⟩ := bytesV_at m j u hu; exact (hin j hj).2) (bytesV_one m) (by unfold maxLen; omega) (by omega) hB
    refine ⟨v', w', hr, ?_, hg, hv⟩
    unfold OwnB
    rw [List.length_append, bytesV_append]
    exact ho
/-- The same at the operation, inside a fence. -/
theorem wpListIn_appN {F : Fence} {f : Nat} {ops : Array Oper} {rest : List Oper} {o : Oper} {a : Act} {w : World} {Q : Exit → Act → World → Prop} (hgd : o.guard = none) (s x : Operand)
    (ho : o.op = .call { callee := .builtin .append, args := #[s, x], argTypes := #[24, 24] })
    (B n₀ : Nat) (v vx : Value) (l m : List UInt8) (hs : a.eval s = v) (hx : a.eval x = vx) (hown : OwnB B w v l) (hin : BytIn n₀ w vx m) (hlen : l.length + m.length ≤ 100000000000000) (hB : B ≤ w.heap.size)
    (h : ∀ v' w', OwnB B w' v' (l ++ m) → w.grownBy w' v.ownBlock → (v'.ownBlock = v.ownBlock ∨ v'.ownBlock = some w.heap.size) → wpListIn F f Tryz.prog ops Q rest (a.put o.dst v') w') : wpListIn F f Tryz.prog ops Q (o :: rest) a w := by
  refine wpListIn_plain hgd fun K hK => ?_
  obtain ⟨v', w', hr, h2, h3, h4⟩ := run_appN w B n₀ o.type v vx l m hown hin hlen hB
  unfold Oper.wpIn
  refine ⟨?_, ?_⟩
  · simp [Oper.about, ho, resolve, Target.leads, Sem.run_pure]
  · rw [Oper.semAt_plain F _ _ (by rw [ho]; intro c hc'; cases hc')]
    simp [execOp, ho, resolve, invoke, builtin, hs, hx, hr, Result.andThen]
    exact hK _ _ (h v' w' h2 h3 h4)
/-- The same at a step of a region that draws its order. -/
theorem step_appN {w : World} {ops : Array Oper} {o : Oper} {a : Act} {K : Act → World → Prop} {Q : Exit → Act → World → Prop} {E : Prop} (hgd : o.guard = none) (s x : Operand)
    (ho : o.op = .call { callee := .builtin .append, args := #[s, x], argTypes := #[24, 24] })
    (B n₀ : Nat) (v vx : Value) (l m : List UInt8) (hs : a.eval s = v) (hx : a.eval x = vx) (hown : OwnB B w v l) (hin : BytIn n₀ w vx m) (hlen : l.length + m.length ≤ 100000000000000) (hB : B ≤ w.heap.size)
    (h : ∀ v' w', OwnB B w' v' (l ++ m) → w.grownBy w' v.ownBlock → (v'.ownBlock = v.ownBlock ∨ v'.ownBlock = some w.heap.size) → K (a.put o.dst v') w') : if Region.wanted o (yielded ops a.tmps) = true then Oper.wp Tryz.prog o a w K Q else E := by
  have hw : Region.wanted o (yielded ops a.tmps) = true := by simp [Region.wanted, hgd]
  rw [if_pos hw]
  obtain ⟨v', w', hr, h2, h3, h4⟩ := run_appN w B n₀ o.type v vx l m hown hin hlen hB
  unfold Oper.wp execOp
  simp only [ho, resolve, invoke, builtin, Sem.run_bind, Sem.run_pure, Result.andThen_ok, List.map_toArray, List.map_cons, List.map_nil, hs, hx, hr]
  exact h v' w' h2 h3 h4

/-- The blocks that the range of encoded turns. -/
def EnY (Bc Bl Bn l D : Nat) (vc vl : Value) (k : Nat) : Prop := k = Bc ∨ k = Bl ∨ k = Bn ∨ k = l ∨ k = D ∨ vc.ownBlock = some k ∨ vl.ownBlock = some k
/-- What the range of encoded keeps: content C, list L, n pages, the loop's record. -/
structure EnK (w0 : World) (Bc Bl Bn l D Bs : Nat) (r : Loop) (C L : List UInt8) (n : Nat) (vc vl : Value) (W : World) : Prop where
  boxc : W.heap[Bc]? = some (.cells #[vc] 24 (0, 0))
  boxl : W.heap[Bl]? = some (.cells #[vl] 24 (0, 0))
  rowc : OwnB w0.heap.size W vc C
  rowl : OwnB w0.heap.size W vl L
  num : W.heap[Bn]? = some (.cells #[.int .i64 (n : Int)] 3 (0, 0))
  loop : W.heap[l]? = some (.loop r)
  defs : W.heap[D]? = some (.deferred (some []))
  below : Below w0.heap.size w0 W
  apart : ∀ k, vc.ownBlock = some k → vl.ownBlock = some k → False
  far : ∀ k, EnY Bc Bl Bn l D vc vl k → w0.heap.size ≤ k ∧ k ≠ Bs
  bs : Bs < W.heap.size
theorem EnK.lt {w0 : World} {Bc Bl Bn l D Bs : Nat} {r : Loop} {C L : List UInt8} {n : Nat} {vc vl : Value} {A : World} (h : EnK w0 Bc Bl Bn l D Bs r C L n vc vl A) : ∀ k, EnY Bc Bl Bn l D vc vl k → k < A.heap.size := by
  have lt : ∀ {k : Nat} {o : Obj}, A.heap[k]? = some o → k < A.heap.size := fun h => (Array.getElem?_eq_some_iff.1 h).1
  rintro k (rfl | rfl | rfl | rfl | rfl | e | e)
  · exact lt h.boxc
  · exact lt h.boxl
  · exact lt h.num
  · exact lt h.loop
  · exact lt h.defs
  · exact (World.ownsRow.lt h.rowc k e).2
  · exact (World.ownsRow.lt h.rowl k e).2
theorem EnK.keep {w0 : World} {Bc Bl Bn l D Bs : Nat} {r : Loop} {C L : List UInt8} {n : Nat} {vc vl : Value} {Z : Nat → Prop} {A B : World} (h : EnK w0 Bc Bl Bn l D Bs r C L n vc vl A) (ht : Turned Z A B) (hz : ∀ k, Z k → ¬ EnY Bc Bl Bn l D vc vl k ∧ w0.heap.size ≤ k) : EnK w0 Bc Bl Bn l D Bs r C L n vc vl B := by
  have k : ∀ {k : Nat} {o : Obj}, EnY Bc Bl Bn l D vc vl k → A.heap[k]? = some o → B.heap[k]? = some o := fun hy h => (ht.block _ (Array.getElem?_eq_some_iff.1 h).1 (fun e => (hz _ e).1 hy)).trans h
  refine ⟨k (.inl rfl) h.boxc, k (.inr (.inl rfl)) h.boxl, h.rowc.off ht (fun k e e' => (hz k e').1 (.inr (.inr (.inr (.inr (.inr (.inl e))))))), h.rowl.off ht (fun k e e' => (hz k e').1 (.inr (.inr (.inr (.inr (.inr (.inr e))))))), k (.inr (.inr (.inl rfl))) h.num, k (.inr (.inr (.inr (.inl rfl)))) h.loop, k (.inr (.inr (.inr (.inr (.inl rfl))))) h.defs, h.below.trans (ht.below h.below.size (fun k e => (hz k e).2)), h.apart, h.far, Nat.lt_of_lt_of_le h.bs ht.size⟩
theorem EnK.keepB {w0 : World} {Bc Bl Bn l D Bs : Nat} {r : Loop} {C L : List UInt8} {n : Nat} {vc vl : Value} {A B : World} (h : EnK w0 Bc Bl Bn l D Bs r C L n vc vl A) (hb : Below A.heap.size A B) : EnK w0 Bc Bl Bn l D Bs r C L n vc vl B := h.keep (Turned.of_below hb) (fun _ e => e.elim)
theorem below_new (W : World) (o : Obj) : Below W.heap.size W (W.alloc o) := (Below.refl _ _).alloc (Nat.le_refl _) _
theorem EnK.drew {w0 : World} {Bc Bl Bn l D Bs : Nat} {r : Loop} {C L : List UInt8} {n : Nat} {vc vl : Value} {A : World} (h : EnK w0 Bc Bl Bn l D Bs r C L n vc vl A) : EnK w0 Bc Bl Bn l D Bs r C L n vc vl A.drew := h.keepB (Below.refl _ _).drew
theorem Turned.refl (Y : Nat → Prop) (A : World) : Turned Y A A := ⟨rfl, rfl, rfl, Nat.le_refl _, fun _ _ _ => rfl⟩
theorem Turned.trans {Y Z : Nat → Prop} {A B C : World} (h : Turned Y A B) (g : Turned Z B C) (hz : ∀ k, k < A.heap.size → Z k → Y k) : Turned Y A C :=
  ⟨g.os.trans h.os, g.tape.trans h.tape, g.output.trans h.output, Nat.le_trans h.size g.size, fun k hk hn => (g.block k (Nat.lt_of_lt_of_le hk h.size) (fun e => hn (hz k hk e))).trans (h.block k hk hn)⟩
theorem Turned.fromB {Y : Nat → Prop} {A B : World} (hb : Below A.heap.size A B) : Turned Y A B := ⟨hb.os, hb.tape, hb.output, hb.size, fun k hk _ => hb.block k hk⟩
theorem Turned.mono {Y Z : Nat → Prop} {A B : World} (h : Turned Y A B) (hz : ∀ k, Y k → Z k) : Turned Z A B := ⟨h.os, h.tape, h.output, h.size, fun k hk hn => h.block k hk (fun e => hn (hz k e))⟩
theorem turned_setCell (W : World) (B : Nat) (u : Value) : Turned (fun k => k = B) W (W.setCell ⟨B, 0, none⟩ u) := by
  have hg := grownBy_setCell' W B u
  exact ⟨hg.os, hg.tape, hg.output, hg.size, fun k hk hn => hg.block k hk (fun e => hn (by cases e; rfl))⟩
theorem turned_putObj (W : World) (l : Nat) (o : Obj) : Turned (fun k => k = l) W (W.putObj l o) := by
  have hg := grownBy_putObj' W l o
  exact ⟨hg.os, hg.tape, hg.output, hg.size, fun k hk hn => hg.block k hk (fun e => hn (by cases e; rfl))⟩
/-- The boxes and records lie apart from each other. -/
structure EnD (w0 : World) (Bc Bl Bn l D : Nat) : Prop where
  cl : Bc ≠ Bl
  cn : Bc ≠ Bn
  ln : Bl ≠ Bn
theorem EnK.differ {w0 : World} {Bc Bl Bn l D Bs : Nat} {r : Loop} {C L : List UInt8} {n : Nat} {vc vl : Value} {A : World} (h : EnK w0 Bc Bl Bn l D Bs r C L n vc vl A) (hd : EnD w0 Bc Bl Bn l D) :
    (Bc ≠ Bl ∧ Bc ≠ Bn ∧ Bl ≠ Bn ∧ l ≠ Bc ∧ l ≠ Bl ∧ l ≠ Bn ∧ D ≠ Bc ∧ D ≠ Bl ∧ D ≠ Bn ∧ D ≠ l) ∧ (∀ k, vc.ownBlock = some k → k ≠ Bc ∧ k ≠ Bl ∧ k ≠ Bn ∧ k ≠ l ∧ k ≠ D) ∧ (∀ k, vl.ownBlock = some k → k ≠ Bc ∧ k ≠ Bl ∧ k ≠ Bn ∧ k ≠ l ∧ k ≠ D) := by
  have own : ∀ {v : Value} {m : List UInt8}, OwnB w0.heap.size A v m → ∀ k, v.ownBlock = some k → k ≠ Bc ∧ k ≠ Bl ∧ k ≠ Bn ∧ k ≠ l ∧ k ≠ D := by
    intro v m ho k hk
    rcases ho.2 with ⟨rfl, -⟩ | ⟨g, cap, cur, rfl, hB', hg', -⟩
    · cases hk
    · cases hk
      refine ⟨?_, ?_, ?_, ?_, ?_⟩
      · intro (e : g = Bc); rw [e, h.boxc] at hg'; cases hg'
      · intro (e : g = Bl); rw [e, h.boxl] at hg'; cases hg'
      · intro (e : g = Bn); rw [e, h.num] at hg'; cases hg'
      · intro (e : g = l); rw [e, h.loop] at hg'; cases hg'
      · intro (e : g = D); rw [e, h.defs] at hg'; cases hg'
  refine ⟨⟨hd.cl, hd.cn, hd.ln, ?_, ?_, ?_, ?_, ?_, ?_, ?_⟩, own h.rowc, own h.rowl⟩
  · intro e; have := h.loop; rw [e, h.boxc] at this; cases this
  · intro e; have := h.loop; rw [e, h.boxl] at this; cases this
  · intro e; have := h.loop; rw [e, h.num] at this; cases this
  · intro e; have := h.defs; rw [e, h.boxc] at this; cases this
  · intro e; have := h.defs; rw [e, h.boxl] at this; cases this
  · intro e; have := h.defs; rw [e, h.num] at this; cases this
  · intro e; have := h.defs; rw [e, h.loop] at this; cases this
/-- Another record in the loop's place. -/
theorem EnK.put {w0 : World} {Bc Bl Bn l D Bs : Nat} {r : Loop} {C L : List UInt8} {n : Nat} {vc vl : Value} {A : World} (h : EnK w0 Bc Bl Bn l D Bs r C L n vc vl A) (hd : EnD w0 Bc Bl Bn l D) (r' : Loop) : EnK w0 Bc Bl Bn l D Bs r' C L n vc vl (A.putObj l (.loop r')) := by
  obtain ⟨⟨d1, d2, d3, d4, d5, d6, d7, d8, d9, d10⟩, dc, dl⟩ := h.differ hd
  have ht := turned_putObj A l (.loop r')
  have k : ∀ {k : Nat} {o : Obj}, k ≠ l → A.heap[k]? = some o → (A.putObj l (.loop r')).heap[k]? = some o := fun hy h => (ht.block _ (Array.getElem?_eq_some_iff.1 h).1 hy).trans h
  refine ⟨k d4.symm h.boxc, k d5.symm h.boxl, h.rowc.off ht (fun k e => (dc k e).2.2.2.1), h.rowl.off ht (fun k e => (dl k e).2.2.2.1), k d6.symm h.num, World.putObj_heap_same (Array.getElem?_eq_some_iff.1 h.loop).1, k d10 h.defs, h.below.trans (ht.below h.below.size (fun k e => by rw [e]; exact (h.far l (.inr (.inr (.inr (.inl rfl))))).1)), h.apart, h.far, Nat.lt_of_lt_of_le h.bs ht.size⟩
/-- Content has grown, and is stored. -/
theorem EnK.setC {w0 : World} {Bc Bl Bn l D Bs : Nat} {r : Loop} {C L x : List UInt8} {n : Nat} {vc vl v : Value} {A B : World} (h : EnK w0 Bc Bl Bn l D Bs r C L n vc vl A) (hd : EnD w0 Bc Bl Bn l D) (ho : OwnB w0.heap.size B v (C ++ x)) (hg : A.grownBy B vc.ownBlock) (hv : v.ownBlock = vc.ownBlock ∨ v.ownBlock = some A.heap.size) :
    (B.cell? ⟨Bc, 0, none⟩ = some vc ∧ B.frozen? ⟨Bc, 0, none⟩ = false) ∧ EnK w0 Bc Bl Bn l D Bs r (C ++ x) L n v vl (B.setCell ⟨Bc, 0, none⟩ v) ∧ Turned (EnY Bc Bl Bn l D vc vl) A (B.setCell ⟨Bc, 0, none⟩ v) ∧ ∀ k, k < A.heap.size → EnY Bc Bl Bn l D v vl k → EnY Bc Bl Bn l D vc vl k := by
  obtain ⟨⟨d1, d2, d3, d4, d5, d6, d7, d8, d9, d10⟩, dc, dl⟩ := h.differ hd
  have kk : ∀ {k : Nat} {o : Obj}, (vc.ownBlock = some k → False) → A.heap[k]? = some o → B.heap[k]? = some o := fun hy h => (hg.block _ (Array.getElem?_eq_some_iff.1 h).1 (fun e => hy e.symm)).trans h
  have b1 := kk (fun e => (dc _ e).1 rfl) h.boxc
  have ht := turned_setCell B Bc v
  have h1 : Turned (fun k => vc.ownBlock = some k) A B := Turned.of_grown hg
  have k2 : ∀ {k : Nat} {o : Obj}, k ≠ Bc → B.heap[k]? = some o → (B.setCell ⟨Bc, 0, none⟩ v).heap[k]? = some o := fun hy h => (ht.block _ (Array.getElem?_eq_some_iff.1 h).1 hy).trans h
  have old : ∀ k, k < A.heap.size → v.ownBlock = some k → vc.ownBlock = some k := fun k hk e => by
    rcases hv with hv | hv
    · rw [← hv]; exact e
    · rw [hv] at e; cases e; omega
  have hT : Turned (EnY Bc Bl Bn l D vc vl) A (B.setCell ⟨Bc, 0, none⟩ v) := (h1.mono (fun k e => .inr (.inr (.inr (.inr (.inr (.inl e))))))).trans ht (fun k _ e => .inl e)
  have hbA : ∀ k, v.ownBlock = some k → w0.heap.size ≤ k ∧ k ≠ Bs ∧ k ≠ Bc := fun k e => by
    refine ⟨(World.ownsRow.lt ho k e).1, ?_⟩
    rcases hv with hv | hv
    · rw [hv] at e
      exact ⟨(h.far k (.inr (.inr (.inr (.inr (.inr (.inl e))))))).2, (dc k e).1⟩
    · rw [hv] at e
      cases e
      have := h.bs
      have := h.lt Bc (.inl rfl)
      omega
  refine ⟨⟨Boxed.cell b1, Boxed.frozen b1⟩, ⟨Boxed.set v b1, k2 d1.symm (kk (fun e => (dc _ e).2.1 rfl) h.boxl), ho.off ht (fun k e => (hbA k e).2.2), (h.rowl.off h1 (fun k e e' => h.apart k e' e)).off ht (fun k e => (dl k e).1), k2 d2.symm (kk (fun e => (dc _ e).2.2.1 rfl) h.num), k2 d4 (kk (fun e => (dc _ e).2.2.2.1 rfl) h.loop), k2 d7 (kk (fun e => (dc _ e).2.2.2.2 rfl) h.defs), h.below.trans (hT.below h.below.size (fun k e => (h.far k e).1)), ?_, ?_, Nat.lt_of_lt_of_le h.bs hT.size⟩, hT, ?_⟩
  · intro k e e'
    rcases hv with hv | hv
    · rw [hv] at e; exact h.apart k e e'
    · rw [hv] at e
      cases e
      have := (World.ownsRow.lt h.rowl _ e').2
      omega
  · rintro k (e | e | e | e | e | e | e)
    · exact h.far k (.inl e)
    · exact h.far k (.inr (.inl e))
    · exact h.far k (.inr (.inr (.inl e)))
    · exact h.far k (.inr (.inr (.inr (.inl e))))
    · exact h.far k (.inr (.inr (.inr (.inr (.inl e)))))
    · exact ⟨(hbA k e).1, (hbA k e).2.1⟩
    · exact h.far k (.inr (.inr (.inr (.inr (.inr (.inr e))))))
  · rintro k hk (e | e | e | e | e | e | e)
    · exact .inl e
    · exact .inr (.inl e)
    · exact .inr (.inr (.inl e))
    · exact .inr (.inr (.inr (.inl e)))
    · exact .inr (.inr (.inr (.inr (.inl e))))
    · exact .inr (.inr (.inr (.inr (.inr (.inl (old k hk e))))))
    · exact .inr (.inr (.inr (.inr (.inr (.inr e)))))
/-- The list has grown, and is stored. -/
theorem EnK.setL {w0 : World} {Bc Bl Bn l D Bs : Nat} {r : Loop} {C L x : List UInt8} {n : Nat} {vc vl v : Value} {A B : World} (h : EnK w0 Bc Bl Bn l D Bs r C L n vc vl A) (hd : EnD w0 Bc Bl Bn l D) (ho : OwnB w0.heap.size B v (L ++ x)) (hg : A.grownBy B vl.ownBlock) (hv : v.ownBlock = vl.ownBlock ∨ v.ownBlock = some A.heap.size) :
    (B.cell? ⟨Bl, 0, none⟩ = some vl ∧ B.frozen? ⟨Bl, 0, none⟩ = false) ∧ EnK w0 Bc Bl Bn l D Bs r C (L ++ x) n vc v (B.setCell ⟨Bl, 0, none⟩ v) ∧ Turned (EnY Bc Bl Bn l D vc vl) A (B.setCell ⟨Bl, 0, none⟩ v) ∧ ∀ k, k < A.heap.size → EnY Bc Bl Bn l D vc v k → EnY Bc Bl Bn l D vc vl k := by
  obtain ⟨⟨d1, d2, d3, d4, d5, d6, d7, d8, d9, d10⟩, dc, dl⟩ := h.differ hd
  have kk : ∀ {k : Nat} {o : Obj}, (vl.ownBlock = some k → False) → A.heap[k]? = some o → B.heap[k]? = some o := fun hy h => (hg.block _ (Array.getElem?_eq_some_iff.1 h).1 (fun e => hy e.symm)).trans h
  have b1 := kk (fun e => (dl _ e).2.1 rfl) h.boxl
  have ht := turned_setCell B Bl v
  have h1 : Turned (fun k => vl.ownBlock = some k) A B := Turned.of_grown hg
  have k2 : ∀ {k : Nat} {o : Obj}, k ≠ Bl → B.heap[k]? = some o → (B.setCell ⟨Bl, 0, none⟩ v).heap[k]? = some o := fun hy h => (ht.block _ (Array.getElem?_eq_some_iff.1 h).1 hy).trans h
  have old : ∀ k, k < A.heap.size → v.ownBlock = some k → vl.ownBlock = some k := fun k hk e => by
    rcases hv with hv | hv
    · rw [← hv]; exact e
    · rw [hv] at e; cases e; omega
  have hT : Turned (EnY Bc Bl Bn l D vc vl) A (B.setCell ⟨Bl, 0, none⟩ v) := (h1.mono (fun k e => .inr (.inr (.inr (.inr (.inr (.inr e))))))).trans ht (fun k _ e => .inr (.inl e))
  have hbA : ∀ k, v.ownBlock = some k → w0.heap.size ≤ k ∧ k ≠ Bs ∧ k ≠ Bl := fun k e => by
    refine ⟨(World.ownsRow.lt ho k e).1, ?_⟩
    rcases hv with hv | hv
    · rw [hv] at e
      exact ⟨(h.far k (.inr (.inr (.inr (.inr (.inr (.inr e))))))).2, (dl k e).2.1⟩
    · rw [hv] at e
      cases e
      have := h.bs
      have := h.lt Bl (.inr (.inl rfl))
      omega
  refine ⟨⟨Boxed.cell b1, Boxed.frozen b1⟩, ⟨k2 d1 (kk (fun e => (dl _ e).1 rfl) h.boxc), Boxed.set v b1, (h.rowc.off h1 (fun k e e' => h.apart k e e')).off ht (fun k e => (dc k e).2.1), ho.off ht (fun k e => (hbA k e).2.2), k2 d3.symm (kk (fun e => (dl _ e).2.2.1 rfl) h.num), k2 d5 (kk (fun e => (dl _ e).2.2.2.1 rfl) h.loop), k2 d8 (kk (fun e => (dl _ e).2.2.2.2 rfl) h.defs), h.below.trans (hT.below h.below.size (fun k e => (h.far k e).1)), ?_, ?_, Nat.lt_of_lt_of_le h.bs hT.size⟩, hT, ?_⟩
  · intro k e e'
    rcases hv with hv | hv
    · rw [hv] at e'; exact h.apart k e e'
    · rw [hv] at e'
      cases e'
      have := (World.ownsRow.lt h.rowc _ e).2
      omega
  · rintro k (e | e | e | e | e | e | e)
    · exact h.far k (.inl e)
    · exact h.far k (.inr (.inl e))
    · exact h.far k (.inr (.inr (.inl e)))
    · exact h.far k (.inr (.inr (.inr (.inl e))))
    · exact h.far k (.inr (.inr (.inr (.inr (.inl e)))))
    · exact h.far k (.inr (.inr (.inr (.inr (.inr (.inl e))))))
    · exact ⟨(hbA k e).1, (hbA k e).2.1⟩
  · rintro k hk (e | e | e | e | e | e | e)
    · exact .inl e
    · exact .inr (.inl e)
    · exact .inr (.inr (.inl e))
    · exact .inr (.inr (.inr (.inl e)))
    · exact .inr (.inr (.inr (.inr (.inl e))))
    · exact .inr (.inr (.inr (.inr (.inr (.inl e)))))
    · exact .inr (.inr (.inr (.inr (.inr (.inr (old k hk e))))))
/-- The number of pages is stored. -/
theorem EnK.setN {w0 : World} {Bc Bl Bn l D Bs : Nat} {r : Loop} {C L : List UInt8} {n m : Nat} {vc vl : Value} {A : World} (h : EnK w0 Bc Bl Bn l D Bs r C L n vc vl A) (hd : EnD w0 Bc Bl Bn l D) :
    EnK w0 Bc Bl Bn l D Bs r C L m vc vl (A.setCell ⟨Bn, 0, none⟩ (.int .i64 (m : Int))) ∧ Turned (EnY Bc Bl Bn l D vc vl) A (A.setCell ⟨Bn, 0, none⟩ (.int .i64 (m : Int))) := by
  obtain ⟨⟨d1, d2, d3, d4, d5, d6, d7, d8, d9, d10⟩, dc, dl⟩ := h.differ hd
  have ht := turned_setCell A Bn (.int .i64 (m : Int))
  have k2 : ∀ {k : Nat} {o : Obj}, k ≠ Bn → A.heap[k]? = some o → (A.setCell ⟨Bn, 0, none⟩ (.int .i64 (m : Int))).heap[k]? = some o := fun hy h => (ht.block _ (Array.getElem?_eq_some_iff.1 h).1 hy).trans h
  have hT : Turned (EnY Bc Bl Bn l D vc vl) A (A.setCell ⟨Bn, 0, none⟩ (.int .i64 (m : Int))) := ht.mono (fun k e => .inr (.inr (.inl e)))
  exact ⟨⟨k2 d2 h.boxc, k2 d3 h.boxl, h.rowc.off ht (fun k e => (dc k e).2.2.1), h.rowl.off ht (fun k e => (dl k e).2.2.1), Boxed.set _ h.num, k2 d6 h.loop, k2 d9 h.defs, h.below.trans (hT.below h.below.size (fun k e => (h.far k e).1)), h.apart, h.far, Nat.lt_of_lt_of_le h.bs hT.size⟩, hT⟩
/-- The same over the pages that were told. -/
def EnJ (w0 : World) (Bc Bl Bn l D Bs : Nat) (r : Loop) (P : List (List Ct)) (Y : Nat → Prop) (W : World) : Prop :=
  ∃ vc vl, Y = EnY Bc Bl Bn l D vc vl ∧ EnK w0 Bc Bl Bn l D Bs r (P.flatMap pageL) (P.flatMap spanL) P.length vc vl W ∧ (P.flatMap pageL).length ≤ 6000000 * P.length ∧ (P.flatMap spanL).length ≤ 5000 * P.length
theorem numL_short {n : Nat} (h : n < 18446744073709551616) : (numL n).length ≤ 10 := numL_len10 h
end
end Go.Proofs.YtdjhfcopnhcljaaGreatDoor

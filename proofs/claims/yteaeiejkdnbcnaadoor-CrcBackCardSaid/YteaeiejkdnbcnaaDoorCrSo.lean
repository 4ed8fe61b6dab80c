/-
  Contract of crc.Scan: the walk.
-/
import Derived.Test.YteaeiejkdnbcnaaDoorCrSn
namespace Go.Proofs.YteaeiejkdnbcnaaDoor
open Go Go.RowKit Go.Shelf

attribute [local go_sem] Oper.semAt_some

/-- A range over a function with no capture but lb, at the outermost: the function's contract at a record that is laid behind a block for deferred calls. -/
theorem range_wide {f : Nat} {P : Program} {g : Operand} {ps : Array Tmp} {assign body : Code} {Q : Exit → Act → World → Prop} {a : Act} {w : World} {gf : Nat} {lb : Array Value}
    (hg : a.eval g = .func (.func gf) #[] lb) (eg : ∀ args w, (callFunc gf args).run P w = .ok (.enter gf args) w)
    (h : ∀ r : Loop, r.state = .ready → r.pending = none → r.params = ps → r.tmps = a.tmps → r.assign = assign → r.body = body →
      CallsIn Fence.wide (f - 1) P gf (#[.func (.yield (w.heap.size + 1)) #[] #[]] ++ lb) ((w.alloc (.deferred (some []))).alloc (.loop r)) fun e w' => (∃ v, e = .returned v) ∧ w'.heap[w.heap.size + 1]? = some (.loop r) ∧
        Q .normal { a with defers := { target := .collected w.heap.size, args := #[] } :: a.defers } (w'.putObj (w.heap.size + 1) (.loop { r with state := .exhausted }))) :
    (Code.rangeFunc g ps assign body).wpIn Fence.wide f P Q a w := by
  refine wpIn_rangeFunc fun fn hfn => ?_
  obtain ⟨r, hr⟩ : ∃ r : Loop, r = { state := .ready, pending := none, fn := fn, tmps := a.tmps, params := ps, assign := assign, body := body, defers := w.heap.size } := ⟨_, rfl⟩
  have hc := h r (by rw [hr]) (by rw [hr]) (by rw [hr]) (by rw [hr]) (by rw [hr]) (by rw [hr])
  refine ⟨w.heap.size + 1, [{ target := .collected w.heap.size, args := #[] }], (w.alloc (.deferred (some []))).alloc (.loop r), { target := .fn (.func gf) lb, args := #[.func (.yield (w.heap.size + 1)) #[] #[]] }, (w.alloc (.deferred (some []))).alloc (.loop r), gf, #[.func (.yield (w.heap.size + 1)) #[] #[]] ++ lb, (w.alloc (.deferred (some []))).alloc (.loop r), ?_, ?_, fun _ _ => True.intro, ?_, fun hd => ?_, ?_⟩
  · rw [hr]; exact run_enterLoop_outer _ _ _ _ _
  · simp only [resolve, hg]
    simp [go_sem]
  · simp [invoke, go_sem, eg]
  · cases hd
  · refine hc.mono ?_
    rintro e w' ⟨⟨v, rfl⟩, hl, hQ⟩
    refine ⟨none, _, ?_, hQ⟩
    have := run_endLoop (P := P) hl (by rw [hr]; simp)
    rw [this, hr]
/-- A loop's record while a round is under way. -/
def busyR (r : Loop) : Loop := { r with state := .busy }
/-- How a round may be left: off its end, its record as it was laid. -/
def roundOk (l : Nat) (r : Loop) (R : World → Prop) : Exit → Act → World → Prop
  | .normal, _, W => W.heap[l]? = some (.loop (busyR r)) ∧ R (W.putObj l (.loop r))
  | _, _, _ => False
theorem yield_wide {l f : Nat} {P : Program} {r : Loop} {args : Array Value} {W : World} {R : World → Prop} (hl : W.heap[l]? = some (.loop r)) (hr : r.state = .ready) (hp : r.pending = none) (hs : args.size = r.params.size)
    (h : r.assign.wpIn (Fence.wide.inRound l) f P (Exit.then (fun a₁ W₁ => W₁.heap[l]? = some (.loop r) ∧ r.body.wpIn (Fence.wide.inRound l) f P (roundOk l r R) a₁ (W₁.putObj l (.loop (busyR r)))) (fun _ _ _ => False))
      { tmps := (r.params.zip args).foldl (fun tmps (t, a) => tmps.setIfInBounds t a) r.tmps, defers := [] } W) :
    YieldAt Fence.wide f P l args W fun e W' => e = .returned (.bool true) ∧ R W' := by
  refine ⟨r.fn, _, r.assign, r.body, run_yield hl hs, roundIn_of_wpIn trivial (wpIn_mono h ?_)⟩
  rintro e a W1 hq
  cases e with
  | normal =>
    obtain ⟨hl1, hb⟩ := hq
    refine ⟨_, run_beginRound hl1 hr, wpIn_mono hb ?_⟩
    rintro e a W3 hq
    cases e with
    | normal =>
      obtain ⟨hl3, hR⟩ := hq
      refine ⟨_, _, run_endRound none hl3, rfl, ?_⟩
      have e : ({ busyR r with state := if (none : Option Code).isNone then LoopState.ready else LoopState.done, pending := none } : Loop) = r := by
        obtain ⟨s, p, _, _, _, _, _, _⟩ := r
        simp only at hr hp
        rw [hr, hp]
        rfl
      exact e ▸ hR
    | _ => exact hq.elim
  | _ => exact hq.elim

set_option maxRecDepth 100000 in
set_option maxHeartbeats 4000000 in
theorem scan_any (v : Value) (L : List UInt8) (w : World) (h : ByC w.heap.size w v L) (hL : L.length ≤ 1000000000000) (G : Glob w) :
    Calls Tryd.prog 24 #[v] w (ScanEnd L w) := by
  have HV := Lib.hid h
  have HG := Lib.hid G
  obtain ⟨-, p0, c0, rfl, -, -⟩ := h
  clear G
  refine (callsIn_wide (n := 9)).1 ?_
  refine callsIn_of_wp_marks Tryd.func24 rfl trivial ?_ rfl
  simp only [Tryd.ntmps24, List.size_toArray, List.length_cons, List.length_nil, Nat.reduceAdd, Nat.reduceSub, Array.replicate_succ, Array.replicate_zero, List.push_toArray, List.append_toArray, List.nil_append, List.cons_append]
  gi_wp2_with fail
  refine ⟨True.intro, (callsIn_wide.2 (crframes_any _ _ _ _)).mono ?_⟩
  rintro e w3 ⟨rfl, hw3⟩
  have hs3 : w3.heap.size = w.heap.size + 3 := by rw [← hw3]; simp
  have HL := Lib.hid (show w.heap.size ≤ w3.heap.size + 1 by omega)
  have H0 := Lib.hid (show w3.heap[w.heap.size]? = some (.cells #[.slice none 0 0] 40 (0, 0)) by
    rw [← hw3]
    exact (Below.heap_alloc _ _ _ (by simp only [World.size_alloc]; omega)).trans ((Below.heap_alloc _ _ _ (by simp)).trans (World.alloc_heap_new w _)))
  have H1 := Lib.hid (show w3.heap[w.heap.size + 1]? = some (.cells #[.int .i64 ((0 : Nat) : Int)] 3 (0, 0)) by
    rw [← hw3]
    exact (Below.heap_alloc _ _ _ (by simp)).trans (by have := World.alloc_heap_new (w.alloc (.cells #[.slice none 0 0] 40)) (.cells #[.int .i64 0] 3); rwa [World.size_alloc] at this))
  have H2 := Lib.hid (show w3.heap[w.heap.size + 2]? = some (.cells #[.slice p0 L.length c0] 22 (0, 0)) by
    rw [← hw3]
    have := World.alloc_heap_new ((w.alloc (.cells #[.slice none 0 0] 40)).alloc (.cells #[.int .i64 0] 3)) (.cells #[.slice p0 L.length c0] 22)
    rwa [World.size_alloc, World.size_alloc] at this)
  have HB3 := Lib.hid (show Below w.heap.size w w3 by
    rw [← hw3]
    exact (((Below.refl _ _).alloc (Nat.le_refl _) _).alloc (by simp) _).alloc (by simp only [World.size_alloc]; omega) _)
  clear hw3
  gi_wp2_with fail
  refine range_wide (gf := 46) (lb := #[.pointer (some ⟨w.heap.size + 2, 0, none⟩)]) rfl (enters_of Tryd.func46 (by kernel_rfl) rfl) ?_
  intro r r1 r2 r3 r4 r5 r6
  have hl0 : ((w3.alloc (.deferred (some []))).alloc (.loop r)).heap[w3.heap.size + 1]? = some (.loop r) := by
    have := World.alloc_heap_new (w3.alloc (.deferred (some []))) (.loop r)
    rwa [World.size_alloc] at this
  have hd0 : ((w3.alloc (.deferred (some []))).alloc (.loop r)).heap[w3.heap.size]? = some (.deferred (some [])) := (Below.heap_alloc _ _ _ (by simp)).trans (World.alloc_heap_new w3 _)
  have hbb : Below w3.heap.size w3 ((w3.alloc (.deferred (some []))).alloc (.loop r)) := ((Below.refl _ _).alloc (Nat.le_refl _) _).alloc (by simp) _
  have kk : ∀ {k : Nat} {o : Obj}, w3.heap[k]? = some o → ((w3.alloc (.deferred (some []))).alloc (.loop r)).heap[k]? = some o := fun h => (hbb.block _ (Array.getElem?_eq_some_iff.1 h).1).trans h
  have HBW := Lib.hid (HB3.out.trans (hbb.mono HB3.out.size))
  refine (frames_in 8 (by decide) (w3.heap.size + 1) (w.heap.size + 2) L (by omega) w _ HG.out HBW.out (.slice p0 L.length c0) HV.out (Boxed.cell (t := 22) (kk H2.out)) (ScJ w w.heap.size (w.heap.size + 1) (w3.heap.size + 1) w3.heap.size r) (fun P t A B h hb => h.keep hb) ?_
    ⟨⟨_, kk H0.out, OwnP.nil _ _⟩, kk H1.out, hl0, hd0, HBW.out⟩).mono ?_
  · clear hl0 hd0 hbb kk HBW H0 H1 H2
    intro P t k p c m n W hJ0 ho h13 h13n htn hbW
    have HJ := Lib.hid hJ0
    have HO := Lib.hid ho
    have r3' := r3
    refine yield_wide hJ0.loop r1 r2 (by rw [r3]; rfl) ?_
    clear hJ0 ho
    rw [r3, r4, r5, r6]
    clear r1 r2 r3 r4 r5 r6 r3'
    gi_wp2_with fail
    refine ⟨(below_new _ _).block _ (Array.getElem?_eq_some_iff.1 HJ.out.loop).1 |>.trans HJ.out.loop, ?_⟩
    have hbn := below_new W (.cells #[.int .u8 (k.toNat : Int), .slice p m.length c] 35)
    obtain ⟨W2, hW2⟩ : ∃ W2, W2 = (W.alloc (.cells #[.int .u8 (k.toNat : Int), .slice p m.length c] 35)).putObj (w3.heap.size + 1) (.loop (busyR r)) := ⟨_, rfl⟩
    have hWl : w3.heap.size + 1 < W.heap.size := (Array.getElem?_eq_some_iff.1 HJ.out.loop).1
    have hs2 : W2.heap.size = W.heap.size + 1 := by rw [hW2]; simp
    have HJ2 := Lib.hid (show ScJ w w.heap.size (w.heap.size + 1) (w3.heap.size + 1) w3.heap.size (busyR r) P t W2 by
      rw [hW2]
      exact (HJ.out.keep hbn).put _ (by omega))
    have HB2 := Lib.hid (show Below w.heap.size W W2 by
      rw [hW2]
      exact (hbn.mono hbW.size).trans ((Below.refl _ _).grown (grownBy_putObj' _ _ _) (Nat.le_trans hbW.size (by simp)) (fun k e => by cases e; omega)))
    have HO2 := Lib.hid (show OwnB 0 W2 (.slice p m.length c) m by
      rw [hW2]
      refine ownsRow_keep (HO.out.alloc _) (grownBy_putObj' _ _ _) (fun r e ys e' => ?_)
      cases e
      rw [(hbn.block _ hWl).trans HJ.out.loop] at e'
      cases e')
    have hx : W2.heap[W.heap.size]? = some (.cells #[.int .u8 (k.toNat : Int), .slice p m.length c] 35 (0, 0)) := by
      rw [hW2]
      exact (World.putObj_heap_other (by omega)).trans (World.alloc_heap_new W _)
    have x0 := cell_of_row W2 W.heap.size 0 _ _ (0, 0) hx
    have x1 := cell_of_row W2 W.heap.size 1 _ _ (0, 0) hx
    rw [← hW2]
    clear hW2 hbn hx
    obtain ⟨vv, hv4, hrow⟩ := HJ2.out.rows
    have c4 := Boxed.cell hv4
    have hb3 := below_new W2 (.cells #[.int .u8 (k.toNat : Int), .slice p m.length c] 35)
    have HJ3 := Lib.hid (HJ2.out.keep hb3)
    have HR3 := Lib.hid (hrow.below hb3 HJ2.out.below.size)
    have HV3 := Lib.hid ((hb3.block _ (Array.getElem?_eq_some_iff.1 hv4).1).trans hv4)
    have HRd := Lib.hid (show ReadP w.heap.size (W2.alloc (.cells #[.int .u8 (k.toNat : Int), .slice p m.length c] 35)) (.slice p m.length c) m from (HO2.out.below hb3).readP)
    have HB3' := Lib.hid (HB2.out.trans (hb3.mono HJ2.out.below.size))
    have hPl : P.length ≤ 1000000000000 := by omega
    have HPl := Lib.hid hPl
    have HY0 := Lib.hid (show (W2.alloc (.cells #[.int .u8 (k.toNat : Int), .slice p m.length c] 35)).cell? ((⟨W2.heap.size, 0, none⟩ : Addr).add 0) = some (.int .u8 (k.toNat : Int)) by
      show World.cell? _ ⟨W2.heap.size, 0, none⟩ = _
      rw [cell_of_row _ W2.heap.size 0 _ _ (0, 0) (heap_alloc_new W2 _)]; rfl)
    have HY1 := Lib.hid (show (W2.alloc (.cells #[.int .u8 (k.toNat : Int), .slice p m.length c] 35)).cell? ((⟨W2.heap.size, 0, none⟩ : Addr).add 1) = some (.slice p m.length c) by
      show World.cell? _ ⟨W2.heap.size, 1, none⟩ = _
      rw [cell_of_row _ W2.heap.size 1 _ _ (0, 0) (heap_alloc_new W2 _)]; rfl)
    have r1 : (t : Int) + (n : Int) ≤ 100000000000000 := by omega
    have r2 : (0 : Int) ≤ (t : Int) + (n : Int) := by omega
    clear hb3 hv4 hrow hPl h13 h13n htn hWl hs2 hs3 hbW
    gi_wp2_with (gi_at_builtin; refine wpListIn_appP rfl (.tmp 12) (.tmp 14) rfl w.heap.size vv P k (.slice p m.length c) m ⟨W2.heap.size, 0, none⟩ rfl rfl HR3.out HRd.out HPl.out HJ3.out.below.size HY0.out HY1.out ?_; intro v5 w5 ho5 hg5; obtain ⟨q4, q5, q6, q7⟩ := ScJ.step HJ3.out HV3.out HR3.out hg5 ho5 (Nat.le_refl _) (Nat.le_succ _) (by omega) (z := (t : Int) + (n : Int)) (n := n) (by omega); have HQ := Lib.hid q6; have HQb := Lib.hid (HB3'.out.trans q7); obtain ⟨g5, cap5, e5⟩ := ho5.form (by simp); rw [List.length_append, List.length_singleton] at e5; subst e5; have c5 := q4.cell; have f5 := q4.frozen; have c6 := q5.cell; have f6 := q5.frozen; clear q4 q5 q6 q7 ho5 hg5)
    exact ⟨HQ.out.loop, HQ.out.put r HL.out, HQb.out.trans ((Below.refl _ _).grown (grownBy_putObj' _ _ _) HQ.out.below.size (fun k e => by cases e; exact HL.out))⟩
  · rintro e w4 ⟨⟨vr, rfl⟩, hJ4⟩
    refine ⟨⟨_, rfl⟩, hJ4.loop, ?_⟩
    have HJ5 := Lib.hid (hJ4.put { r with state := .exhausted } HL.out)
    obtain ⟨w5, hw5⟩ : ∃ w5, w5 = w4.putObj (w3.heap.size + 1) (.loop { r with state := .exhausted }) := ⟨_, rfl⟩
    rw [← hw5] at HJ5 ⊢
    clear hw5 hJ4 hl0 hd0 hbb kk HBW H0 H1 H2 r1 r2 r3 r4 r5 r6
    obtain ⟨v5, hv5, hrow⟩ := HJ5.out.rows
    have HR := Lib.hid hrow
    have c4 := Boxed.cell hv5
    have c5 := Boxed.cell HJ5.out.num
    clear hv5 hrow hs3
    gi_wp2
    gi_region
    gi_wp2
    refine ⟨by simp, .inl ⟨_, _, rfl, run_takeDeferred (show (World.drew w5).heap[w3.heap.size]? = _ from HJ5.out.defs), ?_⟩⟩
    have hD : (World.drew w5).heap[w3.heap.size]? = some (.deferred (some [])) := HJ5.out.defs
    refine ⟨_, by simp [results, Tryd.results24, go_sem], v5, rfl, ?_, ?_⟩
    · refine (HR.out.below ((Below.refl _ _).drew) HJ5.out.below.size).keep (grownBy_putObj' _ _ _) HJ5.out.below.size (fun r e => ?_)
      cases e
      exact ⟨HB3.out.size, fun ys => ⟨fun e => (by rw [hD] at e; cases e), fun e => (by rw [hD] at e; cases e)⟩⟩
    · exact HJ5.out.below.drew.trans ((Below.refl _ _).grown (grownBy_putObj' _ _ _) HJ5.out.below.size (fun k e => by cases e; exact HB3.out.size))
end Go.Proofs.YteaeiejkdnbcnaaDoor

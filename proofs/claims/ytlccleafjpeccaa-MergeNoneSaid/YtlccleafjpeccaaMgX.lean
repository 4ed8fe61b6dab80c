/-
  Contract of merge.Rest: a range over what a cursor tells, appended.
-/
import Derived.Test.YtlccleafjpeccaaMgS
namespace Go.Proofs.Ytlccleafjpeccaa
open Go Go.RowKit Go.Shelf

attribute [local go_sem] Oper.semAt_some

theorem wpListIn_appTh {F : Fence} {f : Nat} {ops : Array Oper} {rest : List Oper} {o : Oper} {a : Act} {w : World} {Q : Exit → Act → World → Prop} (hgd : o.guard = none) (s x : Operand)
    (ho : o.op = .call { callee := .builtin .append, args := #[s, x], argTypes := #[22, 22] })
    (B : Nat) (S : Nat → Prop) (v vx : Value) (T X : List Th) (hs : a.eval s = v) (hx : a.eval x = vx) (hown : OwnTh B w v T) (hin : ThIn S w vx X) (hlen : T.length ≤ 1000000) (hlx : X.length ≤ 1000000) (hB : B ≤ w.heap.size)
    (h : ∀ v' w', OwnTh B w' v' (T ++ X) → w.grownBy w' v.ownBlock → (v'.ownBlock = v.ownBlock ∨ v'.ownBlock = some w.heap.size) → wpListIn F f Try.prog ops Q rest (a.put o.dst v') w') : wpListIn F f Try.prog ops Q (o :: rest) a w := by
  refine wpListIn_plain hgd fun K hK => ?_
  obtain ⟨v', w', hr, h2, h3, h4⟩ := run_appTh w B S o.type v vx T X hown hin hlen hlx hB
  unfold Oper.wpIn
  refine ⟨?_, ?_⟩
  · simp [Oper.about, ho, resolve, Target.leads, Sem.run_pure]
  · rw [Oper.semAt_plain F _ _ (by rw [ho]; intro c hc'; cases hc')]
    simp [execOp, ho, resolve, invoke, builtin, hs, hx, hr, Result.andThen]
    exact hK _ _ (h v' w' h2 h3 h4)
/-- What the range of Rest keeps: P has come, the cursor at r tells D. -/
structure Rg (w : World) (r : Nat) (F : Nat → Prop) (rec : Loop) (P D : List Th) (W : World) : Prop where
  loop : W.heap[w.heap.size + 4]? = some (.loop rec)
  defs : W.heap[w.heap.size + 3]? = some (.deferred (some []))
  row : ∃ v, W.heap[w.heap.size]? = some (.cells #[v] 22 (0, 0)) ∧ OwnTh (w.heap.size + 5) W v P ∧ ∃ Yr, MadeAt Tt r Yr D W ∧ (∀ k, Yr k → F k ∨ k = w.heap.size + 2 ∨ w.heap.size + 5 ≤ k) ∧ ∀ k, v.ownBlock = some k → ¬ Yr k
  upd : Upd (allOf F) w W
section
variable {w W W' : World} {r : Nat} {F : Nat → Prop} {rec rec' : Loop} {P D : List Th}
theorem Rg.size (h : Rg w r F rec P D W) : w.heap.size + 5 ≤ W.heap.size := by
  have := (Array.getElem?_eq_some_iff.1 h.loop).1
  omega
/-- Nothing has turned but the record and new blocks. -/
theorem Rg.far (h : Rg w r F rec P D W) (hs : W.heap.size ≤ W'.heap.size) (ho : W'.os = W.os ∧ W'.tape = W.tape ∧ W'.output = W.output) (hb : ∀ k, k < W.heap.size → k ≠ w.heap.size + 4 → W'.heap[k]? = W.heap[k]?) (hl : W'.heap[w.heap.size + 4]? = some (.loop rec')) (hF : ∀ k, F k → k < w.heap.size) : Rg w r F rec' P D W' := by
  have hz := h.size
  obtain ⟨v, h1, h2, Yr, h3, h4, h5⟩ := h.row
  refine ⟨hl, (hb _ (by omega) (by omega)).trans h.defs, ⟨v, (hb _ (by omega) (by omega)).trans h1, h2.keep (fun k e => hb k (h2.lt k e).2 (by have := (h2.lt k e).1; omega)), Yr, h3.keep hs (fun k e => hb k (h3.inside k e) (fun e' => ?_)), h4, h5⟩, ?_⟩
  · rcases h4 k e with a | a | a
    · have := hF k a; omega
    · omega
    · omega
  · have hu := h.upd
    have hold : ∀ k, k < w.heap.size → W'.heap[k]? = W.heap[k]? := fun k hk => hb k (by omega) (by omega)
    exact ⟨ho.1.trans hu.os, ho.2.1.trans hu.tape, ho.2.2.trans hu.output, Nat.le_trans hu.size hs, fun x o hx hn => (World.cell?_of_block (a := ⟨x, o, none⟩) (hold x hx)).trans (hu.cell x o hx hn), fun x t n hx => (hu.kind x t n hx).of_heap (hold x hx.lt), fun x hx hn => (hold x hx).trans (hu.block x hx hn)⟩
theorem Rg.alloc (hF : ∀ k, F k → k < w.heap.size) (h : Rg w r F rec P D W) (o : Obj) : Rg w r F rec P D (W.alloc o) := by
  have hz := h.size
  have g : ∀ k, k < W.heap.size → (W.alloc o).heap[k]? = W.heap[k]? := fun k e => Below.heap_alloc _ _ _ (by omega)
  exact h.far (by simp) ⟨rfl, rfl, rfl⟩ (fun k e _ => g k e) ((g _ (by omega)).trans h.loop) hF
theorem Rg.drew (hF : ∀ k, F k → k < w.heap.size) (h : Rg w r F rec P D W) : Rg w r F rec P D W.drew := h.far (Nat.le_refl _) ⟨rfl, rfl, rfl⟩ (fun _ _ _ => rfl) h.loop hF
theorem Rg.put (hF : ∀ k, F k → k < w.heap.size) (h : Rg w r F rec P D W) (rec' : Loop) : Rg w r F rec' P D (W.putObj (w.heap.size + 4) (.loop rec')) := by
  have hz := h.size
  refine h.far (by simp) ⟨rfl, rfl, rfl⟩ (fun k _ e => World.putObj_heap_other e) ?_ hF
  simp [World.putObj, show w.heap.size + 4 < W.heap.size by omega]
/-- The cursor has been asked. -/
theorem Rg.move (hF : ∀ k, F k → k < w.heap.size) (h : Rg w r F rec P D W) : ∃ Yr, MadeAt Tt r Yr D W ∧ ∀ W' Yr' D', Upd (allOf Yr) W W' → Sub W.heap.size Yr Yr' → MadeAt Tt r Yr' D' W' → Rg w r F rec P D' W' := by
  have hz := h.size
  obtain ⟨v, h1, h2, Yr, h3, h4, h5⟩ := h.row
  refine ⟨Yr, h3, fun W' Yr' D' hu hs hm => ?_⟩
  have nl : ∀ k, w.heap.size ≤ k → k < w.heap.size + 5 → k ≠ w.heap.size + 2 → ¬ Yr k := fun k a1 a2 a3 e => by
    rcases h4 k e with a | a | a
    · have := hF k a; omega
    · exact a3 a
    · omega
  have off : ∀ k, k < W.heap.size → ¬ Yr k → W'.heap[k]? = W.heap[k]? := fun k e hn => hu.block k e (fun _ e' => hn e')
  refine ⟨(off _ (by omega) (nl _ (by omega) (by omega) (by omega))).trans h.loop, (off _ (by omega) (nl _ (by omega) (by omega) (by omega))).trans h.defs, ⟨v, (off _ (by omega) (nl _ (by omega) (by omega) (by omega))).trans h1, h2.off hu h5, Yr', hm, fun k e => ?_, fun k e e' => ?_⟩, h.upd.then hu (fun x _ hx e => ?_)⟩
  · rcases hs k e with a | a
    · exact h4 k a
    · exact .inr (.inr (by omega))
  · rcases hs k e' with a | a
    · exact h5 k e a
    · have := (h2.lt k e).2; omega
  · rcases h4 x e with a | a | a
    · exact a
    · omega
    · omega
/-- The row has grown, and was stored. -/
theorem Rg.grown (hF : ∀ k, F k → k < w.heap.size) (h : Rg w r F rec P D W) {v v' : Value} (hv : W.heap[w.heap.size]? = some (.cells #[v] 22 (0, 0))) {x : Th} (ho : OwnTh (w.heap.size + 5) W' v' (P ++ [x])) (hg : W.grownBy W' v.ownBlock) (hvv : v'.ownBlock = v.ownBlock ∨ v'.ownBlock = some W.heap.size) :
    Rg w r F rec (P ++ [x]) D (W'.setCell ⟨w.heap.size, 0, none⟩ v') := by
  have hz := h.size
  have hgs := hg.size
  obtain ⟨v1, h1, h2, Yr, h3, h4, h5⟩ := h.row
  obtain rfl : v1 = v := by rw [hv] at h1; cases h1; rfl
  have hlt := h2.lt
  have same : ∀ k, k < W.heap.size → k ≠ w.heap.size → v1.ownBlock ≠ some k → (W'.setCell ⟨w.heap.size, 0, none⟩ v').heap[k]? = W.heap[k]? := fun k a1 a2 a3 =>
    (Below.heap_setCell _ _ _ _ a2).trans (hg.block k a1 (fun e => a3 e.symm))
  have no : ∀ k, k < w.heap.size + 5 → v1.ownBlock ≠ some k := fun k a e => by have := (hlt k e).1; omega
  have hw : W'.heap[w.heap.size]? = some (.cells #[v1] 22 (0, 0)) := (hg.block _ (by omega) (fun e => no _ (by omega) e.symm)).trans h1
  refine ⟨(same _ (by omega) (by omega) (no _ (by omega))).trans h.loop, (same _ (by omega) (by omega) (no _ (by omega))).trans h.defs, ⟨v', ?_, ?_, Yr, h3.keep (by simpa [World.setCell] using hgs) (fun k e => same k (h3.inside k e) (fun e' => ?_) (fun e' => h5 k e' e)), h4, fun k e e' => ?_⟩, ?_⟩
  · rw [Go.heap_setCell_same _ _ _ _ _ _ hw]; rfl
  · exact ho.keep (fun k e => Below.heap_setCell _ _ _ _ (fun e' => by have := (ho.lt k e).1; have e'' : k = w.heap.size := e'; omega))
  · rcases h4 k e with a | a | a
    · have := hF k a; omega
    · omega
    · omega
  · rcases hvv with a | a
    · exact h5 k (a ▸ e) e'
    · rw [a] at e; cases e; exact Nat.lt_irrefl _ (h3.inside _ e')
  · have hu := h.upd
    have hold : ∀ k, k < w.heap.size → (W'.setCell ⟨w.heap.size, 0, none⟩ v').heap[k]? = W.heap[k]? := fun k hk => same k (by omega) (by omega) (no k (by omega))
    exact ⟨hg.os.trans hu.os, hg.tape.trans hu.tape, hg.output.trans hu.output, Nat.le_trans hu.size (by simpa [World.setCell] using hgs), fun x o hx hn => (World.cell?_of_block (a := ⟨x, o, none⟩) (hold x hx)).trans (hu.cell x o hx hn), fun x t n hx => (hu.kind x t n hx).of_heap (hold x hx.lt), fun x hx hn => (hold x hx).trans (hu.block x hx hn)⟩
end
set_option maxRecDepth 100000 in
set_option maxHeartbeats 4000000 in
theorem restm_any {c : CurC} {F : Nat → Prop} {w : World} (hc : CurAt c F w) (hL : c.2.length ≤ 1000) :
    Calls Try.prog 15 #[curO c.1] w fun e w' => ∃ v, e = .returned v ∧ OwnTh w.heap.size w' v c.2 ∧ Upd (allOf F) w w' := by
  have HF := Lib.hid hc.inside
  obtain ⟨co, hco⟩ : ∃ co, co = c.1 := ⟨_, rfl⟩
  have HA := Lib.hid (all_o c.1 (w.alloc (.cells #[.slice none 0 0] 22)))
  have hb0 : Below w.heap.size w (w.alloc (.cells #[.slice none 0 0] 22)) := (Below.refl _ _).alloc (Nat.le_refl _) _
  have HM := Lib.hid (made_o (c := c) (F := F) (hc.keep hb0.size (fun x e => hb0.block x (hc.inside x e))))
  rw [← hco] at HA HM ⊢
  obtain ⟨L, hLL⟩ : ∃ L, L = c.2 := ⟨_, rfl⟩
  rw [← hLL] at HM hL ⊢
  have HL := Lib.hid hL
  clear hc hco hLL hL
  refine (callsIn_wide (n := 9)).1 ?_
  refine callsIn_of_wp_marks Try.func15 rfl trivial ?_ rfl
  simp only [Try.ntmps15, List.size_toArray, List.length_cons, List.length_nil, Nat.reduceAdd, Nat.reduceSub, Array.replicate_succ, Array.replicate_zero, List.push_toArray, List.append_toArray, List.nil_append, List.cons_append]
  gi_wp2_with fail
  refine ⟨trivial, (callsIn_wide.2 HA.out).mono ?_⟩
  rintro e w3 ⟨rfl, hw3⟩
  gi_wp2_with fail
  have hm := HM.out
  rw [hw3, World.size_alloc] at hm
  have hs3 : w3.heap.size = w.heap.size + 3 := by rw [← hw3, madeW_size]; simp
  have HB3 := Lib.hid (show Below w.heap.size w w3 by rw [← hw3]; exact hb0.trans ((madeW_below _ _).mono hb0.size))
  have H0 := Lib.hid (show w3.heap[w.heap.size]? = some (.cells #[.slice none 0 0] 22 (0, 0)) by
    rw [← hw3]
    exact ((madeW_below _ _).block _ (by simp)).trans (heap_alloc_new w _))
  clear hw3 hb0 HA HM
  refine range_ret (gf := 48) (lb := #[.pointer (some ⟨w.heap.size + 1 + 1, 0, none⟩)]) rfl (enters_of Try.func48 (by kernel_rfl) rfl) ?_
  intro rc r1 r2 r3 r4 r5 r6
  rw [hs3]
  have hl0 : ((w3.alloc (.deferred (some []))).alloc (.loop rc)).heap[w.heap.size + 4]? = some (.loop rc) := by
    have := World.alloc_heap_new (w3.alloc (.deferred (some []))) (.loop rc)
    rwa [World.size_alloc, hs3] at this
  have hd0 : ((w3.alloc (.deferred (some []))).alloc (.loop rc)).heap[w.heap.size + 3]? = some (.deferred (some [])) := by
    have := World.alloc_heap_new w3 (.deferred (some []))
    rw [hs3] at this
    exact (Below.heap_alloc _ _ _ (by rw [World.size_alloc]; omega)).trans this
  have hbb : Below w3.heap.size w3 ((w3.alloc (.deferred (some []))).alloc (.loop rc)) := ((Below.refl _ _).alloc (Nat.le_refl _) _).alloc (by simp) _
  have kk : ∀ {k : Nat} {o : Obj}, w3.heap[k]? = some o → ((w3.alloc (.deferred (some []))).alloc (.loop rc)).heap[k]? = some o := fun h => (hbb.block _ (Array.getElem?_eq_some_iff.1 h).1).trans h
  have hS : Rg w (w.heap.size + 1 + 1) F rc [] L ((w3.alloc (.deferred (some []))).alloc (.loop rc)) := ⟨hl0, hd0, ⟨_, kk H0.out, OwnTh.nil _ _, _, hm.keep hbb.size (fun x e => hbb.block x (hm.inside x e)), fun k e => by
    rcases e with e | e
    · exact .inr (.inl (by omega))
    · exact .inl e, fun k e => by cases e⟩, Upd.of_below (HB3.out.trans (hbb.mono HB3.out.size))⟩
  refine (all1_in 8 (by decide) (w.heap.size + 4) (w.heap.size + 1 + 1) (fun D W => ∃ P, P ++ D = L ∧ Rg w (w.heap.size + 1 + 1) F rc P D W) (fun D W => ∃ P, P ++ D = L ∧ Rg w (w.heap.size + 1 + 1) F rc P D.tail W)
    (fun _ => False) (fun D W o h => by obtain ⟨P, a1, a2⟩ := h; exact ⟨P, a1, a2.alloc HF.out o⟩) (fun D W h => ?_) ?_ L _ ⟨[], rfl, hS⟩).mono ?_
  · obtain ⟨P, a1, a2⟩ := h
    obtain ⟨Yr, m1, m2⟩ := a2.move HF.out
    refine (next_any m1).mono ?_
    rintro e W' ⟨rfl, hu, Y', hs, hm⟩
    exact ⟨rfl, P, a1, m2 W' Y' D.tail hu hs hm⟩
  · clear hl0 hd0 hbb kk hS H0 hm HB3
    rintro x D W ⟨P, hP, hJ0⟩
    have HP := Lib.hid hP
    have HJ := Lib.hid hJ0
    refine yield_ret hJ0.loop r1 r2 (by rw [r3]; rfl) ?_
    clear hJ0 hP
    rw [r3, r4, r5, r6]
    clear r1 r2 r3 r4 r5 r6
    gi_wp2_with fail
    have hJ1 := HJ.out.alloc HF.out (.cells #[.int .i8 x.1, .int .i64 x.2] 28)
    refine ⟨hJ1.loop, ?_⟩
    have hJ2 := hJ1.put HF.out (busyR rc)
    have hWz := HJ.out.size
    have hx : ((W.alloc (.cells #[.int .i8 x.1, .int .i64 x.2] 28)).putObj (w.heap.size + 4) (.loop (busyR rc))).heap[W.heap.size]? = some (.cells #[.int .i8 x.1, .int .i64 x.2] 28 (0, 0)) := (World.putObj_heap_other (by omega)).trans (World.alloc_heap_new W _)
    obtain ⟨W2, hW2⟩ : ∃ W2, W2 = (W.alloc (.cells #[.int .i8 x.1, .int .i64 x.2] 28)).putObj (w.heap.size + 4) (.loop (busyR rc)) := ⟨_, rfl⟩
    have hs2 : W2.heap.size = W.heap.size + 1 := by rw [hW2]; simp
    rw [← hW2] at hJ2 hx ⊢
    have HJ2 := Lib.hid hJ2
    clear hW2 hJ1 hJ2 HJ
    obtain ⟨v, hv, ho, -⟩ := HJ2.out.row
    have HV := Lib.hid hv
    have HO := Lib.hid ho
    have k0 := cell_of_row W2 _ 0 _ _ (0, 0) hv
    have k1 := cell_of_row W2 _ 0 _ _ (0, 0) hx
    have k2 := cell_of_row W2 _ 1 _ _ (0, 0) hx
    have hPl : P.length ≤ 1000000 := by
      have := HL.out
      have h2 := congrArg List.length HP.out
      simp only [List.length_append, List.length_cons] at h2
      omega
    have HPl := Lib.hid hPl
    have hv1 : (W2.alloc (.cells #[.int .i8 x.1, .int .i64 x.2] 28)).heap[w.heap.size]? = some (.cells #[v] 22 (0, 0)) := (Below.heap_alloc _ _ _ (by omega)).trans hv
    have HV1 := Lib.hid hv1
    have HJ3 := Lib.hid (HJ2.out.alloc HF.out (.cells #[.int .i8 x.1, .int .i64 x.2] 28))
    have hlt := litTh_in W2 x.1 x.2
    rw [hs2] at hlt
    have HLt := Lib.hid hlt
    clear hlt
    have HQ : Hid ((P ++ [x]) ++ D = L) := Lib.hid (by rw [List.append_assoc]; exact HP.out)
    clear hv ho hx hPl hv1
    gi_wp2_with (gi_at_builtin; refine wpListIn_appTh rfl (.tmp 8) (.tmp 10) rfl (w.heap.size + 5) _ v _ P [x] rfl rfl (HO.out.alloc _) HLt.out HPl.out (by simp) HJ3.out.size ?_; intro v5 w5 ho5 hg5 hv5; have HG := Lib.hid (HJ3.out.grown HF.out HV1.out ho5 hg5 hv5); obtain ⟨p5, c5, e5, -⟩ := ho5.in_ (fun _ => True) (fun _ _ => trivial); have hc5 := (hg5.block _ (by have := (Array.getElem?_eq_some_iff.1 HV1.out).1; exact this) (fun e => by have := (HO.out.lt _ e.symm).1; omega)).trans HV1.out; have q5 := cell_of_row w5 _ 0 _ _ (0, 0) hc5; have f5 := frozen_of_row w5 _ 0 _ _ hc5; clear ho5 hg5 hv5 hc5; rw [List.length_append, List.length_singleton] at e5; subst e5)
    exact ⟨HG.out.loop, P ++ [x], HQ.out, HG.out.put HF.out rc⟩
  · rintro e w4 ⟨⟨vr, rfl⟩, ⟨P, hP, hJ4⟩ | hf⟩
    · refine ⟨⟨_, rfl⟩, rc, hJ4.loop, by rw [r1]; simp, .inl ⟨r2, ?_⟩⟩
      have hJ5 := hJ4.put HF.out { rc with state := .exhausted }
      rw [List.append_nil] at hP
      subst hP
      obtain ⟨w5, hw5⟩ : ∃ w5, w5 = w4.putObj (w.heap.size + 4) (.loop { rc with state := .exhausted }) := ⟨_, rfl⟩
      rw [← hw5] at hJ5 ⊢
      have HJ5 := Lib.hid hJ5
      clear hw5 hJ4 hJ5 hl0 hd0 hbb kk hS H0 r1 r2 r3 r4 r5 r6 hm
      obtain ⟨v, hv, ho, -⟩ := HJ5.out.row
      have c0 := cell_of_row w5 _ 0 _ _ (0, 0) hv
      have HO := Lib.hid ho
      clear hv ho
      gi_wp2_with fail
      refine ⟨by simp, .inl ⟨_, _, rfl, run_takeDeferred HJ5.out.defs, ?_⟩⟩
      have hz6 := HJ5.out.size
      refine ⟨v, by simp [results, Try.results15, go_sem], v, rfl, (HO.out.mono (by omega)).keep (fun k e => World.putObj_heap_other (by have := (HO.out.lt k e).1; omega)), ?_⟩
      have hu := HJ5.out.upd
      have hold : ∀ k, k < w.heap.size → (w5.putObj (w.heap.size + 3) (.deferred none)).heap[k]? = w5.heap[k]? := fun k hk => World.putObj_heap_other (by omega)
      exact ⟨hu.os, hu.tape, hu.output, by simpa using hu.size, fun x o hx hn => (World.cell?_of_block (a := ⟨x, o, none⟩) (hold x hx)).trans (hu.cell x o hx hn), fun x t n hx => (hu.kind x t n hx).of_heap (hold x hx.lt), fun x hx hn => (hold x hx).trans (hu.block x hx hn)⟩
    · exact hf.elim
end Go.Proofs.Ytlccleafjpeccaa

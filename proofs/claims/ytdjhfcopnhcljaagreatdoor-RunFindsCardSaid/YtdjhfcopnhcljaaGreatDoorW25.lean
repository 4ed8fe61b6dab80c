/-
  Contract of run.encoded.
-/
import Derived.Test.YtdjhfcopnhcljaaGreatDoorW22
namespace Go.Proofs.YtdjhfcopnhcljaaGreatDoor
section
open Go Go.RowKit Go.Shelf

attribute [local go_sem] Oper.semAt_some

theorem EnK.rows {w0 : World} {Bc Bl Bn l D Bs : Nat} {r : Loop} {C L : List UInt8} {n : Nat} {vc vl : Value} {A : World} (h : EnK w0 Bc Bl Bn l D Bs r C L n vc vl A) : (∃ p c, vc = .slice p C.length c) ∧ ∃ p c, vl = .slice p L.length c := ⟨h.rowc.in_.shape, h.rowl.in_.shape⟩
theorem flat_snoc (P : List (List Ct)) (x : List Ct) (f : List Ct → List UInt8) : (P ++ [x]).flatMap f = P.flatMap f ++ f x := by simp
theorem pageL_len {P : List Ct} (h : ∀ c ∈ P, OkC c) (hP : P.length ≤ 1000) : (pageL P).length ≤ 5000100 := by
  have h1 := flatC_len h
  have h2 : (numL P.length).length ≤ 10 := numL_short (by omega)
  unfold pageL sealL
  simp only [List.length_append]
  have h3 : (encL (sumL (numL P.length ++ P.flatMap cntL))).length = 4 := rfl
  omega
theorem head_ok {P : List Ct} (h : ∀ c ∈ P, OkC c) (hP : P ≠ []) : OkT (headT P) ∧ AllI (headT P) := by
  obtain ⟨c, r, rfl⟩ := List.exists_cons_of_ne_nil hP
  have h1 := h c (List.mem_cons_self ..)
  exact ⟨h1.1, h1.2.1⟩
theorem keyT_short {T : List V3} (h : OkT T) : (keyT T).length ≤ 4800 := by
  have h1 := flat_len (f := keyV) (T := T) fun x hx => keyV_len (h.2 x hx)
  have h2 := h.1
  unfold keyT
  omega
theorem spanL_len {P : List Ct} (h : ∀ c ∈ P, OkC c) (hP : P.length ≤ 1000) (hne : P ≠ []) : (spanL P).length ≤ 5000 := by
  have h1 := pageL_len h hP
  have h2 : (numL (pageL P).length).length ≤ 10 := numL_short (by omega)
  have h3 := keyT_short (head_ok h hne).1
  have h4 : (numL (keyT (headT P)).length).length ≤ 10 := numL_short (by omega)
  unfold spanL textL
  simp only [List.length_append]
  omega
set_option maxRecDepth 100000 in
set_option maxHeartbeats 8000000 in
theorem encoded_any (v : Value) (E : List Ct) (w : World) (h : EnIn w.heap.size w v E) (hE : E.length ≤ 1000) (hOk : ∀ c ∈ E, OkC c) (G : Glob w) :
    Calls Tryz.prog 35 #[v] w (EndB (runL E) w) := by
  have HV := Lib.hid h
  have HG := Lib.hid (show ∀ W, Below w.heap.size w W → Glob W from fun W hb => G.below hb)
  have HOk := Lib.hid hOk
  obtain ⟨p0, c0, rfl, -⟩ := h
  clear G hOk
  refine (callsIn_wide (n := 9)).1 ?_
  refine callsIn_of_wp_marks Tryz.func35 rfl trivial ?_ rfl
  simp only [Tryz.ntmps35, List.size_toArray, List.length_cons, List.length_nil, Nat.reduceAdd, Nat.reduceSub, Array.replicate_succ, Array.replicate_zero, List.push_toArray, List.append_toArray, List.nil_append, List.cons_append]
  gi_wp2_with fail
  refine ⟨True.intro, (callsIn_wide.2 (pages_any _ _ _ _)).mono ?_⟩
  rintro e w3 ⟨rfl, hw3⟩
  have hs3 : w3.heap.size = w.heap.size + 4 := by rw [← hw3]; simp
  have H0 := Lib.hid (show w3.heap[w.heap.size]? = some (.cells #[.slice none 0 0] 24 (0, 0)) ∧ w3.heap[w.heap.size + 1]? = some (.cells #[.slice none 0 0] 24 (0, 0)) ∧ w3.heap[w.heap.size + 2]? = some (.cells #[.int .i64 ((0 : Nat) : Int)] 3 (0, 0)) ∧ w3.heap[w.heap.size + 3]? = some (.cells #[.slice p0 E.length c0] 22 (0, 0)) by
    rw [← hw3]
    have n1 := World.alloc_heap_new (w.alloc (.cells #[.slice none 0 0] 24)) (.cells #[.slice none 0 0] 24)
    have n2 := World.alloc_heap_new ((w.alloc (.cells #[.slice none 0 0] 24)).alloc (.cells #[.slice none 0 0] 24)) (.cells #[.int .i64 0] 3)
    have n3 := World.alloc_heap_new (((w.alloc (.cells #[.slice none 0 0] 24)).alloc (.cells #[.slice none 0 0] 24)).alloc (.cells #[.int .i64 0] 3)) (.cells #[.slice p0 E.length c0] 22)
    simp only [World.size_alloc] at n1 n2 n3
    refine ⟨?_, ?_, ?_, n3⟩
    · exact (Below.heap_alloc _ _ _ (by simp only [World.size_alloc]; omega)).trans ((Below.heap_alloc _ _ _ (by simp only [World.size_alloc]; omega)).trans ((Below.heap_alloc _ _ _ (by simp only [World.size_alloc]; omega)).trans (World.alloc_heap_new w _)))
    · exact (Below.heap_alloc _ _ _ (by simp only [World.size_alloc]; omega)).trans ((Below.heap_alloc _ _ _ (by simp only [World.size_alloc]; omega)).trans n1)
    · exact (Below.heap_alloc _ _ _ (by simp only [World.size_alloc]; omega)).trans n2)
  have HB3 := Lib.hid (show Below w.heap.size w w3 by
    rw [← hw3]
    exact ((((Below.refl _ _).alloc (Nat.le_refl _) _).alloc (by simp) _).alloc (by simp only [World.size_alloc]; omega) _).alloc (by simp only [World.size_alloc]; omega) _)
  have HD := Lib.hid (show EnD w w.heap.size (w.heap.size + 1) (w.heap.size + 2) (w3.heap.size + 1) w3.heap.size from ⟨by omega, by omega, by omega⟩)
  clear hw3
  gi_wp2_with fail
  refine range_wide (gf := 101) (lb := #[.pointer (some ⟨w.heap.size + 3, 0, none⟩)]) rfl (enters_of Tryz.func101 (by kernel_rfl) rfl) ?_
  intro r r1 r2 r3 r4 r5 r6
  have hl0 : ((w3.alloc (.deferred (some []))).alloc (.loop r)).heap[w3.heap.size + 1]? = some (.loop r) := by
    have := World.alloc_heap_new (w3.alloc (.deferred (some []))) (.loop r)
    rwa [World.size_alloc] at this
  have hd0 : ((w3.alloc (.deferred (some []))).alloc (.loop r)).heap[w3.heap.size]? = some (.deferred (some [])) := (Below.heap_alloc _ _ _ (by simp)).trans (World.alloc_heap_new w3 _)
  have hbb : Below w3.heap.size w3 ((w3.alloc (.deferred (some []))).alloc (.loop r)) := ((Below.refl _ _).alloc (Nat.le_refl _) _).alloc (by simp) _
  have kk : ∀ {k : Nat} {o : Obj}, w3.heap[k]? = some o → ((w3.alloc (.deferred (some []))).alloc (.loop r)).heap[k]? = some o := fun h => (hbb.block _ (Array.getElem?_eq_some_iff.1 h).1).trans h
  have HBW := Lib.hid (HB3.out.trans (hbb.mono HB3.out.size))
  have HK0 := Lib.hid (show EnK w w.heap.size (w.heap.size + 1) (w.heap.size + 2) (w3.heap.size + 1) w3.heap.size (w.heap.size + 3) r [] [] 0 (.slice none 0 0) (.slice none 0 0) ((w3.alloc (.deferred (some []))).alloc (.loop r)) from
    ⟨kk H0.out.1, kk H0.out.2.1, OwnB.nil _ _, OwnB.nil _ _, kk H0.out.2.2.1, hl0, hd0, HBW.out, (fun k e => by cases e), (fun k e => by rcases e with e | e | e | e | e | e | e <;> first | (cases e; done) | (constructor <;> omega)), by simp; omega⟩)
  refine (pages_in 8 (by decide) (w3.heap.size + 1) (w.heap.size + 3) E hE HOk.out w _ HBW.out (.slice p0 E.length c0) HV.out (by simp; omega) (Boxed.cell (t := 22) (kk H0.out.2.2.2)) (EnJ w w.heap.size (w.heap.size + 1) (w.heap.size + 2) (w3.heap.size + 1) w3.heap.size (w.heap.size + 3) r)
    (fun P Y Z A B ⟨vc, vl, e, h, hb⟩ ht hz => ⟨vc, vl, e, h.keep ht (by rw [e] at hz; exact hz), hb⟩) (fun P Y A ⟨vc, vl, e, h, _⟩ k hk => by rw [e] at hk; exact ⟨(h.far k hk).1, h.lt k hk, (h.far k hk).2⟩) ?_ _ ⟨_, _, rfl, HK0.out, by simp, by simp⟩).mono ?_
  · clear hl0 hd0 hbb kk HBW H0 HK0 HOk
    rintro P Y Pg u b W1 ⟨vc, vl, rfl, hK0, hbd⟩ hin hob hne hok hPg hPl hbW
    have HK := Lib.hid hK0
    have HIn := Lib.hid hin
    have HOk := Lib.hid hok
    have HBW := Lib.hid hbW
    have HNe := Lib.hid hne
    have HPl := Lib.hid (And.intro hPg hPl)
    have HBd := Lib.hid hbd
    have HBx := Lib.hid (And.intro (pageL_len hok hPg) (spanL_len hok hPg hne))
    have HHd := Lib.hid (head_ok hok hne)
    obtain ⟨Lb, hLb⟩ : ∃ Lb, Lb = Pg.flatMap cntL := ⟨_, rfl⟩
    rw [← hLb] at hob
    have HLb := Lib.hid hLb
    have HOb := Lib.hid hob
    refine yield_wide hK0.loop r1 r2 (by rw [r3]; rfl) ?_
    obtain ⟨pu, cu, rfl, -⟩ := hin
    obtain ⟨pb, cb, rfl⟩ := hob.in_.shape
    clear hK0 hok hbW hob hLb hne hPg hPl hbd
    rw [r3, r4, r5, r6]
    clear r1 r2 r3 r4 r5 r6
    gi_wp2_with fail
    refine ⟨((below_new _ _).block _ (Array.getElem?_eq_some_iff.1 HK.out.loop).1).trans HK.out.loop, ?_⟩
    obtain ⟨W2, hW2⟩ : ∃ W2, W2 = (W1.alloc (.cells #[.slice pu Pg.length cu, .slice pb Lb.length cb] 103)).putObj (w3.heap.size + 1) (.loop (busyR r)) := ⟨_, rfl⟩
    have hbn := below_new W1 (.cells #[.slice pu Pg.length cu, .slice pb Lb.length cb] 103)
    have HK2 := Lib.hid (show EnK w w.heap.size (w.heap.size + 1) (w.heap.size + 2) (w3.heap.size + 1) w3.heap.size (w.heap.size + 3) (busyR r) (P.flatMap pageL) (P.flatMap spanL) P.length vc vl W2 by
      rw [hW2]
      exact (HK.out.keepB hbn).put HD.out _)
    have HT2 := Lib.hid (show Turned (EnY w.heap.size (w.heap.size + 1) (w.heap.size + 2) (w3.heap.size + 1) w3.heap.size vc vl) W1 W2 by
      rw [hW2]
      exact (Turned.fromB hbn).trans (turned_putObj _ _ _) (fun k _ e => .inr (.inr (.inr (.inl e)))))
    have hx : W2.heap[W1.heap.size]? = some (.cells #[.slice pu Pg.length cu, .slice pb Lb.length cb] 103 (0, 0)) := by
      rw [hW2]
      exact (World.putObj_heap_other (by have := (Array.getElem?_eq_some_iff.1 HK.out.loop).1; omega)).trans (World.alloc_heap_new W1 _)
    have HOb2 := Lib.hid (show OwnB 0 W2 (.slice pb Lb.length cb) Lb by
      rw [hW2]
      refine (HOb.out.alloc _).off (turned_putObj _ _ _) (fun k e e' => ?_)
      have h1 := (HK.out.keepB hbn).loop
      rcases (HOb.out.alloc (.cells #[.slice pu Pg.length cu, .slice pb Lb.length cb] 103)).2 with ⟨ev, -⟩ | ⟨g, cap, cur, ev, -, hg, -⟩
      · rw [ev] at e; cases e
      · rw [ev] at e
        cases e
        have hg' : (W1.alloc (.cells #[.slice pu Pg.length cu, .slice pb Lb.length cb] 103)).heap[g]? = some (.cells cur 5 (0, 0)) := hg
        rw [show g = w3.heap.size + 1 from e', h1] at hg'
        cases hg')
    have HIn2 := Lib.hid (show EnIn w.heap.size W2 (.slice pu Pg.length cu) Pg from HIn.out.below (HT2.out.below HBW.out.size (fun k e => (HK.out.far k e).1)))
    have x0 := cell_of_row W2 W1.heap.size 0 _ _ (0, 0) hx
    have x1 := cell_of_row W2 W1.heap.size 1 _ _ (0, 0) hx
    have hxl : W1.heap.size < W2.heap.size := (Array.getElem?_eq_some_iff.1 hx).1
    have HX := Lib.hid hx
    rw [← hW2]
    clear hW2 hbn hx
    have hs2 : w.heap.size ≤ W2.heap.size := HK2.out.below.size
    have HSe := Lib.hid (sealed_any (.slice pu Pg.length cu) (.slice pb Lb.length cb) Pg W2 (HIn2.out.mono hs2) (by rw [← HLb.out]; exact HOb2.out.in_) (by have := HPl.out.1; omega) (by have := flatC_len HOk.out; have := HPl.out.1; omega) (HG.out _ HK2.out.below))
    gi_wp2_with fail
    refine ⟨True.intro, (CallsIn.inRound _ (callsIn_wide.2 HSe.out)).mono ?_⟩
    rintro e W3 ⟨v3, rfl, ho3, hb3⟩
    obtain ⟨X, hX⟩ : ∃ X, X = pageL Pg := ⟨_, rfl⟩
    rw [← hX] at ho3
    obtain ⟨q3, d3, rfl⟩ := ho3.in_.shape
    have HXe := Lib.hid hX
    have HI3 := Lib.hid ho3.in_
    have HK3 := Lib.hid (HK2.out.keepB hb3)
    have HT3 := Lib.hid (HT2.out.trans (Turned.fromB (Y := EnY w.heap.size (w.heap.size + 1) (w.heap.size + 2) (w3.heap.size + 1) w3.heap.size vc vl) hb3) (fun k _ e => e))
    have HX3 := Lib.hid ((hb3.block _ hxl).trans HX.out)
    have HIn3 := Lib.hid (HIn2.out.below (hb3.mono hs2))
    have hXl : X.length ≤ 5000100 := by rw [hX]; exact HBx.out.1
    have HC3 := Lib.hid (show (P.flatMap pageL).length + X.length ≤ 100000000000000 by have h1 := HBd.out.1; have h2 := HPl.out.2; have : 6000000 * P.length ≤ 6000000 * 1000 := Nat.mul_le_mul_left _ h2; omega)
    have c3 := Boxed.cell HK3.out.boxc
    have hnl : ∀ k, EnY w.heap.size (w.heap.size + 1) (w.heap.size + 2) (w3.heap.size + 1) w3.heap.size vc vl k → k ≠ W1.heap.size := fun k e => by have := HK.out.lt k e; omega
    have HNl := Lib.hid hnl
    clear ho3 hb3 hX hnl HSe x0 x1 hxl HK2 HT2 HIn2 HX hs2 HOb2
    gi_wp2_with (gi_at_builtin; refine wpListIn_appN rfl (.tmp 16) (.tmp 17) rfl w.heap.size W3.heap.size vc (.slice q3 X.length d3) (P.flatMap pageL) X rfl rfl HK3.out.rowc HI3.out HC3.out HK3.out.below.size ?_; intro v4 w4 ho4 hg4 hv4; obtain ⟨⟨c4, f4⟩, k4, t4, y4⟩ := HK3.out.setC HD.out ho4 hg4 hv4; obtain ⟨q4, d4, e4⟩ := ho4.in_.shape; obtain ⟨N4, hN4⟩ : ∃ N4, N4 = (P.flatMap pageL ++ X).length := ⟨_, rfl⟩; rw [← hN4] at e4; subst e4; have HK5 := Lib.hid k4; have HT5 := Lib.hid (HT3.out.trans t4 (fun k _ e => e)); have HY5 := Lib.hid (fun (k : Nat) (hk : k < W1.heap.size) => y4 k (Nat.lt_of_lt_of_le hk HT3.out.size)); have HN4 := Lib.hid (fun (k : Nat) e (h : k = W1.heap.size) => HNl.out k (y4 k (by rw [h]; exact (Array.getElem?_eq_some_iff.1 HX3.out).1) e) h); have HX5 := Lib.hid ((t4.block _ (Array.getElem?_eq_some_iff.1 HX3.out).1 (fun e => HNl.out _ e rfl)).trans HX3.out); clear ho4 hg4 hv4 k4 t4 y4 hN4)
    obtain ⟨W5, hW5⟩ : ∃ W5, W5 = w4.setCell ⟨w.heap.size, 0, none⟩ (.slice q4 N4 d4) := ⟨_, rfl⟩
    rw [← hW5] at HK5 HT5 HX5 ⊢
    clear hW5 c3 c4 f4 HC3 HI3 HK3 HT3 HX3 HNl
    have hwr := wrapU X.length (by omega)
    have c5 := Boxed.cell HK5.out.drew.boxl
    have HK5' := Lib.hid HK5.out.drew
    refine region_roundH (fun W => W.cell? ⟨w.heap.size + 1, 0, none⟩ = some vl) 6 (by kernel_rfl) (by kernel_rfl) (by rintro ⟨_, _, h⟩; exact h) ?_
    refine held_take (i := 0) (v := vl) rfl (by kernel_rfl) (by kernel_rfl) (by kernel_rfl) (by kernel_rfl) (fun _ _ _ h => h) (Or.inl ⟨by rfl, fun w' hSw => by go_simp⟩) c5 ?_
    refine held_take (i := 1) (v := .slice q3 X.length d3) rfl (by kernel_rfl) (by kernel_rfl) (by kernel_rfl) (by kernel_rfl) (fun _ _ _ h => h) (Or.inl ⟨by rfl, fun w' hSw => by go_simp⟩) c5 ?_
    refine held_take (i := 2) (v := .int .i64 (X.length : Int)) rfl (by kernel_rfl) (by kernel_rfl) (by kernel_rfl) (by kernel_rfl) (fun _ _ _ h => h) (Or.inl ⟨by rfl, fun w' hSw => by go_simp⟩) c5 ?_
    refine held_take (i := 3) (v := .int .u64 (X.length : Int)) rfl (by kernel_rfl) (by kernel_rfl) (by kernel_rfl) (by kernel_rfl) (fun _ _ _ h => h) (Or.inl ⟨by rfl, fun w' hSw => by go_simp⟩) c5 ?_
    refine held_next (i := 4) (by kernel_rfl) rfl (fun K hK => ?_)
    go_simp
    go_at_call 92
    refine (num_any X.length _ (by omega)).mono ?_
    rintro e w6 ⟨v6, rfl, ho6, hb6⟩
    have hN := numL_short (n := X.length) (by omega)
    obtain ⟨Nb, hNb⟩ : ∃ Nb, Nb = numL X.length := ⟨_, rfl⟩
    rw [← hNb] at ho6 hN
    have HNb := Lib.hid hNb
    obtain ⟨q6, d6, rfl⟩ := ho6.in_.shape
    have HI6 := Lib.hid ho6.in_
    have HK6 := Lib.hid (HK5'.out.keepB hb6)
    have HT6 := Lib.hid (HT5.out.trans (Turned.fromB (Y := EnY w.heap.size (w.heap.size + 1) (w.heap.size + 2) (w3.heap.size + 1) w3.heap.size (.slice q4 N4 d4) vl) ((Below.refl _ _).drew.trans hb6)) (fun k hk e => HY5.out k hk e))
    have HX6 := Lib.hid ((hb6.block _ (Array.getElem?_eq_some_iff.1 HX5.out).1).trans HX5.out)
    have HC6 := Lib.hid (show (P.flatMap spanL).length + Nb.length ≤ 100000000000000 by have h1 := HBd.out.2; have h2 := HPl.out.2; have : 5000 * P.length ≤ 5000 * 1000 := Nat.mul_le_mul_left _ h2; omega)
    have c6 := Boxed.cell HK6.out.boxl
    clear ho6 hb6 hNb hN
    refine hK.out _ _ (fun _ => c6) ?_
    clear hK K
    refine held_next (i := 5) (by kernel_rfl) rfl (fun K hK => ?_)
    refine step_appN rfl (.tmp 19) (.tmp 23) rfl w.heap.size w6.heap.size vl (.slice q6 Nb.length d6) (P.flatMap spanL) Nb rfl rfl HK6.out.rowl HI6.out HC6.out HK6.out.below.size ?_
    intro v7 w7 ho7 hg7 hv7
    obtain ⟨⟨c7, f7⟩, k7, t7, y7⟩ := HK6.out.setL HD.out ho7 hg7 hv7
    obtain ⟨q7, d7, e7⟩ := ho7.in_.shape
    obtain ⟨N7, hN7⟩ : ∃ N7, N7 = (P.flatMap spanL ++ Nb).length := ⟨_, rfl⟩
    rw [← hN7] at e7
    subst e7
    have HK8 := Lib.hid k7
    have HT8 := Lib.hid (HT6.out.trans t7 (fun k hk e => HY5.out k hk e))
    have HY8 := Lib.hid (fun (k : Nat) (hk : k < W1.heap.size) e => HY5.out k hk (y7 k (Nat.lt_of_lt_of_le hk HT6.out.size) e))
    have HX8 := Lib.hid ((t7.block _ (Array.getElem?_eq_some_iff.1 HX6.out).1 (fun e => HN4.out _ e rfl)).trans HX6.out)
    have HN8 := Lib.hid (fun (k : Nat) e (h : k = W1.heap.size) => HN4.out k (y7 k (by rw [h]; exact (Array.getElem?_eq_some_iff.1 HX6.out).1) e) h)
    clear ho7 hg7 hv7 k7 t7 y7 hN7
    refine hK.out _ _ (fun _ => c7) ?_
    clear hK K
    refine held_next (i := 6) (by kernel_rfl) rfl (fun K hK => ?_)
    go_simp
    refine hK.out _ _ (fun h => absurd rfl h) ?_
    clear hK K
    refine held_done (by kernel_rfl) ?_ _
    obtain ⟨W8, hW8⟩ : ∃ W8, W8 = w7.setCell ⟨w.heap.size + 1, 0, none⟩ (.slice q7 N7 d7) := ⟨_, rfl⟩
    rw [← hW8] at HK8 HT8 HX8 ⊢
    clear hW8 c5 c6 c7 f7 HK6 HT6 HX6 HI6 HC6 HK5 HK5' HT5 HX5 hwr
    have c8 : W8.drew.cell? ⟨w.heap.size + 1, 0, none⟩ = some (.slice q7 N7 d7) ∧ W8.drew.cell? ⟨W1.heap.size, 0, none⟩ = some (.slice pu Pg.length cu) ∧ W8.drew.cell? ⟨W1.heap.size, 1, none⟩ = some (.slice pb Lb.length cb) := ⟨Boxed.cell HK8.out.drew.boxl, (cell_of_row W8.drew W1.heap.size 0 _ _ (0, 0) HX8.out).trans rfl, (cell_of_row W8.drew W1.heap.size 1 _ _ (0, 0) HX8.out).trans rfl⟩
    have HK8' := Lib.hid HK8.out.drew
    have HE8 := Lib.hid (show EnIn W8.drew.heap.size W8.drew (.slice pu Pg.length cu) Pg from ((HIn.out.below ((HT8.out.below HBW.out.size (fun k e => (HK.out.far k e).1)).trans ((Below.refl _ _).drew))).mono HK8'.out.below.size))
    have hbx : W1.heap.size < W8.heap.size := (Array.getElem?_eq_some_iff.1 HX8.out).1
    have HBx8 := Lib.hid (And.intro hbx (show w.heap.size + 1 < W8.heap.size from HK8.out.lt _ (.inr (.inl rfl))))
    clear hbx
    gi_wp2_with fail
    refine region_roundH (fun W => W.cell? ⟨w.heap.size + 1, 0, none⟩ = some (.slice q7 N7 d7) ∧ W.cell? ⟨W1.heap.size, 0, none⟩ = some (.slice pu Pg.length cu) ∧ W.cell? ⟨W1.heap.size, 1, none⟩ = some (.slice pb Lb.length cb)) 5 (by kernel_rfl) (by kernel_rfl) (by rintro ⟨_, _, h⟩; exact h) ?_
    refine held_take (i := 0) (v := .slice q7 N7 d7) rfl (by kernel_rfl) (by kernel_rfl) (by kernel_rfl) (by kernel_rfl) (fun _ _ _ h => h) (Or.inl ⟨by rfl, fun w' hSw => by have h1 := hSw.1; have h2 := hSw.2.1; have h3 := hSw.2.2; go_simp⟩) c8 ?_
    refine held_take (i := 1) (v := .agg #[.slice pu Pg.length cu, .slice pb Lb.length cb]) rfl (by kernel_rfl) (by kernel_rfl) (by kernel_rfl) (by kernel_rfl) (fun _ _ _ h => h) (Or.inl ⟨by rfl, fun w' hSw => by have h1 := hSw.1; have h2 := hSw.2.1; have h3 := hSw.2.2; go_simp⟩) c8 ?_
    refine held_next (i := 2) (by kernel_rfl) rfl (fun K hK => ?_)
    go_simp
    go_at_call 94
    refine (pgkey_any (.slice pu Pg.length cu) (.slice pb Lb.length cb) Pg _ HE8.out HNe.out HHd.out).mono ?_
    rintro e w9 ⟨v9, rfl, ho9, hb9⟩
    have hKl := keyT_short HHd.out.1
    obtain ⟨Ky, hKy⟩ : ∃ Ky, Ky = keyT (headT Pg) := ⟨_, rfl⟩
    rw [← hKy] at ho9 hKl
    have HKy := Lib.hid hKy
    obtain ⟨q9, d9, rfl⟩ := ho9.in_.shape
    have HI9 := Lib.hid ho9.in_
    have HK9 := Lib.hid (HK8'.out.keepB hb9)
    have HB9 := Lib.hid hb9
    have c9 := And.intro ((hb9.cell (p := ⟨w.heap.size + 1, 0, none⟩) HBx8.out.2).trans c8.1) (And.intro ((hb9.cell (p := ⟨W1.heap.size, 0, none⟩) HBx8.out.1).trans c8.2.1) ((hb9.cell (p := ⟨W1.heap.size, 1, none⟩) HBx8.out.1).trans c8.2.2))
    clear ho9 hb9 hKy
    refine hK.out _ _ (fun _ => c9) ?_
    clear hK K
    refine held_next (i := 3) (by kernel_rfl) rfl (fun K hK => ?_)
    go_simp
    go_at_call 93
    refine (text_any (.slice q9 Ky.length d9) Ky _ _ HI9.out (Nat.le_refl _) (by omega)).mono ?_
    rintro e w10 ⟨v10, rfl, ho10, hb10⟩
    have hTl : (textL Ky).length ≤ 4900 := by
      have h4 : (numL Ky.length).length ≤ 10 := numL_short (by omega)
      unfold textL
      rw [List.length_append]
      omega
    obtain ⟨Tx, hTx⟩ : ∃ Tx, Tx = textL Ky := ⟨_, rfl⟩
    rw [← hTx] at ho10 hTl
    have HTx := Lib.hid hTx
    obtain ⟨q10, d10, rfl⟩ := ho10.in_.shape
    have HI10 := Lib.hid ho10.in_
    have HK10 := Lib.hid (HK9.out.keepB hb10)
    have HT10 := Lib.hid (HT8.out.trans (Turned.fromB (Y := EnY w.heap.size (w.heap.size + 1) (w.heap.size + 2) (w3.heap.size + 1) w3.heap.size (.slice q4 N4 d4) (.slice q7 N7 d7)) ((Below.refl _ _).drew.trans (HB9.out.trans (hb10.mono HB9.out.size)))) (fun k hk e => HY8.out k hk e))
    have c10 := And.intro ((hb10.cell (p := ⟨w.heap.size + 1, 0, none⟩) (Nat.lt_of_lt_of_le HBx8.out.2 HB9.out.size)).trans c9.1) (And.intro ((hb10.cell (p := ⟨W1.heap.size, 0, none⟩) (Nat.lt_of_lt_of_le HBx8.out.1 HB9.out.size)).trans c9.2.1) ((hb10.cell (p := ⟨W1.heap.size, 1, none⟩) (Nat.lt_of_lt_of_le HBx8.out.1 HB9.out.size)).trans c9.2.2))
    have HC10 := Lib.hid (show (P.flatMap spanL ++ Nb).length + Tx.length ≤ 100000000000000 by
      have h1 := HBd.out.2; have h2 := HPl.out.2; have h3 : 5000 * P.length ≤ 5000 * 1000 := Nat.mul_le_mul_left _ h2
      have h4 : Nb.length ≤ 10 := by rw [HNb.out]; exact numL_short (by omega)
      rw [List.length_append]; omega)
    clear ho10 hb10 hTx
    refine hK.out _ _ (fun _ => c10) ?_
    clear hK K
    refine held_next (i := 4) (by kernel_rfl) rfl (fun K hK => ?_)
    refine step_appN rfl (.tmp 25) (.tmp 28) rfl w.heap.size w10.heap.size (.slice q7 N7 d7) (.slice q10 Tx.length d10) (P.flatMap spanL ++ Nb) Tx rfl rfl HK10.out.rowl HI10.out HC10.out HK10.out.below.size ?_
    intro v11 w11 ho11 hg11 hv11
    obtain ⟨⟨c11, f11⟩, k11, t11, y11⟩ := HK10.out.setL HD.out ho11 hg11 hv11
    obtain ⟨q11, d11, e11⟩ := ho11.in_.shape
    obtain ⟨N11, hN11⟩ : ∃ N11, N11 = (P.flatMap spanL ++ Nb ++ Tx).length := ⟨_, rfl⟩
    rw [← hN11] at e11
    subst e11
    have HK12 := Lib.hid k11
    have HT12 := Lib.hid (HT10.out.trans t11 (fun k hk e => HY8.out k hk e))
    have HY12 := Lib.hid (fun (k : Nat) (hk : k < W1.heap.size) e => HY8.out k hk (y11 k (Nat.lt_of_lt_of_le hk HT10.out.size) e))
    have c12 := And.intro c11 (And.intro (hg11.cell c10.2.1 (fun e => HN8.out W1.heap.size (.inr (.inr (.inr (.inr (.inr (.inr e.symm)))))) rfl)) (hg11.cell c10.2.2 (fun e => HN8.out W1.heap.size (.inr (.inr (.inr (.inr (.inr (.inr e.symm)))))) rfl)))
    clear ho11 hg11 hv11 k11 t11 y11 hN11
    refine hK.out _ _ (fun _ => c12) ?_
    clear hK K
    refine held_next (i := 5) (by kernel_rfl) rfl (fun K hK => ?_)
    go_simp
    refine hK.out _ _ (fun h => absurd rfl h) ?_
    clear hK K
    refine held_done (by kernel_rfl) ?_ _
    obtain ⟨W12, hW12⟩ : ∃ W12, W12 = w11.setCell ⟨w.heap.size + 1, 0, none⟩ (.slice q11 N11 d11) := ⟨_, rfl⟩
    rw [← hW12] at HK12 HT12 ⊢
    have cn : W12.cell? ⟨w.heap.size + 1 + 1, 0, none⟩ = some (.int .i64 (P.length : Int)) := Boxed.cell HK12.out.num
    have fn : W12.frozen? ⟨w.heap.size + 1 + 1, 0, none⟩ = false := Boxed.frozen HK12.out.num
    have hp9 : (P.length : Int) ≤ 1000 := by have := HPl.out.2; omega
    have hp0 : (0 : Int) ≤ (P.length : Int) := by omega
    clear hW12 c8 c9 c10 c11 f11 c12 HK8 HK8' HK9 HK10 HT8 HT10 HI9 HI10 HC10 HE8 HX8 HB9 HBx8 hKl hTl hXl
    gi_wp2_with fail
    obtain ⟨W13, hW13⟩ : ∃ W13, W13 = W12.setCell ⟨w.heap.size + 1 + 1, 0, none⟩ (.int .i64 ((P.length : Int) + 1)) := ⟨_, rfl⟩
    rw [← hW13]
    have hK13 : EnK w w.heap.size (w.heap.size + 1) (w.heap.size + 2) (w3.heap.size + 1) w3.heap.size (w.heap.size + 3) (busyR r) (P.flatMap pageL ++ X) (P.flatMap spanL ++ Nb ++ Tx) (P.length + 1) (.slice q4 N4 d4) (.slice q11 N11 d11) W13 := by
      rw [hW13]
      exact (HK12.out.setN HD.out (m := P.length + 1)).1
    have hT13 : Turned (EnY w.heap.size (w.heap.size + 1) (w.heap.size + 2) (w3.heap.size + 1) w3.heap.size (.slice q4 N4 d4) (.slice q11 N11 d11)) W12 W13 := by
      rw [hW13]
      exact (HK12.out.setN HD.out (m := P.length + 1)).2
    have e1 : (P ++ [Pg]).flatMap pageL = P.flatMap pageL ++ X := by rw [flat_snoc, HXe.out]
    have e2 : (P ++ [Pg]).flatMap spanL = P.flatMap spanL ++ Nb ++ Tx := by
      rw [flat_snoc, List.append_assoc]
      unfold spanL
      rw [← HXe.out, ← HNb.out, ← HKy.out, ← HTx.out]
    have e3 : (P ++ [Pg]).length = P.length + 1 := by simp
    refine ⟨hK13.loop, _, ⟨.slice q4 N4 d4, .slice q11 N11 d11, rfl, ?_, ?_, ?_⟩, ?_⟩
    · rw [e1, e2, e3]; exact hK13.put HD.out r
    · rw [flat_snoc, List.length_append, e3]
      have h1 := HBd.out.1
      have h2 := HBx.out.1
      omega
    · rw [flat_snoc, List.length_append, e3]
      have h1 := HBd.out.2
      have h2 := HBx.out.2
      omega
    · refine (HT12.out.trans hT13 (fun k hk e => HY12.out k hk e)).trans (turned_putObj _ _ _) (fun k _ e => .inr (.inr (.inr (.inl e))))
  · rintro e w4 ⟨⟨vr, rfl⟩, Y', vc, vl, rfl, hK4, hbd⟩
    refine ⟨⟨_, rfl⟩, hK4.loop, ?_⟩
    obtain ⟨w5, hw5⟩ : ∃ w5, w5 = w4.putObj (w3.heap.size + 1) (.loop { r with state := .exhausted }) := ⟨_, rfl⟩
    have HK5 := Lib.hid (show EnK w w.heap.size (w.heap.size + 1) (w.heap.size + 2) (w3.heap.size + 1) w3.heap.size (w.heap.size + 3) { r with state := .exhausted } ((pagesL E).flatMap pageL) ((pagesL E).flatMap spanL) (pagesL E).length vc vl w5 by
      rw [hw5]
      exact hK4.put HD.out _)
    rw [← hw5]
    clear hw5 hK4 hl0 hd0 hbb kk HBW H0 HK0 r1 r2 r3 r4 r5 r6
    obtain ⟨n, hn⟩ : ∃ n, n = (pagesL E).length := ⟨_, rfl⟩
    have hnE : n ≤ 1000 := by have := pgRest_len E []; rw [hn]; unfold pagesL; simp at this; omega
    obtain ⟨C, hC⟩ : ∃ C, C = (pagesL E).flatMap pageL := ⟨_, rfl⟩
    obtain ⟨L, hL⟩ : ∃ L, L = (pagesL E).flatMap spanL := ⟨_, rfl⟩
    rw [← hn, ← hC, ← hL] at HK5
    rw [← hn, ← hC, ← hL] at hbd
    have HR := Lib.hid (show runL E = C ++ sealL (numL n ++ numL E.length ++ L) ++ sealL (le4 (sealL (numL n ++ numL E.length ++ L)).length) by rw [hn, hC, hL]; rfl)
    have HLb := Lib.hid (show C.length ≤ 6000000000 ∧ L.length ≤ 5000000 by
      have h1 : 6000000 * n ≤ 6000000 * 1000 := Nat.mul_le_mul_left _ hnE
      have h2 : 5000 * n ≤ 5000 * 1000 := Nat.mul_le_mul_left _ hnE
      omega)
    have cn : w5.cell? ⟨w.heap.size + 1 + 1, 0, none⟩ = some (.int .i64 (n : Int)) := Boxed.cell HK5.out.num
    have hw1 := wrapU n (by omega)
    have hw2 := wrapU E.length (by omega)
    have HNE := Lib.hid hnE
    clear hn hC hL hbd hnE
    gi_wp2_with fail
    refine ⟨True.intro, (callsIn_wide.2 (num_any n _ (by have := HNE.out; omega))).mono ?_⟩
    rintro e w6 ⟨v6, rfl, ho6, hb6⟩
    obtain ⟨A6, hA6⟩ : ∃ A6, A6 = numL n := ⟨_, rfl⟩
    have hA6l : A6.length ≤ 10 := by rw [hA6]; exact numL_short (by have := HNE.out; omega)
    rw [← hA6] at ho6 HR
    obtain ⟨q6, d6, rfl⟩ := ho6.in_.shape
    have HO6 := Lib.hid ho6
    have HB6 := Lib.hid hb6
    clear ho6 hb6 hA6
    gi_wp2_with fail
    refine ⟨True.intro, (callsIn_wide.2 (num_any E.length _ (by omega))).mono ?_⟩
    rintro e w7 ⟨v7, rfl, ho7, hb7⟩
    obtain ⟨A7, hA7⟩ : ∃ A7, A7 = numL E.length := ⟨_, rfl⟩
    have hA7l : A7.length ≤ 10 := by rw [hA7]; exact numL_short (by omega)
    rw [← hA7] at ho7 HR
    obtain ⟨q7, d7, rfl⟩ := ho7.in_.shape
    have HI7 := Lib.hid ho7.in_
    have HO7 := Lib.hid (HO6.out.below hb7)
    have HB7 := Lib.hid (HB6.out.trans (hb7.mono HB6.out.size))
    have HA := Lib.hid (show A6.length + A7.length ≤ 100000000000000 by omega)
    clear ho7 hb7 hA7
    gi_wp2_with (first | (gi_at_builtin; refine wpListIn_app rfl (.tmp 34) (.tmp 38) rfl w5.heap.size w7.heap.size (.slice q6 A6.length d6) (.slice q7 A7.length d7) A6 A7 rfl rfl HO7.out HI7.out HA.out HB7.out.size ?_; intro v8 w8 ho8 hg8; obtain ⟨q8, d8, e8⟩ := ho8.in_.shape; have hB8 := HB7.out.grown hg8 HB7.out.size (fun k e => (World.ownsRow.lt HO7.out k e).1); have HO8 := Lib.hid ho8; have HB8 := Lib.hid hB8; obtain ⟨A8, hA8⟩ : ∃ A8, A8 = A6 ++ A7 := ⟨_, rfl⟩; rw [← hA8] at HO8 HR e8; subst e8; have HA8 := Lib.hid (show A8.length ≤ 20 by rw [hA8, List.length_append]; omega); have cl8 := (hB8.cell (p := ⟨w.heap.size + 1, 0, none⟩) (HK5.out.lt _ (.inr (.inl rfl)))).trans (Boxed.cell HK5.out.boxl); have HI8 := Lib.hid (HK5.out.rowl.in_.below hB8); clear ho8 hg8 hB8 hA8) | (gi_at_builtin; refine wpListIn_app rfl (.tmp 40) (.tmp 41) rfl w5.heap.size w5.heap.size (.slice q8 A8.length d8) vl A8 L rfl rfl HO8.out HI8.out (by have h1 := HA8.out; have h2 := HLb.out.2; omega) HB8.out.size ?_; intro v9 w9 ho9 hg9; obtain ⟨q9, d9, e9⟩ := ho9.in_.shape; have hB9 := HB8.out.grown hg9 HB8.out.size (fun k e => (World.ownsRow.lt HO8.out k e).1); have HI9 := Lib.hid ho9.in_; have HB9 := Lib.hid hB9; obtain ⟨A9, hA9⟩ : ∃ A9, A9 = A8 ++ L := ⟨_, rfl⟩; rw [← hA9] at HI9 HR e9; subst e9; have HA9 := Lib.hid (show A9.length ≤ 6000000 by have h1 := HA8.out; have h2 := HLb.out.2; rw [hA9, List.length_append]; omega); clear ho9 hg9 hB9 hA9))
    refine ⟨True.intro, (callsIn_wide.2 (seal_any (.slice q9 A9.length d9) A9 _ HI9.out (by have := HA9.out; omega) (HG.out _ (HK5.out.below.trans (HB9.out.mono HK5.out.below.size))))).mono ?_⟩
    rintro e w10 ⟨v10, rfl, ho10, hb10⟩
    obtain ⟨A10, hA10⟩ : ∃ A10, A10 = sealL A9 := ⟨_, rfl⟩
    have hA10l : A10.length ≤ 6000004 := by rw [hA10, sealL_len]; have := HA9.out; omega
    rw [← hA10] at ho10 HR
    obtain ⟨q10, d10, rfl⟩ := ho10.in_.shape
    have HI10 := Lib.hid ho10.in_
    have HB10 := Lib.hid (HB9.out.trans (hb10.mono HB9.out.size))
    clear ho10 hb10 hA10
    gi_wp2_with fail
    refine ⟨True.intro, (callsIn_wide.2 (size4_any A10.length _ (by omega))).mono ?_⟩
    rintro e w11 ⟨v11, rfl, ho11, hb11⟩
    obtain ⟨A11, hA11⟩ : ∃ A11, A11 = le4 A10.length := ⟨_, rfl⟩
    have HA11l := Lib.hid (show A11.length = 4 by rw [hA11]; rfl)
    rw [← hA11] at ho11 HR
    obtain ⟨q11, d11, rfl⟩ := ho11.in_.shape
    have HI11 := Lib.hid ho11.in_
    have HJ11 := Lib.hid (HI10.out.below hb11)
    have HB11 := Lib.hid (HB10.out.trans (hb11.mono HB10.out.size))
    have HS11 := Lib.hid hb11.size
    clear ho11 hb11 hA11
    gi_wp2_with fail
    refine ⟨True.intro, (callsIn_wide.2 (seal_any (.slice q11 A11.length d11) A11 _ HI11.out (by have := HA11l.out; omega) (HG.out _ (HK5.out.below.trans (HB11.out.mono HK5.out.below.size))))).mono ?_⟩
    rintro e w12 ⟨v12, rfl, ho12, hb12⟩
    obtain ⟨A12, hA12⟩ : ∃ A12, A12 = sealL A11 := ⟨_, rfl⟩
    have hA12l : A12.length ≤ 8 := by rw [hA12, sealL_len]; have := HA11l.out; omega
    rw [← hA12] at ho12 HR
    obtain ⟨q12, d12, rfl⟩ := ho12.in_.shape
    have hB12 := HB11.out.trans (hb12.mono HB11.out.size)
    have HI12 := Lib.hid ho12.in_
    have HJ12 := Lib.hid ((HJ11.out.below (hb12.mono HS11.out)).mono (Nat.le_trans HS11.out hb12.size))
    have HK12 := Lib.hid ((HK5.out.rowc.in_.below hB12).mono hB12.size)
    have hcc := (hB12.cell (p := ⟨w.heap.size, 0, none⟩) (HK5.out.lt _ (.inl rfl))).trans (Boxed.cell HK5.out.boxc)
    obtain ⟨pc, cc, rfl⟩ := HK5.out.rowc.in_.shape
    have HB12 := Lib.hid hB12
    have HL12 := Lib.hid (show C.length + A10.length + A12.length ≤ 100000000000000 by have := HLb.out.1; omega)
    have HT12 := Lib.hid (ThreeB.lit HK12.out HJ12.out HI12.out)
    clear ho12 hb12 hA12 hB12
    gi_wp2_with fail
    refine ⟨True.intro, (callsIn_wide.2 (concat3_any w12.heap.size C A10 A12 _ HT12.out HL12.out)).mono ?_⟩
    rintro e w13 ⟨v13, rfl, ho13, hb13⟩
    have HO13 := Lib.hid ho13
    have HB13 := Lib.hid (HB12.out.trans (((below_new _ _).trans (hb13.mono (by simp))).mono HB12.out.size))
    have HS13 := Lib.hid (show w5.heap.size ≤ w12.heap.size + 1 from Nat.le_succ_of_le HB12.out.size)
    clear ho13 hb13 hcc
    gi_wp2_with fail
    have hDl := HK5.out.lt w3.heap.size (.inr (.inr (.inr (.inr (.inl rfl)))))
    have hD : w13.heap[w.heap.size + 4]? = some (.deferred (some [])) := by
      rw [← hs3]
      exact (HB13.out.block w3.heap.size hDl).trans HK5.out.defs
    have hb5 := HK5.out.below
    refine ⟨by simp, .inl ⟨_, _, rfl, run_takeDeferred hD, ?_⟩⟩
    refine ⟨_, by simp [results, Tryz.results35, go_sem], v13, rfl, ?_, ?_⟩
    · rw [HR.out]
      refine (HO13.out.mono (show w.heap.size ≤ _ by rw [World.size_alloc]; exact Nat.le_trans hb5.size HS13.out)).off (turned_putObj _ _ _) (fun k e e' => ?_)
      have h1 := (World.ownsRow.lt HO13.out k e).1
      rw [World.size_alloc] at h1
      have h2 := HS13.out
      have h3 : k = w.heap.size + 4 := e'
      omega
    · exact (hb5.trans (HB13.out.mono hb5.size)).trans ((Below.refl _ _).grown (grownBy_putObj' _ _ _) (Nat.le_trans hb5.size HB13.out.size) (fun k e => by cases e; omega))
end
end Go.Proofs.YtdjhfcopnhcljaaGreatDoor

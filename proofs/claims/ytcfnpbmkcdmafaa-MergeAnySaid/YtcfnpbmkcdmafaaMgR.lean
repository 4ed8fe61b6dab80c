/-
  Contract of the closure of merge.Only: the walk.
-/
import Derived.Test.YtcfnpbmkcdmafaaMgQ
namespace Go.Proofs.Ytcfnpbmkcdmafaa
open Go Go.RowKit Go.Shelf

attribute [local go_sem] Oper.semAt_some

set_option maxRecDepth 100000 in
set_option maxHeartbeats 4000000 in
theorem only1_any {σ : Type} {kh : Nat} {lbh : Array Value} {Hs : σ → (Nat → Prop) → World → Prop} {step : σ → Th → Bool × σ} (hk : HoldsOk kh lbh Hs step) {ca ch r : Nat} {Y : Nat → Prop} {M : List Th} {w : World} (h : OnJ kh lbh Hs step ca ch r Y M w) :
    Calls Try.prog 57 #[.pointer (some ⟨ca, 0, none⟩), .pointer (some ⟨ch, 0, none⟩)] w (TellEnd Y M (OnJ kh lbh Hs step ca ch r) w) := by
  obtain ⟨hI0, hca0, hch0, ca0, ch0, s, D0, Yr, Yh, m1, m2, m3, m4, m5⟩ := h
  have HI := Lib.hid hI0
  have HCa := Lib.hid hca0
  have HCh := Lib.hid hch0
  have lca := hI0 _ hca0
  have lch := hI0 _ hch0
  have HS0 := Lib.hid (show ∀ (rec : Loop) (W : World), W.heap[w.heap.size + 3]? = some (.loop rec) → W.heap[w.heap.size + 2]? = some (.deferred (some [])) → W.heap[w.heap.size]? = some (.cells #[.int .i8 0, .int .i64 0] 28 (0, 0)) → W.heap[w.heap.size + 1]? = some (.cells #[.bool false] 4 (0, 0)) → Below w.heap.size w W →
      On kh lbh Hs step w ca ch r Y M rec #[.int .i8 0, .int .i64 0] #[.bool false] D0 D0 W from fun rec W g1 g2 g3 g4 g5 => ⟨g1, g2, g3, g4, (g5.cell (p := ⟨ca, 0, none⟩) lca).trans ca0, (g5.cell (p := ⟨ch, 0, none⟩) lch).trans ch0, Upd.of_below g5, s, Yr, Yh,
        m1.keep g5.size (fun k e => g5.block k (m1.inside k e)), hk.keep m2 g5.size (fun k e => g5.block k (hk.inside m2 k e)), fun k e => ⟨⟨.inl (m3 k e).1.1, (m3 k e).1.2⟩, (m3 k e).2⟩, fun k e => ⟨.inl (m4 k e).1, (m4 k e).2⟩, m5⟩)
  clear hI0 hca0 hch0 m1 m2 m3 m4 m5
  refine (callsIn_wide (n := 9)).1 ?_
  refine callsIn_of_wp_marks Try.func57 rfl trivial ?_ rfl
  simp only [Try.ntmps57, List.size_toArray, List.length_cons, List.length_nil, Nat.reduceAdd, Nat.reduceSub, Array.replicate_succ, Array.replicate_zero, List.push_toArray, List.append_toArray, List.nil_append, List.cons_append]
  gi_wp2_with fail
  obtain ⟨w3, hw3⟩ : ∃ w3, w3 = (w.alloc (.cells #[.int .i8 0, .int .i64 0] 28)).alloc (.cells #[.bool false] 4) := ⟨_, rfl⟩
  have hs3 : w3.heap.size = w.heap.size + 2 := by rw [hw3]; simp
  have H0 := Lib.hid (show w3.heap[w.heap.size]? = some (.cells #[.int .i8 0, .int .i64 0] 28 (0, 0)) by rw [hw3]; exact (Below.heap_alloc _ _ _ (by simp)).trans (heap_alloc_new w _))
  have H1 := Lib.hid (show w3.heap[w.heap.size + 1]? = some (.cells #[.bool false] 4 (0, 0)) by rw [hw3]; simpa using heap_alloc_new (w.alloc (.cells #[.int .i8 0, .int .i64 0] 28)) (.cells #[.bool false] 4))
  have HB3 := Lib.hid (show Below w.heap.size w w3 by rw [hw3]; exact ((Below.refl _ _).alloc (Nat.le_refl _) _).alloc (by simp) _)
  rw [← hw3]
  clear hw3
  refine range_ret (gf := 48) (lb := #[.pointer (some ⟨r, 0, none⟩)]) rfl (enters_of Try.func48 (by kernel_rfl) rfl) ?_
  intro rc r1 r2 r3 r4 r5 r6
  rw [hs3]
  have hl0 : ((w3.alloc (.deferred (some []))).alloc (.loop rc)).heap[w.heap.size + 3]? = some (.loop rc) := by
    have := World.alloc_heap_new (w3.alloc (.deferred (some []))) (.loop rc)
    rwa [World.size_alloc, hs3] at this
  have hd0 : ((w3.alloc (.deferred (some []))).alloc (.loop rc)).heap[w.heap.size + 2]? = some (.deferred (some [])) := by
    have := World.alloc_heap_new w3 (.deferred (some []))
    rw [hs3] at this
    exact (Below.heap_alloc _ _ _ (by rw [World.size_alloc]; omega)).trans this
  have hbb : Below w3.heap.size w3 ((w3.alloc (.deferred (some []))).alloc (.loop rc)) := ((Below.refl _ _).alloc (Nat.le_refl _) _).alloc (by simp) _
  have kk : ∀ {k : Nat} {o : Obj}, w3.heap[k]? = some o → ((w3.alloc (.deferred (some []))).alloc (.loop rc)).heap[k]? = some o := fun h => (hbb.block _ (Array.getElem?_eq_some_iff.1 h).1).trans h
  have hS := HS0.out rc _ hl0 hd0 (kk H0.out) (kk H1.out) (HB3.out.trans (hbb.mono HB3.out.size))
  refine (all1_in 8 (by decide) (w.heap.size + 3) r (fun D W => On kh lbh Hs step w ca ch r Y M rc #[.int .i8 0, .int .i64 0] #[.bool false] D D W) (fun D W => On kh lbh Hs step w ca ch r Y M rc #[.int .i8 0, .int .i64 0] #[.bool false] D.tail D W)
    (fun W => ∃ x M' D, M = x :: M' ∧ On kh lbh Hs step w ca ch r Y M' (doneR rc) #[.int .i8 x.1, .int .i64 x.2] #[.bool true] D D W)
    (fun D W o h => h.alloc hk HI.out HCa.out HCh.out o) (fun D W h => ?_) ?_ D0 _ hS).mono ?_
  · obtain ⟨Yr, m1, m2⟩ := h.move hk HI.out
    refine (next_any m1).mono ?_
    rintro e W' ⟨rfl, hu, Y', hs, hm⟩
    exact ⟨rfl, m2 W' Y' D.tail hu hs hm⟩
  · clear hl0 hd0 hbb kk hS H0 H1 HS0
    intro x D W hJ0
    have HJ := Lib.hid hJ0
    have hJl := hJ0.loop
    refine yield_ret hJl r1 r2 (by rw [r3]; rfl) ?_
    clear hJ0 hJl
    rw [r3, r4, r5, r6]
    clear r1 r2 r3 r4 r5 r6
    gi_wp2_with fail
    have hJ1 := HJ.out.alloc hk HI.out HCa.out HCh.out (.cells #[.int .i8 x.1, .int .i64 x.2] 28)
    refine ⟨hJ1.loop, ?_⟩
    have hJ2 := hJ1.put hk HI.out HCa.out HCh.out (busyR rc)
    have hWz := HJ.out.size
    have hx : ((W.alloc (.cells #[.int .i8 x.1, .int .i64 x.2] 28)).putObj (w.heap.size + 3) (.loop (busyR rc))).heap[W.heap.size]? = some (.cells #[.int .i8 x.1, .int .i64 x.2] 28 (0, 0)) := (World.putObj_heap_other (by omega)).trans (World.alloc_heap_new W _)
    obtain ⟨W2, hW2⟩ : ∃ W2, W2 = (W.alloc (.cells #[.int .i8 x.1, .int .i64 x.2] 28)).putObj (w.heap.size + 3) (.loop (busyR rc)) := ⟨_, rfl⟩
    have hs2 : W2.heap.size = W.heap.size + 1 := by rw [hW2]; simp
    have hst := HJ.out.st
    have same : ∀ k, k < W.heap.size → (Y k ∨ w.heap.size + 4 ≤ k) → W2.heap[k]? = W.heap[k]? := fun k hk' e => by
      rw [hW2]
      have hne : k ≠ w.heap.size + 3 := by
        rcases e with e | e
        · have := HI.out k e; omega
        · omega
      exact (World.putObj_heap_other hne).trans (Below.heap_alloc _ _ _ (by omega))
    rw [← hW2] at hJ2 hx ⊢
    have HX := Lib.hid hx
    have HJ2 := Lib.hid hJ2
    clear hW2 hJ1 hJ2 HJ
    have k0 := HJ2.out.hh
    have k1 := cell_of_row W2 _ 0 _ _ (0, 0) hx
    have k2 := cell_of_row W2 _ 1 _ _ (0, 0) hx
    obtain ⟨s1, Yr1, Yh1, m1, m2, m3, m4, m5⟩ := hst
    have a1 := hk.keep m2 (by rw [hs2]; omega) (fun k e => same k (hk.inside m2 k e) (m4 k e).1)
    have HC := Lib.hid (hk.call x a1)
    have HA := Lib.hid (HJ2.out.ask HI.out (m1.keep (by rw [hs2]; omega) (fun k e => same k (m1.inside k e) (m3 k e).1.1)) m3 m4 m5)
    have HNx := Lib.hid (show ¬ Yh1 W.heap.size from fun e => Nat.lt_irrefl _ (hk.inside m2 _ e))
    have he := hk.enter
    have HXl := Lib.hid (show W.heap.size < W2.heap.size by omega)
    obtain ⟨bo, hbo⟩ : ∃ bo, bo = (step s1 x).1 := ⟨_, rfl⟩
    rw [← hbo] at HC HA
    clear a1 m1 m2 m3 m4 m5 hx same
    have HBo := Lib.hid hbo
    clear hbo
    gi_wp2_with fail
    refine ⟨trivial, (CallsIn.inRound _ (callsIn_wide.2 HC.out)).mono ?_⟩
    rintro e W4 ⟨rfl, hu4, Yh4, hs4, hh4⟩
    have hA := HA.out W4 Yh4 hu4 hs4 hh4
    have hx4 := (hu4.block _ HXl.out (fun _ e => HNx.out e)).trans HX.out
    have k3 := cell_of_row W4 _ 0 _ _ (0, 0) hx4
    have k4 := cell_of_row W4 _ 1 _ _ (0, 0) hx4
    clear hu4 hs4 hh4 hx4 HC HA k0 k1 k2
    cases bo with
    | true =>
      obtain ⟨M', hM', hJ4⟩ := hA.1 rfl
      have HM := Lib.hid hM'
      have HJ4 := Lib.hid hJ4
      have c0 := cell_of_row W4 _ 0 _ _ (0, 0) hJ4.r0
      have c1 := cell_of_row W4 _ 1 _ _ (0, 0) hJ4.r0
      have c2 := cell_of_row W4 _ 0 _ _ (0, 0) hJ4.r1
      have f0 := frozen_of_row W4 _ 0 _ _ hJ4.r0
      have f1 := frozen_of_row W4 _ 1 _ _ hJ4.r0
      have f2 := frozen_of_row W4 _ 0 _ _ hJ4.r1
      clear hA hM' hJ4
      gi_wp2_with fail
      have h5 := HJ4.out.res hk HI.out HCa.out HCh.out (.int .i8 x.1) (.int .i64 x.2) (.bool true)
      exact ⟨h5.loop, x, M', D, HM.out, h5.put hk HI.out HCa.out HCh.out (doneR rc)⟩
    | false =>
      have HJ4 := Lib.hid (hA.2 rfl)
      clear hA
      gi_wp2_with fail
      exact ⟨HJ4.out.loop, HJ4.out.put hk HI.out HCa.out HCh.out rc⟩
  · rintro e w4 ⟨⟨vr, rfl⟩, hJ4 | ⟨x, M', D, hM, hJ4⟩⟩
    · refine ⟨⟨_, rfl⟩, rc, hJ4.loop, by rw [r1]; simp, .inl ⟨r2, ?_⟩⟩
      have hJ5 := hJ4.put hk HI.out HCa.out HCh.out { rc with state := .exhausted }
      have HM : Hid (M = []) := Lib.hid (by obtain ⟨s, Yr, Yh, -, -, -, -, m5⟩ := hJ4.st; rw [m5]; rfl)
      obtain ⟨w5, hw5⟩ : ∃ w5, w5 = w4.putObj (w.heap.size + 3) (.loop { rc with state := .exhausted }) := ⟨_, rfl⟩
      rw [← hw5] at hJ5 ⊢
      have HJ5 := Lib.hid hJ5
      clear hw5 hJ4 hJ5 hl0 hd0 hbb kk hS H0 H1 r1 r2 r3 r4 r5 r6 HS0
      have c0 := cell_of_row w5 _ 0 _ _ (0, 0) HJ5.out.r0
      have c1 := cell_of_row w5 _ 1 _ _ (0, 0) HJ5.out.r0
      have c2 := cell_of_row w5 _ 0 _ _ (0, 0) HJ5.out.r1
      have f0 := frozen_of_row w5 _ 0 _ _ HJ5.out.r0
      have f1 := frozen_of_row w5 _ 1 _ _ HJ5.out.r0
      have f2 := frozen_of_row w5 _ 0 _ _ HJ5.out.r1
      gi_wp2_with fail
      have h6 := HJ5.out.res hk HI.out HCa.out HCh.out (.int .i8 0) (.int .i64 0) (.bool false)
      have hz6 := h6.size
      have g0 := (World.putObj_heap_other (o := .deferred none) (show w.heap.size ≠ w.heap.size + 2 by omega)).trans h6.r0
      have g1 := (World.putObj_heap_other (o := .deferred none) (show w.heap.size + 1 ≠ w.heap.size + 2 by omega)).trans h6.r1
      have n0 := cell_of_row _ _ 0 _ _ (0, 0) g0
      have n1 := cell_of_row _ _ 1 _ _ (0, 0) g0
      have n2 := cell_of_row _ _ 0 _ _ (0, 0) g1
      refine ⟨by simp, .inl ⟨_, _, rfl, run_takeDeferred h6.defs, ?_⟩⟩
      refine ⟨.tuple #[.agg #[.int .i8 0, .int .i64 0], .bool false], by simp [results, Try.results57, go_sem, n0, n1, n2], by rw [HM.out]; rfl, ?_⟩
      have h7 := h6.done HCa.out HCh.out HI.out hk (W' := World.putObj (((w5.setCell ⟨w.heap.size, 0, none⟩ (.int .i8 0)).setCell ⟨w.heap.size, 1, none⟩ (.int .i64 0)).setCell ⟨w.heap.size + 1, 0, none⟩ (.bool false)) (w.heap.size + 2) (.deferred none)) (by simp) ⟨rfl, rfl, rfl⟩ (fun k _ e => World.putObj_heap_other (r := w.heap.size + 2) (show k ≠ w.heap.size + 2 by omega))
      rw [HM.out] at h7 ⊢
      exact h7
    · refine ⟨⟨_, rfl⟩, doneR rc, hJ4.loop, by simp [doneR], .inr ⟨rfl, ?_⟩⟩
      have hJ5 := hJ4.put hk HI.out HCa.out HCh.out { doneR rc with state := .exhausted }
      have HM := Lib.hid hM
      obtain ⟨w5, hw5⟩ : ∃ w5, w5 = w4.putObj (w.heap.size + 3) (.loop { doneR rc with state := .exhausted }) := ⟨_, rfl⟩
      rw [← hw5] at hJ5 ⊢
      have HJ5 := Lib.hid hJ5
      clear hw5 hJ4 hJ5 hl0 hd0 hbb kk hS H0 H1 r1 r2 r3 r4 r5 r6 HS0 hM
      have c0 := cell_of_row w5 _ 0 _ _ (0, 0) HJ5.out.r0
      have c1 := cell_of_row w5 _ 1 _ _ (0, 0) HJ5.out.r0
      have c2 := cell_of_row w5 _ 0 _ _ (0, 0) HJ5.out.r1
      gi_wp2_with fail
      have h6 := HJ5.out
      have hz6 := h6.size
      have g0 := (World.putObj_heap_other (o := .deferred none) (show w.heap.size ≠ w.heap.size + 2 by omega)).trans h6.r0
      have g1 := (World.putObj_heap_other (o := .deferred none) (show w.heap.size + 1 ≠ w.heap.size + 2 by omega)).trans h6.r1
      have n0 := cell_of_row _ _ 0 _ _ (0, 0) g0
      have n1 := cell_of_row _ _ 1 _ _ (0, 0) g0
      have n2 := cell_of_row _ _ 0 _ _ (0, 0) g1
      refine ⟨by simp, .inl ⟨_, _, rfl, run_takeDeferred h6.defs, ?_⟩⟩
      refine ⟨.tuple #[.agg #[.int .i8 x.1, .int .i64 x.2], .bool true], by simp [results, Try.results57, go_sem, n0, n1, n2], by rw [HM.out]; rfl, ?_⟩
      have h7 := h6.done HCa.out HCh.out HI.out hk (W' := World.putObj w5 (w.heap.size + 2) (.deferred none)) (by simp) ⟨rfl, rfl, rfl⟩ (fun k _ e => World.putObj_heap_other (r := w.heap.size + 2) (show k ≠ w.heap.size + 2 by omega))
      rw [HM.out]
      exact h7
end Go.Proofs.Ytcfnpbmkcdmafaa

/-
  Contracts of merge.All and merge.Only at counted tuples.
-/
import Derived.Test.YtcfnpbmkcdmafaaMcE
namespace Go.Proofs.Ytcfnpbmkcdmafaa
open Go Go.RowKit Go.Shelf

attribute [local go_sem] Oper.semAt_some

section
variable {n0 kh : Nat} {lbh : Array Value} {R : Nat → Prop} {Hw : World → Prop} {p : Ct → Bool}
theorem OnJC.keep (hk : HoldsC kh lbh R Hw p) {ca ch r : Nat} {Y : Nat → Prop} {M : List Ct} {w w' : World} (h : OnJC n0 kh lbh R Hw p ca ch r Y M w) (hs : w.heap.size ≤ w'.heap.size) (hb : ∀ b, Y b ∨ b < n0 → w'.heap[b]? = w.heap[b]?) : OnJC n0 kh lbh R Hw p ca ch r Y M w' := by
  obtain ⟨h1, h2, h3, h4, h5, h6, h7, D, Yr, m1, m2, m3⟩ := h
  exact ⟨fun k e => ⟨(h1 k e).1, Nat.lt_of_lt_of_le (h1 k e).2 hs⟩, h2, h3, (World.cell?_of_block (a := ⟨ca, 0, none⟩) (hb ca (.inl h2))).trans h4, (World.cell?_of_block (a := ⟨ch, 0, none⟩) (hb ch (.inl h3))).trans h5,
    hk.keep h6 hs (fun k e => hb k ((h7 k e).imp_left fun e => e.1)), h7, D, Yr, m1.keep hs (fun k e => hb k (e.imp_left fun e => (m2 k e).1)), m2, m3⟩
/-- One was found. -/
def OnX (n0 kh : Nat) (lbh : Array Value) (R : Nat → Prop) (Hw : World → Prop) (p : Ct → Bool) (w : World) (ca ch r : Nat) (Y : Nat → Prop) (M : List Ct) (rc : Loop) (W : World) : Prop :=
  ∃ (h : Raw) (x : Ct) (M' D : List Ct) (Yr : Nat → Prop), M = x :: M' ∧ OnC n0 kh lbh R Hw p w ca ch r Y M' (doneR rc) #[rawS h, .int .i64 h.2] #[.bool true] Yr D D W ∧ h.2 = x.2 ∧ TupS (SoC n0 R w ca ch Y Yr) W (rawS h) x.1
set_option maxRecDepth 100000 in
set_option maxHeartbeats 4000000 in
theorem only1_anyC (hk : HoldsC kh lbh R Hw p) {ca ch r : Nat} {Y : Nat → Prop} {M : List Ct} {w : World} (hn0 : n0 ≤ w.heap.size) (h : OnJC n0 kh lbh R Hw p ca ch r Y M w) :
    Calls Try.prog 89 #[.pointer (some ⟨ca, 0, none⟩), .pointer (some ⟨ch, 0, none⟩)] w (TellEndC n0 Y M (OnJC n0 kh lbh R Hw p ca ch r) w) := by
  obtain ⟨hI0, hca0, hch0, ca0, ch0, hw0, hR0, D0, Yr0, m1, m2, m3⟩ := h
  have HFx := Lib.hid (show OnFix n0 kh lbh R Hw p w ca ch Y from ⟨hk, hI0, hn0, hca0, hch0, hR0⟩)
  have lca := (hI0 _ hca0).2
  have lch := (hI0 _ hch0).2
  have HS0 := Lib.hid (show ∀ (rec : Loop) (W : World), W.heap[w.heap.size + 3]? = some (.loop rec) → W.heap[w.heap.size + 2]? = some (.deferred (some [])) → W.heap[w.heap.size]? = some (.cells #[.slice none 0 0, .int .i64 0] 68 (0, 0)) → W.heap[w.heap.size + 1]? = some (.cells #[.bool false] 4 (0, 0)) → Below w.heap.size w W →
      OnC n0 kh lbh R Hw p w ca ch r Y M rec #[.slice none 0 0, .int .i64 0] #[.bool false] Yr0 D0 D0 W from fun rec W g1 g2 g3 g4 g5 => ⟨g1, g2, g3, g4, (g5.cell (p := ⟨ca, 0, none⟩) lca).trans ca0, (g5.cell (p := ⟨ch, 0, none⟩) lch).trans ch0, Upd.of_below g5,
        hk.keep hw0 g5.size (fun k e => g5.block k (hk.inside hw0 k e)), m1.below g5, fun k e => ⟨.inl (m2 k e).1, (m2 k e).2⟩, m3⟩)
  clear hI0 hca0 hch0 m1 m2 m3 hw0 hR0 hn0
  refine (callsIn_wide (n := 9)).1 ?_
  refine callsIn_of_wp_marks Try.func89 rfl trivial ?_ rfl
  simp only [Try.ntmps89, List.size_toArray, List.length_cons, List.length_nil, Nat.reduceAdd, Nat.reduceSub, Array.replicate_succ, Array.replicate_zero, List.push_toArray, List.append_toArray, List.nil_append, List.cons_append]
  gi_wp2_with fail
  obtain ⟨w3, hw3⟩ : ∃ w3, w3 = (w.alloc (.cells #[.slice none 0 0, .int .i64 0] 68)).alloc (.cells #[.bool false] 4) := ⟨_, rfl⟩
  have hs3 : w3.heap.size = w.heap.size + 2 := by rw [hw3]; simp
  have H0 := Lib.hid (show w3.heap[w.heap.size]? = some (.cells #[.slice none 0 0, .int .i64 0] 68 (0, 0)) by rw [hw3]; exact (Below.heap_alloc _ _ _ (by simp)).trans (heap_alloc_new w _))
  have H1 := Lib.hid (show w3.heap[w.heap.size + 1]? = some (.cells #[.bool false] 4 (0, 0)) by rw [hw3]; simpa using heap_alloc_new (w.alloc (.cells #[.slice none 0 0, .int .i64 0] 68)) (.cells #[.bool false] 4))
  have HB3 := Lib.hid (show Below w.heap.size w w3 by rw [hw3]; exact ((Below.refl _ _).alloc (Nat.le_refl _) _).alloc (by simp) _)
  rw [← hw3]
  clear hw3
  refine range_ret (gf := 94) (lb := #[.pointer (some ⟨r, 0, none⟩)]) rfl (enters_of Try.func94 (by kernel_rfl) rfl) ?_
  intro rc r1 r2 r3 r4 r5 r6
  rw [hs3]
  have hl0 : ((w3.alloc (.deferred (some []))).alloc (.loop rc)).heap[w.heap.size + 3]? = some (.loop rc) := by
    have := World.alloc_heap_new (w3.alloc (.deferred (some []))) (.loop rc)
    rwa [World.size_alloc, hs3] at this
  have hd0 : ((w3.alloc (.deferred (some []))).alloc (.loop rc)).heap[w.heap.size + 2]? = some (.deferred (some [])) := by
    have := World.alloc_heap_new w3 (.deferred (some []))
    rw [hs3] at this
    exact (Below.heap_alloc _ _ _ (by rw [World.size_alloc]; omega)).trans this
  have hbb : Below w3.heap.size w3 ((w3.alloc (.deferred (some []))).alloc (.loop rc)) := ((Below.refl _ _).alloc (Nat.le_refl _) _).alloc (by simp) _
  have kk : ∀ {k : Nat} {o : Obj}, w3.heap[k]? = some o → ((w3.alloc (.deferred (some []))).alloc (.loop rc)).heap[k]? = some o := fun h => (hbb.block _ (Array.getElem?_eq_some_iff.1 h).1).trans h
  have hS := HS0.out rc _ hl0 hd0 (kk H0.out) (kk H1.out) (HB3.out.trans (hbb.mono HB3.out.size))
  refine (all1_inC 8 (by decide) (w.heap.size + 3) r (fun D W => ∃ Yr, OnC n0 kh lbh R Hw p w ca ch r Y M rc #[.slice none 0 0, .int .i64 0] #[.bool false] Yr D D W)
    (fun h D W => ∃ Yr, OnC n0 kh lbh R Hw p w ca ch r Y M rc #[.slice none 0 0, .int .i64 0] #[.bool false] Yr D.tail D W ∧ ∀ x D', D = x :: D' → h.2 = x.2 ∧ TupS (SoC n0 R w ca ch Y Yr) W (rawS h) x.1)
    (OnX n0 kh lbh R Hw p w ca ch r Y M rc)
    (fun h D W o ⟨Yr, g1, g2⟩ => ⟨Yr, g1.alloc HFx.out o, fun x D' e => ⟨(g2 x D' e).1, SoC.keep HFx.out (g2 x D' e).2 (fun k hk _ _ _ _ => Below.heap_alloc _ _ _ (by omega))⟩⟩) (fun D W ⟨Yr, h⟩ => ?_) ?_ D0 _ ⟨Yr0, hS⟩).mono ?_
  · refine (next_anyC h.made).mono ?_
    rintro e W' ⟨hd, ok, rfl, hu, Y', hs, hm, hh⟩
    obtain ⟨g1, g2⟩ := h.move HFx.out hu hs hm
    have hok : ok = !D.isEmpty := by
      cases D with
      | nil => rw [hh.2]; rfl
      | cons x D' => rw [hh.1]; rfl
    refine ⟨hd, by rw [hok], Y', g1, fun x D' e => ?_⟩
    subst e
    exact ⟨hh.2.1, hh.2.2.keep (fun b e _ => g2 b e) (fun _ _ _ => rfl)⟩
  · clear hl0 hd0 hbb kk hS H0 H1 HS0
    rintro ⟨⟨hp, hl, hc⟩, hm⟩ x D W ⟨Yr, hJ0, hx0⟩
    obtain ⟨hxn, hxt⟩ := hx0 x D rfl
    have HJ := Lib.hid hJ0
    have HXn := Lib.hid hxn
    have HXt := Lib.hid hxt
    have hJl := hJ0.loop
    refine yield_ret hJl r1 r2 (by rw [r3]; rfl) ?_
    clear hJ0 hJl hx0 hxn hxt
    rw [r3, r4, r5, r6]
    clear r1 r2 r3 r4 r5 r6
    gi_wp2_with fail
    have hJ1 := HJ.out.alloc HFx.out (.cells #[.slice hp hl hc, .int .i64 hm] 68)
    refine ⟨hJ1.loop, ?_⟩
    have hJ2 := hJ1.put HFx.out (busyR rc)
    have hWz := HJ.out.size
    have hx : ((W.alloc (.cells #[.slice hp hl hc, .int .i64 hm] 68)).putObj (w.heap.size + 3) (.loop (busyR rc))).heap[W.heap.size]? = some (.cells #[.slice hp hl hc, .int .i64 hm] 68 (0, 0)) := (World.putObj_heap_other (by omega)).trans (World.alloc_heap_new W _)
    obtain ⟨W2, hW2⟩ : ∃ W2, W2 = (W.alloc (.cells #[.slice hp hl hc, .int .i64 hm] 68)).putObj (w.heap.size + 3) (.loop (busyR rc)) := ⟨_, rfl⟩
    have hs2 : W2.heap.size = W.heap.size + 1 := by rw [hW2]; simp
    have hT2 : TupS (SoC n0 R w ca ch Y Yr) W2 (.slice hp hl hc) x.1 := SoC.keep HFx.out HXt.out (fun k hk hne _ _ _ => by
      rw [hW2]
      exact (World.putObj_heap_other hne).trans (Below.heap_alloc _ _ _ (by omega)))
    rw [← hW2] at hJ2 hx ⊢
    have HX := Lib.hid hx
    have HJ2 := Lib.hid hJ2
    have HT2 := Lib.hid hT2
    clear hW2 hJ1 hJ2 HJ hT2
    have k0 := HJ2.out.hh
    have k1 := cell_of_row W2 _ 0 _ _ (0, 0) hx
    have k2 := cell_of_row W2 _ 1 _ _ (0, 0) hx
    have HC := Lib.hid (hk.call ((hp, hl, hc), hm) x.1 HJ2.out.hw (HT2.out.keep (fun _ _ _ => trivial) (fun _ _ _ => rfl)))
    have he := hk.enter
    obtain ⟨bo, hbo⟩ : ∃ bo, bo = p (x.1, hm) := ⟨_, rfl⟩
    have HBo := Lib.hid (show bo = p x by rw [hbo]; have h' : hm = x.2 := HXn.out; rw [h'])
    simp only at HC
    rw [← hbo] at HC
    clear hx hbo
    gi_wp2_with fail
    refine ⟨trivial, (CallsIn.inRound _ (callsIn_wide.2 HC.out)).mono ?_⟩
    rintro e W4 ⟨rfl, hb4⟩
    have hJ4 := HJ2.out.below HFx.out hb4
    have HT4 := Lib.hid (SoC.keep HFx.out HT2.out (fun k hk _ _ _ _ => hb4.block k hk))
    have hx4 := (hb4.block _ (Array.getElem?_eq_some_iff.1 HX.out).1).trans HX.out
    have k3 := cell_of_row W4 _ 0 _ _ (0, 0) hx4
    have k4 := cell_of_row W4 _ 1 _ _ (0, 0) hx4
    clear hb4 hx4 HC k0 k1 k2
    have HJ4 := Lib.hid hJ4
    cases bo with
    | true =>
      have c0 := cell_of_row W4 _ 0 _ _ (0, 0) hJ4.r0
      have c1 := cell_of_row W4 _ 1 _ _ (0, 0) hJ4.r0
      have c2 := cell_of_row W4 _ 0 _ _ (0, 0) hJ4.r1
      have f0 := frozen_of_row W4 _ 0 _ _ hJ4.r0
      have f1 := frozen_of_row W4 _ 1 _ _ hJ4.r0
      have f2 := frozen_of_row W4 _ 0 _ _ hJ4.r1
      clear hJ4
      gi_wp2_with fail
      obtain ⟨h5, h5b⟩ := HJ4.out.res HFx.out (.slice hp hl hc) (.int .i64 hm) (.bool true)
      refine ⟨h5.loop, ((hp, hl, hc), hm), x, D.filter p, D, Yr, ?_, ?_, HXn.out, ?_⟩
      · rw [HJ4.out.left, List.filter_cons, if_pos HBo.out.symm]
      · have h6 := h5.put HFx.out (doneR rc)
        exact ⟨h6.loop, h6.defs, h6.r0, h6.r1, h6.ha, h6.hh, h6.upd, h6.hw, h6.made, h6.foot, rfl⟩
      · exact SoC.keep HFx.out HT4.out (fun k hk e1 _ e2 e3 => (World.putObj_heap_other e1).trans (h5b k e2 e3))
    | false =>
      clear hJ4
      gi_wp2_with fail
      refine ⟨HJ4.out.loop, Yr, ?_⟩
      have h6 := HJ4.out.put HFx.out rc
      exact ⟨h6.loop, h6.defs, h6.r0, h6.r1, h6.ha, h6.hh, h6.upd, h6.hw, h6.made, h6.foot, by rw [h6.left, List.filter_cons, if_neg (by rw [← HBo.out]; simp)]⟩
  · rintro e w4 ⟨⟨vr, rfl⟩, ⟨h', Yr, hJ4, -⟩ | ⟨⟨⟨hp, hl, hc⟩, hm⟩, x, M', D, Yr, hM, hJ4, hxn, hxt⟩⟩
    · refine ⟨⟨_, rfl⟩, rc, hJ4.loop, by rw [r1]; simp, .inl ⟨r2, ?_⟩⟩
      have hJ5 := hJ4.put HFx.out { rc with state := .exhausted }
      have HM : Hid (M = []) := Lib.hid hJ4.left
      obtain ⟨w5, hw5⟩ : ∃ w5, w5 = w4.putObj (w.heap.size + 3) (.loop { rc with state := .exhausted }) := ⟨_, rfl⟩
      rw [← hw5] at hJ5 ⊢
      have HJ5 := Lib.hid hJ5
      clear hw5 hJ4 hJ5 hl0 hd0 hbb kk hS H0 H1 r1 r2 r3 r4 r5 r6 HS0
      have c0 := cell_of_row w5 _ 0 _ _ (0, 0) HJ5.out.r0
      have c1 := cell_of_row w5 _ 1 _ _ (0, 0) HJ5.out.r0
      have c2 := cell_of_row w5 _ 0 _ _ (0, 0) HJ5.out.r1
      have f0 := frozen_of_row w5 _ 0 _ _ HJ5.out.r0
      have f1 := frozen_of_row w5 _ 1 _ _ HJ5.out.r0
      have f2 := frozen_of_row w5 _ 0 _ _ HJ5.out.r1
      gi_wp2_with fail
      obtain ⟨h6, -⟩ := HJ5.out.res HFx.out (.slice none 0 0) (.int .i64 0) (.bool false)
      have hz6 := h6.size
      have g0 := (World.putObj_heap_other (o := .deferred none) (show w.heap.size ≠ w.heap.size + 2 by omega)).trans h6.r0
      have g1 := (World.putObj_heap_other (o := .deferred none) (show w.heap.size + 1 ≠ w.heap.size + 2 by omega)).trans h6.r1
      have n0' := cell_of_row _ _ 0 _ _ (0, 0) g0
      have n1' := cell_of_row _ _ 1 _ _ (0, 0) g0
      have n2' := cell_of_row _ _ 0 _ _ (0, 0) g1
      refine ⟨by simp, .inl ⟨_, _, rfl, run_takeDeferred h6.defs, ?_⟩⟩
      refine ⟨.tuple #[.agg #[.slice none 0 0, .int .i64 0], .bool false], by simp [results, Try.results89, go_sem, n0', n1', n2'], rawZ, false, rfl, ?_⟩
      obtain ⟨q1, Y', q2, q3, -⟩ := h6.done HFx.out (W' := World.putObj (((w5.setCell ⟨w.heap.size, 0, none⟩ (.slice none 0 0)).setCell ⟨w.heap.size, 1, none⟩ (.int .i64 0)).setCell ⟨w.heap.size + 1, 0, none⟩ (.bool false)) (w.heap.size + 2) (.deferred none)) (by simp) ⟨rfl, rfl, rfl⟩ (fun k _ e => World.putObj_heap_other (r := w.heap.size + 2) (show k ≠ w.heap.size + 2 by omega))
      rw [HM.out] at q3 ⊢
      exact ⟨q1, Y', q2, q3, rfl, rfl⟩
    · refine ⟨⟨_, rfl⟩, doneR rc, hJ4.loop, by simp [doneR], .inr ⟨rfl, ?_⟩⟩
      have hJ5 := hJ4.put HFx.out { doneR rc with state := .exhausted }
      have HM := Lib.hid hM
      have HXn := Lib.hid hxn
      have HXt := Lib.hid (SoC.keep (W' := w4.putObj (w.heap.size + 3) (.loop { doneR rc with state := .exhausted })) HFx.out hxt (fun k _ e _ _ _ => World.putObj_heap_other e))
      obtain ⟨w5, hw5⟩ : ∃ w5, w5 = w4.putObj (w.heap.size + 3) (.loop { doneR rc with state := .exhausted }) := ⟨_, rfl⟩
      rw [← hw5] at hJ5 HXt ⊢
      have HJ5 := Lib.hid hJ5
      clear hw5 hJ4 hJ5 hl0 hd0 hbb kk hS H0 H1 r1 r2 r3 r4 r5 r6 HS0 hM hxn hxt
      have c0 := cell_of_row w5 _ 0 _ _ (0, 0) HJ5.out.r0
      have c1 := cell_of_row w5 _ 1 _ _ (0, 0) HJ5.out.r0
      have c2 := cell_of_row w5 _ 0 _ _ (0, 0) HJ5.out.r1
      gi_wp2_with fail
      have h6 := HJ5.out
      have hz6 := h6.size
      have g0 := (World.putObj_heap_other (o := .deferred none) (show w.heap.size ≠ w.heap.size + 2 by omega)).trans h6.r0
      have g1 := (World.putObj_heap_other (o := .deferred none) (show w.heap.size + 1 ≠ w.heap.size + 2 by omega)).trans h6.r1
      have n0' := cell_of_row _ _ 0 _ _ (0, 0) g0
      have n1' := cell_of_row _ _ 1 _ _ (0, 0) g0
      have n2' := cell_of_row _ _ 0 _ _ (0, 0) g1
      refine ⟨by simp, .inl ⟨_, _, rfl, run_takeDeferred h6.defs, ?_⟩⟩
      refine ⟨.tuple #[.agg #[.slice hp hl hc, .int .i64 hm], .bool true], by simp [results, Try.results89, go_sem, n0', n1', n2'], ((hp, hl, hc), hm), true, rfl, ?_⟩
      obtain ⟨q1, Y', q2, q3, q4⟩ := h6.done HFx.out (W' := World.putObj w5 (w.heap.size + 2) (.deferred none)) (by simp) ⟨rfl, rfl, rfl⟩ (fun k _ e => World.putObj_heap_other (r := w.heap.size + 2) (show k ≠ w.heap.size + 2 by omega))
      rw [HM.out]
      exact ⟨q1, Y', q2, q3, rfl, HXn.out, (SoC.keep HFx.out HXt.out (fun k _ _ e _ _ => World.putObj_heap_other e)).keep (fun b e _ => q4 b e) (fun _ _ _ => rfl)⟩
end
end Go.Proofs.Ytcfnpbmkcdmafaa

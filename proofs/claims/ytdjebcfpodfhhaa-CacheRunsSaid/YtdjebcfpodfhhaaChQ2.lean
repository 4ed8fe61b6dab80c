/-
  Put of a cache: where the page is there already; where there is no more room. (Printed by tools/mkchput.py.)
-/
import Derived.Test.YtdjebcfpodfhhaaChQ
namespace Go.Proofs.Ytdjebcfpodfhhaa
open Go Go.RowKit Go.Maps Go.WideMaps

section
variable {A B : Nat → Prop} {w : World} {c M s n : Nat} {room h m g : Int} {N : List Nd}
theorem keys_apart {L1 L2 : List Nd} {x : Nd} (nd : ((L1 ++ x :: L2).map Nd.key).Nodup) : ∀ y ∈ L1 ++ L2, y.key ≠ x.key := fun y hy e => by
  rw [List.map_append, List.map_cons, List.nodup_append] at nd
  obtain ⟨-, n2, n3⟩ := nd
  rcases List.mem_append.1 hy with hy | hy
  · exact n3 y.key (List.mem_map_of_mem hy) x.key (by simp) e
  · exact (List.nodup_cons.1 n2).1 (e ▸ List.mem_map_of_mem hy)
theorem len_caat {W : World} (H : CaAt A B W c M s room h m g n N) : ∃ D, MapAt W Try.prog 33 M n D ∧ Maps.size D = N.length := by
  obtain ⟨D, h1, h2⟩ := H.map
  exact ⟨D, h1, h2.size⟩
/-- Ahead of what is dropped by Put. -/
structure PutMid (A B : Nat → Prop) (w W : World) (n : Nat) (r : ByteArray) (i : Int) (pv : Value) (E : List (List V3 × Int)) (N : List Nd) : Prop where
  box : KeyBox w.heap.size r i W
  ent : EntS (fun k => k < w.heap.size ∧ ¬ A k) W pv E
  upd : Upd (allOf A) w W
  key : KeyOk r i
  no : ∀ y ∈ N, y.key ≠ pgK r i
  few : n ≤ 1000000
  ltA : ∀ k, A k → k < w.heap.size
  ltB : ∀ k, B k → k < w.heap.size
theorem PutMid.start (H : CaAt A B w c M s room h m g n N) {r : ByteArray} {i : Int} {pv : Value} {E : List (List V3 × Int)} {N0 : List Nd} (hE : EntS (fun k => k < w.heap.size ∧ ¬ A k) w pv E) (hk : KeyOk r i) (hno : ∀ y ∈ N0, y.key ≠ pgK r i) (hn : n ≤ 1000000) :
    PutMid A B w (w.alloc (.cells #[.string r, .int .i64 i] 33)) n r i pv E N0 :=
  ⟨keyBox_mk w r i, hE.same (fun _ h => h) (fun _ _ hb => World.cell?_alloc_lt _ _ _ hb.1), (Upd.refl _ w).alloc _, hk, hno, hn, H.ltA, H.ltB⟩
theorem PutMid.step {W W' : World} {r : ByteArray} {i : Int} {pv : Value} {E : List (List V3 × Int)} {N0 : List Nd} (h : PutMid A B w W n r i pv E N0) (hu : Upd (allOf A) W W') : PutMid A B w W' n r i pv E N0 := by
  have hsz := h.upd.size
  have lk := lt_of_cell h.box.1
  have nA : ¬ A w.heap.size := fun e => by have := h.ltA _ e; omega
  exact ⟨⟨(hu.cell _ 0 lk nA).trans h.box.1, (hu.cell _ 1 lk nA).trans h.box.2⟩, h.ent.same (fun _ h => h) (fun b o hb => hu.cell b o (by have := hb.1; omega) hb.2), h.upd.trans hu, h.key, h.no, h.few, h.ltA, h.ltB⟩
theorem PutMid.pre {W : World} {r : ByteArray} {i : Int} {pv : Value} {E : List (List V3 × Int)} {h' : Int} {g' : Int} (h : PutMid A B w W n r i pv E N) (H : CaAt A B W c M s room h' m g' n N) : PutPre A B w W c M s room h' m g' n r i pv E N :=
  ⟨H, h.box, h.ent.mono (fun k hk => by have := hk.1; have := h.upd.size; omega), h.upd, h.key, h.no, h.few, h.ltA, h.ltB⟩
set_option maxRecDepth 100000 in
set_option maxHeartbeats 4000000 in
theorem put_old {L1 L2 : List Nd} {x : Nd} {r : ByteArray} {i : Int} (H : CaAt A B w c M s room h m g n N) (hNx : N = L1 ++ x :: L2) (hxr : x.r = r) (hxi : x.i = i) (pv : Value) (E : List (List V3 × Int)) (hE : EntS (fun k => k < w.heap.size ∧ ¬ A k) w pv E) (hr : room ≠ 0) (hN : ((L1 ++ L2).length : Int) ≠ room) (hn : n ≤ 1000000) :
    Calls Try.prog 17 #[ptr c, .agg #[.string r, .int .i64 i], pv] w (PutEnd A B w c M s room h m g n r i E (L1 ++ L2)) := by
  have hx : x ∈ N := by rw [hNx]; simp
  have hkx : pgK r i = x.key := by unfold Nd.key; rw [hxr, hxi]
  have hkr : KeyOk r i := by have := H.oks x hx; unfold Nd.ok at this; rwa [hxr, hxi] at this
  have H1 := (H.alloc (.cells #[.string r, .int .i64 i] 33))
  have HM := Lib.hid (made_yes H1)
  have H2 := H1.drew
  obtain ⟨D, hm, hk⟩ := H2.map
  obtain ⟨k1, k2⟩ := hk.yes x hx
  have hrun := run_look_ok_any (P := Try.prog) (w.alloc (.cells #[.string r, .int .i64 i] 33)).drew (t := 62) keyPg Try.underlying62 (.pointer none) (ptr x.b) (zeroPl _) hm (keyOf_pg hkr) (by rw [hkx]; exact k2 _) (c := true) (by rw [hkx]; exact k1)
  obtain ⟨-, c1, c2, -, -, -, -⟩ := H2.cells
  have c1' := H1.cells.2.1
  have lc := H2.kindC.lt
  have hdr := drop_any H2 hNx
  have hap := keys_apart (hNx ▸ H.keys)
  rw [← hkx] at hap
  obtain ⟨N0, h0⟩ : ∃ N0, L1 ++ L2 = N0 := ⟨_, rfl⟩
  rw [h0] at hdr hap hN ⊢
  have HDr := Lib.hid hdr
  have HPre := Lib.hid ((PutMid.start H hE hkr hap hn).step (Upd.refl (allOf A) _).drew)
  have hr1 : (room == 0) = false := by simpa using hr
  have hN1 : ((N0.length : Int) == room) = false := by simpa using hN
  clear hdr hap h0 H H1 H2 hm hk k1 k2 hE hn hx hNx hkr hkx
  unfold pgV at hrun
  go_enter Try.func17, Try.ntmps17
  go_wp2_with fail
  refine HM.out.mono ?_
  rintro e w1 ⟨rfl, rfl⟩
  go_wp2_with fail
  go_region
  go_wp2_with fail
  refine HDr.out.mono ?_
  rintro e wd ⟨rfl, hca, hup⟩
  have HCa := Lib.hid hca
  have HUp := Lib.hid hup
  obtain ⟨D2, hm2, hs2⟩ := len_caat hca
  have hlen := len_run (W := wd.drew) hm2 hs2
  obtain ⟨-, c1, c2, -⟩ := hca.cells
  clear hca hup hm2 hs2
  go_wp2_with fail
  go_region
  go_wp2_with fail
  have HP := Lib.hid ((HPre.out.step (HUp.out.trans ((Upd.refl (allOf A) _).drew))).pre HCa.out.drew)
  clear c1 c2 c1' lc hlen hrun HM HDr HPre HCa HUp
  generalize wd.drew = W at *
  have HW := Lib.hid HP.out.ca.drew
  have HC := Lib.hid (copies_any W.drew pv E HP.out.ent)
  have HB0 := Lib.hid (show KeyBox w.heap.size r i W.drew from HP.out.box)
  go_region_held3 (fun X => X.cell? ⟨w.heap.size, 0, none⟩ = some (.string r) ∧ X.cell? ⟨w.heap.size, 1, none⟩ = some (.int .i64 i)) (first | exact HB0.out | exact HB0.out.below hb | exact HB0.out.below (hb.alloc hb.size _)) ((go_at_call 33; refine HC.out.mono ?_; rintro e w1 ⟨v1, rfl, he, hb, Q, hQ, hRw⟩; obtain ⟨p1, cp1, rfl⟩ := hRw.slice))
  have HQ := Lib.hid (And.intro he hb)
  have hb2 : Below W.drew.heap.size W.drew (w1.alloc (.cells #[.string r, .int .i64 i, .slice p1 Q.length cp1, .pointer none, .pointer none] 81)).drew := (hb.alloc hb.size _).drew
  have hHeld2 := HB0.out.below hb2
  have HM2 := Lib.hid (HW.out.below hb2)
  obtain ⟨D2, hm2, hk2⟩ := HM2.out.map
  have HD2 := Lib.hid (And.intro hm2 (And.intro hk2 (HM2.out.tidy hm2)))
  obtain ⟨-, -, c2, -, -, -, -⟩ := HM2.out.cells
  obtain ⟨q0, q1⟩ := hHeld2
  have HS := Lib.hid (show ∀ W' : World, W'.heap = (w1.alloc (.cells #[.string r, .int .i64 i, .slice p1 Q.length cp1, .pointer none, .pointer none] 81)).heap → W'.heap.size = w1.heap.size + 1 ∧ W'.heap[w1.heap.size]? = some (.cells #[.string r, .int .i64 i, .slice p1 Q.length cp1, .pointer none, .pointer none] 81 (0, 0)) from fun W' e => ⟨by rw [e]; simp, by rw [e]; exact heap_alloc_new w1 _⟩)
  have HS2 := Lib.hid (And.intro (HS.out (w1.alloc (.cells #[.string r, .int .i64 i, .slice p1 Q.length cp1, .pointer none, .pointer none] 81)).drew rfl) (show Below w1.heap.size w1 (w1.alloc (.cells #[.string r, .int .i64 i, .slice p1 Q.length cp1, .pointer none, .pointer none] 81)).drew from ((Below.refl _ _).alloc (Nat.le_refl _) _).drew))
  clear he hb hb2 hQ hRw hm2 hk2 HC HB0 HS
  go_wp2_with fail
  refine wp_region_still_tail 6 (by kernel_rfl) (by kernel_rfl) ?_
  simp only [List.take_succ_cons, List.take_zero, List.drop_succ_cons, List.drop_zero]
  change wpStill _ _ (w1.alloc (.cells #[.string r, .int .i64 i, .slice p1 Q.length cp1, .pointer none, .pointer none] 81)).drew (fun a' => wpList _ _ _ _ a' (w1.alloc (.cells #[.string r, .int .i64 i, .slice p1 Q.length cp1, .pointer none, .pointer none] 81)).drew) _ _
  generalize (w1.alloc (.cells #[.string r, .int .i64 i, .slice p1 Q.length cp1, .pointer none, .pointer none] 81)).drew = W2 at *
  repeat still_step
  refine wpStill_nil ?_
  go_wp2_with (first
    | (at_mapUpdate; refine wpList_store_turned _ rfl _ _ _ 62 rfl 33 63 keyPg Try.underlying62 M n D2 rfl HD2.out.1 (by have := HP.out.few; unfold maxLen; omega) _ (ptr w1.heap.size) _ rfl rfl (keyOf_pg HP.out.key) ?_; intro w3 hown3 hturn3
       obtain ⟨f, r1, r2, r3, r4, r5, r6, r7, hfin⟩ := HW.out.putted HQ.out.2 HQ.out.1 HS2.out.2 HS2.out.1.1 HS2.out.1.2 HP.out.key HP.out.no HD2.out.2.1 HD2.out.2.2 hturn3 hown3
       have HF := Lib.hid (And.intro r1 (And.intro r2 (And.intro r3 (And.intro r4 (And.intro r5 (And.intro r6 hfin))))))
       clear hown3 hturn3 hfin r1 r2 r3 r4 r5 r6))
  obtain ⟨r1, r2, r3, r4, r5, r6, hfin⟩ := HF.out
  refine (lead_any w3 s f w1.heap.size r1 r2 r3 r4 r5 r6).mono ?_
  rintro e w4 ⟨rfl, hd⟩
  have HE := Lib.hid (hfin w4 hd)
  clear hd hfin r1 r2 r3 r4 r5 r6
  go_wp2_with fail
  go_end0
  exact putEnd_mk HP.out HQ.out.2 HE.out.1 HE.out.2
set_option maxRecDepth 100000 in
set_option maxHeartbeats 4000000 in
theorem put_full {L1 : List Nd} {x : Nd} (H : CaAt A B w c M s room h m g n N) (hNx : N = L1 ++ [x]) (r : ByteArray) (i : Int) (pv : Value) (E : List (List V3 × Int)) (hE : EntS (fun k => k < w.heap.size ∧ ¬ A k) w pv E) (hkr : KeyOk r i) (hno : ∀ y ∈ N, y.key ≠ pgK r i) (hr : room ≠ 0) (hN : (N.length : Int) = room) (hn : n ≤ 1000000) (hg : 0 ≤ g ∧ g ≤ 1000000) :
    Calls Try.prog 17 #[ptr c, .agg #[.string r, .int .i64 i], pv] w (PutEnd A B w c M s room h m (g + 1) n r i E L1) := by
  have H1 := (H.alloc (.cells #[.string r, .int .i64 i] 33))
  have HM := Lib.hid (made_yes H1)
  have H2 := H1.drew
  obtain ⟨D, hm, hk⟩ := H2.map
  have k1 := hk.none hno
  have hrun := run_look_ok_any (P := Try.prog) (w.alloc (.cells #[.string r, .int .i64 i] 33)).drew (t := 62) keyPg Try.underlying62 (.pointer none) (.pointer none) (zeroPl _) hm (keyOf_pg hkr) (atKey_of_not_has k1 _) k1
  obtain ⟨-, c1, c2, c3, -, -, -⟩ := H2.cells
  have c1' := H1.cells.2.1
  have lc := H2.kindC.lt
  have hlen := len_run (W := (w.alloc (.cells #[.string r, .int .i64 i] 33)).drew.drew) hm hk.size
  have HLast := Lib.hid (show s < (w.alloc (.cells #[.string r, .int .i64 i] 33)).drew.drew.heap.size ∧ (w.alloc (.cells #[.string r, .int .i64 i] 33)).drew.drew.cell? ⟨s, 3, none⟩ = some (ptr x.b) from ⟨(H2.kindP s List.mem_cons_self).lt, links_last (l := L1.map (·.b)) (by have := H2.drew.links; rw [hNx] at this; simpa using this)⟩)
  have HH := Lib.hid (And.intro H2.drew (show N = L1 ++ x :: [] from hNx))
  have HPre := Lib.hid (show PutMid A B w (w.alloc (.cells #[.string r, .int .i64 i] 33)).drew.drew n r i pv E L1 from (PutMid.start H hE hkr (fun y hy => hno y (by rw [hNx]; simp [hy])) hn).step (((Upd.refl (allOf A) _).drew).drew))
  have hr1 : (room == 0) = false := by simpa using hr
  have hN1 : ((N.length : Int) == room) = true := by simpa using hN
  obtain ⟨hg1, hg2⟩ := hg
  clear H H1 H2 hm hk k1 hE hn hNx hkr hno hN
  unfold pgV at hrun
  go_enter Try.func17, Try.ntmps17
  go_wp2_with fail
  refine HM.out.mono ?_
  rintro e w1 ⟨rfl, rfl⟩
  go_wp2_with fail
  go_region
  go_wp2_with fail
  go_region
  go_wp2_with fail
  generalize (w.alloc (.cells #[.string r, .int .i64 i] 33)).drew.drew = W0 at *
  refine (last_any W0 s x.b HLast.out.1 HLast.out.2).mono ?_
  rintro e w2 ⟨rfl, hb2⟩
  have HB2 := Lib.hid hb2
  clear hb2
  go_wp2_with fail
  refine (drop_any (HH.out.1.below HB2.out) HH.out.2).mono ?_
  rintro e w3 ⟨rfl, hca, hup⟩
  rw [List.append_nil] at hca
  have HCa := Lib.hid hca
  have HUp := Lib.hid hup
  obtain ⟨-, -, -, -, -, -, c6⟩ := hca.cells
  have f6 := hca.kindC.free 6
  clear hca hup
  go_wp2_with fail
  have HP := Lib.hid (show PutPre A B w (w3.setCell ⟨c, 6, none⟩ (.int .i64 (g + 1))) c M s room h m (g + 1) n r i pv E L1 from (HPre.out.step (((Upd.of_below HB2.out).trans HUp.out).trans (HCa.out.upA 6 _))).pre (HCa.out.setS (.inr (.inr ⟨rfl, rfl, rfl, rfl⟩))))
  clear c1 c2 c3 c1' lc hlen hrun HM HPre HCa HUp HLast HH HB2 c6 f6
  generalize w3.setCell ⟨c, 6, none⟩ (.int .i64 (g + 1)) = W at *
  have HW := Lib.hid HP.out.ca.drew
  have HC := Lib.hid (copies_any W.drew pv E HP.out.ent)
  have HB0 := Lib.hid (show KeyBox w.heap.size r i W.drew from HP.out.box)
  go_region_held3 (fun X => X.cell? ⟨w.heap.size, 0, none⟩ = some (.string r) ∧ X.cell? ⟨w.heap.size, 1, none⟩ = some (.int .i64 i)) (first | exact HB0.out | exact HB0.out.below hb | exact HB0.out.below (hb.alloc hb.size _)) ((go_at_call 33; refine HC.out.mono ?_; rintro e w1 ⟨v1, rfl, he, hb, Q, hQ, hRw⟩; obtain ⟨p1, cp1, rfl⟩ := hRw.slice))
  have HQ := Lib.hid (And.intro he hb)
  have hb2 : Below W.drew.heap.size W.drew (w1.alloc (.cells #[.string r, .int .i64 i, .slice p1 Q.length cp1, .pointer none, .pointer none] 81)).drew := (hb.alloc hb.size _).drew
  have hHeld2 := HB0.out.below hb2
  have HM2 := Lib.hid (HW.out.below hb2)
  obtain ⟨D2, hm2, hk2⟩ := HM2.out.map
  have HD2 := Lib.hid (And.intro hm2 (And.intro hk2 (HM2.out.tidy hm2)))
  obtain ⟨-, -, c2, -, -, -, -⟩ := HM2.out.cells
  obtain ⟨q0, q1⟩ := hHeld2
  have HS := Lib.hid (show ∀ W' : World, W'.heap = (w1.alloc (.cells #[.string r, .int .i64 i, .slice p1 Q.length cp1, .pointer none, .pointer none] 81)).heap → W'.heap.size = w1.heap.size + 1 ∧ W'.heap[w1.heap.size]? = some (.cells #[.string r, .int .i64 i, .slice p1 Q.length cp1, .pointer none, .pointer none] 81 (0, 0)) from fun W' e => ⟨by rw [e]; simp, by rw [e]; exact heap_alloc_new w1 _⟩)
  have HS2 := Lib.hid (And.intro (HS.out (w1.alloc (.cells #[.string r, .int .i64 i, .slice p1 Q.length cp1, .pointer none, .pointer none] 81)).drew rfl) (show Below w1.heap.size w1 (w1.alloc (.cells #[.string r, .int .i64 i, .slice p1 Q.length cp1, .pointer none, .pointer none] 81)).drew from ((Below.refl _ _).alloc (Nat.le_refl _) _).drew))
  clear he hb hb2 hQ hRw hm2 hk2 HC HB0 HS
  go_wp2_with fail
  refine wp_region_still_tail 6 (by kernel_rfl) (by kernel_rfl) ?_
  simp only [List.take_succ_cons, List.take_zero, List.drop_succ_cons, List.drop_zero]
  change wpStill _ _ (w1.alloc (.cells #[.string r, .int .i64 i, .slice p1 Q.length cp1, .pointer none, .pointer none] 81)).drew (fun a' => wpList _ _ _ _ a' (w1.alloc (.cells #[.string r, .int .i64 i, .slice p1 Q.length cp1, .pointer none, .pointer none] 81)).drew) _ _
  generalize (w1.alloc (.cells #[.string r, .int .i64 i, .slice p1 Q.length cp1, .pointer none, .pointer none] 81)).drew = W2 at *
  repeat still_step
  refine wpStill_nil ?_
  go_wp2_with (first
    | (at_mapUpdate; refine wpList_store_turned _ rfl _ _ _ 62 rfl 33 63 keyPg Try.underlying62 M n D2 rfl HD2.out.1 (by have := HP.out.few; unfold maxLen; omega) _ (ptr w1.heap.size) _ rfl rfl (keyOf_pg HP.out.key) ?_; intro w3 hown3 hturn3
       obtain ⟨f, r1, r2, r3, r4, r5, r6, r7, hfin⟩ := HW.out.putted HQ.out.2 HQ.out.1 HS2.out.2 HS2.out.1.1 HS2.out.1.2 HP.out.key HP.out.no HD2.out.2.1 HD2.out.2.2 hturn3 hown3
       have HF := Lib.hid (And.intro r1 (And.intro r2 (And.intro r3 (And.intro r4 (And.intro r5 (And.intro r6 hfin))))))
       clear hown3 hturn3 hfin r1 r2 r3 r4 r5 r6))
  obtain ⟨r1, r2, r3, r4, r5, r6, hfin⟩ := HF.out
  refine (lead_any w3 s f w1.heap.size r1 r2 r3 r4 r5 r6).mono ?_
  rintro e w4 ⟨rfl, hd⟩
  have HE := Lib.hid (hfin w4 hd)
  clear hd hfin r1 r2 r3 r4 r5 r6
  go_wp2_with fail
  go_end0
  exact putEnd_mk HP.out HQ.out.2 HE.out.1 HE.out.2
end
end Go.Proofs.Ytdjebcfpodfhhaa

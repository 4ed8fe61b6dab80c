/-
  Get of a cache.
-/
import Derived.Test.YtdjebcfpodfhhaaChD
namespace Go.Proofs.Ytdjebcfpodfhhaa
open Go Go.RowKit Go.Maps Go.WideMaps

section
variable {A B : Nat → Prop} {w : World} {c M s n : Nat} {room h m g : Int} {N : List Nd}
/-- A page leaves its place and comes to the front. -/
theorem CaAt.refront (H : CaAt A B w c M s room h m g n N) {L1 L2 : List Nd} {x : Nd} (hN : N = L1 ++ x :: L2) :
    ∃ a b, Bk w a 81 5 ∧ Bk w b 81 5 ∧ w.cell? ⟨x.b, 3, none⟩ = some (ptr a) ∧ w.cell? ⟨x.b, 4, none⟩ = some (ptr b) ∧ ∀ w2, LeaveW w w2 a b →
      ∃ f, Bk w2 s 81 5 ∧ Bk w2 f 81 5 ∧ Bk w2 x.b 81 5 ∧ x.b ≠ s ∧ x.b ≠ f ∧ w2.cell? ⟨s, 4, none⟩ = some (ptr f) ∧ w2.cell? ⟨c, 3, none⟩ = some (ptr s) ∧
        ∀ w3, LeadW w2 w3 s f x.b → CaAt A B w3 c M s room h m g n (x :: (L1 ++ L2)) ∧ Upd (allOf A) w w3 := by
  have nP := H.nodupP
  obtain ⟨a1, a2, a3, a4⟩ := H.inA
  have hM : M ∉ s :: N.map (·.b) := fun hh => (List.nodup_cons.1 H.nodup).1 (List.mem_cons_of_mem _ hh)
  have hc : c ∉ s :: N.map (·.b) := (List.nodup_cons.1 (List.nodup_cons.1 H.nodup).2).1
  have eB : N.map (·.b) = L1.map (·.b) ++ x.b :: L2.map (·.b) := by rw [hN]; simp
  have kP := H.kindP
  obtain ⟨a, b, ha, hb, q3, q4, hfin⟩ := links_mid (eB ▸ H.links) (eB ▸ nP) (fun k hk => (kP k (eB ▸ hk)).lt)
  have inab : ∀ k, (k = s ∨ k ∈ L1.map (·.b)) ∨ (k = s ∨ k ∈ L2.map (·.b)) → k ∈ s :: N.map (·.b) := fun k hk => by
    rw [eB]
    simp only [List.mem_cons, List.mem_append]
    rcases hk with (h | h) | (h | h)
    · exact .inl h
    · exact .inr (.inl h)
    · exact .inl h
    · exact .inr (.inr (.inr h))
  have inX : x.b ∈ s :: N.map (·.b) := by rw [eB]; simp
  refine ⟨a, b, kP a (inab _ (.inl ha)), kP b (inab _ (.inr hb)), q3, q4, fun w2 hl => ?_⟩
  have hu2 : Upd (fun k o => k = M ∨ ((o = 3 ∨ o = 4) ∧ k ∈ s :: N.map (·.b))) w w2 := hl.upd.mono (fun k o _ e => by
    rcases e with ⟨rfl, rfl⟩ | ⟨rfl, rfl⟩
    · exact .inr ⟨.inr rfl, inab _ (.inl ha)⟩
    · exact .inr ⟨.inl rfl, inab _ (.inr hb)⟩)
  have kP2 : ∀ k ∈ s :: N.map (·.b), Bk w2 k 81 5 := fun k hk => hl.upd.kind _ _ _ (kP k hk)
  have L2' := hfin w2 hl
  have hnd : (s :: (L1.map (·.b) ++ L2.map (·.b))).Nodup ∧ x.b ∉ s :: (L1.map (·.b) ++ L2.map (·.b)) := by
    rw [eB] at nP
    have p : (x.b :: s :: (L1.map (·.b) ++ L2.map (·.b))).Perm (s :: (L1.map (·.b) ++ x.b :: L2.map (·.b))) := (List.Perm.swap _ _ _).trans (List.Perm.cons _ List.perm_middle.symm)
    have := List.nodup_cons.1 (p.nodup_iff.2 nP)
    exact ⟨this.2, this.1⟩
  have sub : ∀ k, k ∈ s :: (L1.map (·.b) ++ L2.map (·.b)) → k ∈ s :: N.map (·.b) := fun k hk => by
    rw [eB]
    simp only [List.mem_cons, List.mem_append] at hk ⊢
    rcases hk with h | h | h <;> simp [h]
  obtain ⟨f, hf, hf4, hfin2⟩ := links_front L2' hnd.1 hnd.2 (fun k hk => (kP2 k (sub k hk)).lt)
  have inF : f ∈ s :: (L1.map (·.b) ++ L2.map (·.b)) := by
    simp only [List.mem_cons, List.mem_append] at hf ⊢
    exact hf
  refine ⟨f, kP2 s List.mem_cons_self, kP2 f (sub f inF), kP2 x.b inX, fun e => hnd.2 (by rw [e]; simp), fun e => hnd.2 (e ▸ inF), hf4, (hu2.cell c 3 H.kindC.lt (fun e => ?_)).trans H.cells.2.2.2.1, fun w3 hd => ?_⟩
  · rcases e with e | ⟨-, e⟩
    · exact (List.nodup_cons.1 H.nodup).1 (by simp [e])
    · exact hc e
  have hu : Upd (fun k o => k = M ∨ ((o = 3 ∨ o = 4) ∧ k ∈ s :: N.map (·.b))) w w3 := hu2.then hd.upd (fun k o _ e => by
    rcases e with ⟨rfl, e⟩ | ⟨rfl, rfl⟩ | ⟨rfl, rfl⟩
    · exact .inr ⟨e, inX⟩
    · exact .inr ⟨.inr rfl, List.mem_cons_self⟩
    · exact .inr ⟨.inl rfl, sub _ inF⟩)
  obtain ⟨D, hm, hk⟩ := H.map
  have hmm : ∀ k o, ((k = x.b ∧ (o = 3 ∨ o = 4)) ∨ (k = s ∧ o = 4) ∨ (k = f ∧ o = 3)) → k ≠ M := fun k o e => by
    rcases e with ⟨rfl, e⟩ | ⟨rfl, rfl⟩ | ⟨rfl, rfl⟩
    · exact fun e => hM (e ▸ inX)
    · exact fun e => hM (e ▸ List.mem_cons_self)
    · exact fun e => hM (e ▸ sub _ inF)
  refine ⟨H.turn hu (fun _ _ e => e) (fun y hy => by subst hN; simp at hy ⊢; rcases hy with h | h | h <;> simp [h]) (nd_split hN (List.nodup_cons.1 nP).2).2 (nd_split hN H.keys).2 (by rw [List.map_cons, List.map_append]; exact hfin2 w3 hd) ⟨D, (hm.upd hl.upd (fun o e => ?_)).upd hd.upd (fun o e => hmm M o e rfl), hk.perm (by rw [hN]; exact List.perm_middle.symm)⟩, hu.mono (fun k o _ e => ?_)⟩
  · rcases e with ⟨e, -⟩ | ⟨e, -⟩
    · exact hM (by rw [e]; exact inab _ (.inl ha))
    · exact hM (by rw [e]; exact inab _ (.inr hb))
  · rcases e with rfl | ⟨-, e⟩
    · exact a2
    · rcases List.mem_cons.1 e with rfl | e
      · exact a3
      · obtain ⟨y, hy, rfl⟩ := List.mem_map.1 e
        exact a4 y hy
theorem CaAt.upA (_H : CaAt A B w c M s room h m g n N) (j : Nat) (u : Value) : Upd (allOf A) w (w.setCell ⟨c, j, none⟩ u) := (Upd.refl _ w).setCell c j u (fun _ => _H.inA.1)
/-- What Get leaves where there is the page. -/
def GetHit (A B : Nat → Prop) (w : World) (c M s : Nat) (room h m g : Int) (n : Nat) (x : Nd) (N' : List Nd) (e : Ending) (w' : World) : Prop :=
  ∃ v', e = .returned (.tuple #[v', .bool true]) ∧ EntS (fun k => w.heap.size ≤ k) w' v' x.E ∧ CaAt A B w' c M s room (h + 1) m g n (x :: N') ∧ Upd (allOf A) w w' ∧ ∃ Q, Q.map (·.2) = x.E ∧ RowQ w' w.heap.size v' Q
theorem EntS.read {w : World} {v : Value} {E : List (List V3 × Int)} (h : EntS B w v E) (hB : ∀ k, B k → k < w.heap.size) : EntS (fun k => k < w.heap.size) w v E := h.same hB (fun _ _ _ => rfl)
theorem EntS.mono {S S' : Nat → Prop} {w : World} {v : Value} {E : List (List V3 × Int)} (h : EntS S w v E) (hS : ∀ k, S k → S' k) : EntS S' w v E := h.same hS (fun _ _ _ => rfl)
theorem RowQ.mono {w : World} {n0 n1 : Nat} {v : Value} {Q : List (Value × (List V3 × Int))} (h : RowQ w n0 v Q) (hn : n1 ≤ n0) : RowQ w n1 v Q := by
  refine ⟨?_⟩
  rcases h.form with h | ⟨g, cap, m, h1, h2, h3⟩
  · exact .inl h
  · exact .inr ⟨g, cap, m, h1, by omega, h3⟩
set_option maxRecDepth 100000 in
set_option maxHeartbeats 4000000 in
theorem get_hit (H : CaAt A B w c M s room h m g n N) {L1 L2 : List Nd} {x : Nd} (hN : N = L1 ++ x :: L2) (hh : 0 ≤ h ∧ h ≤ 1000000) :
    Calls Try.prog 20 #[ptr c, .agg #[.string x.r, .int .i64 x.i]] w (GetHit A B w c M s room h m g n x (L1 ++ L2)) := by
  have hx : x ∈ N := by rw [hN]; simp
  have H1 := (H.alloc (.cells #[.string x.r, .int .i64 x.i] 33))
  have HM := Lib.hid (made_yes H1)
  have H2 := H1.drew
  obtain ⟨D, hm, hk⟩ := H2.map
  obtain ⟨k1, k2⟩ := hk.yes x hx
  have hrun := run_look_ok_any (P := Try.prog) (w.alloc (.cells #[.string x.r, .int .i64 x.i] 33)).drew (t := 62) keyPg Try.underlying62 (.pointer none) (ptr x.b) (zeroPl _) hm (keyOf_pg (H.oks x hx)) (k2 _) k1
  obtain ⟨-, -, c2, c3, c4, -, -⟩ := H2.cells
  have lc := H2.kindC.lt
  have f4 : (w.alloc (.cells #[.string x.r, .int .i64 x.i] 33)).drew.frozen? ⟨c, 4, none⟩ = false := H2.kindC.free 4
  have HH := Lib.hid (show CaAt A B ((w.alloc (.cells #[.string x.r, .int .i64 x.i] 33)).setCell ⟨c, 4, none⟩ (.int .i64 (h + 1))).drew c M s room (h + 1) m g n N from (H1.setS (.inl ⟨rfl, rfl, rfl, rfl⟩)).drew)
  have HN := Lib.hid hN
  have HU := Lib.hid (show Upd (allOf A) w ((w.alloc (.cells #[.string x.r, .int .i64 x.i] 33)).setCell ⟨c, 4, none⟩ (.int .i64 (h + 1))).drew from (((Upd.refl (allOf A) w).alloc (.cells #[.string x.r, .int .i64 x.i] 33)).trans (H1.upA 4 _)).drew)
  obtain ⟨hh1, hh2⟩ := hh
  clear H H1 H2 hm hk k1 k2 hN hx
  unfold pgV at hrun
  go_enter Try.func20, Try.ntmps20
  go_wp2_with fail
  refine HM.out.mono ?_
  rintro e w1 ⟨rfl, rfl⟩
  go_wp2_with fail
  go_region
  go_wp2_with fail
  generalize ((w.alloc (.cells #[.string x.r, .int .i64 x.i] 33)).setCell ⟨c, 4, none⟩ (.int .i64 (h + 1))).drew = W at *
  obtain ⟨a, b, ka, kb, q3, q4, hfin⟩ := HH.out.refront HN.out
  have HF := Lib.hid hfin
  clear hfin hrun c2 c3 c4 lc f4
  refine (leave_any W x.b a b ka kb q3 q4).mono ?_
  rintro e w2 ⟨rfl, hl⟩
  obtain ⟨f, r1, r2, r3, r4, r5, r6, r7, hfin⟩ := HF.out w2 hl
  have HR := Lib.hid hfin
  clear hfin hl ka kb q3 q4
  go_wp2_with fail
  refine (lead_any w2 s f x.b r1 r2 r3 r4 r5 r6).mono ?_
  rintro e w3 ⟨rfl, hd⟩
  have HC := Lib.hid (HR.out w3 hd)
  clear hd r1 r2 r3 r4 r5 r6 r7
  obtain ⟨-, -, e2⟩ := HC.out.1.els x List.mem_cons_self
  go_wp2_with fail
  refine (copies_any w3 x.v x.E ((HC.out.1.ents x List.mem_cons_self).read HC.out.1.ltB)).mono ?_
  rintro e w4 ⟨v4, rfl, he, hb, Q, hQ⟩
  have HE := Lib.hid (And.intro he (And.intro hb hQ))
  clear he hb hQ
  go_wp2_with fail
  go_ret2
  have sz : w.heap.size ≤ w3.heap.size := (HU.out.trans HC.out.2).size
  exact ⟨v4, rfl, HE.out.1.mono (fun k hk => by omega), HC.out.1.below HE.out.2.1, (HU.out.trans HC.out.2).trans (Upd.of_below HE.out.2.1), Q, HE.out.2.2.1, HE.out.2.2.2.mono sz⟩
set_option maxRecDepth 100000 in
set_option maxHeartbeats 2000000 in
theorem get_miss (H : CaAt A B w c M s room h m g n N) (r : ByteArray) (i : Int) (hk0 : KeyOk r i) (hno : ∀ y ∈ N, y.key ≠ pgK r i) (hh : 0 ≤ m ∧ m ≤ 1000000) :
    Calls Try.prog 20 #[ptr c, .agg #[.string r, .int .i64 i]] w fun e w' => e = .returned (.tuple #[.slice none 0 0, .bool false]) ∧ CaAt A B w' c M s room h (m + 1) g n N ∧ Upd (allOf A) w w' := by
  have H1 := (H.alloc (.cells #[.string r, .int .i64 i] 33))
  have HM := Lib.hid (made_yes H1)
  have H2 := H1.drew
  obtain ⟨D, hm, hk⟩ := H2.map
  have k1 := hk.none hno
  have hrun := run_look_ok_any (P := Try.prog) (w.alloc (.cells #[.string r, .int .i64 i] 33)).drew (t := 62) keyPg Try.underlying62 (.pointer none) (.pointer none) (zeroPl _) hm (keyOf_pg hk0) (atKey_of_not_has k1 _) k1
  obtain ⟨-, -, c2, -, -, c5, -⟩ := H2.cells
  have lc := H2.kindC.lt
  have f5 : (w.alloc (.cells #[.string r, .int .i64 i] 33)).drew.frozen? ⟨c, 5, none⟩ = false := H2.kindC.free 5
  have HE := Lib.hid (show CaAt A B ((w.alloc (.cells #[.string r, .int .i64 i] 33)).setCell ⟨c, 5, none⟩ (.int .i64 (m + 1))).drew c M s room h (m + 1) g n N ∧ Upd (allOf A) w ((w.alloc (.cells #[.string r, .int .i64 i] 33)).setCell ⟨c, 5, none⟩ (.int .i64 (m + 1))).drew from ⟨(H1.setS (.inr (.inl ⟨rfl, rfl, rfl, rfl⟩))).drew, (((Upd.refl (allOf A) w).alloc (.cells #[.string r, .int .i64 i] 33)).trans (H1.upA 5 _)).drew⟩)
  obtain ⟨hh1, hh2⟩ := hh
  clear H H1 H2 hm hk k1 hno hk0
  unfold pgV at hrun
  go_enter Try.func20, Try.ntmps20
  go_wp2_with fail
  refine HM.out.mono ?_
  rintro e w1 ⟨rfl, rfl⟩
  go_wp2_with fail
  go_region
  go_wp2_with fail
  go_ret2
  exact ⟨rfl, HE.out⟩
end
end Go.Proofs.Ytdjebcfpodfhhaa

/-
  made, Room, Stats, drop, Get of a cache.
-/
import Derived.Test.YtdjebcfpodfhhaaChC
namespace Go.Proofs.Ytdjebcfpodfhhaa
open Go Go.RowKit Go.Maps Go.WideMaps

theorem run_look_ok_any {P : Program} (w : World) {t k e : TypeId} (K : Keyed P k) (ht : P.underlying t = some (.map k e)) (z v : Value) (hz : (zeroValue e).run P w = .ok z w) {b n : Nat} {D : DataW Value} (hown : MapAt w P k b n D) {key : Value} {kl : Lit} (hkey : keyOf P k key = some kl) (hat : D.atKey kl (.held z) = .held v) {c : Bool} (hc : Maps.has D kl = c) :
    (Instr.lookup t (.map (some b)) key true).run P w = .ok (.tuple #[v, .bool c]) w := by
  obtain ⟨u, ps, hrun, hu⟩ := World.ownsMap.look_ok hown K ht hz (zd := .held z) (zp := []) rfl hkey
  have := heldE_inv hu
  rw [hat] at this
  injection this with this _
  injection this with this
  subst this hc
  exact hrun
theorem infoCa : (Try.prog.info? 67).isSome = true := by kernel_rfl
section
variable {A B : Nat → Prop} {w : World} {c M s n : Nat} {room h m g : Int} {N : List Nd}
set_option maxRecDepth 100000 in
theorem made_yes (H : CaAt A B w c M s room h m g n N) : Says 29 #[ptr c] w (.bool true) := by
  obtain ⟨c0, -⟩ := H.cells
  obtain ⟨j, hj⟩ := Option.isSome_iff_exists.1 infoCa
  have q := fun W : World => run_eql_ptr_same W ⟨c, 0, none⟩ Try.underlying24 hj
  clear H
  go_enter Try.func29, Try.ntmps29
  go_wp2_with fail
  go_ret
  exact ⟨rfl, rfl⟩
set_option maxRecDepth 100000 in
theorem room_any (H : CaAt A B w c M s room h m g n N) : Says 16 #[ptr c] w (.int .i64 room) := by
  have HM := Lib.hid (made_yes H)
  obtain ⟨-, c1, -⟩ := H.cells
  clear H
  go_enter Try.func16, Try.ntmps16
  go_wp2_with fail
  refine HM.out.mono ?_
  rintro e w1 ⟨rfl, rfl⟩
  go_wp2_with fail
  go_ret
  exact ⟨rfl, rfl⟩
set_option maxRecDepth 100000 in
theorem stats_any (H : CaAt A B w c M s room h m g n N) : Tells 15 #[ptr c] w (.agg #[.int .i64 h, .int .i64 m, .int .i64 g]) := by
  have HM := Lib.hid (made_yes (H.alloc (.cells #[.int .i64 0, .int .i64 0, .int .i64 0] 42)))
  obtain ⟨-, -, -, -, c4, c5, c6⟩ := H.cells
  have lc := H.kindC.lt
  clear H
  go_enter Try.func15, Try.ntmps15
  go_wp2_with fail
  refine HM.out.mono ?_
  rintro e w1 ⟨rfl, rfl⟩
  go_wp2_with fail
  exact bodyPost_ret (v := .agg #[.int .i64 h, .int .i64 m, .int .i64 g]) (by simp [results, Try.results15, go_sem]) rfl ⟨rfl, (Below.refl _ _).alloc (Nat.le_refl _) _⟩
theorem nd_split {α : Type} {N L1 L2 : List Nd} {x : Nd} (hN : N = L1 ++ x :: L2) {f : Nd → α} (nd : (N.map f).Nodup) : ((L1 ++ L2).map f).Nodup ∧ ((x :: (L1 ++ L2)).map f).Nodup := by
  subst hN
  have p : (x :: (L1 ++ L2)).Perm (L1 ++ x :: L2) := List.perm_middle.symm
  have h2 := (p.map f).nodup_iff.2 nd
  exact ⟨(List.nodup_cons.1 h2).2, h2⟩
theorem CaAt.nodupP (H : CaAt A B w c M s room h m g n N) : (s :: N.map (·.b)).Nodup := (List.nodup_cons.1 (List.nodup_cons.1 H.nodup).2).2
theorem CaAt.tidy (_H : CaAt A B w c M s room h m g n N) {D : DataW Value} (hm : MapAt w Try.prog 33 M n D) : Tidy D := World.ownsMap.tidy hm keyPg
/-- A page is taken out of the map: between which places it stands, and what is left when it leaves. -/
theorem CaAt.dropped (H : CaAt A B w c M s room h m g n N) {L1 L2 : List Nd} {x : Nd} (hN : N = L1 ++ x :: L2) {D : DataW Value} {w1 : World} (hk : KeysOf D N) (ht : Tidy D) (hmt : w.mapTurned w1 M) (hD : MapAt w1 Try.prog 33 M n (D.del x.key)) :
    ∃ a b, Bk w1 a 81 5 ∧ Bk w1 b 81 5 ∧ w1.cell? ⟨x.b, 3, none⟩ = some (ptr a) ∧ w1.cell? ⟨x.b, 4, none⟩ = some (ptr b) ∧ ∀ w2, LeaveW w1 w2 a b → CaAt A B w2 c M s room h m g n (L1 ++ L2) ∧ Upd (allOf A) w w2 := by
  have u1 : Upd (fun b _ => b = M) w w1 := (Upd.refl _ w).turned hmt (fun _ _ => rfl)
  have nP := H.nodupP
  obtain ⟨a1, a2, a3, a4⟩ := H.inA
  have hM : M ∉ s :: N.map (·.b) := fun hh => (List.nodup_cons.1 H.nodup).1 (List.mem_cons_of_mem _ hh)
  have keep : ∀ k ∈ s :: N.map (·.b), ∀ o, w1.cell? ⟨k, o, none⟩ = w.cell? ⟨k, o, none⟩ := fun k hk o => u1.cell k o (H.kindP k hk).lt (fun e => hM (e ▸ hk))
  have eB : N.map (·.b) = L1.map (·.b) ++ x.b :: L2.map (·.b) := by rw [hN]; simp
  have L0 : Links w1 (s :: (L1.map (·.b) ++ x.b :: L2.map (·.b) ++ [s])) := by
    rw [← eB]
    refine H.links.frame (fun a ha => keep a ?_ 4) (fun a ha => keep a ?_ 3)
    · have : (s :: (N.map (·.b) ++ [s])).dropLast = s :: N.map (·.b) := by rw [← List.cons_append, List.dropLast_concat]
      rw [this] at ha
      exact ha
    · have ha' : a ∈ N.map (·.b) ++ [s] := ha
      simp only [List.mem_append, List.mem_singleton] at ha'
      rcases ha' with h | h
      · exact List.mem_cons_of_mem _ h
      · simp [h]
  have kP : ∀ k ∈ s :: N.map (·.b), Bk w1 k 81 5 := fun k hk => u1.kind _ _ _ (H.kindP k hk)
  obtain ⟨a, b, ha, hb, q3, q4, hfin⟩ := links_mid L0 (eB ▸ nP) (fun k hk => (kP k (eB ▸ hk)).lt)
  have inab : ∀ k, (k = s ∨ k ∈ L1.map (·.b)) ∨ (k = s ∨ k ∈ L2.map (·.b)) → k ∈ s :: N.map (·.b) := fun k hk => by
    rw [eB]
    simp only [List.mem_cons, List.mem_append]
    rcases hk with (h | h) | (h | h)
    · exact .inl h
    · exact .inr (.inl h)
    · exact .inl h
    · exact .inr (.inr (.inr h))
  refine ⟨a, b, kP a (inab _ (.inl ha)), kP b (inab _ (.inr hb)), q3, q4, fun w2 hl => ?_⟩
  have hu : Upd (fun k o => k = M ∨ ((o = 3 ∨ o = 4) ∧ k ∈ s :: N.map (·.b))) w w2 := (u1.mono (fun _ _ _ e => .inl e)).then hl.upd (fun k o _ e => by
    rcases e with ⟨rfl, rfl⟩ | ⟨rfl, rfl⟩
    · exact .inr ⟨.inr rfl, inab _ (.inl ha)⟩
    · exact .inr ⟨.inl rfl, inab _ (.inr hb)⟩)
  refine ⟨H.turn hu (fun _ _ e => e) (fun y hy => by subst hN; simp at hy ⊢; rcases hy with h | h <;> simp [h]) (nd_split hN (List.nodup_cons.1 nP).2).1 (nd_split hN H.keys).1 (by rw [List.map_append]; exact hfin w2 hl) ⟨_, hD.upd hl.upd (fun o e => ?_), KeysOf.del (hN ▸ hk) ht (hN ▸ H.keys)⟩, hu.mono (fun k o _ e => ?_)⟩
  · rcases e with ⟨rfl, -⟩ | ⟨rfl, -⟩
    · exact hM (inab _ (.inl ha))
    · exact hM (inab _ (.inr hb))
  · rcases e with rfl | ⟨-, e⟩
    · exact a2
    · rcases List.mem_cons.1 e with rfl | e
      · exact a3
      · obtain ⟨y, hy, rfl⟩ := List.mem_map.1 e
        exact a4 y hy
set_option maxRecDepth 100000 in
set_option maxHeartbeats 2000000 in
theorem drop_any (H : CaAt A B w c M s room h m g n N) {L1 L2 : List Nd} {x : Nd} (hN : N = L1 ++ x :: L2) :
    Calls Try.prog 31 #[ptr c, ptr x.b] w fun e w' => e = .returned (.tuple #[]) ∧ CaAt A B w' c M s room h m g n (L1 ++ L2) ∧ Upd (allOf A) w w' := by
  have hx : x ∈ N := by rw [hN]; simp
  obtain ⟨D, hm, hk⟩ := H.map
  have HD := H.drew
  have ht := H.tidy hm
  obtain ⟨-, -, c2, -⟩ := HD.cells
  obtain ⟨e0, e1, e2⟩ := HD.els x hx
  have HK := Lib.hid (keyOf_pg (H.oks x hx))
  have HE := Lib.hid (And.intro HD (And.intro hk (And.intro ht hN)))
  have HMp := Lib.hid (show MapAt w.drew Try.prog 33 M n D from hm)
  have HU := Lib.hid ((Upd.refl (allOf A) w).drew)
  clear H HD hm hk ht hN hx
  go_enter Try.func31, Try.ntmps31
  go_wp2_with fail
  refine wp_region_still_tail 9 (by kernel_rfl) (by kernel_rfl) ?_
  simp only [List.take_succ_cons, List.take_zero, List.drop_succ_cons, List.drop_zero]
  change wpStill _ _ w.drew (fun a' => wpList _ _ _ _ a' w.drew) _ _
  generalize w.drew = W2 at *
  repeat still_step
  refine wpStill_nil ?_
  go_wp2_with (first
    | (at_delete; refine wpList_delete_own _ rfl _ _ 62 33 rfl 63 keyPg Try.underlying62 heldE M n D rfl HMp.out _ _ rfl HK.out ?_; intro w1 hown1 hturn1
       have H1 := Lib.hid hown1
       have HT := Lib.hid hturn1
       clear hown1 hturn1))
  obtain ⟨a, b, ka, kb, q3, q4, hfin⟩ := HE.out.1.dropped HE.out.2.2.2 HE.out.2.1 HE.out.2.2.1 HT.out H1.out
  have HF := Lib.hid hfin
  clear hfin
  refine (leave_any w1 x.b a b ka kb q3 q4).mono ?_
  rintro e w2 ⟨rfl, hl⟩
  have HW := Lib.hid (HF.out w2 hl)
  clear hl
  go_wp2_with fail
  go_end0
  exact ⟨rfl, HW.out.1, HU.out.trans HW.out.2⟩
end
end Go.Proofs.Ytdjebcfpodfhhaa

/-
  Put of a cache.
-/
import Derived.Test.YtdjebcfpodfhhaaChP
namespace Go.Proofs.Ytdjebcfpodfhhaa
open Go Go.RowKit Go.Maps Go.WideMaps

section
variable {A B : Nat → Prop} {w : World} {c M s n : Nat} {room h m g : Int} {N : List Nd}
set_option maxRecDepth 100000 in
set_option maxHeartbeats 1000000 in
theorem put_zero (H : CaAt A B w c M s 0 h m g n N) (r : ByteArray) (i : Int) (pv : Value) :
    Calls Try.prog 17 #[ptr c, .agg #[.string r, .int .i64 i], pv] w fun e w' => e = .returned (.tuple #[]) ∧ CaAt A B w' c M s 0 h m g n N ∧ Below w.heap.size w w' := by
  have H1 := (H.alloc (.cells #[.string r, .int .i64 i] 33))
  have HM := Lib.hid (made_yes H1)
  obtain ⟨-, c1, -⟩ := H1.cells
  have HE := Lib.hid (And.intro H1 ((Below.refl w.heap.size w).alloc (Nat.le_refl _) (.cells #[.string r, .int .i64 i] 33)))
  clear H H1
  go_enter Try.func17, Try.ntmps17
  go_wp2_with fail
  refine HM.out.mono ?_
  rintro e w1 ⟨rfl, rfl⟩
  go_wp2_with fail
  exact bodyPost_ret (v := .tuple #[]) (by simp [results, Try.results17, go_sem]) rfl ⟨rfl, HE.out⟩
section
variable {P : Program} (w : World) {ops : Array Oper} {rest : List Oper} {o : Oper} {a : Act} {Q : Exit → Act → World → Prop}
theorem wpList_store_turned (hg : o.guard = none) (m x v : Operand) (t : TypeId) (hop : o.op = Op.mapUpdate t m x v)
    (k e : TypeId) (K : Keyed P k) (ht : P.underlying t = some (.map k e)) (b n : Nat) (D : DataW Value)
    (hm : a.eval m = .map (some b)) (hown : MapAt w P k b n D) (hn : n < maxLen) (key val : Value) (kl : Lit) (hx : a.eval x = key) (hv : a.eval v = val) (hkey : keyOf P k key = some kl)
    (hK : ∀ w', MapAt w' P k b (n + 1) (D.put kl (.held val)) → w.mapTurned w' b → wpList P ops Q rest (a.put o.dst undef) w') : wpList P ops Q (o :: rest) a w := by
  refine wpList_plain hg fun K' hK' => ?_
  obtain ⟨w', hrun, r1, r2⟩ := World.ownsMap.store hown K ht hn hkey (show heldE val = some (.held val, []) from rfl)
  unfold Oper.wp
  simp [execOp, hop, hm, hx, hv, hrun, Result.andThen]
  exact hK' _ _ (hK w' r1 r2)
end
/-- What stands in the box of a key. -/
def KeyBox (kb : Nat) (r : ByteArray) (i : Int) (W : World) : Prop := W.cell? ⟨kb, 0, none⟩ = some (.string r) ∧ W.cell? ⟨kb, 1, none⟩ = some (.int .i64 i)
theorem keyBox_mk (w : World) (r : ByteArray) (i : Int) : KeyBox w.heap.size r i (w.alloc (.cells #[.string r, .int .i64 i] 33)) := by
  refine ⟨?_, ?_⟩ <;> exact (cell_of_row _ w.heap.size _ _ _ (0, 0) (heap_alloc_new w _)).trans (by simp)
theorem KeyBox.below {kb : Nat} {r : ByteArray} {i : Int} {W W' : World} (h : KeyBox kb r i W) (hb : Below W.heap.size W W') : KeyBox kb r i W' :=
  ⟨(hb.cell (p := ⟨kb, 0, none⟩) (lt_of_cell h.1)).trans h.1, (hb.cell (p := ⟨kb, 1, none⟩) (lt_of_cell h.1)).trans h.2⟩
/-- Ahead of the last part of Put. -/
structure PutPre (A B : Nat → Prop) (w W : World) (c M s : Nat) (room h m g : Int) (n : Nat) (r : ByteArray) (i : Int) (pv : Value) (E : List (List V3 × Int)) (N : List Nd) : Prop where
  ca : CaAt A B W c M s room h m g n N
  box : KeyBox w.heap.size r i W
  ent : EntS (fun k => k < W.heap.size) W pv E
  upd : Upd (allOf A) w W
  key : KeyOk r i
  no : ∀ y ∈ N, y.key ≠ pgK r i
  few : n ≤ 1000000
  ltA : ∀ k, A k → k < w.heap.size
  ltB : ∀ k, B k → k < w.heap.size
theorem putEnd_mk {A B : Nat → Prop} {w W w1 w4 : World} {c M s n : Nat} {room h m g : Int} {r : ByteArray} {i : Int} {pv v : Value} {E : List (List V3 × Int)} {N : List Nd} (hp : PutPre A B w W c M s room h m g n r i pv E N) (hb : Below W.drew.heap.size W.drew w1)
    (hc : CaAt (fun k => A k ∨ k = w1.heap.size) (fun k => B k ∨ (W.drew.heap.size ≤ k ∧ k < w1.heap.size)) w4 c M s room h m g (n + 1) (⟨w1.heap.size, r, i, v, E⟩ :: N)) (hu : Upd (allOf A) W.drew w4) : PutEnd A B w c M s room h m g n r i E N (.returned (.tuple #[])) w4 := by
  have s1 : w.heap.size ≤ W.drew.heap.size := hp.upd.size
  have s2 := hb.size
  refine ⟨rfl, w1.heap.size, v, by omega, ?_, hp.upd.drew.trans hu⟩
  refine { hc with ltB := fun k hk => ?_, apart := fun k hA hB => ?_, ents := fun x hx => (hc.ents x hx).mono (fun k hk => ?_) }
  · have p := hc.ltA w1.heap.size (.inr rfl)
    rcases hk with hk | hk
    · exact hc.ltB k (.inl hk)
    · omega
  · rcases hA with hA | rfl
    · rcases hB with hB | hB
      · exact hc.apart k (.inl hA) (.inl hB)
      · have := hp.ltA k hA; omega
    · rcases hB with hB | hB
      · exact hc.apart _ (.inr rfl) (.inl hB)
      · omega
  · rcases hk with hk | hk
    · exact .inl hk
    · exact .inr ⟨by omega, hk.2⟩
theorem len_run {W : World} {D : DataW Value} (hm : MapAt W Try.prog 33 M n D) {k : Nat} (hk : Maps.size D = k) (ty : TypeId) :
    (Builtin.len_ #[62] ty #[.map (some M)]).run Try.prog W = .ok (.int .i64 k) W := by
  rw [← hk]
  exact World.ownsMap.len hm Try.underlying62 ty
set_option maxRecDepth 100000 in
set_option maxHeartbeats 4000000 in
theorem put_new (H : CaAt A B w c M s room h m g n N) (r : ByteArray) (i : Int) (pv : Value) (E : List (List V3 × Int)) (hE : EntS (fun k => k < w.heap.size) w pv E) (hk0 : KeyOk r i) (hno : ∀ y ∈ N, y.key ≠ pgK r i) (hr : room ≠ 0) (hN : (N.length : Int) ≠ room) (hn : n ≤ 1000000) :
    Calls Try.prog 17 #[ptr c, .agg #[.string r, .int .i64 i], pv] w (PutEnd A B w c M s room h m g n r i E N) := by
  have H1 := (H.alloc (.cells #[.string r, .int .i64 i] 33))
  have HM := Lib.hid (made_yes H1)
  have H2 := H1.drew
  obtain ⟨D, hm, hk⟩ := H2.map
  have k1 := hk.none hno
  have hrun := run_look_ok_any (P := Try.prog) (w.alloc (.cells #[.string r, .int .i64 i] 33)).drew (t := 62) keyPg Try.underlying62 (.pointer none) (.pointer none) (zeroPl _) hm (keyOf_pg hk0) (atKey_of_not_has k1 _) k1
  obtain ⟨-, c1, c2, -, -, -, -⟩ := H2.cells
  have c1' := H1.cells.2.1
  have lc := H2.kindC.lt
  have hlen := len_run (W := (w.alloc (.cells #[.string r, .int .i64 i] 33)).drew.drew) hm hk.size
  have HPre := Lib.hid (show PutPre A B w (w.alloc (.cells #[.string r, .int .i64 i] 33)).drew.drew c M s room h m g n r i pv E N from ⟨H2.drew, (keyBox_mk w r i), hE.same (fun k hk => by simp; omega) (fun b o hb => World.cell?_alloc_lt _ _ _ hb), (((Upd.refl _ w).alloc _).drew).drew, hk0, hno, hn, H.ltA, H.ltB⟩)
  have hr1 : (room == 0) = false := by simpa using hr
  have hN1 : ((N.length : Int) == room) = false := by simpa using hN
  clear H H1 H2 hm hk k1 hno hk0 hE hn
  unfold pgV at hrun
  go_enter Try.func17, Try.ntmps17
  go_wp2_with fail
  refine HM.out.mono ?_
  rintro e w1 ⟨rfl, rfl⟩
  go_wp2_with fail
  go_region
  go_wp2_with fail
  go_region
  go_wp2_with fail
  have HP := Lib.hid (show PutPre A B w (w.alloc (.cells #[.string r, .int .i64 i] 33)).drew.drew c M s room h m g n r i pv E N from HPre.out)
  generalize (w.alloc (.cells #[.string r, .int .i64 i] 33)).drew.drew = W at *
  clear c1 c2 c1' lc hlen hrun HM HPre
  have HW := Lib.hid HP.out.ca.drew
  have HC := Lib.hid (copies_any W.drew pv E HP.out.ent)
  have HB0 := Lib.hid (show KeyBox w.heap.size r i W.drew from HP.out.box)
  go_region_held3 (fun X => X.cell? ⟨w.heap.size, 0, none⟩ = some (.string r) ∧ X.cell? ⟨w.heap.size, 1, none⟩ = some (.int .i64 i)) (first | exact HB0.out | exact HB0.out.below hb | exact HB0.out.below (hb.alloc hb.size _)) ((go_at_call 33; refine HC.out.mono ?_; rintro e w1 ⟨v1, rfl, he, hb, Q, hQ, hRw⟩; obtain ⟨p1, cp1, rfl⟩ := hRw.slice))
  have HQ := Lib.hid (And.intro he hb)
  have hb2 : Below W.drew.heap.size W.drew (w1.alloc (.cells #[.string r, .int .i64 i, .slice p1 Q.length cp1, .pointer none, .pointer none] 81)).drew := (hb.alloc hb.size _).drew
  have hHeld2 := HB0.out.below hb2
  have HM2 := Lib.hid (HW.out.below hb2)
  obtain ⟨D2, hm2, hk2⟩ := HM2.out.map
  have HD2 := Lib.hid (And.intro hm2 (And.intro hk2 (HM2.out.tidy hm2)))
  obtain ⟨-, -, c2, -, -, -, -⟩ := HM2.out.cells
  obtain ⟨q0, q1⟩ := hHeld2
  have HS := Lib.hid (show ∀ W' : World, W'.heap = (w1.alloc (.cells #[.string r, .int .i64 i, .slice p1 Q.length cp1, .pointer none, .pointer none] 81)).heap → W'.heap.size = w1.heap.size + 1 ∧ W'.heap[w1.heap.size]? = some (.cells #[.string r, .int .i64 i, .slice p1 Q.length cp1, .pointer none, .pointer none] 81 (0, 0)) from fun W' e => ⟨by rw [e]; simp, by rw [e]; exact heap_alloc_new w1 _⟩)
  have HS2 := Lib.hid (And.intro (HS.out (w1.alloc (.cells #[.string r, .int .i64 i, .slice p1 Q.length cp1, .pointer none, .pointer none] 81)).drew rfl) (show Below w1.heap.size w1 (w1.alloc (.cells #[.string r, .int .i64 i, .slice p1 Q.length cp1, .pointer none, .pointer none] 81)).drew from ((Below.refl _ _).alloc (Nat.le_refl _) _).drew))
  clear he hb hb2 hQ hRw hm2 hk2 HC HB0 HS
  go_wp2_with fail
  refine wp_region_still_tail 6 (by kernel_rfl) (by kernel_rfl) ?_
  simp only [List.take_succ_cons, List.take_zero, List.drop_succ_cons, List.drop_zero]
  change wpStill _ _ (w1.alloc (.cells #[.string r, .int .i64 i, .slice p1 Q.length cp1, .pointer none, .pointer none] 81)).drew (fun a' => wpList _ _ _ _ a' (w1.alloc (.cells #[.string r, .int .i64 i, .slice p1 Q.length cp1, .pointer none, .pointer none] 81)).drew) _ _
  generalize (w1.alloc (.cells #[.string r, .int .i64 i, .slice p1 Q.length cp1, .pointer none, .pointer none] 81)).drew = W2 at *
  repeat still_step
  refine wpStill_nil ?_
  go_wp2_with (first
    | (at_mapUpdate; refine wpList_store_turned _ rfl _ _ _ 62 rfl 33 63 keyPg Try.underlying62 M n D2 rfl HD2.out.1 (by have := HP.out.few; unfold maxLen; omega) _ (ptr w1.heap.size) _ rfl rfl (keyOf_pg HP.out.key) ?_; intro w3 hown3 hturn3
       obtain ⟨f, r1, r2, r3, r4, r5, r6, r7, hfin⟩ := HW.out.putted HQ.out.2 HQ.out.1 HS2.out.2 HS2.out.1.1 HS2.out.1.2 HP.out.key HP.out.no HD2.out.2.1 HD2.out.2.2 hturn3 hown3
       have HF := Lib.hid (And.intro r1 (And.intro r2 (And.intro r3 (And.intro r4 (And.intro r5 (And.intro r6 hfin))))))
       clear hown3 hturn3 hfin r1 r2 r3 r4 r5 r6))
  obtain ⟨r1, r2, r3, r4, r5, r6, hfin⟩ := HF.out
  refine (lead_any w3 s f w1.heap.size r1 r2 r3 r4 r5 r6).mono ?_
  rintro e w4 ⟨rfl, hd⟩
  have HE := Lib.hid (hfin w4 hd)
  clear hd hfin r1 r2 r3 r4 r5 r6
  go_wp2_with fail
  go_end0
  exact putEnd_mk HP.out HQ.out.2 HE.out.1 HE.out.2
end
end Go.Proofs.Ytdjebcfpodfhhaa

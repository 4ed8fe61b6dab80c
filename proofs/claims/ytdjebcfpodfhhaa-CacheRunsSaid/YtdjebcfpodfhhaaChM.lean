/-
  Drop of a cache.
-/
import Derived.Test.YtdjebcfpodfhhaaChK
import Derived.BigRegionIn
namespace Go.Proofs.Ytdjebcfpodfhhaa
open Go Go.RowKit Go.Maps Go.WideMaps Go.Shelf

attribute [local go_sem] Oper.semAt_some

def isN (nm : ByteArray) (x : Nd) : Bool := x.r.toList == nm.toList
/-- The pages behind k rounds. -/
def keepN (nm : ByteArray) (N : List Nd) (k : Nat) : List Nd := (N.take k).filter (fun x => !isN nm x) ++ N.drop k
def goneN (nm : ByteArray) (N : List Nd) (k : Nat) : Nat := ((N.take k).filter (isN nm)).length
theorem keepN_zero (nm : ByteArray) (N : List Nd) : keepN nm N 0 = N := rfl
theorem keepN_end (nm : ByteArray) (N : List Nd) : keepN nm N N.length = N.filter (fun x => !isN nm x) := by
  unfold keepN
  rw [List.take_length, List.drop_length, List.append_nil]
theorem keepN_at {nm : ByteArray} {N : List Nd} {k : Nat} {x : Nd} (h : N[k]? = some x) : keepN nm N k = (N.take k).filter (fun x => !isN nm x) ++ x :: N.drop (k + 1) := by
  obtain ⟨hk, rfl⟩ := List.getElem?_eq_some_iff.1 h
  unfold keepN
  rw [List.drop_eq_getElem_cons hk]
theorem keepN_step {nm : ByteArray} {N : List Nd} {k : Nat} {x : Nd} (h : N[k]? = some x) : keepN nm N (k + 1) = (N.take k).filter (fun x => !isN nm x) ++ (if isN nm x then [] else [x]) ++ N.drop (k + 1) := by
  obtain ⟨hk, rfl⟩ := List.getElem?_eq_some_iff.1 h
  unfold keepN
  rw [List.take_succ_eq_append_getElem hk, List.filter_append]
  cases e : isN nm N[k] <;> simp [e]
theorem goneN_step {nm : ByteArray} {N : List Nd} {k : Nat} {x : Nd} (h : N[k]? = some x) : goneN nm N (k + 1) = goneN nm N k + (if isN nm x then 1 else 0) := by
  obtain ⟨hk, rfl⟩ := List.getElem?_eq_some_iff.1 h
  unfold goneN
  rw [List.take_succ_eq_append_getElem hk, List.filter_append, List.length_append]
  cases e : isN nm N[k] <;> simp [e]
theorem blkAt_at {N : List Nd} {s k : Nat} {x : Nd} (h : N[k]? = some x) : blkAt (N.map (·.b)) s k = x.b := by
  unfold blkAt
  rw [List.getD_eq_getElem?_getD, List.getElem?_map, h]
  rfl
theorem goneN_le (nm : ByteArray) (N : List Nd) (k : Nat) : goneN nm N k ≤ k := by
  unfold goneN
  have := List.length_filter_le (isN nm) (N.take k)
  rw [List.length_take] at this
  omega
theorem upd_put {W : World} {l : Nat} {r : Loop} (o : Obj) (hl : W.heap[l]? = some (.loop r)) : Upd (fun k _ => k = l) W (W.putObj l o) := by
  have g := grownBy_putObj' W l o
  refine ⟨g.os, g.tape, g.output, g.size, fun x p hx hn => World.cell?_of_block (a := ⟨x, p, none⟩) (g.block x hx (fun e => hn (by cases e; rfl))), fun x t n hx => hx.of_heap (g.block x hx.lt (fun e => ?_)), fun x hx hn => g.block x hx (fun e => hn 0 (by cases e; rfl))⟩
  cases e
  obtain ⟨cs, h, -⟩ := hx
  rw [hl] at h
  cases h
theorem getD_mid (s : Nat) (F R : List Nd) (x : Nd) : (s :: (F ++ x :: R).map (·.b)).getD (F.length + 1) s = x.b := by
  rw [List.getD_eq_getElem?_getD, List.getElem?_cons_succ, List.map_append, List.getElem?_append_right (by simp)]
  simp
theorem blkAt_mid (s : Nat) (F R : List Nd) (x : Nd) : blkAt ((F ++ x :: R).map (·.b)) s (F.length + 1) = ((R.map (·.b)).head?).getD s := by
  unfold blkAt
  rw [List.map_append, List.getD_eq_getElem?_getD, List.getElem?_append_right (by simp)]
  simp [List.head?_eq_getElem?]
theorem Upd.putD {W : World} {l : Nat} {q : Option (List Deferred)} (o : Obj) (hl : W.heap[l]? = some (.deferred q)) : Upd (fun k _ => k = l) W (W.putObj l o) := by
  have g := grownBy_putObj' W l o
  refine ⟨g.os, g.tape, g.output, g.size, fun x p hx hn => World.cell?_of_block (a := ⟨x, p, none⟩) (g.block x hx (fun e => hn (by cases e; rfl))), fun x t n hx => hx.of_heap (g.block x hx.lt (fun e => ?_)), fun x hx hn => g.block x hx (fun e => hn 0 (by cases e; rfl))⟩
  cases e
  obtain ⟨cs, h, -⟩ := hx
  rw [hl] at h
  cases h
section
variable {A B : Nat → Prop} {w0 : World} {c M s n : Nat} {room h m g : Int} {N : List Nd}
/-- What the range of Drop keeps. -/
structure DrJ (A B : Nat → Prop) (w0 : World) (c M s : Nat) (room h m g : Int) (n : Nat) (N : List Nd) (nm : ByteArray) (l : Nat) (r : Loop) (k : Nat) (W : World) : Prop where
  ca : CaAt A B W c M s room h m g n (keepN nm N k)
  bc : W.heap[w0.heap.size]? = some (.cells #[ptr c] 24 (0, 0))
  bn : W.heap[w0.heap.size + 1]? = some (.cells #[.string nm] 9 (0, 0))
  cnt : W.heap[w0.heap.size + 2]? = some (.cells #[.int .i64 (goneN nm N k)] 3 (0, 0))
  box : W.heap[w0.heap.size + 3]? = some (.cells #[ptr s] 65 (0, 0))
  loop : W.heap[l]? = some (.loop r)
  defs : W.heap[w0.heap.size + 4]? = some (.deferred (some []))
  kinds : ∀ b ∈ N.map (·.b), Bk W b 81 5
  upd : Upd (allOf A) w0 W
  ltA : ∀ k, A k → k < w0.heap.size
  ltB : ∀ k, B k → k < w0.heap.size
  lge : w0.heap.size + 4 < l
theorem CaAt.kindP_ {w : World} (H : CaAt A B w c M s room h m g n N) : ∀ b ∈ N.map (·.b), Bk w b 81 5 := fun b hb => H.kindP b (List.mem_cons_of_mem _ hb)
theorem DrJ.rd {nm : ByteArray} {l k : Nat} {r : Loop} {W : World} (H : DrJ A B w0 c M s room h m g n N nm l r k W) (hk : k ≤ N.length) : RdP (N.map (·.b)) s (w0.heap.size + 3) k W := by
  refine ⟨(cell_of_row W _ 0 _ _ (0, 0) H.box).trans rfl, fun b hb => ?_, fun hlt => ?_, fun h0 => ?_⟩
  · rcases List.mem_cons.1 hb with rfl | hb
    · exact H.ca.kindP _ List.mem_cons_self
    · exact H.kinds b hb
  · have hl : k < N.length := by simpa using hlt
    obtain ⟨x, hx⟩ : ∃ x, N[k]? = some x := ⟨_, List.getElem?_eq_getElem hl⟩
    have e := keepN_at (nm := nm) hx
    have hL := H.ca.links_at (k := ((N.take k).filter (fun x => !isN nm x)).length + 1) (by rw [e]; simp only [List.length_append, List.length_cons]; omega)
    rw [e, getD_mid, blkAt_mid] at hL
    have e1 : x.b = blkAt (N.map (·.b)) s k := (blkAt_at hx).symm
    have e2 : ((N.drop (k + 1)).map (·.b)).head?.getD s = blkAt (N.map (·.b)) s (k + 1) := by
      unfold blkAt
      simp [List.getD_eq_getElem?_getD, List.head?_eq_getElem?]
    rw [e1, e2] at hL
    exact hL
  · subst h0
    have := H.ca.links_at (k := 0) (Nat.zero_le _)
    rw [keepN_zero] at this
    exact this
theorem DrJ.turn {nm : ByteArray} {l k k' : Nat} {r : Loop} {W W' : World} (H : DrJ A B w0 c M s room h m g n N nm l r k W) (hu : Upd (allOf A) W W') (hca : CaAt A B W' c M s room h m g n (keepN nm N k')) (hg : goneN nm N k' = goneN nm N k) : DrJ A B w0 c M s room h m g n N nm l r k' W' := by
  have na : ∀ i, w0.heap.size ≤ i → ∀ o, ¬ allOf A i o := fun i hi o e => by have := H.ltA i e; omega
  have kk : ∀ {i : Nat} {o : Obj}, w0.heap.size ≤ i → W.heap[i]? = some o → W'.heap[i]? = some o := fun hi h => (hu.block _ (Array.getElem?_eq_some_iff.1 h).1 (na _ hi)).trans h
  exact ⟨hca, kk (Nat.le_refl _) H.bc, kk (by omega) H.bn, by rw [hg]; exact kk (by omega) H.cnt, kk (by omega) H.box, kk (by have := H.lge; omega) H.loop, kk (by omega) H.defs, fun b hb => hu.kind _ _ _ (H.kinds b hb), H.upd.trans (hu.mono (C' := allOf A) (fun _ _ _ e => e)), H.ltA, H.ltB, H.lge⟩
theorem DrJ.put {nm : ByteArray} {l k : Nat} {r : Loop} {W : World} (H : DrJ A B w0 c M s room h m g n N nm l r k W) (r' : Loop) : DrJ A B w0 c M s room h m g n N nm l r' k (W.putObj l (.loop r')) := by
  have hu := upd_put (.loop r') H.loop
  have hl := H.lge
  have kk : ∀ {i : Nat} {o : Obj}, i ≠ l → W.heap[i]? = some o → (W.putObj l (.loop r')).heap[i]? = some o := fun hi h => (hu.block _ (Array.getElem?_eq_some_iff.1 h).1 (fun _ e => hi e)).trans h
  refine ⟨H.ca.upd hu (fun i o hi e => ?_), kk (by omega) H.bc, kk (by omega) H.bn, kk (by omega) H.cnt, kk (by omega) H.box, World.putObj_heap_same (Array.getElem?_eq_some_iff.1 H.loop).1, kk (by omega) H.defs, fun b hb => hu.kind _ _ _ (H.kinds b hb), H.upd.then hu (fun x o hx e => by omega), H.ltA, H.ltB, H.lge⟩
  rcases hi with hi | hi
  · have := H.ltA i hi
    omega
  · have := H.ltB i hi
    omega
/-- The count goes up by one. -/
theorem DrJ.up {nm : ByteArray} {l k : Nat} {r : Loop} {W : World} (H : DrJ A B w0 c M s room h m g n N nm l r k W) {q : Int} {W' : World} (hu : Upd (allOf A) W W') (hca : CaAt A B W' c M s room h m g n (keepN nm N (k + 1))) (hq : ((goneN nm N (k + 1) : Nat) : Int) = q) :
    DrJ A B w0 c M s room h m g n N nm l r (k + 1) (W'.setCell ⟨w0.heap.size + 2, 0, none⟩ (.int .i64 q)) ∧ W'.heap[w0.heap.size + 2]? = some (.cells #[.int .i64 (goneN nm N k)] 3 (0, 0)) := by
  have na : ∀ i, w0.heap.size ≤ i → ∀ o, ¬ allOf A i o := fun i hi o e => by have := H.ltA i e; omega
  have kk : ∀ {i : Nat} {o : Obj}, w0.heap.size ≤ i → W.heap[i]? = some o → W'.heap[i]? = some o := fun hi h => (hu.block _ (Array.getElem?_eq_some_iff.1 h).1 (na _ hi)).trans h
  have ks : ∀ {i : Nat} {o : Obj}, i ≠ w0.heap.size + 2 → W'.heap[i]? = some o → (W'.setCell ⟨w0.heap.size + 2, 0, none⟩ (.int .i64 q)).heap[i]? = some o := fun hi h => (Below.heap_setCell _ _ _ _ hi).trans h
  have hc := kk (by omega) H.cnt
  have hsu : Upd (fun b _ => b = w0.heap.size + 2) W' (W'.setCell ⟨w0.heap.size + 2, 0, none⟩ (.int .i64 q)) := (Upd.refl _ _).setCell _ _ _ (fun _ => rfl)
  refine ⟨⟨hca.upd hsu (fun i o hi e => ?_), ks (by omega) (kk (Nat.le_refl _) H.bc), ks (by omega) (kk (by omega) H.bn), ?_, ks (by omega) (kk (by omega) H.box), ks (by have := H.lge; omega) (kk (by have := H.lge; omega) H.loop), ks (by omega) (kk (by omega) H.defs), fun b hb => hsu.kind _ _ _ (hu.kind _ _ _ (H.kinds b hb)), (H.upd.trans hu).then hsu (fun x o hx e => by omega), H.ltA, H.ltB, H.lge⟩, hc⟩
  · rcases hi with hi | hi
    · have := H.ltA i hi; omega
    · have := H.ltB i hi; omega
  · rw [hq]
    exact Boxed.set _ hc
/-- What Drop leaves. -/
def DropEnd (A B : Nat → Prop) (w : World) (c M s : Nat) (room h m g : Int) (n : Nat) (N : List Nd) (nm : ByteArray) (e : Ending) (w' : World) : Prop :=
  e = .returned (.int .i64 (goneN nm N N.length : Nat)) ∧ CaAt A B w' c M s room h m g n (N.filter (fun x => !isN nm x)) ∧ Upd (allOf A) w w'
set_option maxRecDepth 100000 in
set_option maxHeartbeats 8000000 in
theorem drop_name (H : CaAt A B w0 c M s room h m g n N) (nm : ByteArray) (hN : N.length ≤ 2000) :
    Calls Try.prog 19 #[ptr c, .string nm] w0 (DropEnd A B w0 c M s room h m g n N nm) := by
  have hM := made_yes ((H.alloc (.cells #[ptr c] 24)).alloc (.cells #[.string nm] 9))
  have HM := Lib.hid hM
  obtain ⟨-, -, -, c3, -, -, -⟩ := H.cells
  have lc := H.kindC.lt
  have c3' : (((w0.alloc (.cells #[ptr c] 24)).alloc (.cells #[.string nm] 9)).alloc (.cells #[.int .i64 0] 3)).cell? ⟨c, 3, none⟩ = some (ptr s) := (((H.alloc (.cells #[ptr c] 24)).alloc (.cells #[.string nm] 9)).alloc (.cells #[.int .i64 0] 3)).cells.2.2.2.1
  have HH := Lib.hid H
  have HN := Lib.hid hN
  clear H hN hM
  refine (callsIn_wide (n := 9)).1 ?_
  refine callsIn_of_wp_marks Try.func19 rfl trivial ?_ rfl
  simp only [Try.ntmps19, List.size_toArray, List.length_cons, List.length_nil, Nat.reduceAdd, Nat.reduceSub, Array.replicate_succ, Array.replicate_zero, List.push_toArray, List.append_toArray, List.nil_append, List.cons_append]
  gi_wp2_with fail
  refine ⟨trivial, (callsIn_wide.2 HM.out).mono ?_⟩
  rintro e w1 ⟨rfl, rfl⟩
  gi_wp2_with fail
  refine ⟨trivial, (callsIn_wide.2 (places_any _ s)).mono ?_⟩
  rintro e w1 ⟨rfl, rfl⟩
  gi_wp2_with fail
  obtain ⟨w3, hw3⟩ : ∃ w3, w3 = (((w0.alloc (.cells #[ptr c] 24)).alloc (.cells #[.string nm] 9)).alloc (.cells #[.int .i64 0] 3)).alloc (.cells #[ptr s] 65) := ⟨_, rfl⟩
  have hs3 : w3.heap.size = w0.heap.size + 4 := by rw [hw3]; simp
  have HB3 := Lib.hid (show Below w0.heap.size w0 w3 by rw [hw3]; exact ((((Below.refl _ _).alloc (Nat.le_refl _) _).alloc (by simp) _).alloc (by simp; omega) _).alloc (by simp; omega) _)
  have G0 := Lib.hid (show w3.heap[w0.heap.size]? = some (.cells #[ptr c] 24 (0, 0)) by
    rw [hw3]
    exact (Below.heap_alloc _ _ _ (by simp; omega)).trans ((Below.heap_alloc _ _ _ (by simp; omega)).trans ((Below.heap_alloc _ _ _ (by simp)).trans (heap_alloc_new w0 _))))
  have G1 := Lib.hid (show w3.heap[w0.heap.size + 1]? = some (.cells #[.string nm] 9 (0, 0)) by
    rw [hw3]
    exact (Below.heap_alloc _ _ _ (by simp)).trans ((Below.heap_alloc _ _ _ (by simp)).trans (by simpa using heap_alloc_new (w0.alloc (.cells #[ptr c] 24)) (.cells #[.string nm] 9))))
  have G2 := Lib.hid (show w3.heap[w0.heap.size + 2]? = some (.cells #[.int .i64 0] 3 (0, 0)) by
    rw [hw3]
    exact (Below.heap_alloc _ _ _ (by simp)).trans (by simpa using heap_alloc_new ((w0.alloc (.cells #[ptr c] 24)).alloc (.cells #[.string nm] 9)) (.cells #[.int .i64 0] 3)))
  have G3 := Lib.hid (show w3.heap[w0.heap.size + 3]? = some (.cells #[ptr s] 65 (0, 0)) by
    rw [hw3]
    simpa using heap_alloc_new (((w0.alloc (.cells #[ptr c] 24)).alloc (.cells #[.string nm] 9)).alloc (.cells #[.int .i64 0] 3)) (.cells #[ptr s] 65))
  rw [← hw3]
  clear hw3 c3 c3' HM lc
  refine range_wide (gf := 39) (lb := #[ptr (w0.heap.size + 3)]) rfl (enters_of Try.func39 (by kernel_rfl) rfl) ?_
  intro r r1 r2 r3 r4 r5 r6
  have hl0 : ((w3.alloc (.deferred (some []))).alloc (.loop r)).heap[w3.heap.size + 1]? = some (.loop r) := by
    have := World.alloc_heap_new (w3.alloc (.deferred (some []))) (.loop r)
    rwa [World.size_alloc] at this
  have hd0 : ((w3.alloc (.deferred (some []))).alloc (.loop r)).heap[w3.heap.size]? = some (.deferred (some [])) := (Below.heap_alloc _ _ _ (by simp)).trans (World.alloc_heap_new w3 _)
  have hbb : Below w3.heap.size w3 ((w3.alloc (.deferred (some []))).alloc (.loop r)) := ((Below.refl _ _).alloc (Nat.le_refl _) _).alloc (by simp) _
  have kk : ∀ {k : Nat} {o : Obj}, w3.heap[k]? = some o → ((w3.alloc (.deferred (some []))).alloc (.loop r)).heap[k]? = some o := fun h => (hbb.block _ (Array.getElem?_eq_some_iff.1 h).1).trans h
  have HBW := Lib.hid (HB3.out.trans (hbb.mono HB3.out.size))
  rw [hs3] at hl0 hd0 ⊢
  have hJ0 : DrJ A B w0 c M s room h m g n N nm (w0.heap.size + 4 + 1) r 0 ((w3.alloc (.deferred (some []))).alloc (.loop r)) :=
    ⟨HH.out.below HBW.out, kk G0.out, kk G1.out, kk G2.out, kk G3.out, hl0, hd0, (HH.out.below HBW.out).kindP_, Upd.of_below HBW.out, HH.out.ltA, HH.out.ltB, by omega⟩
  refine (places_in (w0.heap.size + 4 + 1) s (w0.heap.size + 3) (N.map (·.b)) (List.nodup_cons.1 HH.out.nodupP).2 (List.nodup_cons.1 HH.out.nodupP).1 _ (fun k W => DrJ A B w0 c M s room h m g n N nm (w0.heap.size + 4 + 1) r k W) (fun k W hk hJ => hJ.rd (by simpa using hk)) ?_ hJ0).mono ?_
  · clear hl0 hd0 hbb kk HBW G0 G1 G2 G3 hJ0 HB3
    intro k W1 hk hJ0
    have hk' : k < N.length := by simpa using hk
    have HJ := Lib.hid hJ0
    refine yield_wide hJ0.loop r1 r2 (by rw [r3]; rfl) ?_
    clear hJ0 hk
    rw [r3, r4, r5, r6]
    clear r1 r2 r3 r4 r5 r6
    gi_wp2_with fail
    refine ⟨HJ.out.loop, ?_⟩
    obtain ⟨W, hW⟩ : ∃ W, W = W1.putObj (w0.heap.size + 4 + 1) (.loop (busyR r)) := ⟨_, rfl⟩
    have HJ2 := Lib.hid (show DrJ A B w0 c M s room h m g n N nm (w0.heap.size + 4 + 1) (busyR r) k W by rw [hW]; exact HJ.out.put _)
    rw [← hW]
    clear hW HJ
    obtain ⟨x, hx⟩ : ∃ x, N[k]? = some x := ⟨_, List.getElem?_eq_getElem hk'⟩
    rw [blkAt_at hx]
    have HK := Lib.hid hk'
    have hkeep := keepN_at (nm := nm) hx
    have hxm : x ∈ keepN nm N k := by rw [hkeep]; exact List.mem_append_right _ List.mem_cons_self
    have hstep := keepN_step (nm := nm) hx
    have hgs := goneN_step (nm := nm) hx
    have c0 := (HJ2.out.ca.els x hxm).1
    have xl := (HJ2.out.ca.kindP x.b (List.mem_cons_of_mem _ (List.mem_map_of_mem hxm))).lt
    have cn : W.cell? ⟨w0.heap.size + 1, 0, none⟩ = some (.string nm) := (cell_of_row W _ 0 _ _ (0, 0) HJ2.out.bn).trans rfl
    have cc : W.cell? ⟨w0.heap.size, 0, none⟩ = some (ptr c) := (cell_of_row W _ 0 _ _ (0, 0) HJ2.out.bc).trans rfl
    have hgl := goneN_le nm N k
    have HKp := Lib.hid hkeep
    have HSt := Lib.hid hstep
    have HGs := Lib.hid hgs
    have HGl := Lib.hid hgl
    clear hkeep hxm hstep hgs hx hs3 hk' hgl
    cases hb : isN nm x with
    | true =>
      have hb' : (x.r.toList == nm.toList) = true := hb
      have HB := Lib.hid hb
      clear hb
      have HJ3 := Lib.hid (HJ2.out.turn ((Upd.refl (allOf A) W).drew) HJ2.out.ca.drew rfl)
      have hg0 : (0 : Int) ≤ (goneN nm N k : Int) := by omega
      have hg1 : (goneN nm N k : Int) ≤ 2000 := by have := HGl.out; have := HK.out; have := HN.out; omega
      have cc' : W.drew.cell? ⟨w0.heap.size, 0, none⟩ = some (ptr c) := cc
      gi_wp2_with fail
      gi_region
      all_goals
        gi_wp2_with fail
        refine ⟨trivial, (CallsIn.inRound _ (callsIn_wide.2 (drop_any HJ3.out.ca HKp.out))).mono ?_⟩
        rintro e w5 ⟨rfl, hca, hup⟩
        have hup' := DrJ.up HJ3.out hup (q := (goneN nm N k : Int) + 1) (by rw [HSt.out, HB.out]; simpa using hca) (by rw [HGs.out, HB.out]; simp)
        have HE := Lib.hid hup'.1
        have c5 : w5.cell? ⟨w0.heap.size + 2, 0, none⟩ = some (.int .i64 (goneN nm N k)) := (cell_of_row w5 _ 0 _ _ (0, 0) hup'.2).trans rfl
        have f5 : w5.frozen? ⟨w0.heap.size + 2, 0, none⟩ = false := frozen_of_row w5 _ 0 _ _ hup'.2
        clear hca hup hup'
        gi_wp2_with fail
        exact ⟨HE.out.loop, HE.out.put r⟩
    | false =>
      have hb' : (x.r.toList == nm.toList) = false := hb
      have HB := Lib.hid hb
      clear hb
      have HE := Lib.hid (show DrJ A B w0 c M s room h m g n N nm (w0.heap.size + 4 + 1) (busyR r) (k + 1) W.drew from HJ2.out.turn ((Upd.refl (allOf A) W).drew) (by rw [HSt.out, HB.out]; have := HJ2.out.ca.drew; rw [HKp.out] at this; simpa using this) (by rw [HGs.out, HB.out]; simp))
      gi_wp2_with fail
      gi_region
      all_goals
        gi_wp2_with fail
        exact ⟨HE.out.loop, HE.out.put r⟩
  · rintro e w4 ⟨⟨vr, rfl⟩, hJ4⟩
    refine ⟨⟨_, rfl⟩, hJ4.loop, ?_⟩
    have HJ5 := Lib.hid (hJ4.put { r with state := .exhausted })
    obtain ⟨w5, hw5⟩ : ∃ w5, w5 = w4.putObj (w0.heap.size + 4 + 1) (.loop { r with state := .exhausted }) := ⟨_, rfl⟩
    rw [← hw5] at HJ5 ⊢
    clear hw5 hJ4 hl0 hd0 hbb kk HBW G0 G1 G2 G3 hJ0 r1 r2 r3 r4 r5 r6
    have c4 : w5.cell? ⟨w0.heap.size + 2, 0, none⟩ = some (.int .i64 (goneN nm N (N.map (·.b)).length)) := (cell_of_row w5 _ 0 _ _ (0, 0) HJ5.out.cnt).trans rfl
    gi_wp2_with fail
    refine ⟨by simp, .inl ⟨_, _, rfl, run_takeDeferred (show w5.heap[w0.heap.size + 4]? = _ from HJ5.out.defs), ?_⟩⟩
    refine ⟨.int .i64 (goneN nm N (N.map (·.b)).length : Nat), by simp [results, Try.results19, go_sem], ?_, ?_, ?_⟩
    · simp
    · have e1 : (N.map (·.b)).length = N.length := by simp
      have := HJ5.out.ca.upd (Upd.putD (.deferred none) HJ5.out.defs) (fun i o hi e => by
        rcases hi with hi | hi
        · have := HJ5.out.ltA i hi; omega
        · have := HJ5.out.ltB i hi; omega)
      rw [e1, keepN_end] at this
      exact this
    · exact HJ5.out.upd.then (Upd.putD (.deferred none) HJ5.out.defs) (fun x o hx e => by omega)
end
end Go.Proofs.Ytdjebcfpodfhhaa

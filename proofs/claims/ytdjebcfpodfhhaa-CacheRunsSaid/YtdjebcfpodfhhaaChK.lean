/-
  Keys of a cache. (Printed by tools/mkchk.py.)
-/
import Derived.Test.YtdjebcfpodfhhaaChJ
namespace Go.Proofs.Ytdjebcfpodfhhaa
open Go Go.RowKit Go.Maps Go.WideMaps Go.Shelf

attribute [local go_sem] Oper.semAt_some

/-- The keys of a list of pages. -/
def keysN (N : List Nd) : List (ByteArray × Int) := N.map fun x => (x.r, x.i)
/-- What Keys leaves. -/
def KeysEnd (w : World) (N : List Nd) (e : Ending) (w' : World) : Prop :=
  ∃ v, e = .returned v ∧ w'.ownsRow w.heap.size 33 2 v N.length (rowK (keysN N)) ∧ Below w.heap.size w w'
theorem below_new (w : World) (o : Obj) : Below w.heap.size w (w.alloc o) := (Below.refl _ _).alloc (Nat.le_refl _) o
section
variable {A B : Nat → Prop} {w : World} {c M s n : Nat} {room h m g : Int} {N : List Nd}
theorem CaAt.links_at (H : CaAt A B w c M s room h m g n N) {k : Nat} (hk : k ≤ N.length) : w.cell? ⟨(s :: N.map (·.b)).getD k s, 4, none⟩ = some (ptr (blkAt (N.map (·.b)) s k)) := by
  have key : ∀ (a : Nat) (l : List Nat) (k : Nat), Links w (a :: (l ++ [s])) → k ≤ l.length → w.cell? ⟨(a :: l).getD k s, 4, none⟩ = some (ptr (l.getD k s)) := by
    intro a l
    induction l generalizing a with
    | nil =>
      intro k h hk
      obtain rfl : k = 0 := by simpa using hk
      exact h.1.1
    | cons b r ih =>
      intro k h hk
      cases k with
      | zero => exact h.1.1
      | succ k => exact ih b k h.2 (by simpa using hk)
  exact key s _ k H.links (by simpa using hk)
theorem CaAt.rd (H : CaAt A B w c M s room h m g n N) {W : World} {cb k : Nat} (hb : Below w.heap.size w W) (hbox : W.cell? ⟨cb, 0, none⟩ = some (ptr s)) (hk : k ≤ N.length) : RdP (N.map (·.b)) s cb k W := by
  have H' := H.below hb
  refine ⟨hbox, H'.kindP, fun hlt => ?_, fun h0 => ?_⟩
  · have hl : k < N.length := by simpa using hlt
    have := H'.links_at (k := k + 1) hl
    exact this
  · subst h0
    exact H'.links_at (k := 0) (Nat.zero_le _)
set_option maxRecDepth 100000 in
set_option maxHeartbeats 8000000 in
theorem keys_any (H : CaAt A B w c M s room h m g n N) (hN : N.length ≤ 2000) :
    Calls Try.prog 13 #[ptr c] w (KeysEnd w N) := by
  obtain ⟨i0, hi, hz0, hz1, hz2⟩ := info_parts infoPk
  have HM := Lib.hid (made_yes H)
  obtain ⟨-, -, -, c3, -, -, -⟩ := H.cells
  have lc := H.kindC.lt
  have HH := Lib.hid H
  have HN := Lib.hid hN
  clear H hN
  refine (callsIn_wide (n := 9)).1 ?_
  refine callsIn_of_wp_marks Try.func13 rfl trivial ?_ rfl
  simp only [Try.ntmps13, List.size_toArray, List.length_cons, List.length_nil, Nat.reduceAdd, Nat.reduceSub, Array.replicate_succ, Array.replicate_zero, List.push_toArray, List.append_toArray, List.nil_append, List.cons_append]
  gi_wp2_with fail
  refine ⟨trivial, (callsIn_wide.2 HM.out).mono ?_⟩
  rintro e w1 ⟨rfl, rfl⟩
  gi_wp2_with fail
  refine ⟨trivial, (callsIn_wide.2 (places_any _ s)).mono ?_⟩
  rintro e w1 ⟨rfl, rfl⟩
  gi_wp2_with fail
  obtain ⟨w3, hw3⟩ : ∃ w3, w3 = (w.alloc (.cells #[.slice none 0 0] 39)).alloc (.cells #[ptr s] 65) := ⟨_, rfl⟩
  have hs3 : w3.heap.size = w.heap.size + 2 := by rw [hw3]; simp
  have H0 := Lib.hid (show w3.heap[w.heap.size]? = some (.cells #[.slice none 0 0] 39 (0, 0)) by rw [hw3]; exact (Below.heap_alloc _ _ _ (by simp)).trans (heap_alloc_new w _))
  have H01 := Lib.hid (show w3.heap[w.heap.size + 1]? = some (.cells #[ptr s] 65 (0, 0)) by rw [hw3]; simpa using heap_alloc_new (w.alloc (.cells #[.slice none 0 0] 39)) (.cells #[ptr s] 65))
  have HB3 := Lib.hid (show Below w.heap.size w w3 by rw [hw3]; exact ((Below.refl _ _).alloc (Nat.le_refl _) _).alloc (by simp) _)
  have HL := Lib.hid (show w.heap.size ≤ w3.heap.size + 1 by omega)
  rw [← hw3]
  clear hw3
  refine range_wide (gf := 39) (lb := #[ptr (w.heap.size + 1)]) rfl (enters_of Try.func39 (by kernel_rfl) rfl) ?_
  intro r r1 r2 r3 r4 r5 r6
  have hl0 : ((w3.alloc (.deferred (some []))).alloc (.loop r)).heap[w3.heap.size + 1]? = some (.loop r) := by
    have := World.alloc_heap_new (w3.alloc (.deferred (some []))) (.loop r)
    rwa [World.size_alloc] at this
  have hd0 : ((w3.alloc (.deferred (some []))).alloc (.loop r)).heap[w3.heap.size]? = some (.deferred (some [])) := (Below.heap_alloc _ _ _ (by simp)).trans (World.alloc_heap_new w3 _)
  have hbb : Below w3.heap.size w3 ((w3.alloc (.deferred (some []))).alloc (.loop r)) := ((Below.refl _ _).alloc (Nat.le_refl _) _).alloc (by simp) _
  have kk : ∀ {k : Nat} {o : Obj}, w3.heap[k]? = some o → ((w3.alloc (.deferred (some []))).alloc (.loop r)).heap[k]? = some o := fun h => (hbb.block _ (Array.getElem?_eq_some_iff.1 h).1).trans h
  have HBW := Lib.hid (HB3.out.trans (hbb.mono HB3.out.size))
  have hJ0 : KeJ w w.heap.size (w.heap.size + 1) (w3.heap.size + 1) w3.heap.size s r (keysN (N.take 0)) ((w3.alloc (.deferred (some []))).alloc (.loop r)) := ⟨⟨_, kk H0.out, World.ownsRow_nil _ _ _ _⟩, kk H01.out, hl0, hd0, HBW.out⟩
  refine (places_in (w3.heap.size + 1) s (w.heap.size + 1) (N.map (·.b)) (List.nodup_cons.1 HH.out.nodupP).2 (List.nodup_cons.1 HH.out.nodupP).1 _ (fun k W => KeJ w w.heap.size (w.heap.size + 1) (w3.heap.size + 1) w3.heap.size s r (keysN (N.take k)) W) (fun k W hk hJ => HH.out.rd hJ.below ((cell_of_row W _ 0 _ _ (0, 0) hJ.box).trans rfl) (by simpa using hk)) ?_ hJ0).mono ?_
  · clear hl0 hd0 hbb kk HBW H0 H01 hJ0
    intro k W1 hk hJ0
    have hk' : k < N.length := by simpa using hk
    have HJ := Lib.hid hJ0
    refine yield_wide hJ0.loop r1 r2 (by rw [r3]; rfl) ?_
    clear hJ0 hk
    rw [r3, r4, r5, r6]
    clear r1 r2 r3 r4 r5 r6
    gi_wp2_with fail
    refine ⟨HJ.out.loop, ?_⟩
    obtain ⟨W, hW⟩ : ∃ W, W = W1.putObj (w3.heap.size + 1) (.loop (busyR r)) := ⟨_, rfl⟩
    have HJ2 := Lib.hid (show KeJ w w.heap.size (w.heap.size + 1) (w3.heap.size + 1) w3.heap.size s (busyR r) (keysN (N.take k)) W by rw [hW]; exact HJ.out.put _ HL.out)
    rw [← hW]
    clear hW HJ
    have ebk : blkAt (N.map (·.b)) s k = N[k].b := by
      unfold blkAt
      rw [List.getD_eq_getElem?_getD, List.getElem?_eq_getElem (by simpa using hk'), List.getElem_map]
      rfl
    rw [ebk]
    obtain ⟨x0, x1, -⟩ := (HH.out.below HJ2.out.below).els N[k] (List.getElem_mem hk')
    have xl := ((HH.out.below HJ2.out.below).kindP N[k].b (List.mem_cons_of_mem _ (List.mem_map_of_mem (List.getElem_mem hk')))).lt
    have HP := Lib.hid (show keysN (N.take (k + 1)) = keysN (N.take k) ++ [(N[k].r, N[k].i)] by
      unfold keysN
      rw [List.take_succ_eq_append_getElem hk', List.map_append]
      rfl)
    have HPl := Lib.hid (show (keysN (N.take k)).length + 1 ≤ maxLen ∧ ((keysN (N.take k)).length + 1) * 24 ≤ 140737488355328 by
      have := HN.out
      unfold keysN maxLen
      simp only [List.length_map, List.length_take]
      omega)
    rw [HP.out]
    clear HP ebk
    obtain ⟨x, hx⟩ : ∃ x, x = N[k] := ⟨_, rfl⟩
    obtain ⟨P, hP⟩ : ∃ P, P = keysN (N.take k) := ⟨_, rfl⟩
    rw [← hx] at x0 x1 xl ⊢
    rw [← hP] at HPl HJ2 ⊢
    clear hx hP hk'
    have HJ2 := Lib.hid (show KeJ w w.heap.size (w.heap.size + 1) (w3.heap.size + 1) w3.heap.size s (busyR r) P W.drew from HJ2.out.keep ((Below.refl _ _).drew))
    have x0 : W.drew.cell? ⟨x.b, 0, none⟩ = _ := x0
    have x1 : W.drew.cell? ⟨x.b, 1, none⟩ = _ := x1
    have xl : x.b < W.drew.heap.size := xl
    gi_wp2_with fail
    refine wpIn_region_any (by kernel_rfl) ?_
    try (change wpAnyIn _ _ _ _ _ _ _ _ _ (World.drew _))
    generalize World.drew W = W2 at *
    obtain ⟨vv, hv4, hrow⟩ := HJ2.out.rows
    have c4 : W2.cell? ⟨w.heap.size, 0, none⟩ = some vv := (cell_of_row W2 w.heap.size 0 _ _ (0, 0) hv4).trans rfl
    have vl : w.heap.size < W2.heap.size := (Array.getElem?_eq_some_iff.1 hv4).1
    have hb3 := below_new W2 (.cells #[.string x.r, .int .i64 x.i] 33)
    have HJ3 := Lib.hid (HJ2.out.keep hb3)
    have HR3 := Lib.hid (own_belowD hrow hb3)
    have HV3 := Lib.hid ((hb3.block _ (Array.getElem?_eq_some_iff.1 hv4).1).trans hv4)
    have HY := Lib.hid (show ∀ j u, [Value.string x.r, .int .i64 x.i][j]? = some u → (W2.alloc (.cells #[.string x.r, .int .i64 x.i] 33)).cell? ((⟨W2.heap.size, 0, none⟩ : Addr).add j) = some u from fun j u hu => by
      rw [addr_add, Nat.zero_add]
      exact (cell_of_row _ W2.heap.size j _ _ (0, 0) (heap_alloc_new W2 _)).trans (by simpa using hu))
    have HY1 := Lib.hid (show ∀ u ∈ [Value.string x.r, .int .i64 x.i], u.oneCell' = true from fun u hu => by
      simp only [List.mem_cons, List.not_mem_nil, or_false] at hu
      rcases hu with rfl | rfl <;> rfl)
    clear hb3 hv4 hrow hs3 HJ2
    refine wpAnyIn_ready (rs := [0, 1]) (by kernel_rfl) (by simp) ?_
    refine AllReadyIn.cons rfl (fun K hK => ?_) ?_
    · go_simp
      refine hK _ _ ?_
      clear hK K
      refine wpAnyIn_ready (rs := [1]) (by kernel_rfl) (by simp) ?_
      refine AllReadyIn.cons rfl (fun K hK => ?_) ?_
      · go_simp
        refine hK _ _ ?_
        clear hK K
        refine wpAnyIn_ready (rs := [2]) (by kernel_rfl) (by simp) ?_
        refine AllReadyIn.cons rfl (fun K hK => ?_) ?_
        · go_simp
          refine hK _ _ ?_
          clear hK K
          refine wpAnyIn_ready (rs := [3]) (by kernel_rfl) (by simp) ?_
          refine AllReadyIn.cons rfl (fun K hK => ?_) ?_
          · go_simp
            refine hK _ _ ?_
            clear hK K
            refine wpAnyIn_ready (rs := [4]) (by kernel_rfl) (by simp) ?_
            refine AllReadyIn.cons rfl (fun K hK => ?_) ?_
            · go_simp
              refine hK _ _ ?_
              clear hK K
              refine wpAnyIn_ready (rs := [5]) (by kernel_rfl) (by simp) ?_
              refine AllReadyIn.cons rfl (fun K hK => ?_) ?_
              · go_simp
                refine hK _ _ ?_
                clear hK K
                refine wpAnyIn_ready (rs := [6]) (by kernel_rfl) (by simp) ?_
                refine AllReadyIn.cons rfl (fun K hK => ?_) ?_
                · go_simp
                  refine hK _ _ ?_
                  clear hK K
                  refine wpAnyIn_ready (rs := [7]) (by kernel_rfl) (by simp) ?_
                  refine AllReadyIn.cons rfl (fun K hK => ?_) ?_
                  · (refine stepIn_append rfl (.tmp 14) (.tmp 20) 39 rfl w.heap.size 33 i0 _ 2 24 Try.underlying39 hi hz0 hz1 hz2 rfl (by decide) vv P.length (rowK P) rfl HR3.out ⟨W2.heap.size, 0, none⟩ 1 1 [.string x.r, .int .i64 x.i] rfl rfl HY.out HY1.out HPl.out.1 HPl.out.2 HJ3.out.below.size ?_; intro v5 w5 ho5 hg5; have hst := KeJ.step (x := (x.r, x.i)) HJ3.out HV3.out HR3.out hg5 (by rw [List.length_append, List.length_singleton, rowK_snoc]; exact ho5) (Nat.le_refl _); have HQ := Lib.hid hst.2; have c5 : w5.cell? ⟨w.heap.size, 0, none⟩ = some vv := (cell_of_row w5 w.heap.size 0 _ _ (0, 0) hst.1).trans rfl; have f5 := frozen_of_row w5 w.heap.size 0 _ _ hst.1; obtain ⟨g5, cap5, e5⟩ := ownsRow_succ ho5; subst e5; clear hst ho5 hg5)
                    refine hK _ _ ?_
                    clear hK K
                    refine wpAnyIn_ready (rs := [8]) (by kernel_rfl) (by simp) ?_
                    refine AllReadyIn.cons rfl (fun K hK => ?_) ?_
                    · go_simp
                      refine hK _ _ ?_
                      clear hK K
                      refine wpAnyIn_done (by kernel_rfl) ?_ _
                      (gi_wp2; exact ⟨HQ.out.loop, HQ.out.put r HL.out⟩)
                    exact AllReadyIn.nil
                  exact AllReadyIn.nil
                exact AllReadyIn.nil
              exact AllReadyIn.nil
            exact AllReadyIn.nil
          exact AllReadyIn.nil
        exact AllReadyIn.nil
      exact AllReadyIn.nil
    refine AllReadyIn.cons rfl (fun K hK => ?_) ?_
    · go_simp
      refine hK _ _ ?_
      clear hK K
      refine wpAnyIn_ready (rs := [0, 2]) (by kernel_rfl) (by simp) ?_
      refine AllReadyIn.cons rfl (fun K hK => ?_) ?_
      · go_simp
        refine hK _ _ ?_
        clear hK K
        refine wpAnyIn_ready (rs := [2]) (by kernel_rfl) (by simp) ?_
        refine AllReadyIn.cons rfl (fun K hK => ?_) ?_
        · go_simp
          refine hK _ _ ?_
          clear hK K
          refine wpAnyIn_ready (rs := [3]) (by kernel_rfl) (by simp) ?_
          refine AllReadyIn.cons rfl (fun K hK => ?_) ?_
          · go_simp
            refine hK _ _ ?_
            clear hK K
            refine wpAnyIn_ready (rs := [4]) (by kernel_rfl) (by simp) ?_
            refine AllReadyIn.cons rfl (fun K hK => ?_) ?_
            · go_simp
              refine hK _ _ ?_
              clear hK K
              refine wpAnyIn_ready (rs := [5]) (by kernel_rfl) (by simp) ?_
              refine AllReadyIn.cons rfl (fun K hK => ?_) ?_
              · go_simp
                refine hK _ _ ?_
                clear hK K
                refine wpAnyIn_ready (rs := [6]) (by kernel_rfl) (by simp) ?_
                refine AllReadyIn.cons rfl (fun K hK => ?_) ?_
                · go_simp
                  refine hK _ _ ?_
                  clear hK K
                  refine wpAnyIn_ready (rs := [7]) (by kernel_rfl) (by simp) ?_
                  refine AllReadyIn.cons rfl (fun K hK => ?_) ?_
                  · (refine stepIn_append rfl (.tmp 14) (.tmp 20) 39 rfl w.heap.size 33 i0 _ 2 24 Try.underlying39 hi hz0 hz1 hz2 rfl (by decide) vv P.length (rowK P) rfl HR3.out ⟨W2.heap.size, 0, none⟩ 1 1 [.string x.r, .int .i64 x.i] rfl rfl HY.out HY1.out HPl.out.1 HPl.out.2 HJ3.out.below.size ?_; intro v5 w5 ho5 hg5; have hst := KeJ.step (x := (x.r, x.i)) HJ3.out HV3.out HR3.out hg5 (by rw [List.length_append, List.length_singleton, rowK_snoc]; exact ho5) (Nat.le_refl _); have HQ := Lib.hid hst.2; have c5 : w5.cell? ⟨w.heap.size, 0, none⟩ = some vv := (cell_of_row w5 w.heap.size 0 _ _ (0, 0) hst.1).trans rfl; have f5 := frozen_of_row w5 w.heap.size 0 _ _ hst.1; obtain ⟨g5, cap5, e5⟩ := ownsRow_succ ho5; subst e5; clear hst ho5 hg5)
                    refine hK _ _ ?_
                    clear hK K
                    refine wpAnyIn_ready (rs := [8]) (by kernel_rfl) (by simp) ?_
                    refine AllReadyIn.cons rfl (fun K hK => ?_) ?_
                    · go_simp
                      refine hK _ _ ?_
                      clear hK K
                      refine wpAnyIn_done (by kernel_rfl) ?_ _
                      (gi_wp2; exact ⟨HQ.out.loop, HQ.out.put r HL.out⟩)
                    exact AllReadyIn.nil
                  exact AllReadyIn.nil
                exact AllReadyIn.nil
              exact AllReadyIn.nil
            exact AllReadyIn.nil
          exact AllReadyIn.nil
        exact AllReadyIn.nil
      refine AllReadyIn.cons rfl (fun K hK => ?_) ?_
      · go_simp
        refine hK _ _ ?_
        clear hK K
        refine wpAnyIn_ready (rs := [0, 3]) (by kernel_rfl) (by simp) ?_
        refine AllReadyIn.cons rfl (fun K hK => ?_) ?_
        · go_simp
          refine hK _ _ ?_
          clear hK K
          refine wpAnyIn_ready (rs := [3]) (by kernel_rfl) (by simp) ?_
          refine AllReadyIn.cons rfl (fun K hK => ?_) ?_
          · go_simp
            refine hK _ _ ?_
            clear hK K
            refine wpAnyIn_ready (rs := [4]) (by kernel_rfl) (by simp) ?_
            refine AllReadyIn.cons rfl (fun K hK => ?_) ?_
            · go_simp
              refine hK _ _ ?_
              clear hK K
              refine wpAnyIn_ready (rs := [5]) (by kernel_rfl) (by simp) ?_
              refine AllReadyIn.cons rfl (fun K hK => ?_) ?_
              · go_simp
                refine hK _ _ ?_
                clear hK K
                refine wpAnyIn_ready (rs := [6]) (by kernel_rfl) (by simp) ?_
                refine AllReadyIn.cons rfl (fun K hK => ?_) ?_
                · go_simp
                  refine hK _ _ ?_
                  clear hK K
                  refine wpAnyIn_ready (rs := [7]) (by kernel_rfl) (by simp) ?_
                  refine AllReadyIn.cons rfl (fun K hK => ?_) ?_
                  · (refine stepIn_append rfl (.tmp 14) (.tmp 20) 39 rfl w.heap.size 33 i0 _ 2 24 Try.underlying39 hi hz0 hz1 hz2 rfl (by decide) vv P.length (rowK P) rfl HR3.out ⟨W2.heap.size, 0, none⟩ 1 1 [.string x.r, .int .i64 x.i] rfl rfl HY.out HY1.out HPl.out.1 HPl.out.2 HJ3.out.below.size ?_; intro v5 w5 ho5 hg5; have hst := KeJ.step (x := (x.r, x.i)) HJ3.out HV3.out HR3.out hg5 (by rw [List.length_append, List.length_singleton, rowK_snoc]; exact ho5) (Nat.le_refl _); have HQ := Lib.hid hst.2; have c5 : w5.cell? ⟨w.heap.size, 0, none⟩ = some vv := (cell_of_row w5 w.heap.size 0 _ _ (0, 0) hst.1).trans rfl; have f5 := frozen_of_row w5 w.heap.size 0 _ _ hst.1; obtain ⟨g5, cap5, e5⟩ := ownsRow_succ ho5; subst e5; clear hst ho5 hg5)
                    refine hK _ _ ?_
                    clear hK K
                    refine wpAnyIn_ready (rs := [8]) (by kernel_rfl) (by simp) ?_
                    refine AllReadyIn.cons rfl (fun K hK => ?_) ?_
                    · go_simp
                      refine hK _ _ ?_
                      clear hK K
                      refine wpAnyIn_done (by kernel_rfl) ?_ _
                      (gi_wp2; exact ⟨HQ.out.loop, HQ.out.put r HL.out⟩)
                    exact AllReadyIn.nil
                  exact AllReadyIn.nil
                exact AllReadyIn.nil
              exact AllReadyIn.nil
            exact AllReadyIn.nil
          exact AllReadyIn.nil
        refine AllReadyIn.cons rfl (fun K hK => ?_) ?_
        · go_simp
          refine hK _ _ ?_
          clear hK K
          refine wpAnyIn_ready (rs := [0, 4]) (by kernel_rfl) (by simp) ?_
          refine AllReadyIn.cons rfl (fun K hK => ?_) ?_
          · go_simp
            refine hK _ _ ?_
            clear hK K
            refine wpAnyIn_ready (rs := [4]) (by kernel_rfl) (by simp) ?_
            refine AllReadyIn.cons rfl (fun K hK => ?_) ?_
            · go_simp
              refine hK _ _ ?_
              clear hK K
              refine wpAnyIn_ready (rs := [5]) (by kernel_rfl) (by simp) ?_
              refine AllReadyIn.cons rfl (fun K hK => ?_) ?_
              · go_simp
                refine hK _ _ ?_
                clear hK K
                refine wpAnyIn_ready (rs := [6]) (by kernel_rfl) (by simp) ?_
                refine AllReadyIn.cons rfl (fun K hK => ?_) ?_
                · go_simp
                  refine hK _ _ ?_
                  clear hK K
                  refine wpAnyIn_ready (rs := [7]) (by kernel_rfl) (by simp) ?_
                  refine AllReadyIn.cons rfl (fun K hK => ?_) ?_
                  · (refine stepIn_append rfl (.tmp 14) (.tmp 20) 39 rfl w.heap.size 33 i0 _ 2 24 Try.underlying39 hi hz0 hz1 hz2 rfl (by decide) vv P.length (rowK P) rfl HR3.out ⟨W2.heap.size, 0, none⟩ 1 1 [.string x.r, .int .i64 x.i] rfl rfl HY.out HY1.out HPl.out.1 HPl.out.2 HJ3.out.below.size ?_; intro v5 w5 ho5 hg5; have hst := KeJ.step (x := (x.r, x.i)) HJ3.out HV3.out HR3.out hg5 (by rw [List.length_append, List.length_singleton, rowK_snoc]; exact ho5) (Nat.le_refl _); have HQ := Lib.hid hst.2; have c5 : w5.cell? ⟨w.heap.size, 0, none⟩ = some vv := (cell_of_row w5 w.heap.size 0 _ _ (0, 0) hst.1).trans rfl; have f5 := frozen_of_row w5 w.heap.size 0 _ _ hst.1; obtain ⟨g5, cap5, e5⟩ := ownsRow_succ ho5; subst e5; clear hst ho5 hg5)
                    refine hK _ _ ?_
                    clear hK K
                    refine wpAnyIn_ready (rs := [8]) (by kernel_rfl) (by simp) ?_
                    refine AllReadyIn.cons rfl (fun K hK => ?_) ?_
                    · go_simp
                      refine hK _ _ ?_
                      clear hK K
                      refine wpAnyIn_done (by kernel_rfl) ?_ _
                      (gi_wp2; exact ⟨HQ.out.loop, HQ.out.put r HL.out⟩)
                    exact AllReadyIn.nil
                  exact AllReadyIn.nil
                exact AllReadyIn.nil
              exact AllReadyIn.nil
            exact AllReadyIn.nil
          refine AllReadyIn.cons rfl (fun K hK => ?_) ?_
          · go_simp
            refine hK _ _ ?_
            clear hK K
            refine wpAnyIn_ready (rs := [0, 5]) (by kernel_rfl) (by simp) ?_
            refine AllReadyIn.cons rfl (fun K hK => ?_) ?_
            · go_simp
              refine hK _ _ ?_
              clear hK K
              refine wpAnyIn_ready (rs := [5]) (by kernel_rfl) (by simp) ?_
              refine AllReadyIn.cons rfl (fun K hK => ?_) ?_
              · go_simp
                refine hK _ _ ?_
                clear hK K
                refine wpAnyIn_ready (rs := [6]) (by kernel_rfl) (by simp) ?_
                refine AllReadyIn.cons rfl (fun K hK => ?_) ?_
                · go_simp
                  refine hK _ _ ?_
                  clear hK K
                  refine wpAnyIn_ready (rs := [7]) (by kernel_rfl) (by simp) ?_
                  refine AllReadyIn.cons rfl (fun K hK => ?_) ?_
                  · (refine stepIn_append rfl (.tmp 14) (.tmp 20) 39 rfl w.heap.size 33 i0 _ 2 24 Try.underlying39 hi hz0 hz1 hz2 rfl (by decide) vv P.length (rowK P) rfl HR3.out ⟨W2.heap.size, 0, none⟩ 1 1 [.string x.r, .int .i64 x.i] rfl rfl HY.out HY1.out HPl.out.1 HPl.out.2 HJ3.out.below.size ?_; intro v5 w5 ho5 hg5; have hst := KeJ.step (x := (x.r, x.i)) HJ3.out HV3.out HR3.out hg5 (by rw [List.length_append, List.length_singleton, rowK_snoc]; exact ho5) (Nat.le_refl _); have HQ := Lib.hid hst.2; have c5 : w5.cell? ⟨w.heap.size, 0, none⟩ = some vv := (cell_of_row w5 w.heap.size 0 _ _ (0, 0) hst.1).trans rfl; have f5 := frozen_of_row w5 w.heap.size 0 _ _ hst.1; obtain ⟨g5, cap5, e5⟩ := ownsRow_succ ho5; subst e5; clear hst ho5 hg5)
                    refine hK _ _ ?_
                    clear hK K
                    refine wpAnyIn_ready (rs := [8]) (by kernel_rfl) (by simp) ?_
                    refine AllReadyIn.cons rfl (fun K hK => ?_) ?_
                    · go_simp
                      refine hK _ _ ?_
                      clear hK K
                      refine wpAnyIn_done (by kernel_rfl) ?_ _
                      (gi_wp2; exact ⟨HQ.out.loop, HQ.out.put r HL.out⟩)
                    exact AllReadyIn.nil
                  exact AllReadyIn.nil
                exact AllReadyIn.nil
              exact AllReadyIn.nil
            refine AllReadyIn.cons rfl (fun K hK => ?_) ?_
            · go_simp
              refine hK _ _ ?_
              clear hK K
              refine wpAnyIn_ready (rs := [0, 6]) (by kernel_rfl) (by simp) ?_
              refine AllReadyIn.cons rfl (fun K hK => ?_) ?_
              · go_simp
                refine hK _ _ ?_
                clear hK K
                refine wpAnyIn_ready (rs := [6]) (by kernel_rfl) (by simp) ?_
                refine AllReadyIn.cons rfl (fun K hK => ?_) ?_
                · go_simp
                  refine hK _ _ ?_
                  clear hK K
                  refine wpAnyIn_ready (rs := [7]) (by kernel_rfl) (by simp) ?_
                  refine AllReadyIn.cons rfl (fun K hK => ?_) ?_
                  · (refine stepIn_append rfl (.tmp 14) (.tmp 20) 39 rfl w.heap.size 33 i0 _ 2 24 Try.underlying39 hi hz0 hz1 hz2 rfl (by decide) vv P.length (rowK P) rfl HR3.out ⟨W2.heap.size, 0, none⟩ 1 1 [.string x.r, .int .i64 x.i] rfl rfl HY.out HY1.out HPl.out.1 HPl.out.2 HJ3.out.below.size ?_; intro v5 w5 ho5 hg5; have hst := KeJ.step (x := (x.r, x.i)) HJ3.out HV3.out HR3.out hg5 (by rw [List.length_append, List.length_singleton, rowK_snoc]; exact ho5) (Nat.le_refl _); have HQ := Lib.hid hst.2; have c5 : w5.cell? ⟨w.heap.size, 0, none⟩ = some vv := (cell_of_row w5 w.heap.size 0 _ _ (0, 0) hst.1).trans rfl; have f5 := frozen_of_row w5 w.heap.size 0 _ _ hst.1; obtain ⟨g5, cap5, e5⟩ := ownsRow_succ ho5; subst e5; clear hst ho5 hg5)
                    refine hK _ _ ?_
                    clear hK K
                    refine wpAnyIn_ready (rs := [8]) (by kernel_rfl) (by simp) ?_
                    refine AllReadyIn.cons rfl (fun K hK => ?_) ?_
                    · go_simp
                      refine hK _ _ ?_
                      clear hK K
                      refine wpAnyIn_done (by kernel_rfl) ?_ _
                      (gi_wp2; exact ⟨HQ.out.loop, HQ.out.put r HL.out⟩)
                    exact AllReadyIn.nil
                  exact AllReadyIn.nil
                exact AllReadyIn.nil
              refine AllReadyIn.cons rfl (fun K hK => ?_) ?_
              · go_simp
                refine hK _ _ ?_
                clear hK K
                refine wpAnyIn_ready (rs := [0]) (by kernel_rfl) (by simp) ?_
                refine AllReadyIn.cons rfl (fun K hK => ?_) ?_
                · go_simp
                  refine hK _ _ ?_
                  clear hK K
                  refine wpAnyIn_ready (rs := [7]) (by kernel_rfl) (by simp) ?_
                  refine AllReadyIn.cons rfl (fun K hK => ?_) ?_
                  · (refine stepIn_append rfl (.tmp 14) (.tmp 20) 39 rfl w.heap.size 33 i0 _ 2 24 Try.underlying39 hi hz0 hz1 hz2 rfl (by decide) vv P.length (rowK P) rfl HR3.out ⟨W2.heap.size, 0, none⟩ 1 1 [.string x.r, .int .i64 x.i] rfl rfl HY.out HY1.out HPl.out.1 HPl.out.2 HJ3.out.below.size ?_; intro v5 w5 ho5 hg5; have hst := KeJ.step (x := (x.r, x.i)) HJ3.out HV3.out HR3.out hg5 (by rw [List.length_append, List.length_singleton, rowK_snoc]; exact ho5) (Nat.le_refl _); have HQ := Lib.hid hst.2; have c5 : w5.cell? ⟨w.heap.size, 0, none⟩ = some vv := (cell_of_row w5 w.heap.size 0 _ _ (0, 0) hst.1).trans rfl; have f5 := frozen_of_row w5 w.heap.size 0 _ _ hst.1; obtain ⟨g5, cap5, e5⟩ := ownsRow_succ ho5; subst e5; clear hst ho5 hg5)
                    refine hK _ _ ?_
                    clear hK K
                    refine wpAnyIn_ready (rs := [8]) (by kernel_rfl) (by simp) ?_
                    refine AllReadyIn.cons rfl (fun K hK => ?_) ?_
                    · go_simp
                      refine hK _ _ ?_
                      clear hK K
                      refine wpAnyIn_done (by kernel_rfl) ?_ _
                      (gi_wp2; exact ⟨HQ.out.loop, HQ.out.put r HL.out⟩)
                    exact AllReadyIn.nil
                  exact AllReadyIn.nil
                exact AllReadyIn.nil
              exact AllReadyIn.nil
            exact AllReadyIn.nil
          exact AllReadyIn.nil
        exact AllReadyIn.nil
      exact AllReadyIn.nil
    exact AllReadyIn.nil
  · rintro e w4 ⟨⟨vr, rfl⟩, hJ4⟩
    refine ⟨⟨_, rfl⟩, hJ4.loop, ?_⟩
    have HJ5 := Lib.hid (hJ4.put { r with state := .exhausted } HL.out)
    obtain ⟨w5, hw5⟩ : ∃ w5, w5 = w4.putObj (w3.heap.size + 1) (.loop { r with state := .exhausted }) := ⟨_, rfl⟩
    rw [← hw5] at HJ5 ⊢
    clear hw5 hJ4 hl0 hd0 hbb kk HBW H0 H01 hJ0 r1 r2 r3 r4 r5 r6
    obtain ⟨v5, hv5, hrow⟩ := HJ5.out.rows
    have HR := Lib.hid hrow
    have c4 : w5.cell? ⟨w.heap.size, 0, none⟩ = some v5 := (cell_of_row w5 w.heap.size 0 _ _ (0, 0) hv5).trans rfl
    clear hv5 hrow
    gi_wp2_with fail
    refine ⟨by simp, .inl ⟨_, _, rfl, run_takeDeferred (show w5.heap[w3.heap.size]? = _ from HJ5.out.defs), ?_⟩⟩
    have hD : w5.heap[w3.heap.size]? = some (.deferred (some [])) := HJ5.out.defs
    refine ⟨_, by simp [results, Try.results13, go_sem], v5, rfl, ?_, ?_⟩
    · have e1 : (N.map (·.b)).length = N.length := by simp
      have e2 : (keysN (N.take N.length)).length = N.length := by rw [List.take_length]; simp [keysN]
      have h5 := own_putCells HR.out (grownBy_putObj' w5 w3.heap.size (.deferred none)) (fun b e => by cases e; exact ⟨_, hD, rfl⟩)
      rw [e1, e2, List.take_length] at h5
      exact h5
    · exact HJ5.out.below.trans ((Below.refl _ _).grown (grownBy_putObj' _ _ _) HJ5.out.below.size (fun k e => by cases e; exact HB3.out.size))
end
end Go.Proofs.Ytdjebcfpodfhhaa

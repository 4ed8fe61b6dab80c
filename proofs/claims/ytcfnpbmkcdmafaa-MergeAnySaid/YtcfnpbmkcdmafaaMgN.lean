/-
  The walk of merge.Merge.
-/
import Derived.Test.YtcfnpbmkcdmafaaMgM
import Derived.Deep.RegionHeld3
namespace Go.Proofs.Ytcfnpbmkcdmafaa
open Go Go.RowKit Go.Shelf

set_option maxRecDepth 100000 in
set_option maxHeartbeats 4000000 in
theorem merge_any {C : List CurC} {Y0 S : Nat → Prop} {w : World} {v : Value} (h : Curs C Y0 w) (hv : CurIn S w v (C.map (·.1))) (hC : C.length ≤ 1000) :
    Calls Try.prog 21 #[cmpFn, v] w (MergeEnd C Y0 w) := by
  have hmf : ∀ (fn : Fn) (first cap : Array Value) (w : World), (Instr.makeFunc fn first cap).run Try.prog w = .ok (.func fn first cap) w := fun _ _ _ _ => rfl
  have q1 := eqlCmp
  have HY := Lib.hid h.1
  have HC := Lib.hid hC
  have H0 : Hid (MgJ C Y0 w 0 (.slice none 0 0) ((w.alloc (.cells #[cmpFn] 42)).alloc (.cells #[.slice none 0 0] 86))) := Lib.hid (by
    obtain ⟨a1, F, a2, a3, a4⟩ := h
    have hb : Below w.heap.size w ((w.alloc (.cells #[cmpFn] 42)).alloc (.cells #[.slice none 0 0] 86)) := ((Below.refl _ _).alloc (Nat.le_refl _) _).alloc (by simp) _
    refine ⟨[], ⟨rfl, fun s e => (by cases e), F, fun i s _ e => (by simp at e), fun i hi _ => (a2 i hi).keep hb.size (fun x e => hb.block x ((a2 i hi).inside x e)), a3, fun i k hi e => ⟨.inl (a4 i k hi e), Nat.lt_of_lt_of_le ((a2 i hi).inside k e) hb.size⟩⟩, World.ownsRow_nil _ _ _ _, ?_, ?_, hb⟩
    · exact (Below.heap_alloc _ _ _ (by simp)).trans (heap_alloc_new w _)
    · have := heap_alloc_new (w.alloc (.cells #[cmpFn] 42)) (.cells #[.slice none 0 0] 86)
      rwa [World.size_alloc] at this)
  obtain ⟨p, c, rfl, hc1, hc2, hrow⟩ := hv
  rw [List.length_map] at hc1 ⊢
  have HR := Lib.hid hrow
  clear h hrow
  obtain ⟨i0, hi, hz0, hz1, hz2⟩ := info_parts infoPs
  go_enter Try.func21, Try.ntmps21
  go_wp2_with fail
  go_loopw [13] (fun i wr => ∃ n v, n ≤ C.length ∧ i = .int .i64 (n : Nat) ∧ Hid (MgJ C Y0 w n v wr)) (fun i _ => C.length - (intOf i).toNat)
  case atStart => exact ⟨0, _, Nat.zero_le _, rfl, H0⟩
  case round =>
    obtain ⟨n, v, hn, rfl, HJ⟩ := hrel
    by_cases hlt : n < C.length
    · have hlt' : (n : Int) < (C.length : Int) := by omega
      obtain ⟨ss, j1, j2, j3, j4, j5⟩ := HJ.out
      have HJ0 := Lib.hid (fun (w5 : World) (gg cap : Nat) (o3 : Obj) => MgJ.step (w5 := w5) (gg := gg) (cap := cap) (o3 := o3) j1 j2 j3 j4 j5 hlt HY.out)
      obtain ⟨co, hco⟩ : ∃ co, co = C[n].1 := ⟨_, rfl⟩
      rcases HR.out with h0 | ⟨b, off, rfl, -, hbl, hcell⟩
      · rw [List.map_eq_nil_iff] at h0; rw [h0] at hlt; simp at hlt
      have hcl : wr.cell? ⟨b, off + n, none⟩ = some (curO co) := by
        have h1 := hcell n (by simpa using hlt)
        rw [List.getElem_map, ← hco] at h1
        exact (j5.cell (p := ⟨b, _, none⟩) hbl).trans h1
      rw [← hco] at HJ0
      clear hco
      have hsz : w.heap.size + 1 < wr.heap.size := (Array.getElem?_eq_some_iff.1 j4).1
      have k4 := cell_of_row wr _ 0 _ _ (0, 0) j4
      have f4 := frozen_of_row wr _ 0 _ _ j4
      have k5 : ((wr.alloc (.cells #[nextO co] 83)).alloc (.cells #[nextO co, .int .i8 0, .int .i64 0, .bool false] 115)).drew.cell? ⟨w.heap.size + 1, 0, none⟩ = some v := by
        rw [World.cell?_drew, World.cell?_alloc_lt _ _ _ (by simp only [World.size_alloc]; omega), World.cell?_alloc_lt _ _ _ hsz]; exact k4
      have k6 : (((wr.alloc (.cells #[nextO co] 83)).alloc (.cells #[nextO co, .int .i8 0, .int .i64 0, .bool false] 115)).alloc (.cells #[.pointer (some ⟨wr.heap.size + 1, 0, none⟩)] 87)).drew.cell? ⟨w.heap.size + 1, 0, none⟩ = some v := by
        rw [World.cell?_drew, World.cell?_alloc_lt _ _ _ (by simp only [World.size_alloc]; omega), World.cell?_alloc_lt _ _ _ (by simp only [World.size_alloc]; omega), World.cell?_alloc_lt _ _ _ hsz]; exact k4
      have HOff := Lib.hid (MgJ.off j1 j2)
      have how : (((wr.drew.alloc (.cells #[nextO co] 83)).alloc (.cells #[nextO co, .int .i8 0, .int .i64 0, .bool false] 115)).alloc (.cells #[.pointer (some ⟨wr.heap.size + 1, 0, none⟩)] 87)).ownsRow (w.heap.size + 2) 87 1 v n (ss.map ptrV) := ((World.ownsRow.alloc j2.drew _).alloc _).alloc _
      have HW := Lib.hid how
      have HJ4 := Lib.hid j4
      clear j1 j2 j3 j4 j5 how hcell
      have hcs : ∀ w5 : World, (((wr.drew.alloc (.cells #[nextO co] 83)).alloc (.cells #[nextO co, .int .i8 0, .int .i64 0, .bool false] 115)).alloc (.cells #[.pointer (some ⟨wr.heap.size + 1, 0, none⟩)] 87)).grownBy w5 v.ownBlock → w5.heap[w.heap.size + 1]? = some (.cells #[v] 86 (0, 0)) := fun w5 hg => by
        have hd : wr.drew.heap.size = wr.heap.size := rfl
        refine (hg.block _ (by simp only [World.size_alloc]; omega) (fun e => by have := (HOff.out _ e.symm).1; omega)).trans ((Below.heap_alloc _ _ _ (by simp only [World.size_alloc]; omega)).trans ((Below.heap_alloc _ _ _ (by simp only [World.size_alloc]; omega)).trans ((Below.heap_alloc _ _ _ (by omega)).trans HJ4.out)))
      have HCS := Lib.hid hcs
      clear hcs
      have o1 : n + 1 ≤ maxLen := by have := HC.out; unfold maxLen; omega
      have o2 : (n + 1) * 8 ≤ 140737488355328 := by have := HC.out; omega
      have o3 : w.heap.size + 2 ≤ (((wr.drew.alloc (.cells #[nextO co] 83)).alloc (.cells #[nextO co, .int .i8 0, .int .i64 0, .bool false] 115)).alloc (.cells #[.pointer (some ⟨wr.heap.size + 1, 0, none⟩)] 87)).heap.size := by
        simp only [World.size_alloc]; have hd : wr.drew.heap.size = wr.heap.size := rfl; omega
      have o4 : (((wr.drew.alloc (.cells #[nextO co] 83)).alloc (.cells #[nextO co, .int .i8 0, .int .i64 0, .bool false] 115)).alloc (.cells #[.pointer (some ⟨wr.heap.size + 1, 0, none⟩)] 87)).heap.size = wr.heap.size + 3 := by
        simp only [World.size_alloc]; rfl
      go_wp2_with fail
      have hnews : ∀ j u, ([ptrV (wr.heap.size + 1)] : List Value)[j]? = some u → (((wr.drew.alloc (.cells #[nextO co] 83)).alloc (.cells #[nextO co, .int .i8 0, .int .i64 0, .bool false] 115)).alloc (.cells #[.pointer (some ⟨wr.heap.size + 1, 0, none⟩)] 87)).cell? ((⟨wr.heap.size + 2, 0, none⟩ : Addr).add j) = some u := by
        intro j u hu
        have e : ((wr.drew.alloc (.cells #[nextO co] 83)).alloc (.cells #[nextO co, .int .i8 0, .int .i64 0, .bool false] 115)).heap.size = wr.heap.size + 2 := by simp only [World.size_alloc]; rfl
        have hb := heap_alloc_new ((wr.drew.alloc (.cells #[nextO co] 83)).alloc (.cells #[nextO co, .int .i8 0, .int .i64 0, .bool false] 115)) (.cells #[.pointer (some ⟨wr.heap.size + 1, 0, none⟩)] 87)
        rw [e] at hb
        rw [addr_add, cell_of_row _ _ _ _ _ (0, 0) hb, Nat.zero_add]
        match j, hu with
        | 0, hu => cases hu; rfl
      have HNw := Lib.hid hnews
      clear hnews
      refine wp_region_held_drew (S := fun _ => True) (by kernel_rfl) trivial (fun _ => ?_)
      refine wpAnyH_ready (rs := [0, 1]) (by kernel_rfl) (by simp) ?_
      refine AllReadyH.cons rfl (fun K hK => ?_) (AllReadyH.cons rfl (fun K hK => ?_) AllReadyH.nil)
      · go_simp
        refine hK.out _ _ trivial (fun _ => ?_)
        clear hK K
        refine wpAnyH_ready (rs := [1]) (by kernel_rfl) (by simp) ?_
        refine AllReadyH.cons rfl (fun K hK => ?_) AllReadyH.nil
        go_simp
        refine hK.out _ _ trivial (fun _ => ?_)
        clear hK K
        refine wpAnyH_ready (rs := [2]) (by kernel_rfl) (by simp) ?_
        refine AllReadyH.cons rfl (fun K hK => ?_) AllReadyH.nil
        go_simp
        refine (sourceOf_o co wr.drew).mono ?_
        rintro e w4 ⟨rfl, rfl⟩
        refine hK.out _ _ trivial (fun _ => ?_)
        clear hK K
        refine wpAnyH_ready (rs := [3]) (by kernel_rfl) (by simp) ?_
        refine AllReadyH.cons rfl (fun K hK => ?_) AllReadyH.nil
        go_simp
        refine hK.out _ _ trivial (fun _ => ?_)
        clear hK K
        refine wpAnyH_ready (rs := [4]) (by kernel_rfl) (by simp) ?_
        refine AllReadyH.cons rfl (fun K hK => ?_) AllReadyH.nil
        refine step_append_lies _ (by rfl) _ _ _ (by rfl) (w.heap.size + 2) 87 i0 (.pointer none) 1 8 Try.underlying86 hi hz0 hz1 hz2 rfl (by decide) v n (ss.map ptrV) (by rfl) HW.out ⟨wr.heap.size + 2, 0, none⟩ 1 1 [ptrV (wr.heap.size + 1)] (by rfl) (by rfl) HNw.out (by intro u hu; simp only [List.mem_singleton] at hu; subst hu; rfl) (by decide) o1 o2 o3 (wr.heap.size + 3) o4 ?_
        intro gg cap w5 how5 hgrow5 hloc5 hlt5
        have HEn := Lib.hid (HJ0.out w5 gg cap _ how5 hgrow5)
        have hcs5 := HCS.out w5 hgrow5
        have cs5 := cell_of_row w5 _ 0 _ _ (0, 0) hcs5
        have fs5 := frozen_of_row w5 _ 0 _ _ hcs5
        clear hcs5 how5 hgrow5 hloc5 hlt5
        refine hK.out _ _ trivial (fun _ => ?_)
        clear hK K
        refine wpAnyH_ready (rs := [5]) (by kernel_rfl) (by simp) ?_
        refine AllReadyH.cons rfl (fun K hK => ?_) AllReadyH.nil
        go_simp
        refine hK.out _ _ trivial (fun _ => ?_)
        clear hK K
        refine wpAnyH_done (by kernel_rfl) ?_ _
        go_wp2_with fail
        go_roundw
        case rel => exact ⟨n + 1, _, hlt, by simp, HEn⟩
        case measure => simp [intOf]; omega
      · go_simp
        refine hK.out _ _ trivial (fun _ => ?_)
        clear hK K
        refine wpAnyH_ready (rs := [0, 2]) (by kernel_rfl) (by simp) ?_
        refine AllReadyH.cons rfl (fun K hK => ?_) (AllReadyH.cons rfl (fun K hK => ?_) AllReadyH.nil)
        · go_simp
          refine hK.out _ _ trivial (fun _ => ?_)
          clear hK K
          refine wpAnyH_ready (rs := [2]) (by kernel_rfl) (by simp) ?_
          refine AllReadyH.cons rfl (fun K hK => ?_) AllReadyH.nil
          go_simp
          refine (sourceOf_o co wr.drew).mono ?_
          rintro e w4 ⟨rfl, rfl⟩
          refine hK.out _ _ trivial (fun _ => ?_)
          clear hK K
          refine wpAnyH_ready (rs := [3]) (by kernel_rfl) (by simp) ?_
          refine AllReadyH.cons rfl (fun K hK => ?_) AllReadyH.nil
          go_simp
          refine hK.out _ _ trivial (fun _ => ?_)
          clear hK K
          refine wpAnyH_ready (rs := [4]) (by kernel_rfl) (by simp) ?_
          refine AllReadyH.cons rfl (fun K hK => ?_) AllReadyH.nil
          refine step_append_lies _ (by rfl) _ _ _ (by rfl) (w.heap.size + 2) 87 i0 (.pointer none) 1 8 Try.underlying86 hi hz0 hz1 hz2 rfl (by decide) v n (ss.map ptrV) (by rfl) HW.out ⟨wr.heap.size + 2, 0, none⟩ 1 1 [ptrV (wr.heap.size + 1)] (by rfl) (by rfl) HNw.out (by intro u hu; simp only [List.mem_singleton] at hu; subst hu; rfl) (by decide) o1 o2 o3 (wr.heap.size + 3) o4 ?_
          intro gg cap w5 how5 hgrow5 hloc5 hlt5
          have HEn := Lib.hid (HJ0.out w5 gg cap _ how5 hgrow5)
          have hcs5 := HCS.out w5 hgrow5
          have cs5 := cell_of_row w5 _ 0 _ _ (0, 0) hcs5
          have fs5 := frozen_of_row w5 _ 0 _ _ hcs5
          clear hcs5 how5 hgrow5 hloc5 hlt5
          refine hK.out _ _ trivial (fun _ => ?_)
          clear hK K
          refine wpAnyH_ready (rs := [5]) (by kernel_rfl) (by simp) ?_
          refine AllReadyH.cons rfl (fun K hK => ?_) AllReadyH.nil
          go_simp
          refine hK.out _ _ trivial (fun _ => ?_)
          clear hK K
          refine wpAnyH_done (by kernel_rfl) ?_ _
          go_wp2_with fail
          go_roundw
          case rel => exact ⟨n + 1, _, hlt, by simp, HEn⟩
          case measure => simp [intOf]; omega
        · go_simp
          refine (sourceOf_o co wr.drew).mono ?_
          rintro e w4 ⟨rfl, rfl⟩
          refine hK.out _ _ trivial (fun _ => ?_)
          clear hK K
          refine wpAnyH_ready (rs := [0, 3]) (by kernel_rfl) (by simp) ?_
          refine AllReadyH.cons rfl (fun K hK => ?_) (AllReadyH.cons rfl (fun K hK => ?_) AllReadyH.nil)
          · go_simp
            refine hK.out _ _ trivial (fun _ => ?_)
            clear hK K
            refine wpAnyH_ready (rs := [3]) (by kernel_rfl) (by simp) ?_
            refine AllReadyH.cons rfl (fun K hK => ?_) AllReadyH.nil
            go_simp
            refine hK.out _ _ trivial (fun _ => ?_)
            clear hK K
            refine wpAnyH_ready (rs := [4]) (by kernel_rfl) (by simp) ?_
            refine AllReadyH.cons rfl (fun K hK => ?_) AllReadyH.nil
            refine step_append_lies _ (by rfl) _ _ _ (by rfl) (w.heap.size + 2) 87 i0 (.pointer none) 1 8 Try.underlying86 hi hz0 hz1 hz2 rfl (by decide) v n (ss.map ptrV) (by rfl) HW.out ⟨wr.heap.size + 2, 0, none⟩ 1 1 [ptrV (wr.heap.size + 1)] (by rfl) (by rfl) HNw.out (by intro u hu; simp only [List.mem_singleton] at hu; subst hu; rfl) (by decide) o1 o2 o3 (wr.heap.size + 3) o4 ?_
            intro gg cap w5 how5 hgrow5 hloc5 hlt5
            have HEn := Lib.hid (HJ0.out w5 gg cap _ how5 hgrow5)
            have hcs5 := HCS.out w5 hgrow5
            have cs5 := cell_of_row w5 _ 0 _ _ (0, 0) hcs5
            have fs5 := frozen_of_row w5 _ 0 _ _ hcs5
            clear hcs5 how5 hgrow5 hloc5 hlt5
            refine hK.out _ _ trivial (fun _ => ?_)
            clear hK K
            refine wpAnyH_ready (rs := [5]) (by kernel_rfl) (by simp) ?_
            refine AllReadyH.cons rfl (fun K hK => ?_) AllReadyH.nil
            go_simp
            refine hK.out _ _ trivial (fun _ => ?_)
            clear hK K
            refine wpAnyH_done (by kernel_rfl) ?_ _
            go_wp2_with fail
            go_roundw
            case rel => exact ⟨n + 1, _, hlt, by simp, HEn⟩
            case measure => simp [intOf]; omega
          · go_simp
            refine hK.out _ _ trivial (fun _ => ?_)
            clear hK K
            refine wpAnyH_ready (rs := [0]) (by kernel_rfl) (by simp) ?_
            refine AllReadyH.cons rfl (fun K hK => ?_) AllReadyH.nil
            go_simp
            refine hK.out _ _ trivial (fun _ => ?_)
            clear hK K
            refine wpAnyH_ready (rs := [4]) (by kernel_rfl) (by simp) ?_
            refine AllReadyH.cons rfl (fun K hK => ?_) AllReadyH.nil
            refine step_append_lies _ (by rfl) _ _ _ (by rfl) (w.heap.size + 2) 87 i0 (.pointer none) 1 8 Try.underlying86 hi hz0 hz1 hz2 rfl (by decide) v n (ss.map ptrV) (by rfl) HW.out ⟨wr.heap.size + 2, 0, none⟩ 1 1 [ptrV (wr.heap.size + 1)] (by rfl) (by rfl) HNw.out (by intro u hu; simp only [List.mem_singleton] at hu; subst hu; rfl) (by decide) o1 o2 o3 (wr.heap.size + 3) o4 ?_
            intro gg cap w5 how5 hgrow5 hloc5 hlt5
            have HEn := Lib.hid (HJ0.out w5 gg cap _ how5 hgrow5)
            have hcs5 := HCS.out w5 hgrow5
            have cs5 := cell_of_row w5 _ 0 _ _ (0, 0) hcs5
            have fs5 := frozen_of_row w5 _ 0 _ _ hcs5
            clear hcs5 how5 hgrow5 hloc5 hlt5
            refine hK.out _ _ trivial (fun _ => ?_)
            clear hK K
            refine wpAnyH_ready (rs := [5]) (by kernel_rfl) (by simp) ?_
            refine AllReadyH.cons rfl (fun K hK => ?_) AllReadyH.nil
            go_simp
            refine hK.out _ _ trivial (fun _ => ?_)
            clear hK K
            refine wpAnyH_done (by kernel_rfl) ?_ _
            go_wp2_with fail
            go_roundw
            case rel => exact ⟨n + 1, _, hlt, by simp, HEn⟩
            case measure => simp [intOf]; omega
    · obtain rfl : n = C.length := by omega
      obtain ⟨ss, j1, j2, j3, j4, j5⟩ := HJ.out
      obtain ⟨Y, hY1, hY2⟩ := HJ.out.done HY.out HC.out
      have HT := Lib.hid hY1.tells
      have HYY := Lib.hid hY2
      have HB := Lib.hid j5
      clear j1 j2 j3 j4 j5 hY1 hY2
      go_wp2_with fail
      refine (cursor_any _ _ _).mono ?_
      rintro e w2 ⟨rfl, rfl⟩
      go_wp2_with fail
      go_ret
      refine ⟨_, _, rfl, made_new 83 (Fv.clo _ _ (enters_of Try.func52 (by kernel_rfl) rfl)) HT.out, ?_, HB.out.alloc HB.out.size _⟩
      rintro k (rfl | e)
      · exact .inr HB.out.size
      · exact HYY.out k e
end Go.Proofs.Ytcfnpbmkcdmafaa

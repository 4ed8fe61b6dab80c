/-
  The document's Compare at wide tuples.
  The document's Same at entries with themselves.
  The law's entry, and whether runs are alive.
-/
import Derived.Test.YtdjhfcopnhcljaaGreatDoorW26
import Derived.Test.YtdjhfcopnhcljaaGreatDoorW06
import Derived.Shelf.SlSortCmp.QuietGrown
import Derived.BigQuiet
import Derived.IntWalk
import Derived.Laws.OwnMore
import Derived.Test.YtdjhfcopnhcljaaGreatDoorW46
namespace Go.Proofs.YtdjhfcopnhcljaaGreatDoor
section
open Go Go.RowKit

theorem TupS.some {S : Nat → Prop} {w : World} {v : Value} {T : List V3} (h : TupS S w v T) {k : Nat} (hk : k < T.length) : ∃ b off cap, v = .slice (some ⟨b, off, none⟩) T.length cap ∧ S b ∧ CellsAt w b off T := by
  obtain ⟨p, cap, rfl, -, h | ⟨b, off, rfl, hb, hc⟩⟩ := h
  · subst h
    simp at hk
  · exact ⟨b, off, cap, rfl, hb, hc⟩
set_option maxHeartbeats 2000000 in
set_option maxRecDepth 100000 in
theorem rcompareS_any (v1 v2 : Value) (T1 T2 : List V3) (w : World) (h1 : TupS (fun k => k < w.heap.size) w v1 T1) (h2 : TupS (fun k => k < w.heap.size) w v2 T2) :
    Calls Tryz.prog 31 #[v1, v2] w fun e w' => e = .returned (.int .i64 (cmpT T1 T2)) ∧ Grown w w' := by
  have H1 := Lib.hid h1
  have H2 := Lib.hid h2
  obtain ⟨p1, c1, rfl, l1, q1⟩ := h1
  obtain ⟨p2, c2, rfl, l2, q2⟩ := h2
  clear q1 q2
  have mixed : Tryz.prog.follows .mixedOrders = true := by kernel_rfl
  go_enter Tryz.func31, Tryz.ntmps31
  go_wp2_with fail
  go_loopw [5] (fun i wr => ∃ k : Nat, k ≤ T1.length ∧ k ≤ T2.length ∧ i = .int .i64 k ∧ Hid (cmpT T1 T2 = cmpT (T1.drop k) (T2.drop k)) ∧ Hid (Grown w wr)) (fun i _ => T1.length - (intOf i).toNat)
  case atStart => exact ⟨0, Nat.zero_le _, Nat.zero_le _, rfl, Lib.hid rfl, Lib.hid (Grown.refl _)⟩
  case round =>
    obtain ⟨k, hk, hk2, rfl, hrest, hg⟩ := hrel
    have h0 : (0 : Int) ≤ (k : Int) := by omega
    by_cases hlt : k < T1.length
    · have hlt' : (k : Int) < (T1.length : Int) := by omega
      by_cases hlt2 : k < T2.length
      · have hlt2' : (k : Int) < (T2.length : Int) := by omega
        obtain ⟨b1, o1, cc1, hv1, hb1, hc1⟩ := H1.out.some hlt
        obtain ⟨b2, o2, cc2, hv2, hb2, hc2⟩ := H2.out.some hlt2
        injection hv1 with hp1 _ hcap1
        injection hv2 with hp2 _ hcap2
        subst hp1 hcap1 hp2 hcap2
        have hsz := hg.out.size
        have cell1 : ∀ n os, (Sort.grow (wr.drewN n) os).cell? ⟨b1, o1 + k * 3, none⟩ = some (.int .i64 T1[k].k) ∧ (Sort.grow (wr.drewN n) os).cell? ⟨b1, o1 + k * 3 + 1, none⟩ = some (.int .i64 T1[k].n) ∧ (Sort.grow (wr.drewN n) os).cell? ⟨b1, o1 + k * 3 + 2, none⟩ = some (.string T1[k].s) := fun n os => (hc1.below (hg.out.trans ⟨n, os, rfl⟩).below (by omega)) k hlt
        have cell2 : ∀ n os, (Sort.grow (wr.drewN n) os).cell? ⟨b2, o2 + k * 3, none⟩ = some (.int .i64 T2[k].k) ∧ (Sort.grow (wr.drewN n) os).cell? ⟨b2, o2 + k * 3 + 1, none⟩ = some (.int .i64 T2[k].n) ∧ (Sort.grow (wr.drewN n) os).cell? ⟨b2, o2 + k * 3 + 2, none⟩ = some (.string T2[k].s) := fun n os => (hc2.below (hg.out.trans ⟨n, os, rfl⟩).below (by omega)) k hlt2
        have x0 := fun n os => (cell1 n os).1
        have x1 := fun n os => (cell1 n os).2.1
        have x2 := fun n os => (cell1 n os).2.2
        have y0 := fun n os => (cell2 n os).1
        have y1 := fun n os => (cell2 n os).2.1
        have y2 := fun n os => (cell2 n os).2.2
        clear cell1 cell2 hc1 hc2
        obtain ⟨c, hc⟩ : ∃ c, c = cmp3 T1[k] T2[k] := ⟨_, rfl⟩
        have HC : Hid (∀ n os, Calls Tryz.prog 87 #[.agg #[.int .i64 T1[k].k, .int .i64 T1[k].n, .string T1[k].s], .agg #[.int .i64 T2[k].k, .int .i64 T2[k].n, .string T2[k].s]] (Sort.grow (wr.drewN n) os) fun e w' => e = .returned (.int .i64 c) ∧ ∃ q os', w' = Sort.grow ((Sort.grow (wr.drewN n) os).drewN q) os') := Lib.hid (by rw [hc]; exact fun n os => ref_compare_grown _ _ _ _ _ _ _)
        have HR := Lib.hid (cmpT_drop_lt hlt hlt2)
        rw [← hc] at HR
        clear hc
        cases h0c : (c != 0) with
        | true =>
          have hc0 : c ≠ 0 := by simpa using h0c
          rw [if_neg hc0] at HR
          go_wp2_with fail
          go_quiet_grown ((go_at_call 87; exact Calls.grown_of (HC.out _ _)))
          go_wp2
          go_ret
          exact ⟨ret_int (hrest.out.trans HR.out).symm, hg.out.trans ⟨nq, osq, rfl⟩⟩
        | false =>
          have hc0 : c = 0 := by simpa using h0c
          rw [if_pos hc0] at HR
          have HN := Lib.hid (hrest.out.trans HR.out)
          clear hc0
          go_wp2_with fail
          go_quiet_grown ((go_at_call 87; exact Calls.grown_of (HC.out _ _)))
          go_wp2
          go_roundw
          case rel => exact ⟨k + 1, by omega, by omega, by go_num, HN, Lib.hid (hg.out.trans ⟨nq, osq, rfl⟩)⟩
          case measure => simp [intOf]; omega
      · obtain rfl : k = T2.length := by omega
        have hge : (T2.length : Int) ≤ (T2.length : Int) := by omega
        have HR := Lib.hid (hrest.out.trans (cmpT_drop_over hlt (Nat.le_refl _)))
        go_wp2_with fail
        go_ret
        exact ⟨ret_int HR.out.symm, hg.out⟩
    · obtain rfl : k = T1.length := by omega
      have HR := Lib.hid (hrest.out.trans (cmpT_drop_end (b := T2) rfl))
      by_cases hlen : T1.length < T2.length
      · have hlen' : (T1.length : Int) < (T2.length : Int) := by omega
        rw [if_pos hlen] at HR
        go_wp2_with fail
        go_ret
        exact ⟨ret_int HR.out.symm, hg.out⟩
      · have hlen' : (T2.length : Int) ≤ (T1.length : Int) := by omega
        have hlen2 : (T1.length : Int) ≤ (T2.length : Int) := by omega
        rw [if_neg hlen] at HR
        go_wp2_with fail
        go_ret
        exact ⟨ret_int HR.out.symm, hg.out⟩
open Go Go.RowKit

end
section
open Go Go.RowKit

set_option maxHeartbeats 2000000 in
set_option maxRecDepth 100000 in
theorem rsame_en (v1 v2 : Value) (E : List Ct) (w : World) (h1 : EnIn w.heap.size w v1 E) (h2 : EnIn w.heap.size w v2 E) (hE : E.length ≤ 1000000) :
    Calls Tryz.prog 17 #[v1, v2] w fun e w' => e = .returned (.bool true) ∧ Grown w w' := by
  obtain ⟨p1, cap1, e1, -⟩ := id h1
  obtain ⟨p2, cap2, e2, -⟩ := id h2
  subst e1 e2
  have H1 := Lib.hid h1
  have H2 := Lib.hid h2
  clear h1 h2
  have mixed : Tryz.prog.follows .mixedOrders = true := by kernel_rfl
  obtain ⟨n, hn⟩ : ∃ n, n = E.length := ⟨_, rfl⟩
  rw [← hn] at H1 H2 hE ⊢
  have HN := Lib.hid hn
  clear hn
  go_enter Tryz.func17, Tryz.ntmps17
  go_wp2_with fail
  go_loopw [5] (fun i wr => ∃ k : Nat, k ≤ n ∧ i = .int .i64 k ∧ Hid (Grown w wr)) (fun i _ => n - (intOf i).toNat)
  case atStart => exact ⟨0, Nat.zero_le _, rfl, Lib.hid (Grown.refl _)⟩
  case round =>
    obtain ⟨k, hk, rfl, hg⟩ := hrel
    have h0 : (0 : Int) ≤ (k : Int) := by omega
    by_cases hlt : k < n
    · have hlt' : (k : Int) < (n : Int) := by omega
      have hkE : k < E.length := by rw [← HN.out]; exact hlt
      obtain ⟨b1, o1, q1, c1, hp1, hb1, u1, u2, t1⟩ := H1.out.at_ hkE
      obtain ⟨b2, o2, q2, c2, hp2, hb2, u3, u4, t2⟩ := H2.out.at_ hkE
      subst hp1 hp2
      have hsz := hg.out.size
      generalize E[k] = x at *
      obtain ⟨T, m⟩ := x
      simp only at u1 u2 u3 u4 t1 t2
      have hbel : ∀ n os, Below w.heap.size w (Sort.grow (wr.drewN n) os) := fun n os => (hg.out.trans ⟨n, os, rfl⟩).below
      have x0 : ∀ n os, (Sort.grow (wr.drewN n) os).cell? ⟨b1, o1 + k * 2, none⟩ = some (.slice q1 T.length c1) := fun n os => ((hbel n os).cell (p := ⟨b1, _, none⟩) hb1).trans u1
      have x1 : ∀ n os, (Sort.grow (wr.drewN n) os).cell? ⟨b1, o1 + k * 2 + 1, none⟩ = some (.int .i64 m) := fun n os => ((hbel n os).cell (p := ⟨b1, _, none⟩) hb1).trans u2
      have y0 : ∀ n os, (Sort.grow (wr.drewN n) os).cell? ⟨b2, o2 + k * 2, none⟩ = some (.slice q2 T.length c2) := fun n os => ((hbel n os).cell (p := ⟨b2, _, none⟩) hb2).trans u3
      have y1 : ∀ n os, (Sort.grow (wr.drewN n) os).cell? ⟨b2, o2 + k * 2 + 1, none⟩ = some (.int .i64 m) := fun n os => ((hbel n os).cell (p := ⟨b2, _, none⟩) hb2).trans u4
      have HC : Hid (∀ n os, Calls Tryz.prog 31 #[.slice q1 T.length c1, .slice q2 T.length c2] (Sort.grow (wr.drewN n) os) fun e w' => e = .returned (.int .i64 0) ∧ ∃ q os', w' = Sort.grow ((Sort.grow (wr.drewN n) os).drewN q) os') := Lib.hid (fun n os => by
        have := rcompareS_any _ _ T T (Sort.grow (wr.drewN n) os) ((t1.below (hbel n os)).mono (hbel n os).size).wide ((t2.below (hbel n os)).mono (hbel n os).size).wide
        rwa [cmpT_self] at this)
      obtain ⟨tl, htl⟩ : ∃ tl, tl = T.length := ⟨_, rfl⟩
      simp only [← htl] at x0 y0 HC
      clear u1 u2 u3 u4 t1 t2 hbel htl hkE
      go_wp2_with fail
      go_quiet_grown ((go_at_call 31; exact Calls.grown_of (HC.out _ _)))
      go_wp2
      go_roundw
      case rel => exact ⟨k + 1, by omega, by go_num, Lib.hid (hg.out.trans ⟨nq, osq, rfl⟩)⟩
      case measure => simp [intOf]; omega
    · obtain rfl : k = n := by omega
      go_wp2_with fail
      go_ret
      exact ⟨rfl, hg.out⟩
end
section
open Go Go.RowKit

/-- The law's entry. -/
def T5 : List V3 := [⟨1, 5, ⟨#[]⟩⟩]
def E5 : List Ct := [(T5, 1)]
theorem five_okT : OkT T5 := ⟨by decide, fun x hx => by
  have hx := List.mem_singleton.1 hx
  subst hx
  exact .inl ⟨rfl, by first | rfl | decide | (unfold ByteArray.toList ByteArray.toList.loop; rfl) | simp [ByteArray.toList, ByteArray.toList.loop]⟩⟩
theorem five_run : IsRun E5 := ⟨fun j hj _ => by
  match j, hj with
  | 0, _ => exact ⟨five_okT, show (1 : Int) ≠ 0 by decide⟩, fun j hj => by
  have hj : j + 1 < 1 := hj
  omega⟩
theorem five_kin : Kin E5 := fun c hc => by
  have hc := List.mem_singleton.1 hc
  subst hc
  refine ⟨fun x hx => ?_, by decide, by decide⟩
  have hx := List.mem_singleton.1 hx
  subst hx
  decide
theorem five_pages : pagesL E5 = [E5] := by
  unfold pagesL E5
  simp [pgRest]
theorem five_cnt : (cntL (T5, 1)).length ≤ 100 := by
  have e1 : (oneL ⟨1, 5, ⟨#[]⟩⟩).length ≤ 11 := by
    have := numL_len10 (x := zigN 5) (by decide)
    simp [oneL, intL]
    omega
  have e2 := numL_len10 (x := zigN 1) (by decide)
  simp [cntL, tupL, T5, intL]
  omega
theorem five_len : (runL E5).length ≤ 1000 := by
  have e1 := five_cnt
  have e2 := numL_len10 (x := 1) (by decide)
  have e3 : (pageL E5).length ≤ 150 := by
    unfold pageL
    rw [sealL_len, List.length_append, show E5.flatMap cntL = cntL (T5, 1) ++ [] from rfl, List.append_nil]
    have : (numL E5.length).length ≤ 10 := e2
    omega
  have e4 : (keyT T5).length ≤ 100 := by
    simp [keyT, T5, keyV, keyI, beL_len]
  have e5 := numL_len10 (x := (pageL E5).length) (by omega)
  have e6 := numL_len10 (x := (keyT T5).length) (by omega)
  have e7 : (spanL E5).length ≤ 150 := by
    unfold spanL textL
    have : headT E5 = T5 := rfl
    rw [this]
    simp
    omega
  have e8 : (indexL E5).length ≤ 200 := by
    unfold indexL
    rw [sealL_len, five_pages]
    simp [E5] at e7 ⊢
    omega
  have e9 : (tailL E5).length = 8 := by
    unfold tailL
    rw [sealL_len]
    rfl
  unfold runL
  rw [five_pages]
  simp
  omega
set_option maxRecDepth 100000 in
theorem five_any (w : World) : Calls Tryz.prog 47 #[] w fun e w' => ∃ b, w.heap.size ≤ b ∧ e = .returned (.agg #[.slice (some ⟨b, 0, none⟩) 1 1, .int .i64 1]) ∧ TupIn w'.heap.size w' (.slice (some ⟨b, 0, none⟩) 1 1) T5 ∧ Below w.heap.size w w' := by
  go_enter Tryz.func47, Tryz.ntmps47
  go_wp2_with fail
  obtain ⟨W, hW⟩ : ∃ W, W = ((w.alloc (.cells #[.slice (some ⟨w.heap.size + 1, 0, none⟩) 1 1, .int .i64 1] 66)).alloc (.cells #[.int .i64 1, .int .i64 5, .string ⟨#[]⟩] 92)) := ⟨_, rfl⟩
  have hb : Below w.heap.size w W := by rw [hW]; exact (below_new w _).alloc (by simp) _
  have hA : W.heap[w.heap.size]? = some (.cells #[.slice (some ⟨w.heap.size + 1, 0, none⟩) 1 1, .int .i64 1] 66 (0, 0)) := by
    rw [hW]
    exact (Below.heap_alloc _ _ _ (by simp only [World.size_alloc]; omega)).trans (World.alloc_heap_new w _)
  have hB : W.heap[w.heap.size + 1]? = some (.cells #[.int .i64 1, .int .i64 5, .string ⟨#[]⟩] 92 (0, 0)) := by
    rw [hW]
    have n1 := World.alloc_heap_new (w.alloc (.cells #[.slice (some ⟨w.heap.size + 1, 0, none⟩) 1 1, .int .i64 1] 66)) (.cells #[.int .i64 1, .int .i64 5, .string ⟨#[]⟩] 92)
    simp only [World.size_alloc] at n1
    exact n1
  obtain ⟨⟨r0, r1⟩, -⟩ := cells2R hA
  have ht : TupIn W.heap.size W (.slice (some ⟨w.heap.size + 1, 0, none⟩) 1 1) T5 := by
    obtain ⟨⟨a0, a1, a2⟩, -⟩ := cells3 hB
    refine ⟨_, _, rfl, by decide, .inr ⟨_, 0, rfl, (Array.getElem?_eq_some_iff.1 hB).1, fun j hj => ?_⟩⟩
    have hj : j < 1 := hj
    obtain rfl : j = 0 := by omega
    exact ⟨a0, a1, a2⟩
  rw [← hW]
  refine bodyPost_ret (v := .agg #[.slice (some ⟨w.heap.size + 1, 0, none⟩) 1 1, .int .i64 1]) (by simp [results, Tryz.results47, go_sem, r0, r1]) rfl ?_
  exact ⟨_, by omega, rfl, ht, hb⟩
end
end Go.Proofs.YtdjhfcopnhcljaaGreatDoor

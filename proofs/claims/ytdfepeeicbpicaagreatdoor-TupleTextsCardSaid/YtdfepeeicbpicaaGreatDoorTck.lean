/-
  Contracts of the document's own Check, Compare and Same at tuples.
-/
import Derived.Test.YtdfepeeicbpicaaGreatDoorTupC
import Derived.Test.YtdfepeeicbpicaaGreatDoorTck1
namespace Go.Proofs.YtdfepeeicbpicaaGreatDoor
open Go Go.RowKit

set_option maxHeartbeats 1000000 in
set_option maxRecDepth 100000 in
theorem rcheck_any (v : Value) (T : List V3) (n₀ : Nat) (w : World) (h : TupIn n₀ w v T) (hn : n₀ ≤ w.heap.size) :
    Calls Tryz.prog 12 #[v] w fun e w' => ((OkT T ∧ e = .returned (.int .i64 0)) ∨ (¬ OkT T ∧ e = .returned (.int .i64 20))) ∧ Below w.heap.size w w' := by
  have HT := Lib.hid h
  obtain ⟨p, cap, rfl, l1, q1⟩ := h
  by_cases h8 : T.length ≤ 8
  case neg =>
    have h8' : (8 : Int) < (T.length : Int) := by omega
    have HN : Hid (¬ OkT T) := Lib.hid fun h => h8 h.1
    clear q1 h8
    go_enter Tryz.func12, Tryz.ntmps12
    go_wp2_with fail
    go_ret
    exact ⟨.inr ⟨HN.out, rfl⟩, Below.refl _ _⟩
  have h8' : (T.length : Int) ≤ 8 := by omega
  clear q1
  go_enter Tryz.func12, Tryz.ntmps12
  go_wp2_with fail
  go_loopw [3] (fun i wr => ∃ k : Nat, k ≤ T.length ∧ i = .int .i64 k ∧ Hid (AllV (T.take k)) ∧ Hid (Below w.heap.size w wr)) (fun i _ => T.length - (intOf i).toNat)
  case atStart => exact ⟨0, Nat.zero_le _, rfl, Lib.hid (fun x hx => by cases hx), Lib.hid (Below.refl _ _)⟩
  case round =>
    obtain ⟨k, hk, rfl, hall, hB⟩ := hrel
    have h0 : (0 : Int) ≤ (k : Int) := by omega
    by_cases hlt : k < T.length
    · have hlt' : (k : Int) < (T.length : Int) := by omega
      obtain ⟨b, off, cap', hv, hb, hc⟩ := HT.out.some hlt
      injection hv with hp _ hcap
      subst hp hcap
      have hbw : b < w.heap.size := by omega
      have hbs := hB.out.size
      have hb' : b < wr.heap.size := by omega
      obtain ⟨x0, x1, x2⟩ := (hc.below hB.out hbw) k hlt
      clear hc
      by_cases hx : IsV T[k].k T[k].n T[k].s
      · have HA := Lib.hid (allV_take hall.out hlt hx)
        have HX := Lib.hid hx
        clear hx
        go_wp2_with fail
        refine (is_yes _ _ _ _ HX.out).mono ?_
        rintro e w1 ⟨rfl, hb1⟩
        go_wp2_with fail
        go_roundw
        case rel => exact ⟨k + 1, by omega, by go_num, HA, Lib.hid (hB.out.trans (hb1.mono hbs))⟩
        case measure => simp [intOf]; omega
      · have HN : Hid (¬ OkT T) := Lib.hid fun h => hx (h.2 _ (List.getElem_mem hlt))
        have HX := Lib.hid hx
        clear hx
        go_wp2_with fail
        refine (is_no _ _ _ _ HX.out).mono ?_
        rintro e w1 ⟨rfl, hb1⟩
        go_wp2_with fail
        go_ret
        exact ⟨.inr ⟨HN.out, rfl⟩, hB.out.trans (hb1.mono hbs)⟩
    · have hlt' : (T.length : Int) ≤ (k : Int) := by omega
      obtain rfl : k = T.length := by omega
      have HO : Hid (OkT T) := Lib.hid ⟨h8, by have := hall.out; rwa [List.take_length] at this⟩
      go_wp2_with fail
      go_ret
      exact ⟨.inl ⟨HO.out, rfl⟩, hB.out⟩

set_option maxHeartbeats 2000000 in
set_option maxRecDepth 100000 in
theorem rcompare_any (v1 v2 : Value) (T1 T2 : List V3) (n₀ : Nat) (w : World) (h1 : TupIn n₀ w v1 T1) (h2 : TupIn n₀ w v2 T2) (hn : n₀ ≤ w.heap.size) :
    Calls Tryz.prog 22 #[v1, v2] w fun e w' => e = .returned (.int .i64 (cmpT T1 T2)) ∧ Grown w w' := by
  have H1 := Lib.hid h1
  have H2 := Lib.hid h2
  obtain ⟨p1, c1, rfl, l1, q1⟩ := h1
  obtain ⟨p2, c2, rfl, l2, q2⟩ := h2
  clear q1 q2
  have mixed : Tryz.prog.follows .mixedOrders = true := by kernel_rfl
  go_enter Tryz.func22, Tryz.ntmps22
  go_wp2_with fail
  go_loopw [5] (fun i wr => ∃ k : Nat, k ≤ T1.length ∧ k ≤ T2.length ∧ i = .int .i64 k ∧ Hid (cmpT T1 T2 = cmpT (T1.drop k) (T2.drop k)) ∧ Hid (Grown w wr)) (fun i _ => T1.length - (intOf i).toNat)
  case atStart => exact ⟨0, Nat.zero_le _, Nat.zero_le _, rfl, Lib.hid rfl, Lib.hid (Grown.refl _)⟩
  case round =>
    obtain ⟨k, hk, hk2, rfl, hrest, hg⟩ := hrel
    have h0 : (0 : Int) ≤ (k : Int) := by omega
    by_cases hlt : k < T1.length
    · have hlt' : (k : Int) < (T1.length : Int) := by omega
      by_cases hlt2 : k < T2.length
      · have hlt2' : (k : Int) < (T2.length : Int) := by omega
        obtain ⟨b1, o1, cc1, hv1, hb1, hc1⟩ := H1.out.some hlt
        obtain ⟨b2, o2, cc2, hv2, hb2, hc2⟩ := H2.out.some hlt2
        injection hv1 with hp1 _ hcap1
        injection hv2 with hp2 _ hcap2
        subst hp1 hcap1 hp2 hcap2
        have hsz := hg.out.size
        have cell1 : ∀ n os, (Sort.grow (wr.drewN n) os).cell? ⟨b1, o1 + k * 3, none⟩ = some (.int .i64 T1[k].k) ∧ (Sort.grow (wr.drewN n) os).cell? ⟨b1, o1 + k * 3 + 1, none⟩ = some (.int .i64 T1[k].n) ∧ (Sort.grow (wr.drewN n) os).cell? ⟨b1, o1 + k * 3 + 2, none⟩ = some (.string T1[k].s) := fun n os => (hc1.below (hg.out.trans ⟨n, os, rfl⟩).below (by omega)) k hlt
        have cell2 : ∀ n os, (Sort.grow (wr.drewN n) os).cell? ⟨b2, o2 + k * 3, none⟩ = some (.int .i64 T2[k].k) ∧ (Sort.grow (wr.drewN n) os).cell? ⟨b2, o2 + k * 3 + 1, none⟩ = some (.int .i64 T2[k].n) ∧ (Sort.grow (wr.drewN n) os).cell? ⟨b2, o2 + k * 3 + 2, none⟩ = some (.string T2[k].s) := fun n os => (hc2.below (hg.out.trans ⟨n, os, rfl⟩).below (by omega)) k hlt2
        have x0 := fun n os => (cell1 n os).1
        have x1 := fun n os => (cell1 n os).2.1
        have x2 := fun n os => (cell1 n os).2.2
        have y0 := fun n os => (cell2 n os).1
        have y1 := fun n os => (cell2 n os).2.1
        have y2 := fun n os => (cell2 n os).2.2
        clear cell1 cell2 hc1 hc2
        obtain ⟨c, hc⟩ : ∃ c, c = cmp3 T1[k] T2[k] := ⟨_, rfl⟩
        have HC : Hid (∀ n os, Calls Tryz.prog 41 #[.agg #[.int .i64 T1[k].k, .int .i64 T1[k].n, .string T1[k].s], .agg #[.int .i64 T2[k].k, .int .i64 T2[k].n, .string T2[k].s]] (Sort.grow (wr.drewN n) os) fun e w' => e = .returned (.int .i64 c) ∧ ∃ q os', w' = Sort.grow ((Sort.grow (wr.drewN n) os).drewN q) os') := Lib.hid (by rw [hc]; exact fun n os => ref_compare_grown _ _ _ _ _ _ _)
        have HR := Lib.hid (cmpT_drop_lt hlt hlt2)
        rw [← hc] at HR
        clear hc
        cases h0c : (c != 0) with
        | true =>
          have hc0 : c ≠ 0 := by simpa using h0c
          rw [if_neg hc0] at HR
          go_wp2_with fail
          go_quiet_grown ((go_at_call 41; exact Calls.grown_of (HC.out _ _)))
          go_wp2
          go_ret
          exact ⟨ret_int (hrest.out.trans HR.out).symm, hg.out.trans ⟨nq, osq, rfl⟩⟩
        | false =>
          have hc0 : c = 0 := by simpa using h0c
          rw [if_pos hc0] at HR
          have HN := Lib.hid (hrest.out.trans HR.out)
          clear hc0
          go_wp2_with fail
          go_quiet_grown ((go_at_call 41; exact Calls.grown_of (HC.out _ _)))
          go_wp2
          go_roundw
          case rel => exact ⟨k + 1, by omega, by omega, by go_num, HN, Lib.hid (hg.out.trans ⟨nq, osq, rfl⟩)⟩
          case measure => simp [intOf]; omega
      · obtain rfl : k = T2.length := by omega
        have hge : (T2.length : Int) ≤ (T2.length : Int) := by omega
        have HR := Lib.hid (hrest.out.trans (cmpT_drop_over hlt (Nat.le_refl _)))
        go_wp2_with fail
        go_ret
        exact ⟨ret_int HR.out.symm, hg.out⟩
    · obtain rfl : k = T1.length := by omega
      have HR := Lib.hid (hrest.out.trans (cmpT_drop_end (b := T2) rfl))
      by_cases hlen : T1.length < T2.length
      · have hlen' : (T1.length : Int) < (T2.length : Int) := by omega
        rw [if_pos hlen] at HR
        go_wp2_with fail
        go_ret
        exact ⟨ret_int HR.out.symm, hg.out⟩
      · have hlen' : (T2.length : Int) ≤ (T1.length : Int) := by omega
        have hlen2 : (T1.length : Int) ≤ (T2.length : Int) := by omega
        rw [if_neg hlen] at HR
        go_wp2_with fail
        go_ret
        exact ⟨ret_int HR.out.symm, hg.out⟩
set_option maxHeartbeats 400000 in
theorem same_any (v1 v2 : Value) (T1 T2 : List V3) (n₀ : Nat) (w : World) (h1 : TupIn n₀ w v1 T1) (h2 : TupIn n₀ w v2 T2) (hn : n₀ ≤ w.heap.size) :
    Calls Tryz.prog 10 #[v1, v2] w fun e w' => e = .returned (.bool (cmpT T1 T2 == 0)) ∧ Grown w w' := by
  have H := Lib.hid (rcompare_any v1 v2 T1 T2 n₀ w h1 h2 hn)
  clear h1 h2
  go_enter Tryz.func10, Tryz.ntmps10
  go_wp2_with fail
  refine H.out.mono ?_
  rintro e w1 ⟨rfl, g1⟩
  go_wp2_with fail
  go_ret
  exact ⟨rfl, g1⟩
end Go.Proofs.YtdfepeeicbpicaaGreatDoor

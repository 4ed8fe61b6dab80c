/-
  Contracts of the document's own Is, Compare and Same at tuples (layer 3), and the sign of life of the pack laws.
-/
import Derived.Test.YthnpiafpkllbpaaPkC
namespace Go.Proofs.Ythnpiafpkllbpaa
open Go Go.RowKit

set_option maxHeartbeats 1000000 in
set_option maxRecDepth 100000 in
theorem ris_any (v : Value) (T : List V3) (n₀ : Nat) (w : World) (h : TupIn n₀ w v T) (hn : n₀ ≤ w.heap.size) :
    Calls Try.prog 23 #[v] w fun e w' => ((OkT T ∧ e = .returned (.bool true)) ∨ (¬ OkT T ∧ e = .returned (.bool false))) ∧ Below w.heap.size w w' := by
  have HT := Lib.hid h
  obtain ⟨p, cap, rfl, l1, q1⟩ := h
  clear q1
  go_enter Try.func23, Try.ntmps23
  go_wp2_with fail
  go_loopw [3] (fun i wr => ∃ k : Nat, k ≤ T.length ∧ i = .int .i64 k ∧ Hid (AllV (T.take k)) ∧ Hid (Below w.heap.size w wr)) (fun i _ => T.length - (intOf i).toNat)
  case atStart => exact ⟨0, Nat.zero_le _, rfl, Lib.hid (fun x hx => by cases hx), Lib.hid (Below.refl _ _)⟩
  case round =>
    obtain ⟨k, hk, rfl, hall, hB⟩ := hrel
    have h0 : (0 : Int) ≤ (k : Int) := by omega
    by_cases hlt : k < T.length
    · have hlt' : (k : Int) < (T.length : Int) := by omega
      obtain ⟨b, off, cap', hv, hb, hc⟩ := HT.out.some hlt
      injection hv with hp _ hcap
      subst hp hcap
      have hbw : b < w.heap.size := by omega
      have hbs := hB.out.size
      have hb' : b < wr.heap.size := by omega
      obtain ⟨x0, x1, x2⟩ := (hc.below hB.out hbw) k hlt
      clear hc
      by_cases hx : IsV T[k].k T[k].n T[k].s
      · have HA := Lib.hid (allV_take hall.out hlt hx)
        have HX := Lib.hid hx
        clear hx
        go_wp2_with fail
        refine (is_yes _ _ _ _ HX.out).mono ?_
        rintro e w1 ⟨rfl, hb1⟩
        go_wp2_with fail
        go_roundw
        case rel => exact ⟨k + 1, by omega, by go_num, HA, Lib.hid (hB.out.trans (hb1.mono hbs))⟩
        case measure => simp [intOf]; omega
      · have HN : Hid (¬ OkT T) := Lib.hid fun h => hx (h.2 _ (List.getElem_mem hlt))
        have HX := Lib.hid hx
        clear hx
        go_wp2_with fail
        refine (is_no _ _ _ _ HX.out).mono ?_
        rintro e w1 ⟨rfl, hb1⟩
        go_wp2_with fail
        go_ret
        exact ⟨.inr ⟨HN.out, rfl⟩, hB.out.trans (hb1.mono hbs)⟩
    · have hlt' : (T.length : Int) ≤ (k : Int) := by omega
      obtain rfl : k = T.length := by omega
      have HO : Hid (AllV T) := Lib.hid (by have := hall.out; rwa [List.take_length] at this)
      by_cases h8 : T.length ≤ 8
      · have h8' : (T.length : Int) ≤ 8 := by omega
        have HY : Hid (OkT T) := Lib.hid ⟨h8, HO.out⟩
        go_wp2_with fail
        go_ret
        exact ⟨.inl ⟨HY.out, by simp⟩, hB.out⟩
      · have h8' : (8 : Int) < (T.length : Int) := by omega
        have HY : Hid (¬ OkT T) := Lib.hid fun h => h8 h.1
        go_wp2_with fail
        go_ret
        exact ⟨.inr ⟨HY.out, by simp [*]⟩, hB.out⟩

set_option maxHeartbeats 2000000 in
set_option maxRecDepth 100000 in
theorem rcompare_any (v1 v2 : Value) (T1 T2 : List V3) (n₀ : Nat) (w : World) (h1 : TupIn n₀ w v1 T1) (h2 : TupIn n₀ w v2 T2) (hn : n₀ ≤ w.heap.size) :
    Calls Try.prog 37 #[v1, v2] w fun e w' => e = .returned (.int .i64 (cmpT T1 T2)) ∧ Grown w w' := by
  have H1 := Lib.hid h1
  have H2 := Lib.hid h2
  obtain ⟨p1, c1, rfl, l1, q1⟩ := h1
  obtain ⟨p2, c2, rfl, l2, q2⟩ := h2
  clear q1 q2
  have mixed : Try.prog.follows .mixedOrders = true := by kernel_rfl
  go_enter Try.func37, Try.ntmps37
  go_wp2_with fail
  go_loopw [5] (fun i wr => ∃ k : Nat, k ≤ T1.length ∧ k ≤ T2.length ∧ i = .int .i64 k ∧ Hid (cmpT T1 T2 = cmpT (T1.drop k) (T2.drop k)) ∧ Hid (Grown w wr)) (fun i _ => T1.length - (intOf i).toNat)
  case atStart => exact ⟨0, Nat.zero_le _, Nat.zero_le _, rfl, Lib.hid rfl, Lib.hid (Grown.refl _)⟩
  case round =>
    obtain ⟨k, hk, hk2, rfl, hrest, hg⟩ := hrel
    have h0 : (0 : Int) ≤ (k : Int) := by omega
    by_cases hlt : k < T1.length
    · have hlt' : (k : Int) < (T1.length : Int) := by omega
      by_cases hlt2 : k < T2.length
      · have hlt2' : (k : Int) < (T2.length : Int) := by omega
        obtain ⟨b1, o1, cc1, hv1, hb1, hc1⟩ := H1.out.some hlt
        obtain ⟨b2, o2, cc2, hv2, hb2, hc2⟩ := H2.out.some hlt2
        injection hv1 with hp1 _ hcap1
        injection hv2 with hp2 _ hcap2
        subst hp1 hcap1 hp2 hcap2
        have hsz := hg.out.size
        have cell1 : ∀ n os, (Sort.grow (wr.drewN n) os).cell? ⟨b1, o1 + k * 3, none⟩ = some (.int .i64 T1[k].k) ∧ (Sort.grow (wr.drewN n) os).cell? ⟨b1, o1 + k * 3 + 1, none⟩ = some (.int .i64 T1[k].n) ∧ (Sort.grow (wr.drewN n) os).cell? ⟨b1, o1 + k * 3 + 2, none⟩ = some (.string T1[k].s) := fun n os => (hc1.below (hg.out.trans ⟨n, os, rfl⟩).below (by omega)) k hlt
        have cell2 : ∀ n os, (Sort.grow (wr.drewN n) os).cell? ⟨b2, o2 + k * 3, none⟩ = some (.int .i64 T2[k].k) ∧ (Sort.grow (wr.drewN n) os).cell? ⟨b2, o2 + k * 3 + 1, none⟩ = some (.int .i64 T2[k].n) ∧ (Sort.grow (wr.drewN n) os).cell? ⟨b2, o2 + k * 3 + 2, none⟩ = some (.string T2[k].s) := fun n os => (hc2.below (hg.out.trans ⟨n, os, rfl⟩).below (by omega)) k hlt2
        have x0 := fun n os => (cell1 n os).1
        have x1 := fun n os => (cell1 n os).2.1
        have x2 := fun n os => (cell1 n os).2.2
        have y0 := fun n os => (cell2 n os).1
        have y1 := fun n os => (cell2 n os).2.1
        have y2 := fun n os => (cell2 n os).2.2
        clear cell1 cell2 hc1 hc2
        obtain ⟨c, hc⟩ : ∃ c, c = cmp3 T1[k] T2[k] := ⟨_, rfl⟩
        have HC : Hid (∀ n os, Calls Try.prog 53 #[.agg #[.int .i64 T1[k].k, .int .i64 T1[k].n, .string T1[k].s], .agg #[.int .i64 T2[k].k, .int .i64 T2[k].n, .string T2[k].s]] (Sort.grow (wr.drewN n) os) fun e w' => e = .returned (.int .i64 c) ∧ ∃ q os', w' = Sort.grow ((Sort.grow (wr.drewN n) os).drewN q) os') := Lib.hid (by rw [hc]; exact fun n os => ref_compare_grown _ _ _ _ _ _ _)
        have HR := Lib.hid (cmpT_drop_lt hlt hlt2)
        rw [← hc] at HR
        clear hc
        cases h0c : (c != 0) with
        | true =>
          have hc0 : c ≠ 0 := by simpa using h0c
          rw [if_neg hc0] at HR
          go_wp2_with fail
          go_quiet_grown ((go_at_call 53; exact Calls.grown_of (HC.out _ _)))
          go_wp2
          go_ret
          exact ⟨ret_int (hrest.out.trans HR.out).symm, hg.out.trans ⟨nq, osq, rfl⟩⟩
        | false =>
          have hc0 : c = 0 := by simpa using h0c
          rw [if_pos hc0] at HR
          have HN := Lib.hid (hrest.out.trans HR.out)
          clear hc0
          go_wp2_with fail
          go_quiet_grown ((go_at_call 53; exact Calls.grown_of (HC.out _ _)))
          go_wp2
          go_roundw
          case rel => exact ⟨k + 1, by omega, by omega, by go_num, HN, Lib.hid (hg.out.trans ⟨nq, osq, rfl⟩)⟩
          case measure => simp [intOf]; omega
      · obtain rfl : k = T2.length := by omega
        have hge : (T2.length : Int) ≤ (T2.length : Int) := by omega
        have HR := Lib.hid (hrest.out.trans (cmpT_drop_over hlt (Nat.le_refl _)))
        go_wp2_with fail
        go_ret
        exact ⟨ret_int HR.out.symm, hg.out⟩
    · obtain rfl : k = T1.length := by omega
      have HR := Lib.hid (hrest.out.trans (cmpT_drop_end (b := T2) rfl))
      by_cases hlen : T1.length < T2.length
      · have hlen' : (T1.length : Int) < (T2.length : Int) := by omega
        rw [if_pos hlen] at HR
        go_wp2_with fail
        go_ret
        exact ⟨ret_int HR.out.symm, hg.out⟩
      · have hlen' : (T2.length : Int) ≤ (T1.length : Int) := by omega
        have hlen2 : (T1.length : Int) ≤ (T2.length : Int) := by omega
        rw [if_neg hlen] at HR
        go_wp2_with fail
        go_ret
        exact ⟨ret_int HR.out.symm, hg.out⟩
set_option maxHeartbeats 400000 in
theorem same_any (v1 v2 : Value) (T1 T2 : List V3) (n₀ : Nat) (w : World) (h1 : TupIn n₀ w v1 T1) (h2 : TupIn n₀ w v2 T2) (hn : n₀ ≤ w.heap.size) :
    Calls Try.prog 14 #[v1, v2] w fun e w' => e = .returned (.bool (cmpT T1 T2 == 0)) ∧ Grown w w' := by
  have H := Lib.hid (rcompare_any v1 v2 T1 T2 n₀ w h1 h2 hn)
  clear h1 h2
  go_enter Try.func14, Try.ntmps14
  go_wp2_with fail
  refine H.out.mono ?_
  rintro e w1 ⟨rfl, g1⟩
  go_wp2_with fail
  go_ret
  exact ⟨rfl, g1⟩

/-- The tuple of the sign of life. -/
def lifeT : List V3 := [⟨1, 5, ⟨#[]⟩⟩, ⟨2, 0, ⟨#[97]⟩⟩]
theorem life_ok : OkT lifeT ∧ AllI lifeT := by
  refine ⟨⟨by decide, fun x hx => ?_⟩, fun x hx => ?_⟩
  · simp only [lifeT, List.mem_cons, List.not_mem_nil, or_false] at hx
    rcases hx with rfl | rfl
    · exact .inl ⟨rfl, by rw [Lib.toList_data]⟩
    · exact .inr ⟨rfl, rfl, by decide⟩
  · simp only [lifeT, List.mem_cons, List.not_mem_nil, or_false] at hx
    rcases hx with rfl | rfl <;> decide
theorem life_in (w : World) : TupIn (w.heap.size + 1) (w.alloc (.cells #[.int .i64 1, .int .i64 5, .string ⟨#[]⟩, .int .i64 2, .int .i64 0, .string ⟨#[97]⟩] 78)) (.slice (some ⟨w.heap.size, 0, none⟩) 2 2) lifeT := by
  refine ⟨_, 2, rfl, by decide, .inr ⟨w.heap.size, 0, rfl, by omega, fun j hj => ?_⟩⟩
  have hj' : j < 2 := hj
  rcases (by omega : j = 0 ∨ j = 1) with rfl | rfl <;> (refine ⟨?_, ?_, ?_⟩ <;> (rw [cell_of_row _ w.heap.size _ _ _ (0, 0) (heap_alloc_new w _)]; rfl))
theorem numL_ten : numL 10 = [10] := numL_lt (by decide)
theorem numL_one : numL 1 = [1] := numL_lt (by decide)
theorem life_tup : tupL lifeT = [2, 1, 10, 2, 1, 97] := by
  show UInt8.ofNat 2 :: (1 :: numL 10 ++ (2 :: (numL 1 ++ [97]) ++ [])) = _
  rw [numL_ten, numL_one]
  rfl
theorem life_key : keyT lifeT = [1, 128, 0, 0, 0, 0, 0, 0, 5, 2, 97, 0, 1] := by decide +kernel
theorem life_int : intL (-1) = [1] := numL_lt (by decide)

set_option maxHeartbeats 1000000 in
set_option maxRecDepth 100000 in
theorem alive_true (w : World) : Calls Try.prog 17 #[] w fun e w' => e = .returned (.bool true) ∧ Below w.heap.size w w' := by
  go_enter Try.func17, Try.ntmps17
  go_wp2_with fail
  refine (tuple_any _ lifeT _ _ (life_in w) (by simp) life_ok.2).mono ?_
  rintro e w1 ⟨hb1, ⟨-, v1, rfl, ho1⟩ | ⟨hno, -⟩⟩
  case inr => exact absurd life_ok.1 hno
  rw [life_tup] at ho1
  have HB1 := Lib.hid hb1
  have HO1 := Lib.hid ho1
  have HT1 := Lib.hid ((life_in w).below (hb1.mono (by simp)))
  have HZ1 : Hid (w.heap.size + 1 ≤ w1.heap.size) := Lib.hid (by have := hb1.size; simpa using this)
  clear hb1 ho1
  go_wp2_with fail
  refine (key_any _ lifeT _ _ HT1.out HZ1.out life_ok.2).mono ?_
  rintro e w2 ⟨hb2, ⟨-, v2, rfl, ho2⟩ | ⟨hno, -⟩⟩
  case inr => exact absurd life_ok.1 hno
  rw [life_key] at ho2
  have HB2 := Lib.hid (below_2 (below_then HB1.out) hb2)
  have HO2 := Lib.hid ho2
  have hs1 := run_str w2 _ v1 _ (HO1.out.below hb2).in_
  have hs2 := run_str w2 _ v2 _ ho2.in_
  clear hb2 ho2
  go_wp2_with (go_at_call 20; refine (int_any (-1) _ (by decide)).mono ?_; rintro e w3 ⟨v3, rfl, ho3, hb3⟩; have HB3 := Lib.hid hb3; rw [life_int] at ho3; have hs3 := run_str w3 _ v3 _ ho3.in_; clear ho3 hb3)
  go_ret
  exact ⟨rfl, below_2 HB2.out HB3.out⟩
end Go.Proofs.Ythnpiafpkllbpaa

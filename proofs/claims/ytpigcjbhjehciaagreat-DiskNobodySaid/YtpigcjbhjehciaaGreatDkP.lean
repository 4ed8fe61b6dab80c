/-
  The walk of the law DiskNobody, with the answer of alive as its condition.
-/
import Derived.Test.YtpigcjbhjehciaaGreatDkH
import Derived.Test.YtpigcjbhjehciaaGreatDkI
namespace Go.Proofs.YtpigcjbhjehciaaGreat
open Go Go.RowKit Go.Maps Go.WideMaps

set_option maxRecDepth 100000 in
set_option maxHeartbeats 1000000 in
theorem lnobody_of (kd at_ : Int) (nm to_ : ByteArray) (b l0 l1 l2 : Value) (w : World) (HAl : Hid (∀ W : World, Calls Tryz.prog 6 #[] W fun e w' => e = .returned (.bool true) ∧ Below W.heap.size W w')) :
    Calls Tryz.prog 4 #[.agg #[.int .i64 kd, .string nm, .string to_, .int .i64 at_, b, l0, l1, l2]] w fun e w' => e = .returned (.bool true) ∧ Below w.heap.size w w' := by
  go_enter Tryz.func4, Tryz.ntmps4
  go_wp2_with fail
  have HF0 := Lib.hid (nb_start w #[.int .i64 kd, .string nm, .string to_, .int .i64 at_, b, l0, l1, l2])
  have HB0 := Lib.hid (show Below w.heap.size w (((w.alloc (.cells #[.int .i64 kd, .string nm, .string to_, .int .i64 at_, b, l0, l1, l2] 36)).alloc (.cells #[.pointer none, .int .i64 0, .int .i64 0, .map none, .map none, .map none, .map none, .slice none 0 0, .bool false, .int .i64 0] 49)).alloc (.cells #[.pointer none, .pointer (some ⟨w.heap.size + 1, 0, none⟩)] 26)) from (((Below.refl _ _).alloc (Nat.le_refl _) _).alloc (by simp) _).alloc (by simp; omega) _)
  generalize (((w.alloc (.cells #[.int .i64 kd, .string nm, .string to_, .int .i64 at_, b, l0, l1, l2] 36)).alloc (.cells #[.pointer none, .int .i64 0, .int .i64 0, .map none, .map none, .map none, .map none, .slice none 0 0, .bool false, .int .i64 0] 49)).alloc (.cells #[.pointer none, .pointer (some ⟨w.heap.size + 1, 0, none⟩)] 26)) = W0 at *
  go_loopw [24] (fun i wr => ∃ k : Nat, k ≤ 2 ∧ i = .int .i64 k ∧ Hid (Grow (fun _ => False) W0 wr)) (fun i _ => 2 - (intOf i).toNat)
  case atStart => exact ⟨0, by omega, rfl, Lib.hid (Grow.refl _ _)⟩
  case round =>
    obtain ⟨k, hk, rfl, hJ⟩ := hrel
    by_cases hlt : k < 2
    case neg =>
      obtain rfl : k = 2 := by omega
      go_wp2_with fail
      refine (HAl.out wr).mono ?_
      rintro e w1 ⟨rfl, hb⟩
      have HB := Lib.hid (nb_end HB0.out hJ.out hb)
      clear hb
      go_wp2_with fail
      go_ret
      exact ⟨rfl, HB.out⟩
    have hlt' : (k : Int) < 2 := by omega
    have h0 : (0 : Int) ≤ (k : Int) := by omega
    have HF := Lib.hid (HF0.out.grow hJ.out)
    obtain ⟨v, hv, hcell⟩ := HF.out.made k hlt
    have HV := Lib.hid hv
    obtain ⟨d1, d2, d4, hdn⟩ := nb_cells HF.out
    clear hv
    go_wp2_with fail
    refine (read_no wr v _ _ _ HV.out).mono ?_
    rintro e w1 ⟨rfl, rfl⟩
    go_wp2_with fail
    refine (size_no wr v _ HV.out).mono ?_
    rintro e w1 ⟨rfl, rfl⟩
    go_wp2_with fail
    refine (lose_no wr v _ HV.out).mono ?_
    rintro e w1 ⟨rfl, hw1⟩
    have HV1 := Lib.hid (show NotMade w1 v from by rw [hw1]; exact HV.out.alloc _)
    have HJ1 := Lib.hid (show Grow (fun _ => False) W0 w1 from by rw [hw1]; exact hJ.out.alloc _)
    clear hw1 hcell d1 d2 d4 hdn
    obtain ⟨d1, d2, d4, hdn⟩ := nb_cells (HF0.out.grow HJ1.out)
    go_wp2_with fail
    have HV2 := Lib.hid (show NotMade w1.drew v from HV1.out)
    have HJ2 := Lib.hid (show Grow (fun _ => False) W0 w1.drew from HJ1.out.drew)
    have HF2 := Lib.hid (show NbF w.heap.size #[.int .i64 kd, .string nm, .string to_, .int .i64 at_, b, l0, l1, l2] w1.drew from HF0.out.grow HJ2.out)
    clear d1 d2 d4 hdn
    refine region_still_tail_free 37 35 (.int .i64 0) (by kernel_rfl) rfl rfl (by kernel_rfl) (by kernel_rfl) (by kernel_rfl) (by kernel_rfl) (by kernel_rfl) (fun _ _ _ h => h) (Or.inl ⟨by rfl, fun _ => by go_simp⟩) ?_
    simp only [List.take_succ_cons, List.take_zero, List.drop_succ_cons, List.drop_zero]
    change wpStill _ _ w1.drew (fun a' => wpList _ _ _ _ a' w1.drew) _ _
    generalize w1.drew = W2 at *
    obtain ⟨d1, d2, d4, hdn⟩ := nb_cells HF2.out
    iterate 6 still_step
    still_call ((create_no W2 v _ HV2.out).mono (fun _ _ h => ⟨h.1, h.2.symm⟩))
    iterate 5 still_step
    still_call ((write_no W2 v _ _ _ HV2.out).mono (fun _ _ h => ⟨h.1, h.2.symm⟩))
    iterate 3 still_step
    still_call ((sync_no W2 v _ HV2.out).mono (fun _ _ h => ⟨h.1, h.2.symm⟩))
    iterate 5 still_step
    still_call ((rename_no W2 v _ _ HV2.out).mono (fun _ _ h => ⟨h.1, h.2.symm⟩))
    iterate 3 still_step
    still_call ((delete_no W2 v _ HV2.out).mono (fun _ _ h => ⟨h.1, h.2.symm⟩))
    iterate 1 still_step
    still_call ((syncdir_no W2 v HV2.out).mono (fun _ _ h => ⟨h.1, h.2.symm⟩))
    iterate 1 still_step
    still_call ((fuse_no W2 v _ HV2.out).mono (fun _ _ h => ⟨h.1, h.2.symm⟩))
    iterate 3 still_step
    still_call ((rot_no W2 v _ _ _ HV2.out).mono (fun _ _ h => ⟨h.1, h.2.symm⟩))
    refine wpStill_nil ?_
    clear d1 d2 d4 hdn
    go_wp2_with fail
    have HV3 := Lib.hid (HV2.out.alloc (.cells #[.int .i64 4, .int .i64 4, .int .i64 4, .int .i64 4, .int .i64 4, .int .i64 4, .int .i64 4, .int .i64 4, .int .i64 4, .int .i64 4, .int .i64 4] 51))
    have HJ3 := Lib.hid (HJ2.out.alloc (.cells #[.int .i64 4, .int .i64 4, .int .i64 4, .int .i64 4, .int .i64 4, .int .i64 4, .int .i64 4, .int .i64 4, .int .i64 4, .int .i64 4, .int .i64 4] 51))
    have HRow := Lib.hid (heap_alloc_new W2 (.cells #[.int .i64 4, .int .i64 4, .int .i64 4, .int .i64 4, .int .i64 4, .int .i64 4, .int .i64 4, .int .i64 4, .int .i64 4, .int .i64 4, .int .i64 4] 51))
    have hl3 : W2.heap.size < (W2.alloc (.cells #[.int .i64 4, .int .i64 4, .int .i64 4, .int .i64 4, .int .i64 4, .int .i64 4, .int .i64 4, .int .i64 4, .int .i64 4, .int .i64 4, .int .i64 4] 51)).heap.size := by simp
    generalize W2.alloc (.cells #[.int .i64 4, .int .i64 4, .int .i64 4, .int .i64 4, .int .i64 4, .int .i64 4, .int .i64 4, .int .i64 4, .int .i64 4, .int .i64 4, .int .i64 4] 51) = W3 at *
    have hrow : ∀ j : Nat, j < 11 → W3.cell? ⟨W2.heap.size, j, none⟩ = some (.int .i64 4) := by
      intro j hj
      rw [cell_of_row W3 _ j _ _ (0, 0) HRow.out]
      rcases j with _ | _ | _ | _ | _ | _ | _ | _ | _ | _ | _ | j
      all_goals first | rfl | omega
    clear HRow
    generalize W2.heap.size = n3 at *
    go_loopw [85] (fun i wr => ∃ j : Nat, j ≤ 11 ∧ i = .int .i64 j ∧ wr = W3) (fun i _ => 11 - (intOf i).toNat)
    case atStart => exact ⟨0, by omega, rfl, rfl⟩
    case round =>
      obtain ⟨j, hj, rfl, rfl⟩ := hrel
      by_cases hjt : j < 11
      case neg =>
        obtain rfl : j = 11 := by omega
        go_wp2_with fail
        refine (used_no wr v HV3.out).mono ?_
        rintro e w4 ⟨rfl, rfl⟩
        go_wp2_with fail
        refine (loose_no wr v HV3.out).mono ?_
        rintro e w4 ⟨rfl, rfl⟩
        go_wp2_with fail
        refine (names_no wr v HV3.out).mono ?_
        rintro e w4 ⟨rfl, rfl⟩
        go_wp2_with fail
        refine (down_no wr v HV3.out).mono ?_
        rintro e w4 ⟨rfl, rfl⟩
        go_wp2_with fail
        refine ⟨⟨k + 1, by omega, by simp, HJ3⟩, ?_⟩
        simp only [intOf]
        omega
      have hjt' : (j : Int) < 11 := by omega
      have hj0 : (0 : Int) ≤ (j : Int) := by omega
      have hc := hrow j hjt
      go_wp2_with fail
      refine ⟨⟨j + 1, by omega, by simp, trivial⟩, ?_⟩
      simp only [intOf]
      omega
end Go.Proofs.YtpigcjbhjehciaaGreat

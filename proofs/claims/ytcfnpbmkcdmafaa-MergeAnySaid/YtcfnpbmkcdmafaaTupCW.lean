/-
  Contracts of slices.CompareFunc at wide tuples and of tuple.Compare: both give 'cmpT'.
-/
import Derived.Test.YtcfnpbmkcdmafaaCmp
import Derived.Test.YtcfnpbmkcdmafaaTupW
namespace Go.Proofs.Ytcfnpbmkcdmafaa
open Go Go.RowKit

set_option maxHeartbeats 400000 in
theorem compare_grown (k n : Int) (s : ByteArray) (k' n' : Int) (s' : ByteArray) (w : World) :
    Calls Try.prog 93 #[.agg #[.int .i64 k, .int .i64 n, .string s], .agg #[.int .i64 k', .int .i64 n', .string s']] w fun e w' => e = .returned (.int .i64 (cmpV k n s k' n' s')) ∧ Grown w w' := by
  go_enter Try.func93, Try.ntmps93
  go_wp2_with (first | (go_at_call 96; refine (cmpK_any _ _ _).mono ?_; rintro e w' ⟨rfl, rfl⟩) | (go_at_call 97; refine (cmpN_any _ _ _).mono ?_; rintro e w' ⟨rfl, rfl⟩) | (go_at_call 98; refine (cmpS_any _ _ _).mono ?_; rintro e w' ⟨rfl, rfl⟩))
  · have h : (cmpI k k' != 0) = true := by assumption
    have h1 : cmpI k k' ≠ 0 := by simpa using h
    go_ret
    exact ⟨ret_int (by unfold cmpV; rw [if_neg h1]), ((Grown.refl _).alloc _).alloc _⟩
  · have h : (cmpI k k' != 0) = false := by assumption
    have g : (cmpI n n' != 0) = true := by assumption
    have h1 : cmpI k k' = 0 := by simpa using h
    have g1 : cmpI n n' ≠ 0 := by simpa using g
    go_ret
    exact ⟨ret_int (by unfold cmpV; rw [if_pos h1, if_neg g1]), ((Grown.refl _).alloc _).alloc _⟩
  · have h : (cmpI k k' != 0) = false := by assumption
    have g : (cmpI n n' != 0) = false := by assumption
    have h1 : cmpI k k' = 0 := by simpa using h
    have g1 : cmpI n n' = 0 := by simpa using g
    go_ret
    exact ⟨ret_int (by unfold cmpV; rw [if_pos h1, if_pos g1]), ((Grown.refl _).alloc _).alloc _⟩

set_option maxHeartbeats 1000000 in
set_option maxRecDepth 100000 in
theorem compareFuncS_any (v1 v2 : Value) (T1 T2 : List V3) (w : World) (h1 : TupS (fun k => k < w.heap.size) w v1 T1) (h2 : TupS (fun k => k < w.heap.size) w v2 T2) :
    Calls Try.prog 92 #[v1, v2, .func (.func 93) #[] #[]] w fun e w' => e = .returned (.int .i64 (cmpT T1 T2)) ∧ Grown w w' := by
  obtain ⟨p1, c1, rfl, l1, q1⟩ := h1
  obtain ⟨p2, c2, rfl, l2, q2⟩ := h2
  go_enter Try.func92, Try.ntmps92
  go_wp2_with fail
  go_loopw [13] (fun i wr => ∃ k : Nat, k ≤ T1.length ∧ i = .int .i64 k ∧ Hid (cmpT T1 T2 = cmpT (T1.drop k) (T2.drop k)) ∧ Hid (Grown w wr)) (fun i _ => T1.length - (intOf i).toNat)
  case atStart => exact ⟨0, Nat.zero_le _, rfl, Lib.hid rfl, Lib.hid (Grown.refl _)⟩
  case round =>
    obtain ⟨k, hk, rfl, hrest, hg⟩ := hrel
    have h0 : (0 : Int) ≤ (k : Int) := by omega
    by_cases hlt : k < T1.length
    · have hlt' : (k : Int) < (T1.length : Int) := by omega
      rcases q1 with rfl | ⟨b1, o1, rfl, hb1, hc1⟩
      · simp at hlt
      have hgs := hg.out.size
      have hb1' : b1 < wr.heap.size := by omega
      obtain ⟨x0, x1, x2⟩ := (hc1.below hg.out.below (by omega)) k hlt
      by_cases hlt2 : k < T2.length
      · have hlt2' : (k : Int) < (T2.length : Int) := by omega
        rcases q2 with rfl | ⟨b2, o2, rfl, hb2, hc2⟩
        · simp at hlt2
        have hb2' : b2 < wr.heap.size := by omega
        obtain ⟨y0, y1, y2⟩ := (hc2.below hg.out.below (by omega)) k hlt2
        obtain ⟨c, hc⟩ : ∃ c, c = cmp3 T1[k] T2[k] := ⟨_, rfl⟩
        have HC : Hid (∀ w, Calls Try.prog 93 #[.agg #[.int .i64 T1[k].k, .int .i64 T1[k].n, .string T1[k].s], .agg #[.int .i64 T2[k].k, .int .i64 T2[k].n, .string T2[k].s]] w fun e w' => e = .returned (.int .i64 c) ∧ Grown w w') := Lib.hid (by rw [hc]; exact fun w => compare_grown _ _ _ _ _ _ w)
        have HR := Lib.hid (cmpT_drop_lt hlt hlt2)
        rw [← hc] at HR
        clear hc
        cases h0 : (c != 0) with
        | true =>
          have hc0 : c ≠ 0 := by simpa using h0
          rw [if_neg hc0] at HR
          go_wp2_with fail
          refine (HC.out _).mono ?_
          rintro e w1 ⟨rfl, g1⟩
          go_wp2_with fail
          go_ret
          exact ⟨ret_int (hrest.out.trans HR.out).symm, ((hg.out.alloc _).alloc _).trans g1⟩
        | false =>
          have hc0 : c = 0 := by simpa using h0
          rw [if_pos hc0] at HR
          have HN := Lib.hid (hrest.out.trans HR.out)
          clear hc0
          go_wp2_with fail
          refine (HC.out _).mono ?_
          rintro e w1 ⟨rfl, g1⟩
          go_wp2_with fail
          go_roundw
          case rel => exact ⟨k + 1, by omega, by go_num, HN, Lib.hid (((hg.out.alloc _).alloc _).trans g1)⟩
          case measure => simp [intOf]; omega
      · have hlt2' : (T2.length : Int) ≤ (k : Int) := by omega
        have HR := Lib.hid (hrest.out.trans (cmpT_drop_over hlt (by omega)))
        go_wp2_with fail
        go_ret
        exact ⟨ret_int HR.out.symm, hg.out.alloc _⟩
    · have hlt' : (T1.length : Int) ≤ (k : Int) := by omega
      have HR := Lib.hid (hrest.out.trans (cmpT_drop_end (b := T2) (by omega)))
      by_cases hlen : T1.length < T2.length
      · have hlen' : (T1.length : Int) < (T2.length : Int) := by omega
        rw [if_pos hlen] at HR
        go_wp2_with fail
        go_ret
        exact ⟨ret_int HR.out.symm, hg.out⟩
      · have hlen' : (T2.length : Int) ≤ (T1.length : Int) := by omega
        rw [if_neg hlen] at HR
        go_wp2_with fail
        go_ret
        exact ⟨ret_int HR.out.symm, hg.out⟩
set_option maxHeartbeats 400000 in
theorem tcompareS_any (v1 v2 : Value) (T1 T2 : List V3) (w : World) (h1 : TupS (fun k => k < w.heap.size) w v1 T1) (h2 : TupS (fun k => k < w.heap.size) w v2 T2) :
    Calls Try.prog 87 #[v1, v2] w fun e w' => e = .returned (.int .i64 (cmpT T1 T2)) ∧ Grown w w' := by
  have H := Lib.hid (compareFuncS_any v1 v2 T1 T2 w h1 h2)
  clear h1 h2
  go_enter Try.func87, Try.ntmps87
  go_wp2_with fail
  refine H.out.mono ?_
  rintro e w1 ⟨rfl, g1⟩
  go_wp2_with fail
  go_ret
  exact ⟨rfl, g1⟩
end Go.Proofs.Ytcfnpbmkcdmafaa

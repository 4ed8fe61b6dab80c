/-
  Contracts of cmp.Compare at three types, of value.Compare and of the document's own Compare: both give 'cmpV'.
  Wide tuples and entries in memory.
  Contracts of slices.CompareFunc at wide tuples and of tuple.Compare: both give 'cmpT'.
-/
import Derived.Test.YtdjhfcopnhcljaaGreatDoorW02
namespace Go.Proofs.YtdjhfcopnhcljaaGreatDoor
section
open Go Go.RowKit

theorem nanK (a : Int) (w : World) : Calls Tryz.prog 166 #[.int .i64 a] w fun e w' => e = .returned (.bool false) ∧ w = w' := by
  go_enter Tryz.func166, Tryz.ntmps166
  go_wp2
  go_ret
  exact ⟨by simp, rfl⟩
theorem nanI (a : Int) (w : World) : Calls Tryz.prog 167 #[.int .i64 a] w fun e w' => e = .returned (.bool false) ∧ w = w' := by
  go_enter Tryz.func167, Tryz.ntmps167
  go_wp2
  go_ret
  exact ⟨by simp, rfl⟩
theorem nanS (a : ByteArray) (w : World) : Calls Tryz.prog 168 #[.string a] w fun e w' => e = .returned (.bool false) ∧ w = w' := by
  go_enter Tryz.func168, Tryz.ntmps168
  go_wp2
  go_ret
  exact ⟨by simp, rfl⟩

set_option maxHeartbeats 400000 in
theorem cmpK_any (a b : Int) (w : World) : Calls Tryz.prog 143 #[.int .i64 a, .int .i64 b] w fun e w' => e = .returned (.int .i64 (cmpI a b)) ∧ w = w' := by
  go_enter Tryz.func143, Tryz.ntmps143
  go_wp2_with (go_at_call 166; refine (nanK _ _).mono ?_; rintro e w' ⟨rfl, rfl⟩)
  all_goals (go_ret; refine ⟨ret_int ?_, rfl⟩; unfold cmpI; (repeat' split) <;> omega)
set_option maxHeartbeats 400000 in
theorem cmpN_any (a b : Int) (w : World) : Calls Tryz.prog 144 #[.int .i64 a, .int .i64 b] w fun e w' => e = .returned (.int .i64 (cmpI a b)) ∧ w = w' := by
  go_enter Tryz.func144, Tryz.ntmps144
  go_wp2_with (go_at_call 167; refine (nanI _ _).mono ?_; rintro e w' ⟨rfl, rfl⟩)
  all_goals (go_ret; refine ⟨ret_int ?_, rfl⟩; unfold cmpI; (repeat' split) <;> omega)
set_option maxHeartbeats 400000 in
theorem cmpS_any (a b : ByteArray) (w : World) : Calls Tryz.prog 145 #[.string a, .string b] w fun e w' => e = .returned (.int .i64 (cmpS a b)) ∧ w = w' := by
  go_enter Tryz.func145, Tryz.ntmps145
  go_wp2_with (go_at_call 168; refine (nanS _ _).mono ?_; rintro e w' ⟨rfl, rfl⟩)
  all_goals (go_ret; refine ⟨ret_int ?_, rfl⟩)
  · exact (cmpS_lt (by assumption)).symm
  · exact (cmpS_gt (by assumption) (by assumption)).symm
  · exact (cmpS_eq (by assumption)).symm

set_option maxHeartbeats 400000 in
theorem compare_any (k n : Int) (s : ByteArray) (k' n' : Int) (s' : ByteArray) (w : World) :
    Calls Tryz.prog 106 #[.agg #[.int .i64 k, .int .i64 n, .string s], .agg #[.int .i64 k', .int .i64 n', .string s']] w fun e w' => e = .returned (.int .i64 (cmpV k n s k' n' s')) ∧ Below w.heap.size w w' := by
  go_enter Tryz.func106, Tryz.ntmps106
  go_wp2_with (first | (go_at_call 143; refine (cmpK_any _ _ _).mono ?_; rintro e w' ⟨rfl, rfl⟩) | (go_at_call 144; refine (cmpN_any _ _ _).mono ?_; rintro e w' ⟨rfl, rfl⟩) | (go_at_call 145; refine (cmpS_any _ _ _).mono ?_; rintro e w' ⟨rfl, rfl⟩))
  · have h : (cmpI k k' != 0) = true := by assumption
    have h1 : cmpI k k' ≠ 0 := by simpa using h
    go_ret
    exact ⟨ret_int (by unfold cmpV; rw [if_neg h1]), ((Below.refl _ _).alloc (Nat.le_refl _) _).alloc (by simp) _⟩
  · have h : (cmpI k k' != 0) = false := by assumption
    have g : (cmpI n n' != 0) = true := by assumption
    have h1 : cmpI k k' = 0 := by simpa using h
    have g1 : cmpI n n' ≠ 0 := by simpa using g
    go_ret
    exact ⟨ret_int (by unfold cmpV; rw [if_pos h1, if_neg g1]), ((Below.refl _ _).alloc (Nat.le_refl _) _).alloc (by simp) _⟩
  · have h : (cmpI k k' != 0) = false := by assumption
    have g : (cmpI n n' != 0) = false := by assumption
    have h1 : cmpI k k' = 0 := by simpa using h
    have g1 : cmpI n n' = 0 := by simpa using g
    go_ret
    exact ⟨ret_int (by unfold cmpV; rw [if_pos h1, if_pos g1]), ((Below.refl _ _).alloc (Nat.le_refl _) _).alloc (by simp) _⟩

set_option maxHeartbeats 400000 in
theorem ref_compare_any (k n : Int) (s : ByteArray) (k' n' : Int) (s' : ByteArray) (w : World) :
    Calls Tryz.prog 87 #[.agg #[.int .i64 k, .int .i64 n, .string s], .agg #[.int .i64 k', .int .i64 n', .string s']] w fun e w' => e = .returned (.int .i64 (cmpV k n s k' n' s')) ∧ Below w.heap.size w w' := by
  go_enter Tryz.func87, Tryz.ntmps87
  go_wp2
  all_goals
    go_ret
    refine ⟨ret_int ?_, ((Below.refl _ _).alloc (Nat.le_refl _) _).alloc (by simp) _⟩
    first
    | exact way1 (by first | assumption | rfl) (by first | assumption | rfl) (by assumption)
    | exact way2 (by first | assumption | rfl) (by first | assumption | rfl) (by assumption)
    | exact way3 (by first | assumption | rfl) (by first | assumption | rfl) (by assumption) (by assumption)
    | exact way4 (by first | assumption | rfl) (by assumption) (by assumption)
    | exact way5 (by first | assumption | rfl) (by assumption)
    | exact way6 (by assumption) (by assumption)
    | exact way7 (by assumption)

end
section
open Go Go.RowKit

/-- A slice value reads as a tuple, in a block of S. -/
def TupS (S : Nat → Prop) (W : World) (v : Value) (T : List V3) : Prop :=
  ∃ p cap, v = .slice p T.length cap ∧ T.length ≤ 4398046510976 ∧ (T = [] ∨ ∃ b off, p = some ⟨b, off, none⟩ ∧ S b ∧ CellsAt W b off T)
/-- The cells of entries. -/
def CellsQ (W : World) (b off : Nat) (Q : List (Value × (List V3 × Int))) : Prop := ∀ j q, Q[j]? = some q → W.cell? ⟨b, off + j * 2, none⟩ = some q.1 ∧ W.cell? ⟨b, off + j * 2 + 1, none⟩ = some (.int .i64 q.2.2)
/-- A slice value reads as entries, in blocks of S. -/
def EntS (S : Nat → Prop) (W : World) (v : Value) (E : List (List V3 × Int)) : Prop :=
  ∃ p cap Q, Q.map (·.2) = E ∧ v = .slice p Q.length cap ∧ Q.length ≤ 100 ∧ (∀ q ∈ Q, TupS S W q.1 q.2.1) ∧ (Q = [] ∨ ∃ b off, p = some ⟨b, off, none⟩ ∧ S b ∧ CellsQ W b off Q)
theorem TupS.same {S S' : Nat → Prop} {W W' : World} {v : Value} {T : List V3} (h : TupS S W v T) (hS : ∀ k, S k → S' k) (hb : ∀ b o, S b → W'.cell? ⟨b, o, none⟩ = W.cell? ⟨b, o, none⟩) : TupS S' W' v T := by
  obtain ⟨p, cap, rfl, hl, h⟩ := h
  refine ⟨p, cap, rfl, hl, ?_⟩
  rcases h with h | ⟨b, off, rfl, hlt, hc⟩
  · exact .inl h
  · refine .inr ⟨b, off, rfl, hS _ hlt, fun j hj => ?_⟩
    rw [hb b _ hlt, hb b _ hlt, hb b _ hlt]
    exact hc j hj
theorem EntS.same {S S' : Nat → Prop} {W W' : World} {v : Value} {E : List (List V3 × Int)} (h : EntS S W v E) (hS : ∀ k, S k → S' k) (hb : ∀ b o, S b → W'.cell? ⟨b, o, none⟩ = W.cell? ⟨b, o, none⟩) : EntS S' W' v E := by
  obtain ⟨p, cap, Q, hQ, rfl, hl, ht, h⟩ := h
  refine ⟨p, cap, Q, hQ, rfl, hl, fun q hq => (ht q hq).same hS hb, ?_⟩
  rcases h with h | ⟨b, off, rfl, hlt, hc⟩
  · exact .inl h
  · exact .inr ⟨b, off, rfl, hS _ hlt, fun j q hj => ⟨(hb b _ hlt).trans (hc j q hj).1, (hb b _ hlt).trans (hc j q hj).2⟩⟩
theorem lt_of_cell {W : World} {b o : Nat} {u : Value} (h : W.cell? ⟨b, o, none⟩ = some u) : b < W.heap.size := by
  by_cases hb : b < W.heap.size
  · exact hb
  · have : W.heap[b]? = none := Array.getElem?_eq_none (by omega)
    simp [World.cell?, this] at h
theorem TupS.inside {S : Nat → Prop} {W : World} {v : Value} {T : List V3} (h : TupS S W v T) : TupS (fun k => S k ∧ k < W.heap.size) W v T := by
  obtain ⟨p, cap, rfl, hl, h⟩ := h
  refine ⟨p, cap, rfl, hl, ?_⟩
  by_cases hT : T = []
  · exact .inl hT
  · rcases h with h | ⟨b, off, rfl, hlt, hc⟩
    · exact absurd h hT
    · have h0 : 0 < T.length := List.length_pos_iff.2 hT
      exact .inr ⟨b, off, rfl, ⟨hlt, lt_of_cell (hc 0 h0).1⟩, hc⟩
theorem EntS.inside {S : Nat → Prop} {W : World} {v : Value} {E : List (List V3 × Int)} (h : EntS S W v E) : EntS (fun k => S k ∧ k < W.heap.size) W v E := by
  obtain ⟨p, cap, Q, hQ, rfl, hl, ht, h⟩ := h
  refine ⟨p, cap, Q, hQ, rfl, hl, fun q hq => (ht q hq).inside, ?_⟩
  cases Q with
  | nil => exact .inl rfl
  | cons q Q =>
    rcases h with h | ⟨b, off, rfl, hlt, hc⟩
    · cases h
    · exact .inr ⟨b, off, rfl, ⟨hlt, lt_of_cell (hc 0 q rfl).1⟩, hc⟩
end
section
open Go Go.RowKit

set_option maxHeartbeats 400000 in
theorem compare_grown (k n : Int) (s : ByteArray) (k' n' : Int) (s' : ByteArray) (w : World) :
    Calls Tryz.prog 106 #[.agg #[.int .i64 k, .int .i64 n, .string s], .agg #[.int .i64 k', .int .i64 n', .string s']] w fun e w' => e = .returned (.int .i64 (cmpV k n s k' n' s')) ∧ Grown w w' := by
  go_enter Tryz.func106, Tryz.ntmps106
  go_wp2_with (first | (go_at_call 143; refine (cmpK_any _ _ _).mono ?_; rintro e w' ⟨rfl, rfl⟩) | (go_at_call 144; refine (cmpN_any _ _ _).mono ?_; rintro e w' ⟨rfl, rfl⟩) | (go_at_call 145; refine (cmpS_any _ _ _).mono ?_; rintro e w' ⟨rfl, rfl⟩))
  · have h : (cmpI k k' != 0) = true := by assumption
    have h1 : cmpI k k' ≠ 0 := by simpa using h
    go_ret
    exact ⟨ret_int (by unfold cmpV; rw [if_neg h1]), ((Grown.refl _).alloc _).alloc _⟩
  · have h : (cmpI k k' != 0) = false := by assumption
    have g : (cmpI n n' != 0) = true := by assumption
    have h1 : cmpI k k' = 0 := by simpa using h
    have g1 : cmpI n n' ≠ 0 := by simpa using g
    go_ret
    exact ⟨ret_int (by unfold cmpV; rw [if_pos h1, if_neg g1]), ((Grown.refl _).alloc _).alloc _⟩
  · have h : (cmpI k k' != 0) = false := by assumption
    have g : (cmpI n n' != 0) = false := by assumption
    have h1 : cmpI k k' = 0 := by simpa using h
    have g1 : cmpI n n' = 0 := by simpa using g
    go_ret
    exact ⟨ret_int (by unfold cmpV; rw [if_pos h1, if_pos g1]), ((Grown.refl _).alloc _).alloc _⟩

set_option maxHeartbeats 1000000 in
set_option maxRecDepth 100000 in
theorem compareFuncS_any (v1 v2 : Value) (T1 T2 : List V3) (w : World) (h1 : TupS (fun k => k < w.heap.size) w v1 T1) (h2 : TupS (fun k => k < w.heap.size) w v2 T2) :
    Calls Tryz.prog 105 #[v1, v2, .func (.func 106) #[] #[]] w fun e w' => e = .returned (.int .i64 (cmpT T1 T2)) ∧ Grown w w' := by
  obtain ⟨p1, c1, rfl, l1, q1⟩ := h1
  obtain ⟨p2, c2, rfl, l2, q2⟩ := h2
  go_enter Tryz.func105, Tryz.ntmps105
  go_wp2_with fail
  go_loopw [13] (fun i wr => ∃ k : Nat, k ≤ T1.length ∧ i = .int .i64 k ∧ Hid (cmpT T1 T2 = cmpT (T1.drop k) (T2.drop k)) ∧ Hid (Grown w wr)) (fun i _ => T1.length - (intOf i).toNat)
  case atStart => exact ⟨0, Nat.zero_le _, rfl, Lib.hid rfl, Lib.hid (Grown.refl _)⟩
  case round =>
    obtain ⟨k, hk, rfl, hrest, hg⟩ := hrel
    have h0 : (0 : Int) ≤ (k : Int) := by omega
    by_cases hlt : k < T1.length
    · have hlt' : (k : Int) < (T1.length : Int) := by omega
      rcases q1 with rfl | ⟨b1, o1, rfl, hb1, hc1⟩
      · simp at hlt
      have hgs := hg.out.size
      have hb1' : b1 < wr.heap.size := by omega
      obtain ⟨x0, x1, x2⟩ := (hc1.below hg.out.below (by omega)) k hlt
      by_cases hlt2 : k < T2.length
      · have hlt2' : (k : Int) < (T2.length : Int) := by omega
        rcases q2 with rfl | ⟨b2, o2, rfl, hb2, hc2⟩
        · simp at hlt2
        have hb2' : b2 < wr.heap.size := by omega
        obtain ⟨y0, y1, y2⟩ := (hc2.below hg.out.below (by omega)) k hlt2
        obtain ⟨c, hc⟩ : ∃ c, c = cmp3 T1[k] T2[k] := ⟨_, rfl⟩
        have HC : Hid (∀ w, Calls Tryz.prog 106 #[.agg #[.int .i64 T1[k].k, .int .i64 T1[k].n, .string T1[k].s], .agg #[.int .i64 T2[k].k, .int .i64 T2[k].n, .string T2[k].s]] w fun e w' => e = .returned (.int .i64 c) ∧ Grown w w') := Lib.hid (by rw [hc]; exact fun w => compare_grown _ _ _ _ _ _ w)
        have HR := Lib.hid (cmpT_drop_lt hlt hlt2)
        rw [← hc] at HR
        clear hc
        cases h0 : (c != 0) with
        | true =>
          have hc0 : c ≠ 0 := by simpa using h0
          rw [if_neg hc0] at HR
          go_wp2_with fail
          refine (HC.out _).mono ?_
          rintro e w1 ⟨rfl, g1⟩
          go_wp2_with fail
          go_ret
          exact ⟨ret_int (hrest.out.trans HR.out).symm, ((hg.out.alloc _).alloc _).trans g1⟩
        | false =>
          have hc0 : c = 0 := by simpa using h0
          rw [if_pos hc0] at HR
          have HN := Lib.hid (hrest.out.trans HR.out)
          clear hc0
          go_wp2_with fail
          refine (HC.out _).mono ?_
          rintro e w1 ⟨rfl, g1⟩
          go_wp2_with fail
          go_roundw
          case rel => exact ⟨k + 1, by omega, by go_num, HN, Lib.hid (((hg.out.alloc _).alloc _).trans g1)⟩
          case measure => simp [intOf]; omega
      · have hlt2' : (T2.length : Int) ≤ (k : Int) := by omega
        have HR := Lib.hid (hrest.out.trans (cmpT_drop_over hlt (by omega)))
        go_wp2_with fail
        go_ret
        exact ⟨ret_int HR.out.symm, hg.out.alloc _⟩
    · have hlt' : (T1.length : Int) ≤ (k : Int) := by omega
      have HR := Lib.hid (hrest.out.trans (cmpT_drop_end (b := T2) (by omega)))
      by_cases hlen : T1.length < T2.length
      · have hlen' : (T1.length : Int) < (T2.length : Int) := by omega
        rw [if_pos hlen] at HR
        go_wp2_with fail
        go_ret
        exact ⟨ret_int HR.out.symm, hg.out⟩
      · have hlen' : (T2.length : Int) ≤ (T1.length : Int) := by omega
        rw [if_neg hlen] at HR
        go_wp2_with fail
        go_ret
        exact ⟨ret_int HR.out.symm, hg.out⟩
set_option maxHeartbeats 400000 in
theorem tcompareS_any (v1 v2 : Value) (T1 T2 : List V3) (w : World) (h1 : TupS (fun k => k < w.heap.size) w v1 T1) (h2 : TupS (fun k => k < w.heap.size) w v2 T2) :
    Calls Tryz.prog 45 #[v1, v2] w fun e w' => e = .returned (.int .i64 (cmpT T1 T2)) ∧ Grown w w' := by
  have H := Lib.hid (compareFuncS_any v1 v2 T1 T2 w h1 h2)
  clear h1 h2
  go_enter Tryz.func45, Tryz.ntmps45
  go_wp2_with fail
  refine H.out.mono ?_
  rintro e w1 ⟨rfl, g1⟩
  go_wp2_with fail
  go_ret
  exact ⟨rfl, g1⟩
end
end Go.Proofs.YtdjhfcopnhcljaaGreatDoor

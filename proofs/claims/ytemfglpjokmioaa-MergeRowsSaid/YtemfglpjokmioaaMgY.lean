/-
  The closure of merge.All, called with a function; the closure of MergeRows.
-/
import Derived.Test.YtemfglpjokmioaaMgX
namespace Go.Proofs.Ytemfglpjokmioaa
open Go Go.RowKit Go.Shelf

theorem neqHolds (k : Nat) (lb : Array Value) (W : World) : (binOp .neq 36 (.func (.func k) #[] lb) .nilFunc).run Try.prog W = .ok (.bool true) W := by kernel_rfl
theorem guardHolds (k : Nat) (lb : Array Value) (x y : Operand) (W : World) : (eqGuard .neq 36 x y (.func (.func k) #[] lb) .nilFunc).run Try.prog W = .ok () W := by rfl
set_option maxRecDepth 100000 in
set_option maxHeartbeats 2000000 in
theorem all1_plain (k : Nat) (lb : Array Value) (ek : ∀ args w, (callFunc k args).run Try.prog w = .ok (.enter k args) w) (r : Nat) (J J' : List Th → World → Prop) (Jx : World → Prop)
    (hA : ∀ D W o, J' D W → J' D (W.alloc o))
    (hN : ∀ D W, J D W → Calls Try.prog 49 #[.pointer (some ⟨r, 0, none⟩)] W fun e W' => e = .returned (headV D) ∧ J' D W')
    (hY : ∀ x D W, J' (x :: D) W → Calls Try.prog k (#[thV x] ++ lb) W fun e W' => (e = .returned (.bool true) ∧ J D W') ∨ (e = .returned (.bool false) ∧ Jx W'))
    (L : List Th) (W : World) (h0 : J L W) :
    Calls Try.prog 48 #[.func (.func k) #[] lb, .pointer (some ⟨r, 0, none⟩)] W fun e W' => e = .returned (.tuple #[]) ∧ (J' [] W' ∨ Jx W') := by
  have HN := Lib.hid hN
  have HY := Lib.hid hY
  have HA := Lib.hid hA
  have q := neqHolds k lb
  clear hN hY hA
  go_enter Try.func48, Try.ntmps48
  go_wp2_with fail
  go_loopw [3] (fun _ wr => ∃ D, Hid (J D wr)) (fun _ wr => leastN fun n => ∃ D, D.length = n ∧ J D wr)
  case atStart => exact ⟨L, Lib.hid h0⟩
  case round =>
    obtain ⟨D0, HD0⟩ := hrel
    obtain ⟨D, hDl, hDj⟩ := (leastN_spec (p := fun n => ∃ D, D.length = n ∧ J D wr) ⟨D0, rfl, HD0.out⟩).1
    have HD := Lib.hid hDl
    have HC := Lib.hid (HN.out D wr hDj)
    clear hDl hDj
    go_wp2_with fail
    refine HC.out.mono ?_
    rintro e w1 ⟨rfl, hj⟩
    have HJ := Lib.hid hj
    clear hj HC
    cases D with
    | nil =>
      unfold headV
      go_wp2_with fail
      refine bodyPost_ret (v := .tuple #[]) (results_none rfl _ _ _) rfl ?_
      exact ⟨rfl, .inl (HA.out _ _ _ HJ.out)⟩
    | cons x D =>
      unfold headV
      have HJ2 := Lib.hid (HA.out _ _ (.cells #[.int .i8 x.1, .int .i64 x.2] 28) HJ.out)
      have HC2 := Lib.hid (HY.out x D _ HJ2.out)
      go_wp2_with fail
      refine HC2.out.mono ?_
      rintro e W3 (⟨rfl, hJ3⟩ | ⟨rfl, hJx3⟩)
      · go_wp2_with fail
        go_roundw
        case rel => exact ⟨D, Lib.hid hJ3⟩
        case measure =>
          have := (leastN_spec (p := fun n => ∃ D, D.length = n ∧ J D W3) ⟨D, rfl, hJ3⟩).2
          have h3 := HD.out
          simp only [List.length_cons] at h3
          omega
      · go_wp2_with fail
        refine bodyPost_ret (v := .tuple #[]) (results_none rfl _ _ _) rfl ?_
        exact ⟨rfl, .inr hJx3⟩
theorem eqTh_run (x : Th) (W : World) : (binOp .eql 28 (.agg #[.int .i8 x.1, .int .i64 x.2]) (.agg #[.int .i8 x.1, .int .i64 x.2])).run Try.prog W = .ok (.bool true) W := by
  rw [run_eql_struct]
  simp [go_sem]
set_option maxRecDepth 100000 in
set_option maxHeartbeats 2000000 in
theorem rows1_any {z y n b off cap : Nat} {L : List Th} {most : Int} {w : World} {x : Th} (hl : w.heap[z]? = some (.cells #[.slice (some ⟨b, off, none⟩) L.length cap] 22 (0, 0))) (hm : w.heap[z + 1]? = some (.cells #[.int .i64 most] 3 (0, 0)))
    (hn : w.heap[y]? = some (.cells #[.int .i64 (n : Nat)] 3 (0, 0))) (hr : w.heap[y + 1]? = some (.cells #[.bool true] 4 (0, 0))) (hz : z + 1 < y) (hlt : n < L.length) (hL : L.length ≤ 30) 
    (hc : w.cell? ⟨b, off + n * 2, none⟩ = some (.int .i8 x.1) ∧ w.cell? ⟨b, off + n * 2 + 1, none⟩ = some (.int .i64 x.2)) :
    Calls Try.prog 18 #[thV x, .pointer (some ⟨y + 1, 0, none⟩), .pointer (some ⟨y, 0, none⟩), .pointer (some ⟨z, 0, none⟩), .pointer (some ⟨z + 1, 0, none⟩)] w fun e w' =>
      e = .returned (.bool (decide (((n : Int) + 1) < most))) ∧ Upd (fun k _ => k = y ∨ k = y + 1) w w' ∧ w'.heap[y]? = some (.cells #[.int .i64 ((n + 1 : Nat))] 3 (0, 0)) ∧ w'.heap[y + 1]? = some (.cells #[.bool true] 4 (0, 0)) := by
  have ll := (Array.getElem?_eq_some_iff.1 hl).1
  have lm := (Array.getElem?_eq_some_iff.1 hm).1
  have ln := (Array.getElem?_eq_some_iff.1 hn).1
  have lr := (Array.getElem?_eq_some_iff.1 hr).1
  have cl := cell_of_row w _ 0 _ _ (0, 0) hl
  have cm := cell_of_row w _ 0 _ _ (0, 0) hm
  have cn := cell_of_row w _ 0 _ _ (0, 0) hn
  have cr := cell_of_row w _ 0 _ _ (0, 0) hr
  have fn := frozen_of_row w _ 0 _ _ hn
  have fr := frozen_of_row w _ 0 _ _ hr
  obtain ⟨c0, c1⟩ := hc
  have lb : b < w.heap.size := World.block_lt_of_cell? w _ c0
  have q := eqTh_run x
  have HN := Lib.hid hn
  have HR := Lib.hid hr
  have hlt' : (n : Int) < (L.length : Int) := by omega
  have hn1 : (n : Int) + 1 ≤ 9223372036854775807 := by omega
  have e1 : ¬ y + 1 = y := by omega
  have e2 : ¬ y = y + 1 := by omega
  have e3 : ¬ z = y := by omega
  have e4 : ¬ z = y + 1 := by omega
  have e5 : ¬ z + 1 = y := by omega
  have e6 : ¬ z + 1 = y + 1 := by omega
  clear hl hm hn hr
  go_enter Try.func18, Try.ntmps18
  go_wp2_with fail
  go_region
  go_wp2_with fail
  go_ret
  have k1 := Go.heap_setCell_same w (y + 1) 0 _ _ (.bool true) HR.out
  have k2 : (w.setCell ⟨y + 1, 0, none⟩ (.bool true)).heap[y]? = some (.cells #[.int .i64 (n : Nat)] 3 (0, 0)) := (Below.heap_setCell _ _ _ _ e2).trans HN.out
  have k3 := Go.heap_setCell_same _ y 0 _ _ (.int .i64 ((n : Int) + 1)) k2
  refine ⟨rfl, ((((Upd.refl _ w).setCell (y + 1) 0 (.bool true) (fun _ => .inr rfl)).setCell y 0 _ (fun _ => .inl rfl)).alloc _).drew, ?_, ?_⟩
  · exact (Below.heap_alloc _ _ _ (by simp [World.setCell]; omega)).trans (k3.trans (by simp))
  · exact (Below.heap_alloc _ _ _ (by simp [World.setCell]; omega)).trans ((Below.heap_setCell _ _ _ _ e1).trans (k1.trans (by simp)))
end Go.Proofs.Ytemfglpjokmioaa

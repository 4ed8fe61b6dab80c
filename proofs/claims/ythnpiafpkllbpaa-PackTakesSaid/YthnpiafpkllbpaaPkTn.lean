/-
  Contracts of pack.taken at numbers, and of pack.TakeNum.
-/
import Derived.Test.YthnpiafpkllbpaaPkNv
namespace Go.Proofs.Ythnpiafpkllbpaa
open Go Go.RowKit

/-- The deferred closure, where the frame panics. -/
theorem catchN_bad (p : Addr) (x : Int) (w : World) (hc : w.cell? p = some (.int .i64 x)) (hz : w.frozen? p = false) :
    CallsD Try.prog 46 #[.pointer (some p)] (.panicking badP) w fun e u' w' =>
      e = .returned (.tuple #[]) ∧ u' = .panicking [{ v := .iface 25 (.int .i64 30), recovered := true }] ∧ w' = w.setCell p (.int .i64 30) := by
  refine callsD_of_wpS Try.func46 rfl fun c₀ cs hu => ?_
  apply wpS_seq
  apply wpS_region
  simp [wpOpsS, go_sem, recoverD, hu, badP, Try.ntmps46, Exit.thenS]
  refine wpS_cond (t := true) (by simp [Act.eval, Array.replicate]) ?_
  simp only [if_true]
  apply wpS_region
  simp [wpOpsS, go_sem, hc, hz, bodyPostS, results, Try.results46]
/-- The deferred closure, where the frame returns. -/
theorem catchN_idle (p : Addr) (w : World) :
    CallsD Try.prog 46 #[.pointer (some p)] .returning w fun e u' w' => e = .returned (.tuple #[]) ∧ u' = .returning ∧ w' = w := by
  refine callsD_of_wpS Try.func46 rfl fun c₀ cs hu => ?_
  apply wpS_seq
  apply wpS_region
  simp [wpOpsS, go_sem, recoverD, hu, Try.ntmps46, Exit.thenS]
  refine wpS_cond (t := false) (by simp [Act.eval, Array.replicate]) ?_
  simp only [Bool.false_eq_true, if_false]
  refine wpS_of_wp (wp_skip ?_)
  cases c₀
  simp_all [bodyPostS, results, Try.results46]

/-- What taken answers at numbers. -/
def TakenNEnd (l : List UInt8) (o : Option (Nat × List UInt8)) (w : World) (e : Ending) (w' : World) : Prop :=
  Below w.heap.size w w' ∧ ((∃ x r, o = some (x, r) ∧ e = .returned (.tuple #[.int .u64 (x : Nat), .int .i64 ((l.length : Int) - (r.length : Int)), .int .i64 0])) ∨ (o = none ∧ e = .returned (.tuple #[.int .u64 0, .int .i64 0, .int .i64 30])))
set_option maxHeartbeats 1000000 in
set_option maxRecDepth 100000 in
theorem takenN_any (v : Value) (l : List UInt8) (o : Option (Nat × List UInt8)) (w : World) (hb : BytIn w.heap.size w v l) (hs : ∃ p cap, v = .slice p l.length cap ∧ l.length ≤ cap ∧ cap ≤ maxLen)
    (hread : ∀ W R, RestAt w.heap.size W R l → w.heap.size + 2 ≤ W.heap.size → Calls Try.prog 27 #[.pointer (some ⟨R, 0, none⟩)] W (ReadEnd (fun x _ v => v = .int .u64 (x : Nat)) w.heap.size R o W)) :
    Calls Try.prog 26 #[v, .func (.func 27) #[] #[]] w (TakenNEnd l o w) := by
  have HB := Lib.hid hb
  have HR := Lib.hid hread
  clear hb hread
  obtain ⟨p, cap, rfl, h1, h2⟩ := hs
  have hmf : ∀ (fn : Fn) (first cap : Array Value) (w : World), (Instr.makeFunc fn first cap).run Try.prog w = .ok (.func fn first cap) w := fun _ _ _ _ => rfl
  go_enter_defers Try.func26, Try.ntmps26
  go_wp2_with fail
  refine (HR.out _ (w.heap.size + 1) (start_rest w p cap l h1 h2 HB.out _) (by simp)).mono ?_
  rintro e w1 ⟨hk, ⟨T, r, vt, rfl, rfl, rfl, hr⟩ | ⟨rfl, rfl⟩⟩
  · have HK := Lib.hid hk
    have HRR := Lib.hid hr
    have HE := Lib.hid (err_cell w w1 _ hk)
    clear hk hr
    obtain ⟨-, p', cap', hbl, hlc, hcm, -⟩ := HRR.out
    have c1 : w1.cell? ⟨w.heap.size + 1, 0, none⟩ = some (.slice p' r.length cap') := cell_of_row w1 _ 0 _ _ (0, 0) hbl
    obtain ⟨c0, f0⟩ := HE.out
    clear hbl
    unfold maxLen at hcm h2
    have b1 : (l.length : Int) ≤ 9223372036854775807 := by omega
    have b2 : (r.length : Int) ≤ 9223372036854775807 := by omega
    have b3 : (0 : Int) ≤ (l.length : Int) := by omega
    have b4 : (0 : Int) ≤ (r.length : Int) := by omega
    go_wp2_with fail
    go_region
    all_goals
      go_wp2_with fail
      refine leaves_cons (f := 46) (args := #[.pointer (some ⟨w.heap.size, 0, none⟩)]) (by simp) (by simp [go_sem]) ?_
      refine (catchN_idle ⟨w.heap.size, 0, none⟩ _).mono ?_
      rintro e u' w'' ⟨rfl, rfl, rfl⟩
      have cs := err_set w w1 _ HK.out
      simp [Leaves, settle, results, Try.results26, go_sem, cs]
      exact ⟨((below_read w w1 _ _ HK.out).setCell (Nat.le_refl _) _).drew, .inl ⟨T, r, rfl, rfl⟩⟩
  · have HK := Lib.hid hk
    have HE := Lib.hid (err_cell w w1 _ hk)
    clear hk
    obtain ⟨c0, f0⟩ := HE.out
    go_wp2_with fail
    refine leaves_cons (f := 46) (args := #[.pointer (some ⟨w.heap.size, 0, none⟩)]) (by simp) (by simp [go_sem]) ?_
    refine (catchN_bad ⟨w.heap.size, 0, none⟩ 0 w1 c0 f0).mono ?_
    rintro e u' w'' ⟨rfl, rfl, rfl⟩
    have cs := err_set w w1 _ HK.out
    simp [Leaves, settle, results, Try.results26, go_sem, cs]
    exact ⟨(below_read w w1 _ _ HK.out).setCell (Nat.le_refl _) _, .inr ⟨rfl, rfl⟩⟩

set_option maxHeartbeats 1000000 in
set_option maxRecDepth 100000 in
theorem takeNum_any (v : Value) (l : List UInt8) (w : World) (h : ArgB w v l) : Calls Try.prog 6 #[v] w (TakenNEnd l (numP l 0 0) w) := by
  have HT := Lib.hid (takenN_any v l (numP l 0 0) w h.1 h.2 (fun W R hr _ => rdNum_any _ R l W hr))
  clear h
  go_enter Try.func6, Try.ntmps6
  go_wp2_with fail
  refine HT.out.mono ?_
  rintro e w1 ⟨hb, ⟨x, r, ho, rfl⟩ | ⟨ho, rfl⟩⟩
  · have HO := Lib.hid ho
    have HB := Lib.hid hb
    clear hb ho
    go_wp2_with fail
    go_ret3
    exact ⟨HB.out, .inl ⟨x, r, HO.out, rfl⟩⟩
  · have HO := Lib.hid ho
    have HB := Lib.hid hb
    clear hb ho
    go_wp2_with fail
    go_ret3
    exact ⟨HB.out, .inr ⟨HO.out, rfl⟩⟩
end Go.Proofs.Ythnpiafpkllbpaa

/-
  Contract of pack.taken at tuples: a reading that panics is told as an error.
-/
import Derived.Test.YthnpiafpkllbpaaPkM
import Derived.Test.YthnpiafpkllbpaaTupO
import Derived.Defers
import Derived.Recover
import Derived.Laws.Pointers
import Derived.RegionTactic
import Derived.BigRegion
namespace Go.Proofs.Ythnpiafpkllbpaa
open Go Go.RowKit

/-- What a reading answers: what the bytes begin with, or it panics; nothing that was there has turned but block R. -/
def ReadEnd {α : Type} (val : α → World → Value → Prop) (n₀ R : Nat) (o : Option (α × List UInt8)) (w : World) (e : Ending) (w' : World) : Prop :=
  KeepR R w w' ∧ ((∃ x r v, o = some (x, r) ∧ e = .returned v ∧ val x w' v ∧ RestAt n₀ w' R r) ∨ (o = none ∧ e = .panicked badP))

/-- The deferred closure, where the frame panics. -/
theorem catch_bad (p : Addr) (x : Int) (w : World) (hc : w.cell? p = some (.int .i64 x)) (hz : w.frozen? p = false) :
    CallsD Try.prog 51 #[.pointer (some p)] (.panicking badP) w fun e u' w' =>
      e = .returned (.tuple #[]) ∧ u' = .panicking [{ v := .iface 25 (.int .i64 30), recovered := true }] ∧ w' = w.setCell p (.int .i64 30) := by
  refine callsD_of_wpS Try.func51 rfl fun c₀ cs hu => ?_
  apply wpS_seq
  apply wpS_region
  simp [wpOpsS, go_sem, recoverD, hu, badP, Try.ntmps51, Exit.thenS]
  refine wpS_cond (t := true) (by simp [Act.eval, Array.replicate]) ?_
  simp only [if_true]
  apply wpS_region
  simp [wpOpsS, go_sem, hc, hz, bodyPostS, results, Try.results51]
/-- The deferred closure, where the frame returns. -/
theorem catch_idle (p : Addr) (w : World) :
    CallsD Try.prog 51 #[.pointer (some p)] .returning w fun e u' w' => e = .returned (.tuple #[]) ∧ u' = .returning ∧ w' = w := by
  refine callsD_of_wpS Try.func51 rfl fun c₀ cs hu => ?_
  apply wpS_seq
  apply wpS_region
  simp [wpOpsS, go_sem, recoverD, hu, Try.ntmps51, Exit.thenS]
  refine wpS_cond (t := false) (by simp [Act.eval, Array.replicate]) ?_
  simp only [Bool.false_eq_true, if_false]
  refine wpS_of_wp (wp_skip ?_)
  cases c₀
  simp_all [bodyPostS, results, Try.results51]

/-- What taken answers at tuples. -/
def TakenEnd (l : List UInt8) (o : Option (List V3 × List UInt8)) (w : World) (e : Ending) (w' : World) : Prop :=
  Below w.heap.size w w' ∧ ((∃ T r v, o = some (T, r) ∧ e = .returned (.tuple #[v, .int .i64 ((l.length : Int) - (r.length : Int)), .int .i64 0]) ∧ OwnR w.heap.size w' v T) ∨ (o = none ∧ e = .returned (.tuple #[.slice none 0 0, .int .i64 0, .int .i64 30])))
theorem start_rest (w : World) (p : Option Addr) (cap : Nat) (l : List UInt8) (h1 : l.length ≤ cap) (h2 : cap ≤ maxLen) (hb : BytIn w.heap.size w (.slice p l.length cap) l) (o : Obj) :
    RestAt w.heap.size ((w.alloc o).alloc (.cells #[.slice p l.length cap] 91)) (w.heap.size + 1) l := by
  refine ⟨by omega, p, cap, ?_, h1, h2, hb.below (((Below.refl _ _).alloc (Nat.le_refl _) _).alloc (by simp) _)⟩
  have h := heap_alloc_new (w.alloc o) (.cells #[.slice p l.length cap] 91)
  rw [show (w.alloc o).heap.size = w.heap.size + 1 by simp] at h
  exact h
/-- The error's variable is as it was laid. -/
theorem err_set (w w1 : World) (o : Obj) (hk : KeepR (w.heap.size + 1) ((w.alloc (.cells #[.int .i64 0] 25)).alloc o) w1) (u : Value) : (w1.setCell ⟨w.heap.size, 0, none⟩ u).cell? ⟨w.heap.size, 0, none⟩ = some u := by
  have h0 : ((w.alloc (.cells #[.int .i64 0] 25)).alloc o).heap[w.heap.size]? = some (.cells #[.int .i64 0] 25 (0, 0)) :=
    (Below.heap_alloc _ o _ (by simp)).trans (heap_alloc_new w _)
  have h1 := (hk.block w.heap.size (by simp; omega) (by simp)).trans h0
  have h2 := heap_setCell_same w1 w.heap.size 0 #[.int .i64 0] _ u h1
  exact cell_of_row _ _ 0 _ _ (0, 0) h2
theorem below_read (w w1 : World) (o o' : Obj) (hk : KeepR (w.heap.size + 1) ((w.alloc o).alloc o') w1) : Below w.heap.size w w1 :=
  (((Below.refl w.heap.size w).alloc (Nat.le_refl _) o).alloc (by simp) o').grown hk (by simp; omega) (fun k hk => by injection hk with hk; omega)
theorem OwnR.mono {B B' : Nat} {w : World} {v : Value} {T : List V3} (h : OwnR B w v T) (hB : B' ≤ B) : OwnR B' w v T := by
  refine ⟨h.1, ?_⟩
  rcases h.2 with hn | ⟨g, cap, cur, rfl, hB', rest⟩
  · exact .inl hn
  · exact .inr ⟨g, cap, cur, rfl, by omega, rest⟩
theorem OwnR.set {B : Nat} {w : World} {v : Value} {T : List V3} (h : OwnR B w v T) {a : Addr} (ha : a.block < B) (u : Value) : OwnR B (w.setCell a u) v T := ownsRow_setCell_below h ha u
theorem err_cell (w w1 : World) (o : Obj) (hk : KeepR (w.heap.size + 1) ((w.alloc (.cells #[.int .i64 0] 25)).alloc o) w1) : w1.cell? ⟨w.heap.size, 0, none⟩ = some (.int .i64 0) ∧ w1.frozen? ⟨w.heap.size, 0, none⟩ = false := by
  have h0 : ((w.alloc (.cells #[.int .i64 0] 25)).alloc o).heap[w.heap.size]? = some (.cells #[.int .i64 0] 25 (0, 0)) :=
    (Below.heap_alloc _ o _ (by simp)).trans (heap_alloc_new w _)
  have h1 := (hk.block w.heap.size (by simp; omega) (by simp)).trans h0
  exact ⟨cell_of_row w1 _ 0 _ _ (0, 0) h1, frozen_of_row w1 _ 0 _ _ h1⟩
set_option maxHeartbeats 1000000 in
set_option maxRecDepth 100000 in
theorem taken_any (v : Value) (l : List UInt8) (o : Option (List V3 × List UInt8)) (w : World) (hb : BytIn w.heap.size w v l) (hs : ∃ p cap, v = .slice p l.length cap ∧ l.length ≤ cap ∧ cap ≤ maxLen)
    (hread : ∀ W R, RestAt w.heap.size W R l → w.heap.size + 2 ≤ W.heap.size → Calls Try.prog 45 #[.pointer (some ⟨R, 0, none⟩)] W (ReadEnd (fun T W' v => OwnR (w.heap.size + 2) W' v T) w.heap.size R o W)) :
    Calls Try.prog 34 #[v, .func (.func 45) #[] #[]] w (TakenEnd l o w) := by
  have HB := Lib.hid hb
  have HR := Lib.hid hread
  clear hb hread
  obtain ⟨p, cap, rfl, h1, h2⟩ := hs
  have hmf : ∀ (fn : Fn) (first cap : Array Value) (w : World), (Instr.makeFunc fn first cap).run Try.prog w = .ok (.func fn first cap) w := fun _ _ _ _ => rfl
  go_enter_defers Try.func34, Try.ntmps34
  go_wp2_with fail
  refine (HR.out _ (w.heap.size + 1) (start_rest w p cap l h1 h2 HB.out _) (by simp)).mono ?_
  rintro e w1 ⟨hk, ⟨T, r, vt, rfl, rfl, ho, hr⟩ | ⟨rfl, rfl⟩⟩
  · have HO := Lib.hid ho
    have HK := Lib.hid hk
    have HRR := Lib.hid hr
    have HE := Lib.hid (err_cell w w1 _ hk)
    clear ho hk hr
    obtain ⟨-, p', cap', hbl, hlc, hcm, -⟩ := HRR.out
    have c1 : w1.cell? ⟨w.heap.size + 1, 0, none⟩ = some (.slice p' r.length cap') := cell_of_row w1 _ 0 _ _ (0, 0) hbl
    obtain ⟨c0, f0⟩ := HE.out
    clear hbl
    unfold maxLen at hcm h2
    have b1 : (l.length : Int) ≤ 9223372036854775807 := by omega
    have b2 : (r.length : Int) ≤ 9223372036854775807 := by omega
    have b3 : (0 : Int) ≤ (l.length : Int) := by omega
    have b4 : (0 : Int) ≤ (r.length : Int) := by omega
    go_wp2_with fail
    go_region
    all_goals
      go_wp2_with fail
      refine leaves_cons (f := 51) (args := #[.pointer (some ⟨w.heap.size, 0, none⟩)]) (by simp) (by simp [go_sem]) ?_
      refine (catch_idle ⟨w.heap.size, 0, none⟩ _).mono ?_
      rintro e u' w'' ⟨rfl, rfl, rfl⟩
      have cs := err_set w w1 _ HK.out
      simp [Leaves, settle, results, Try.results34, go_sem, cs]
      refine ⟨((below_read w w1 _ _ HK.out).setCell (Nat.le_refl _) _).drew, .inl ⟨T, r, vt, rfl, rfl, ?_⟩⟩
      exact (HO.out.set (by simp) _).mono (by omega)
  · have HK := Lib.hid hk
    have HE := Lib.hid (err_cell w w1 _ hk)
    clear hk
    obtain ⟨c0, f0⟩ := HE.out
    go_wp2_with fail
    refine leaves_cons (f := 51) (args := #[.pointer (some ⟨w.heap.size, 0, none⟩)]) (by simp) (by simp [go_sem]) ?_
    refine (catch_bad ⟨w.heap.size, 0, none⟩ 0 w1 c0 f0).mono ?_
    rintro e u' w'' ⟨rfl, rfl, rfl⟩
    have cs := err_set w w1 _ HK.out
    simp [Leaves, settle, results, Try.results34, go_sem, cs]
    exact ⟨(below_read w w1 _ _ HK.out).setCell (Nat.le_refl _) _, .inr ⟨rfl, rfl⟩⟩
end Go.Proofs.Ythnpiafpkllbpaa

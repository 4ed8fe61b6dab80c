/-
  Contracts of slices.Concat at three rows of bytes, and of run.intact where all is well.
  Contract of run.tried: what is done, up to the first error, which is a panic.
  Contracts of run.need, run.got at bytes and at ints, run.intact where all is not well.
-/
import Derived.Test.YtdjhfcopnhcljaaGreatDoorW08
import Derived.Defers
import Derived.Recover
import Derived.Laws.Pointers
import Derived.RegionTactic
import Derived.BigRegion
namespace Go.Proofs.YtdjhfcopnhcljaaGreatDoor
section
open Go Go.RowKit

/-- Block b holds three slice values, which read as bytes. -/
def ThreeB (w : World) (b : Nat) (l m n : List UInt8) : Prop :=
  ∃ p c q d r e, b < w.heap.size ∧ w.cell? ⟨b, 0, none⟩ = some (.slice p l.length c) ∧ w.cell? ⟨b, 1, none⟩ = some (.slice q m.length d) ∧ w.cell? ⟨b, 2, none⟩ = some (.slice r n.length e) ∧
    BytIn w.heap.size w (.slice p l.length c) l ∧ BytIn w.heap.size w (.slice q m.length d) m ∧ BytIn w.heap.size w (.slice r n.length e) n
theorem ThreeB.lit {w1 : World} {p q r : Option Addr} {c d e : Nat} {l m n : List UInt8} (h1 : BytIn w1.heap.size w1 (.slice p l.length c) l) (h2 : BytIn w1.heap.size w1 (.slice q m.length d) m) (h3 : BytIn w1.heap.size w1 (.slice r n.length e) n) :
    ThreeB (w1.alloc (.cells #[.slice p l.length c, .slice q m.length d, .slice r n.length e] 24)) w1.heap.size l m n := by
  refine ⟨p, c, q, d, r, e, by simp, ?_, ?_, ?_, ?_, ?_, ?_⟩
  · rw [cell_of_row _ w1.heap.size 0 _ _ (0, 0) (heap_alloc_new w1 _)]; rfl
  · rw [cell_of_row _ w1.heap.size 1 _ _ (0, 0) (heap_alloc_new w1 _)]; rfl
  · rw [cell_of_row _ w1.heap.size 2 _ _ (0, 0) (heap_alloc_new w1 _)]; rfl
  · exact (h1.below ((Below.refl _ _).alloc (Nat.le_refl _) _)).mono (by simp)
  · exact (h2.below ((Below.refl _ _).alloc (Nat.le_refl _) _)).mono (by simp)
  · exact (h3.below ((Below.refl _ _).alloc (Nat.le_refl _) _)).mono (by simp)
set_option maxHeartbeats 2000000 in
set_option maxRecDepth 100000 in
theorem concat3_any (b : Nat) (l m n : List UInt8) (w : World) (h : ThreeB w b l m n) (hl : l.length + m.length + n.length ≤ 100000000000000) :
    Calls Tryz.prog 97 #[.slice (some ⟨b, 0, none⟩) 3 3] w (EndB (l ++ m ++ n) w) := by
  obtain ⟨p, c, q, d, r, g, hb, h0, h1, h2, hi, hj, hk⟩ := h
  have HI := Lib.hid hi
  have HJ := Lib.hid hj
  have HK := Lib.hid hk
  have HB := Lib.hid hb
  have HLn := Lib.hid hl
  have hl1 : (l.length : Int) ≤ 100000000000000 := by omega
  have hl2 : (l.length : Int) + (m.length : Int) ≤ 100000000000000 := by omega
  have hl5 : (l.length : Int) + (m.length : Int) + (n.length : Int) ≤ 100000000000000 := by omega
  have hl3 : (0 : Int) ≤ (l.length : Int) := by omega
  have hl4 : (0 : Int) ≤ (l.length : Int) + (m.length : Int) := by omega
  have hl6 : (0 : Int) ≤ (l.length : Int) + (m.length : Int) + (n.length : Int) := by omega
  clear hi hj hk hl hb
  go_enter Tryz.func97, Tryz.ntmps97
  go_wp2_with fail
  refine wp_loop_rounds 4 ?_
  iterate 4 (rw [rounds_succ]; go_wp2_with fail)
  have ESum : Hid ((l.length : Int) + (m.length : Int) + (n.length : Int) = ((l.length + m.length + n.length : Nat) : Int)) := Lib.hid (by omega)
  rw [ESum.out]
  refine (grow_all _ _ HLn.out).mono ?_
  rintro e w1 ⟨v1, rfl, ho1, hb1⟩
  have c0 : w1.cell? ⟨b, 0, none⟩ = some (.slice p l.length c) := (hb1.cell (p := ⟨b, 0, none⟩) HB.out).trans h0
  have HO1 := Lib.hid ho1
  have HB1 := Lib.hid hb1
  have HI1 := Lib.hid (HI.out.below hb1)
  have H1 := Lib.hid h1
  have H2 := Lib.hid h2
  clear ho1 hb1 h0 h1 h2
  go_wp2_with fail
  refine wp_loop_rounds 4 ?_
  rw [rounds_succ]
  go_wp2_with (at_builtin; refine wpList_app rfl (.tmp 31) (.tmp 32) rfl w.heap.size w.heap.size w _ _ [] l rfl rfl HO1.out HI1.out (by have := HLn.out; rw [List.length_nil]; omega) HB1.out (Nat.le_refl _) ?_; intro v2 w2 ho2 hb2)
  have c1 : w2.cell? ⟨b, 1, none⟩ = some (.slice q m.length d) := (hb2.cell (p := ⟨b, 1, none⟩) HB.out).trans H1.out
  have HO2 := Lib.hid ho2
  have HB2 := Lib.hid hb2
  have HJ2 := Lib.hid (HJ.out.below hb2)
  clear ho2 hb2 c0
  rw [rounds_succ]
  go_wp2_with (at_builtin; refine wpList_app rfl (.tmp 31) (.tmp 32) rfl w.heap.size w.heap.size w _ _ l m rfl rfl HO2.out HJ2.out (by have := HLn.out; omega) HB2.out (Nat.le_refl _) ?_; intro v3 w3 ho3 hb3)
  have c2 : w3.cell? ⟨b, 2, none⟩ = some (.slice r n.length g) := (hb3.cell (p := ⟨b, 2, none⟩) HB.out).trans H2.out
  have HO3 := Lib.hid ho3
  have HB3 := Lib.hid hb3
  have HK3 := Lib.hid (HK.out.below hb3)
  clear ho3 hb3 c1
  rw [rounds_succ]
  go_wp2_with (at_builtin; refine wpList_app rfl (.tmp 31) (.tmp 32) rfl w.heap.size w.heap.size w _ _ (l ++ m) n rfl rfl HO3.out HK3.out (by have := HLn.out; rw [List.length_append]; omega) HB3.out (Nat.le_refl _) ?_; intro v4 w4 ho4 hb4)
  have HO4 := Lib.hid ho4
  have HB4 := Lib.hid hb4
  clear ho4 hb4 c2
  rw [rounds_succ]
  go_wp2_with fail
  go_ret
  exact ⟨_, rfl, HO4.out, HB4.out⟩
set_option maxHeartbeats 400000 in
theorem intact_ok (w : World) : Calls Tryz.prog 53 #[.bool true] w fun e w' => (∃ v, e = .returned v) ∧ w = w' := by
  go_enter Tryz.func53, Tryz.ntmps53
  go_wp2_with fail
  refine bodyPost_end (results_none rfl _ _ _) rfl ?_
  exact ⟨⟨_, rfl⟩, rfl⟩
end
section
open Go Go.RowKit

/-- A panic with an error. -/
abbrev errP (n : Int) : List PanicEntry := [{ v := .iface 25 (.int .i64 n), recovered := false }]
/-- The deferred closure, where the frame panics. -/
theorem tried_bad (p : Addr) (x n : Int) (w : World) (hc : w.cell? p = some (.int .i64 x)) (hz : w.frozen? p = false) :
    CallsD Tryz.prog 121 #[.pointer (some p)] (.panicking (errP n)) w fun e u' w' =>
      e = .returned (.tuple #[]) ∧ u' = .panicking [{ v := .iface 25 (.int .i64 n), recovered := true }] ∧ w' = w.setCell p (.int .i64 n) := by
  have hta : ∀ W : World, (Instr.typeAssert (Value.iface 25 (.int .i64 n)) 20 25 false).run Tryz.prog W = .ok (.int .i64 n) W := fun W => by kernel_rfl
  refine callsD_of_wpS Tryz.func121 rfl fun c₀ cs hu => ?_
  apply wpS_seq
  apply wpS_region
  simp [wpOpsS, go_sem, recoverD, hu, errP, Tryz.ntmps121, Exit.thenS]
  apply wpS_seq
  apply wpS_region
  simp [wpOpsS, go_sem, Exit.thenS]
  refine wpS_cond (t := true) (by simp [Act.eval, Array.replicate]) ?_
  simp only [if_true]
  apply wpS_region
  simp [wpOpsS, go_sem, hta, hc, hz, bodyPostS, results, Tryz.results121]
/-- The deferred closure, where the frame returns. -/
theorem tried_idle (p : Addr) (w : World) :
    CallsD Tryz.prog 121 #[.pointer (some p)] .returning w fun e u' w' => e = .returned (.tuple #[]) ∧ u' = .returning ∧ w' = w := by
  refine callsD_of_wpS Tryz.func121 rfl fun c₀ cs hu => ?_
  apply wpS_seq
  apply wpS_region
  simp [wpOpsS, go_sem, recoverD, hu, Tryz.ntmps121, Exit.thenS]
  apply wpS_seq
  apply wpS_region
  simp [wpOpsS, go_sem, Exit.thenS]
  refine wpS_cond (t := false) (by simp [Act.eval, Array.replicate]) ?_
  simp only [Bool.false_eq_true, if_false]
  refine wpS_of_wp (wp_skip ?_)
  cases c₀
  simp_all [bodyPostS, results, Tryz.results121]
theorem set_same {w : World} {b : Nat} {u v : Value} (h : w.cell? ⟨b, 0, none⟩ = some u) : (w.setCell ⟨b, 0, none⟩ v).cell? ⟨b, 0, none⟩ = some v := World.cell?_setCell_same _ _ _ h
/-- How what is done may end: it returns, or panics with an error; the error's variable is untouched. -/
def DoEnd (E : Nat) (R : World → Prop) (Rx : Int → World → Prop) (e : Ending) (w' : World) : Prop :=
  (w'.cell? ⟨E, 0, none⟩ = some (.int .i64 0) ∧ w'.frozen? ⟨E, 0, none⟩ = false) ∧ ((∃ v, e = .returned v) ∧ R w' ∨ ∃ n, e = .panicked (errP n) ∧ Rx n w')
set_option maxHeartbeats 1000000 in
set_option maxRecDepth 100000 in
theorem tried_any (k : Nat) (caps : Array Value) (w : World) (R : World → Prop) (Rx : Int → World → Prop) (eg : ∀ args w, (callFunc k args).run Tryz.prog w = .ok (.enter k args) w)
    (hdo : Calls Tryz.prog k caps (w.alloc (.cells #[.int .i64 0] 25)) (DoEnd w.heap.size R Rx)) :
    Calls Tryz.prog 66 #[.func (.func k) #[] caps] w fun e w' => ∃ W n, (n = 0 ∧ R W ∨ Rx n W) ∧ e = .returned (.int .i64 n) ∧ w' = W.setCell ⟨w.heap.size, 0, none⟩ (.int .i64 n) := by
  have HD := Lib.hid hdo
  clear hdo
  have hmf : ∀ (fn : Fn) (first cap : Array Value) (w : World), (Instr.makeFunc fn first cap).run Tryz.prog w = .ok (.func fn first cap) w := fun _ _ _ _ => rfl
  go_enter_defers Tryz.func66, Tryz.ntmps66
  go_wp2_with fail
  refine HD.out.mono ?_
  rintro e w1 ⟨⟨hc, hz⟩, ⟨⟨v, rfl⟩, hR⟩ | ⟨n, rfl, hX⟩⟩
  · have HR := Lib.hid hR
    clear hR
    have cs : (w1.setCell ⟨w.heap.size, 0, none⟩ (.int .i64 0)).cell? ⟨w.heap.size, 0, none⟩ = some (.int .i64 0) := set_same hc
    go_wp2_with fail
    refine leaves_cons (f := 121) (args := #[.pointer (some ⟨w.heap.size, 0, none⟩)]) (by simp) (by simp [go_sem]) ?_
    refine (tried_idle ⟨w.heap.size, 0, none⟩ _).mono ?_
    rintro e u' w'' ⟨rfl, rfl, rfl⟩
    simp [Leaves, settle, results, Tryz.results66, go_sem, cs]
    exact ⟨w1, 0, .inl ⟨rfl, HR.out⟩, rfl, rfl⟩
  · have HX := Lib.hid hX
    clear hX
    have cs : (w1.setCell ⟨w.heap.size, 0, none⟩ (.int .i64 n)).cell? ⟨w.heap.size, 0, none⟩ = some (.int .i64 n) := set_same hc
    go_wp2_with fail
    refine leaves_cons (f := 121) (args := #[.pointer (some ⟨w.heap.size, 0, none⟩)]) (by simp) (by simp [go_sem]) ?_
    refine (tried_bad ⟨w.heap.size, 0, none⟩ 0 n w1 hc hz).mono ?_
    rintro e u' w'' ⟨rfl, rfl, rfl⟩
    simp [Leaves, settle, results, Tryz.results66, go_sem, cs]
    exact ⟨w1, n, .inr HX.out, rfl, rfl⟩
end
section
open Go Go.RowKit

set_option maxRecDepth 100000
theorem need_ok (w : World) : Calls Tryz.prog 69 #[.int .i64 0] w fun e w' => (∃ v, e = .returned v) ∧ w = w' := by
  go_enter Tryz.func69, Tryz.ntmps69
  go_wp2_with fail
  refine bodyPost_end (results_none rfl _ _ _) rfl ?_
  exact ⟨⟨_, rfl⟩, rfl⟩
theorem need_bad (n : Int) (w : World) (hn : n ≠ 0) : Calls Tryz.prog 69 #[.int .i64 n] w fun e w' => e = .panicked (errP n) ∧ w = w' := by
  have h1 : (n == 0) = false := by simpa using hn
  have h2 : (n != 0) = true := by simpa using hn
  have h3 : decide (n = 0) = false := by simpa using hn
  go_enter Tryz.func69, Tryz.ntmps69
  go_wp2_with fail
  exact ⟨rfl, rfl, rfl⟩
theorem intact_bad (w : World) : Calls Tryz.prog 53 #[.bool false] w fun e w' => e = .panicked (errP 71) ∧ w = w' := by
  go_enter Tryz.func53, Tryz.ntmps53
  go_wp2_with fail
  exact ⟨rfl, rfl, rfl⟩
theorem gotB_ok (v : Value) (w : World) : Calls Tryz.prog 68 #[v, .int .i64 0] w fun e w' => e = .returned v ∧ w = w' := by
  go_enter Tryz.func68, Tryz.ntmps68
  go_wp2_with fail
  refine (need_ok w).mono ?_
  rintro e w1 ⟨⟨u, rfl⟩, rfl⟩
  go_wp2_with fail
  go_ret
  exact ⟨rfl, rfl⟩
theorem gotB_bad (v : Value) (n : Int) (w : World) (hn : n ≠ 0) : Calls Tryz.prog 68 #[v, .int .i64 n] w fun e w' => e = .panicked (errP n) ∧ w = w' := by
  go_enter Tryz.func68, Tryz.ntmps68
  go_wp2_with fail
  refine (need_bad n w hn).mono ?_
  rintro e w1 ⟨rfl, rfl⟩
  go_wp2_with fail
  exact ⟨rfl, rfl, rfl⟩
theorem gotI_ok (v : Value) (w : World) : Calls Tryz.prog 76 #[v, .int .i64 0] w fun e w' => e = .returned v ∧ w = w' := by
  go_enter Tryz.func76, Tryz.ntmps76
  go_wp2_with fail
  refine (need_ok w).mono ?_
  rintro e w1 ⟨⟨u, rfl⟩, rfl⟩
  go_wp2_with fail
  go_ret
  exact ⟨rfl, rfl⟩
theorem gotI_bad (v : Value) (n : Int) (w : World) (hn : n ≠ 0) : Calls Tryz.prog 76 #[v, .int .i64 n] w fun e w' => e = .panicked (errP n) ∧ w = w' := by
  go_enter Tryz.func76, Tryz.ntmps76
  go_wp2_with fail
  refine (need_bad n w hn).mono ?_
  rintro e w1 ⟨rfl, rfl⟩
  go_wp2_with fail
  exact ⟨rfl, rfl, rfl⟩
end
end Go.Proofs.YtdjhfcopnhcljaaGreatDoor

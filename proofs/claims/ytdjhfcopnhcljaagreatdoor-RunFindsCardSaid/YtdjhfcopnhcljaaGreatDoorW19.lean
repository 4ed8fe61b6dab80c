/-
  Contract of pack's reading of a tuple with its count.
  Contracts of pack.taken at counted tuples, and of pack.TakeCounted.
  Contracts of pack.taken at ints, and of pack.TakeInt.
-/
import Derived.Test.YtdjhfcopnhcljaaGreatDoorW18
namespace Go.Proofs.YtdjhfcopnhcljaaGreatDoor
section
open Go Go.RowKit

theorem new_cells2 {R : Nat} {w w1 : World} {x y : Value} {t : TypeId} (hk : KeepR R (w.alloc (.cells #[x, y] t)) w1) (hR : R < w.heap.size) :
    w1.cell? ⟨w.heap.size, 0, none⟩ = some x ∧ w1.cell? ⟨w.heap.size, 1, none⟩ = some y ∧ w1.frozen? ⟨w.heap.size, 0, none⟩ = false ∧ w1.frozen? ⟨w.heap.size, 1, none⟩ = false ∧ w.heap.size < w1.heap.size := by
  have hb := (hk.block w.heap.size (by simp) (by intro e; injection e with e; omega)).trans (heap_alloc_new w _)
  exact ⟨cell_of_row w1 _ 0 _ _ (0, 0) hb, cell_of_row w1 _ 1 _ _ (0, 0) hb, frozen_of_row w1 _ 0 _ _ hb, frozen_of_row w1 _ 1 _ _ hb, (Array.getElem?_eq_some_iff.1 hb).1⟩
theorem below_sets2 (B : Nat) (w : World) (x y : Value) : Below B w ((w.setCell ⟨B, 0, none⟩ x).setCell ⟨B, 1, none⟩ y) :=
  ((Below.refl B w).setCell (p := ⟨B, 0, none⟩) (Nat.le_refl _) x).setCell (p := ⟨B, 1, none⟩) (Nat.le_refl _) y
theorem RowN.set {w : World} {g n : Nat} {acc : List V3} (h : RowN w g n acc) (b o : Nat) (u : Value) (hb : g ≠ b) : RowN (w.setCell ⟨b, o, none⟩ u) g n acc := by
  obtain ⟨A, h1, h2⟩ := h
  exact ⟨A, (heap_setCell_other w ⟨b, o, none⟩ g u hb).trans h1, h2⟩
/-- A tuple and its count, in memory that is new. -/
def CntV (B : Nat) (p : List V3 × Int) (w : World) (v : Value) : Prop := ∃ g, B ≤ g ∧ v = .agg #[.slice (some ⟨g, 0, none⟩) p.1.length p.1.length, .int .i64 p.2] ∧ RowN w g p.1.length p.1 ∧ p.1.length ≤ 8

set_option maxHeartbeats 2000000 in
set_option maxRecDepth 100000 in
theorem rdCnt_any (n₀ R : Nat) (l : List UInt8) (w : World) (h : RestAt n₀ w R l) : Calls Tryz.prog 178 #[.pointer (some ⟨R, 0, none⟩)] w (ReadEnd (CntV w.heap.size) n₀ R (cntQ l) w) := by
  have H := Lib.hid h
  have hRlt := h.lt
  clear h
  have K0 := Lib.hid (keep_alloc R w (.cells #[.slice none 0 0, .int .i64 0] 66))
  go_enter Tryz.func178, Tryz.ntmps178
  go_wp2_with fail
  refine (rdTup_any n₀ R l _ (H.out.alloc _)).mono ?_
  rintro e w1 ⟨hk, ⟨T, r, v, ho, rfl, ⟨g, hg, rfl, hrow, h8⟩, hr⟩ | ⟨ho, rfl⟩⟩
  · have HK := Lib.hid hk
    have HR := Lib.hid hr
    have HRow := Lib.hid hrow
    have HC : Hid (cntQ l = (intQ r).map (fun p => ((T, p.1), p.2))) := Lib.hid (by unfold cntQ; rw [ho])
    have hg' : w.heap.size < g := by simp at hg; omega
    clear hk hr hrow ho hg
    go_wp2_with fail
    refine (rdI_any n₀ R r w1 HR.out).mono ?_
    rintro e w2 ⟨hk, ⟨x, r', v, ho, rfl, rfl, hr⟩ | ⟨ho, rfl⟩⟩
    · have HK2 := Lib.hid (HK.out.trans hk)
      have HRow2 := Lib.hid (HRow.out.keep hk (by omega))
      have HR2 := Lib.hid hr
      have HC' : Hid (cntQ l = some ((T, x), r')) := Lib.hid (by rw [HC.out, ho]; rfl)
      clear hk hr ho
      obtain ⟨c0, c1, f0, f1, hlt⟩ := new_cells2 HK2.out hRlt
      go_wp2_with fail
      exact bodyPost_ret (v := .agg #[.slice (some ⟨g, 0, none⟩) T.length T.length, .int .i64 x]) (by simp [results, Tryz.results178, go_sem, c0, c1]) rfl ⟨(K0.out.trans HK2.out).below (below_sets2 _ _ _ _), .inl ⟨(T, x), r', _, HC'.out, rfl, ⟨g, by omega, rfl, (HRow2.out.set _ _ _ (by omega)).set _ _ _ (by omega), h8⟩, HR2.out.below (below_sets2 _ _ _ _) hRlt⟩⟩
    · have HK2 := Lib.hid ((K0.out.trans HK.out).trans hk)
      have HC' : Hid (cntQ l = none) := Lib.hid (by rw [HC.out, ho]; rfl)
      clear hk ho
      go_wp2_with fail
      exact ⟨rfl, HK2.out, .inr ⟨HC'.out, rfl⟩⟩
  · have HK2 := Lib.hid (K0.out.trans hk)
    have HC' : Hid (cntQ l = none) := Lib.hid (by unfold cntQ; rw [ho])
    clear hk ho
    go_wp2_with fail
    exact ⟨rfl, HK2.out, .inr ⟨HC'.out, rfl⟩⟩
end
section
open Go Go.RowKit

/-- The deferred closure, where the frame panics. -/
theorem catchC_bad (p : Addr) (x : Int) (w : World) (hc : w.cell? p = some (.int .i64 x)) (hz : w.frozen? p = false) :
    CallsD Tryz.prog 198 #[.pointer (some p)] (.panicking badP) w fun e u' w' =>
      e = .returned (.tuple #[]) ∧ u' = .panicking [{ v := .iface 25 (.int .i64 30), recovered := true }] ∧ w' = w.setCell p (.int .i64 30) := by
  refine callsD_of_wpS Tryz.func198 rfl fun c₀ cs hu => ?_
  apply wpS_seq
  apply wpS_region
  simp [wpOpsS, go_sem, recoverD, hu, badP, Tryz.ntmps198, Exit.thenS]
  refine wpS_cond (t := true) (by simp [Act.eval, Array.replicate]) ?_
  simp only [if_true]
  apply wpS_region
  simp [wpOpsS, go_sem, hc, hz, bodyPostS, results, Tryz.results198]
/-- The deferred closure, where the frame returns. -/
theorem catchC_idle (p : Addr) (w : World) :
    CallsD Tryz.prog 198 #[.pointer (some p)] .returning w fun e u' w' => e = .returned (.tuple #[]) ∧ u' = .returning ∧ w' = w := by
  refine callsD_of_wpS Tryz.func198 rfl fun c₀ cs hu => ?_
  apply wpS_seq
  apply wpS_region
  simp [wpOpsS, go_sem, recoverD, hu, Tryz.ntmps198, Exit.thenS]
  refine wpS_cond (t := false) (by simp [Act.eval, Array.replicate]) ?_
  simp only [Bool.false_eq_true, if_false]
  refine wpS_of_wp (wp_skip ?_)
  cases c₀
  simp_all [bodyPostS, results, Tryz.results198]

theorem CntV.mono {B B' : Nat} {p : List V3 × Int} {w : World} {v : Value} (h : CntV B p w v) (hB : B' ≤ B) : CntV B' p w v := by
  obtain ⟨g, h1, h2⟩ := h
  exact ⟨g, by omega, h2⟩
/-- What taken answers at counted tuples. -/
def TakenCEnd (l : List UInt8) (o : Option ((List V3 × Int) × List UInt8)) (w : World) (e : Ending) (w' : World) : Prop :=
  Below w.heap.size w w' ∧ ((∃ p r v, o = some (p, r) ∧ e = .returned (.tuple #[v, .int .i64 ((l.length : Int) - (r.length : Int)), .int .i64 0]) ∧ CntV w.heap.size p w' v) ∨ (o = none ∧ e = .returned (.tuple #[.agg #[.slice none 0 0, .int .i64 0], .int .i64 0, .int .i64 30])))
theorem start_rest2 (w : World) (p : Option Addr) (cap : Nat) (l : List UInt8) (h1 : l.length ≤ cap) (h2 : cap ≤ maxLen) (hb : BytIn w.heap.size w (.slice p l.length cap) l) (o o' : Obj) :
    RestAt w.heap.size (((w.alloc o).alloc o').alloc (.cells #[.slice p l.length cap] 263)) (w.heap.size + 2) l := by
  have B1 := ((Below.refl w.heap.size w).alloc (Nat.le_refl _) o).alloc (by simp) o'
  refine ⟨by omega, p, cap, ?_, h1, h2, hb.below (B1.alloc (by simp; omega) _)⟩
  have h := heap_alloc_new ((w.alloc o).alloc o') (.cells #[.slice p l.length cap] 263)
  rw [show ((w.alloc o).alloc o').heap.size = w.heap.size + 2 by simp] at h
  exact h
theorem below_read2 (w w1 : World) (o o' o2 : Obj) (hk : KeepR (w.heap.size + 2) (((w.alloc o).alloc o').alloc o2) w1) : Below w.heap.size w w1 :=
  ((((Below.refl w.heap.size w).alloc (Nat.le_refl _) o).alloc (by simp) o').alloc (by simp; omega) o2).grown hk (by simp; omega) (fun k hk => by injection hk with hk; omega)
/-- The two result cells' rows after the reading. -/
theorem rows_read (w w1 : World) (A A' : Array Value) (t t' : TypeId) (o2 : Obj) (hk : KeepR (w.heap.size + 2) (((w.alloc (.cells A t)).alloc (.cells A' t')).alloc o2) w1) : w1.heap[w.heap.size]? = some (.cells A t (0, 0)) ∧ w1.heap[w.heap.size + 1]? = some (.cells A' t' (0, 0)) := by
  have e1 : (w.alloc (.cells A t)).heap.size = w.heap.size + 1 := by simp
  have h0 : (((w.alloc (.cells A t)).alloc (.cells A' t')).alloc o2).heap[w.heap.size]? = some (.cells A t (0, 0)) :=
    (Below.heap_alloc _ o2 _ (by simp; omega)).trans ((Below.heap_alloc _ _ _ (by simp)).trans (heap_alloc_new w _))
  have h1 : (((w.alloc (.cells A t)).alloc (.cells A' t')).alloc o2).heap[w.heap.size + 1]? = some (.cells A' t' (0, 0)) := by
    refine (Below.heap_alloc _ o2 _ (by simp)).trans ?_
    have h := heap_alloc_new (w.alloc (.cells A t)) (.cells A' t')
    rw [e1] at h
    exact h
  exact ⟨(hk.block _ (by simp <;> omega) (by intro e; injection e with e; omega)).trans h0, (hk.block _ (by simp <;> omega) (by intro e; injection e with e; omega)).trans h1⟩
theorem last_cells (w w1 : World) (u n e : Value) {x y z : Value} {t t' : TypeId} (b0 : w1.heap[w.heap.size]? = some (.cells #[x, y] t (0, 0))) (b1 : w1.heap[w.heap.size + 1]? = some (.cells #[z] t' (0, 0))) :
    let W := (((((w1.setCell ⟨w.heap.size, 0, none⟩ u).setCell ⟨w.heap.size, 1, none⟩ n).setCell ⟨w.heap.size, 0, none⟩ u).setCell ⟨w.heap.size, 1, none⟩ n).setCell ⟨w.heap.size + 1, 0, none⟩ e)
    W.cell? ⟨w.heap.size, 0, none⟩ = some u ∧ W.cell? ⟨w.heap.size, 1, none⟩ = some n ∧ W.cell? ⟨w.heap.size + 1, 0, none⟩ = some e := by
  intro W
  have r0 := Go.heap_setCell_same _ w.heap.size 1 _ _ n (Go.heap_setCell_same _ w.heap.size 0 _ _ u (Go.heap_setCell_same _ w.heap.size 1 _ _ n (Go.heap_setCell_same w1 w.heap.size 0 _ _ u b0)))
  have r1 : ((((w1.setCell ⟨w.heap.size, 0, none⟩ u).setCell ⟨w.heap.size, 1, none⟩ n).setCell ⟨w.heap.size, 0, none⟩ u).setCell ⟨w.heap.size, 1, none⟩ n).heap[w.heap.size + 1]? = some (.cells #[z] t' (0, 0)) :=
    (heap_setCell_other _ _ _ _ (by simp)).trans ((heap_setCell_other _ _ _ _ (by simp)).trans ((heap_setCell_other _ _ _ _ (by simp)).trans ((heap_setCell_other _ _ _ _ (by simp)).trans b1)))
  have r0' : W.heap[w.heap.size]? = _ := (heap_setCell_other _ _ _ _ (by simp)).trans r0
  have r1' : W.heap[w.heap.size + 1]? = _ := Go.heap_setCell_same _ (w.heap.size + 1) 0 _ _ e r1
  exact ⟨(cell_of_row W _ 0 _ _ (0, 0) r0').trans (by simp), (cell_of_row W _ 1 _ _ (0, 0) r0').trans (by simp), (cell_of_row W _ 0 _ _ (0, 0) r1').trans (by simp)⟩
theorem below_sets4 (w w1 : World) (a b c d e : Value) (h : Below w.heap.size w w1) : Below w.heap.size w (((((w1.setCell ⟨w.heap.size, 0, none⟩ a).setCell ⟨w.heap.size, 1, none⟩ b).setCell ⟨w.heap.size, 0, none⟩ c).setCell ⟨w.heap.size, 1, none⟩ d).setCell ⟨w.heap.size + 1, 0, none⟩ e) :=
  ((((h.setCell (p := ⟨w.heap.size, 0, none⟩) (Nat.le_refl _) a).setCell (p := ⟨w.heap.size, 1, none⟩) (Nat.le_refl _) b).setCell (p := ⟨w.heap.size, 0, none⟩) (Nat.le_refl _) c).setCell (p := ⟨w.heap.size, 1, none⟩) (Nat.le_refl _) d).setCell (p := ⟨w.heap.size + 1, 0, none⟩) (Nat.le_succ _) e
set_option maxHeartbeats 2000000 in
set_option maxRecDepth 100000 in
theorem takenC_any (v : Value) (l : List UInt8) (o : Option ((List V3 × Int) × List UInt8)) (w : World) (hb : BytIn w.heap.size w v l) (hs : ∃ p cap, v = .slice p l.length cap ∧ l.length ≤ cap ∧ cap ≤ maxLen)
    (hread : ∀ W R, RestAt w.heap.size W R l → w.heap.size + 3 ≤ W.heap.size → Calls Tryz.prog 178 #[.pointer (some ⟨R, 0, none⟩)] W (ReadEnd (CntV (w.heap.size + 3)) w.heap.size R o W)) :
    Calls Tryz.prog 177 #[v, .func (.func 178) #[] #[]] w (TakenCEnd l o w) := by
  have HB := Lib.hid hb
  have HR := Lib.hid hread
  clear hb hread
  obtain ⟨p, cap, rfl, h1, h2⟩ := hs
  have hmf : ∀ (fn : Fn) (first cap : Array Value) (w : World), (Instr.makeFunc fn first cap).run Tryz.prog w = .ok (.func fn first cap) w := fun _ _ _ _ => rfl
  go_enter_defers Tryz.func177, Tryz.ntmps177
  go_wp2_with fail
  refine (HR.out _ (w.heap.size + 2) (start_rest2 w p cap l h1 h2 HB.out _ _) (by simp)).mono ?_
  rintro e w1 ⟨hk, ⟨T, r, vt, rfl, rfl, ⟨g, hg, rfl, hrow, h8⟩, hr⟩ | ⟨rfl, rfl⟩⟩
  · have HK := Lib.hid hk
    have HRow := Lib.hid hrow
    have HRR := Lib.hid hr
    obtain ⟨b0, b1⟩ := rows_read w w1 _ _ _ _ _ hk
    clear hk hr hrow
    obtain ⟨-, p', cap', hbl, hlc, hcm, -⟩ := HRR.out
    have c1 : w1.cell? ⟨w.heap.size + 2, 0, none⟩ = some (.slice p' r.length cap') := cell_of_row w1 _ 0 _ _ (0, 0) hbl
    have x0 : w1.cell? ⟨w.heap.size, 0, none⟩ = some (.slice none 0 0) := cell_of_row w1 _ 0 _ _ (0, 0) b0
    have x1 : w1.cell? ⟨w.heap.size, 1, none⟩ = some (.int .i64 0) := cell_of_row w1 _ 1 _ _ (0, 0) b0
    have y0 : w1.frozen? ⟨w.heap.size, 0, none⟩ = false := frozen_of_row w1 _ 0 _ _ b0
    have y1 : w1.frozen? ⟨w.heap.size, 1, none⟩ = false := frozen_of_row w1 _ 1 _ _ b0
    have x2 : w1.cell? ⟨w.heap.size + 1, 0, none⟩ = some (.int .i64 0) := cell_of_row w1 _ 0 _ _ (0, 0) b1
    have y2 : w1.frozen? ⟨w.heap.size + 1, 0, none⟩ = false := frozen_of_row w1 _ 0 _ _ b1
    clear hbl
    have B0 := Lib.hid b0
    have B1 := Lib.hid b1
    clear b0 b1
    unfold maxLen at hcm h2
    have b1 : (l.length : Int) ≤ 9223372036854775807 := by omega
    have b2 : (r.length : Int) ≤ 9223372036854775807 := by omega
    have b3 : (0 : Int) ≤ (l.length : Int) := by omega
    have b4 : (0 : Int) ≤ (r.length : Int) := by omega
    go_wp2_with fail
    go_region
    go_wp2_with fail
    refine leaves_cons (f := 198) (args := #[.pointer (some ⟨w.heap.size + 1, 0, none⟩)]) (by simp) (by simp [go_sem]) ?_
    refine (catchC_idle ⟨w.heap.size + 1, 0, none⟩ _).mono ?_
    rintro e u' w'' ⟨rfl, rfl, rfl⟩
    obtain ⟨s0, s1, s2⟩ := last_cells w w1 (.slice (some ⟨g, 0, none⟩) T.1.length T.1.length) (.int .i64 T.2) (.int .i64 0) B0.out B1.out
    simp [Leaves, settle, results, Tryz.results177, go_sem, s0, s1, s2]
    refine ⟨((below_sets4 w w1 _ _ _ _ _ (below_read2 w w1 _ _ _ HK.out))).drew, .inl ⟨T, r, _, rfl, rfl, ⟨g, by omega, rfl, ?_, h8⟩⟩⟩
    exact ((((HRow.out.set _ _ _ (by omega)).set _ _ _ (by omega)).set _ _ _ (by omega)).set _ _ _ (by omega)).set _ _ _ (by omega)
  · have HK := Lib.hid hk
    obtain ⟨b0, b1⟩ := rows_read w w1 _ _ _ _ _ hk
    have c0 : w1.cell? ⟨w.heap.size + 1, 0, none⟩ = some (.int .i64 0) := cell_of_row w1 _ 0 _ _ (0, 0) b1
    have f0 : w1.frozen? ⟨w.heap.size + 1, 0, none⟩ = false := frozen_of_row w1 _ 0 _ _ b1
    have x0 : w1.cell? ⟨w.heap.size, 0, none⟩ = some (.slice none 0 0) := cell_of_row w1 _ 0 _ _ (0, 0) b0
    have x1 : w1.cell? ⟨w.heap.size, 1, none⟩ = some (.int .i64 0) := cell_of_row w1 _ 1 _ _ (0, 0) b0
    clear hk
    go_wp2_with fail
    refine leaves_cons (f := 198) (args := #[.pointer (some ⟨w.heap.size + 1, 0, none⟩)]) (by simp) (by simp [go_sem]) ?_
    refine (catchC_bad ⟨w.heap.size + 1, 0, none⟩ 0 w1 c0 f0).mono ?_
    rintro e u' w'' ⟨rfl, rfl, rfl⟩
    have z2 : (w1.setCell ⟨w.heap.size + 1, 0, none⟩ (.int .i64 30)).cell? ⟨w.heap.size + 1, 0, none⟩ = some (.int .i64 30) := cell_of_row _ _ 0 _ _ (0, 0) (Go.heap_setCell_same w1 _ 0 _ _ _ b1)
    have z0 : (w1.setCell ⟨w.heap.size + 1, 0, none⟩ (.int .i64 30)).cell? ⟨w.heap.size, 0, none⟩ = some (.slice none 0 0) := (World.cell?_setCell_other _ _ _ _ (by simp)).trans x0
    have z1 : (w1.setCell ⟨w.heap.size + 1, 0, none⟩ (.int .i64 30)).cell? ⟨w.heap.size, 1, none⟩ = some (.int .i64 0) := (World.cell?_setCell_other _ _ _ _ (by simp)).trans x1
    simp [Leaves, settle, results, Tryz.results177, go_sem, z0, z1, z2]
    exact ⟨(below_read2 w w1 _ _ _ HK.out).setCell (Nat.le_succ _) _, .inr ⟨rfl, rfl⟩⟩
theorem cell2 (w w1 : World) (x y u n : Value) (t : TypeId) (h : w1.heap[w.heap.size]? = some (.cells #[x, y] t (0, 0))) :
    let W := (w1.setCell ⟨w.heap.size, 0, none⟩ u).setCell ⟨w.heap.size, 1, none⟩ n
    W.cell? ⟨w.heap.size, 0, none⟩ = some u ∧ W.cell? ⟨w.heap.size, 1, none⟩ = some n := by
  intro W
  have r := Go.heap_setCell_same _ w.heap.size 1 _ _ n (Go.heap_setCell_same w1 w.heap.size 0 _ _ u h)
  exact ⟨(cell_of_row W _ 0 _ _ (0, 0) r).trans (by simp), (cell_of_row W _ 1 _ _ (0, 0) r).trans (by simp)⟩
set_option maxHeartbeats 2000000 in
set_option maxRecDepth 100000 in
theorem takeCounted_any (v : Value) (l : List UInt8) (w : World) (h : ArgB w v l) : Calls Tryz.prog 153 #[v] w (TakenCEnd l (cntQ l) w) := by
  have HA : ArgB (w.alloc (.cells #[.slice none 0 0, .int .i64 0] 66)) v l := h.below ((Below.refl _ _).alloc (Nat.le_refl _) _)
  have HT := Lib.hid (takenC_any v l (cntQ l) (w.alloc (.cells #[.slice none 0 0, .int .i64 0] 66)) HA.1 HA.2 (fun W R hr hs => (rdCnt_any _ R l W hr).mono (by
    rintro e w' ⟨hk, ⟨x, r, v, ho, he, hv, hr'⟩ | hx⟩
    · exact ⟨hk, .inl ⟨x, r, v, ho, he, hv.mono hs, hr'⟩⟩
    · exact ⟨hk, .inr hx⟩)))
  clear h HA
  go_enter Tryz.func153, Tryz.ntmps153
  go_wp2_with fail
  refine HT.out.mono ?_
  rintro e w1 ⟨hb, ⟨x, r, vt, ho, rfl, ⟨g, hg, rfl, hrow, h8⟩⟩ | ⟨ho, rfl⟩⟩
  · have b0 := (hb.block w.heap.size (by simp)).trans (heap_alloc_new w (.cells #[.slice none 0 0, .int .i64 0] 66))
    have x0 : w1.cell? ⟨w.heap.size, 0, none⟩ = some (.slice none 0 0) := cell_of_row w1 _ 0 _ _ (0, 0) b0
    have x1 : w1.cell? ⟨w.heap.size, 1, none⟩ = some (.int .i64 0) := cell_of_row w1 _ 1 _ _ (0, 0) b0
    have y0 : w1.frozen? ⟨w.heap.size, 0, none⟩ = false := frozen_of_row w1 _ 0 _ _ b0
    have y1 : w1.frozen? ⟨w.heap.size, 1, none⟩ = false := frozen_of_row w1 _ 1 _ _ b0
    have HO := Lib.hid ho
    have HB : Hid (Below w.heap.size w w1) := Lib.hid (((Below.refl w.heap.size w).alloc (Nat.le_refl _) _).trans (hb.mono (by simp)))
    have HRow := Lib.hid hrow
    have B0 := Lib.hid b0
    have hg' : w.heap.size < g := by simp at hg; omega
    clear hb ho hrow b0 hg
    go_wp2_with fail
    obtain ⟨s0, s1⟩ := cell2 w w1 _ _ (.slice (some ⟨g, 0, none⟩) x.1.length x.1.length) (.int .i64 x.2) _ B0.out
    exact bodyPost_ret (v := .tuple #[.agg #[.slice (some ⟨g, 0, none⟩) x.1.length x.1.length, .int .i64 x.2], .int .i64 ((l.length : Int) - (r.length : Int)), .int .i64 0]) (by simp [results, Tryz.results153, go_sem, s0, s1]) rfl
      ⟨HB.out.trans (below_sets2 _ _ _ _), .inl ⟨x, r, _, HO.out, rfl, ⟨g, by omega, rfl, (HRow.out.set _ _ _ (by omega)).set _ _ _ (by omega), h8⟩⟩⟩
  · have b0 := (hb.block w.heap.size (by simp)).trans (heap_alloc_new w (.cells #[.slice none 0 0, .int .i64 0] 66))
    have x0 : w1.cell? ⟨w.heap.size, 0, none⟩ = some (.slice none 0 0) := cell_of_row w1 _ 0 _ _ (0, 0) b0
    have x1 : w1.cell? ⟨w.heap.size, 1, none⟩ = some (.int .i64 0) := cell_of_row w1 _ 1 _ _ (0, 0) b0
    have y0 : w1.frozen? ⟨w.heap.size, 0, none⟩ = false := frozen_of_row w1 _ 0 _ _ b0
    have y1 : w1.frozen? ⟨w.heap.size, 1, none⟩ = false := frozen_of_row w1 _ 1 _ _ b0
    have HO := Lib.hid ho
    have HB : Hid (Below w.heap.size w w1) := Lib.hid (((Below.refl w.heap.size w).alloc (Nat.le_refl _) _).trans (hb.mono (by simp)))
    have B0 := Lib.hid b0
    clear hb ho b0
    go_wp2_with fail
    obtain ⟨s0, s1⟩ := cell2 w w1 _ _ (.slice none 0 0) (.int .i64 0) _ B0.out
    exact bodyPost_ret (v := .tuple #[.agg #[.slice none 0 0, .int .i64 0], .int .i64 0, .int .i64 30]) (by simp [results, Tryz.results153, go_sem, s0, s1]) rfl
      ⟨HB.out.trans (below_sets2 _ _ _ _), .inr ⟨HO.out, rfl⟩⟩
end
section
open Go Go.RowKit

/-- What taken answers at ints. -/
def TakenIEnd (l : List UInt8) (o : Option (Int × List UInt8)) (w : World) (e : Ending) (w' : World) : Prop :=
  Below w.heap.size w w' ∧ ((∃ x r, o = some (x, r) ∧ e = .returned (.tuple #[.int .i64 x, .int .i64 ((l.length : Int) - (r.length : Int)), .int .i64 0])) ∨ (o = none ∧ e = .returned (.tuple #[.int .i64 0, .int .i64 0, .int .i64 30])))
end
end Go.Proofs.YtdjhfcopnhcljaaGreatDoor

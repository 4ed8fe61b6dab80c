/-
  The document's own Within.
-/
import Derived.Test.YtbpkkcljeelfcaaDoorWin
import Derived.Test.YtbpkkcljeelfcaaDoorTck
namespace Go.Proofs.YtbpkkcljeelfcaaDoor
open Go Go.RowKit

theorem TupIn.take' {n₀ : Nat} {w : World} {p : Option Addr} {cap : Nat} {T : List V3} (h : TupIn n₀ w (.slice p T.length cap) T) (n : Nat) : TupIn n₀ w (.slice p (min T.length n) cap) (T.take n) := by
  rw [Nat.min_comm]
  exact h.take n
set_option maxHeartbeats 200000 in
set_option maxRecDepth 100000 in
theorem rwithin_any (v1 v2 v3 : Value) (L T H : List V3) (n₀ : Nat) (w : World) (h1 : TupIn n₀ w v1 L) (h2 : TupCap n₀ w v2 T) (h3 : TupIn n₀ w v3 H) (hn : n₀ ≤ w.heap.size) :
    Calls Tryd.prog 19 #[v1, v2, v3] w fun e w' => e = .returned (.bool (winT L T H)) ∧ Grown w w' := by
  have H1 := Lib.hid h1
  have H3 := Lib.hid h3
  obtain ⟨p1, c1, rfl, l1, q1⟩ := h1
  obtain ⟨p3, c3, rfl, l3, q3⟩ := h3
  obtain ⟨h, p₂, l, cap₂, e, hc2⟩ := h2
  have H2 := Lib.hid h
  obtain ⟨p2, c2, rfl, l2, q2⟩ := h
  injection e with e1 e2 e3
  subst e1 e2 e3
  clear q1 q2 q3
  have a1 : (L.length : Int) ≤ 1000000 := by omega
  have a2 : (T.length : Int) ≤ 1000000 := by omega
  have a3 : (H.length : Int) ≤ 1000000 := by omega
  have a4 : (0 : Int) ≤ (L.length : Int) := by omega
  have a5 : (0 : Int) ≤ (T.length : Int) := by omega
  have a6 : (0 : Int) ≤ (H.length : Int) := by omega
  have a7 : (T.length : Int) ≤ (c2 : Int) := by omega
  have b1 : 0 ≤ min (T.length : Int) (L.length : Int) ∧ min (T.length : Int) (L.length : Int) ≤ (c2 : Int) := by omega
  have b3 : 0 ≤ min (T.length : Int) (H.length : Int) ∧ min (T.length : Int) (H.length : Int) ≤ (c2 : Int) := by omega
  have he1 : (min (T.length : Int) (L.length : Int)).toNat = min T.length L.length := by omega
  have he3 : (min (T.length : Int) (H.length : Int)).toNat = min T.length H.length := by omega
  go_enter Tryd.func19, Tryd.ntmps19
  go_wp2_with fail
  refine (rcompare_any (.slice p2 (min T.length L.length) c2) (.slice p1 L.length c1) (T.take L.length) L n₀ w (H2.out.take' L.length) H1.out hn).mono ?_
  rintro e w2 ⟨rfl, g2⟩
  have G2 := Lib.hid g2
  clear g2
  by_cases hc : 0 ≤ cmpT (T.take L.length) L
  · go_wp2_with fail
    refine (rcompare_any (.slice p2 (min T.length H.length) c2) (.slice p3 H.length c3) (T.take H.length) H n₀ w2 ((H2.out.take' H.length).below (G2.out.below.mono hn)) (H3.out.below (G2.out.below.mono hn)) (Nat.le_trans hn G2.out.size)).mono ?_
    rintro e w4 ⟨rfl, g4⟩
    have G4 := Lib.hid g4
    clear g4
    go_wp2_with fail
    all_goals go_ret
    all_goals refine ⟨?_, G2.out.trans G4.out⟩
    all_goals simp [winT, *]
  · have hc' : cmpT (T.take L.length) L < 0 := by omega
    go_wp2_with fail
    go_ret
    refine ⟨?_, G2.out⟩
    have hw : winT L T H = false := by rw [winT, decide_eq_false (by omega)]; rfl
    rw [hw]
    rfl
end Go.Proofs.YtbpkkcljeelfcaaDoor

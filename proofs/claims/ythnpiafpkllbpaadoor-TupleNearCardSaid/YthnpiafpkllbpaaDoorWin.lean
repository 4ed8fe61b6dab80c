/-
  tuple.Within.
-/
import Derived.Test.YthnpiafpkllbpaaDoorPre
namespace Go.Proofs.YthnpiafpkllbpaaDoor
open Go Go.RowKit

/-- A tuple lies within two: each held against as many of its first values as it has itself. -/
def winT (L T H : List V3) : Bool := decide (0 ≤ cmpT (T.take L.length) L) && decide (cmpT (T.take H.length) H ≤ 0)

set_option maxHeartbeats 1000000 in
set_option maxRecDepth 100000 in
theorem within_any (v1 v2 v3 : Value) (L T H : List V3) (n₀ : Nat) (w : World) (h1 : TupIn n₀ w v1 L) (h2 : TupCap n₀ w v2 T) (h3 : TupIn n₀ w v3 H) (hn : n₀ ≤ w.heap.size) :
    Calls Tryd.prog 38 #[v1, v2, v3] w fun e w' => e = .returned (.bool (winT L T H)) ∧ Grown w w' := by
  have H1 := Lib.hid h1
  have H2 := Lib.hid h2
  have H3 := Lib.hid h3
  obtain ⟨p1, c1, rfl, l1, q1⟩ := h1
  obtain ⟨p3, c3, rfl, l3, q3⟩ := h3
  clear q1 q3 h2
  go_enter Tryd.func38, Tryd.ntmps38
  go_wp2_with fail
  refine (prefix_any v2 T L.length n₀ w H2.out l1).mono ?_
  rintro e w1 ⟨v', rfl, ht, rfl⟩
  have HV := Lib.hid ht
  clear ht
  go_wp2_with fail
  refine (tcompare_any v' _ (T.take L.length) L n₀ w HV.out.1 H1.out hn).mono ?_
  rintro e w2 ⟨rfl, g2⟩
  have G2 := Lib.hid g2
  clear g2
  by_cases hc : 0 ≤ cmpT (T.take L.length) L
  · go_wp2_with fail
    refine (prefix_any v2 T H.length n₀ w2 ⟨H2.out.1.below (G2.out.below.mono hn), H2.out.2⟩ l3).mono ?_
    rintro e w3 ⟨v'', rfl, ht, rfl⟩
    have HV2 := Lib.hid ht
    clear ht
    go_wp2_with fail
    refine (tcompare_any v'' _ (T.take H.length) H n₀ w2 HV2.out.1 (H3.out.below (G2.out.below.mono hn)) (Nat.le_trans hn G2.out.size)).mono ?_
    rintro e w4 ⟨rfl, g4⟩
    have G4 := Lib.hid g4
    clear g4
    go_wp2_with fail
    all_goals go_ret
    all_goals refine ⟨?_, G2.out.trans G4.out⟩
    all_goals simp [winT, *]
  · have hc' : cmpT (T.take L.length) L < 0 := by omega
    go_wp2_with fail
    go_ret
    refine ⟨?_, G2.out⟩
    have hw : winT L T H = false := by rw [winT, decide_eq_false (by omega)]; rfl
    rw [hw]
    rfl
end Go.Proofs.YthnpiafpkllbpaaDoor

/-
  The document's Same at two programs that stand for the same.
-/
import Derived.Test.YtmnbbbkikbcbjaaDoorG16
namespace Go.Proofs.YtmnbbbkikbcbjaaDoor
open Go Go.RowKit Go.Shelf

theorem de_at {S : Nat → Prop} {w : World} {v : Value} {L : List DeL} (h : RowIn deY S w v L) {j : Nat} (hj : j < L.length) : ∃ b off c u, v = .slice (some ⟨b, off, none⟩) L.length c ∧ w.cell? ⟨b, off + j * 3, none⟩ = some (.string ⟨L[j].name.toArray⟩) ∧ w.cell? ⟨b, off + j * 3 + 1, none⟩ = some (.bool L[j].base) ∧ w.cell? ⟨b, off + j * 3 + 2, none⟩ = some u ∧ RowIn tyY S w u L[j].types := by
  obtain ⟨p, c, rfl, -, -, h⟩ := h
  rcases h with h | ⟨b, off, rfl, -, hb, h⟩
  · subst h; simp at hj
  · obtain ⟨us, ⟨u, rfl, hu⟩, hc⟩ := h j hj
    exact ⟨b, off, c, u, rfl, hc 0 _ rfl, hc 1 _ rfl, hc 2 _ rfl, hu⟩
theorem on_at {S : Nat → Prop} {w : World} {v : Value} {L : List OnL} (h : RowIn onY S w v L) {j : Nat} (hj : j < L.length) : ∃ b off c u x, v = .slice (some ⟨b, off, none⟩) L.length c ∧ w.cell? ⟨b, off + j * 3, none⟩ = some (.string ⟨L[j].event.toArray⟩) ∧ w.cell? ⟨b, off + j * 3 + 1, none⟩ = some u ∧ w.cell? ⟨b, off + j * 3 + 2, none⟩ = some x ∧ RowIn paY S w u L[j].params ∧ RowIn acY S w x L[j].acts := by
  obtain ⟨p, c, rfl, -, -, h⟩ := h
  rcases h with h | ⟨b, off, rfl, -, hb, h⟩
  · subst h; simp at hj
  · obtain ⟨us, ⟨u, x, rfl, hu, hx⟩, hc⟩ := h j hj
    exact ⟨b, off, c, u, x, rfl, hc 0 _ rfl, hc 1 _ rfl, hc 2 _ rfl, hu, hx⟩
theorem ru_at {S : Nat → Prop} {w : World} {v : Value} {L : List RuL} (h : RowIn ruY S w v L) {j : Nat} (hj : j < L.length) : ∃ b off c u x, v = .slice (some ⟨b, off, none⟩) L.length c ∧ w.cell? ⟨b, off + j * 3, none⟩ = some (.string ⟨L[j].head.pred.toArray⟩) ∧ w.cell? ⟨b, off + j * 3 + 1, none⟩ = some u ∧ w.cell? ⟨b, off + j * 3 + 2, none⟩ = some x ∧ RowIn tmY S w u L[j].head.args ∧ RowIn liY S w x L[j].body := by
  obtain ⟨p, c, rfl, -, -, h⟩ := h
  rcases h with h | ⟨b, off, rfl, -, hb, h⟩
  · subst h; simp at hj
  · obtain ⟨us, ⟨u, x, rfl, hu, hx⟩, hc⟩ := h j hj
    exact ⟨b, off, c, u, x, rfl, hc 0 _ rfl, hc 1 _ rfl, hc 2 _ rfl, hu, hx⟩
theorem below_drew (W : World) : Below W.heap.size W W.drew := ⟨rfl, rfl, rfl, Nat.le_refl _, fun _ _ => rfl⟩
set_option maxRecDepth 100000 in
set_option maxHeartbeats 8000000 in
theorem rsame_yes {S S' : Nat → Prop} {w : World} {u u' x x' y y' : Value} {a : PrL} (h1 : RowIn deY S w u a.decls) (h2 : RowIn deY S' w u' a.decls) (i1 : RowIn onY S w x a.ons) (i2 : RowIn onY S' w x' a.ons) (j1 : RowIn ruY S w y a.rules) (j2 : RowIn ruY S' w y' a.rules) :
    Calls Tryd.prog 8 #[.agg #[u, x, y], .agg #[u', x', y']] w fun e w' => e = .returned (.bool true) ∧ Below w.heap.size w w' := by
  have H1 := Lib.hid (And.intro h1 h2)
  have H2 := Lib.hid (And.intro i1 i2)
  have H3 := Lib.hid (And.intro j1 j2)
  have mixed : Tryd.prog.follows .mixedOrders = true := by kernel_rfl
  obtain ⟨p1, c1, rfl⟩ := h1.shape
  obtain ⟨p1', c1', rfl⟩ := h2.shape
  obtain ⟨p2, c2, rfl⟩ := i1.shape
  obtain ⟨p2', c2', rfl⟩ := i2.shape
  obtain ⟨p3, c3, rfl⟩ := j1.shape
  obtain ⟨p3', c3', rfl⟩ := j2.shape
  have l1 := len_le h1
  have l2 := len_le i1
  have l3 := len_le j1
  obtain ⟨n1, hn1⟩ : ∃ n, n = a.decls.length := ⟨_, rfl⟩
  obtain ⟨n2, hn2⟩ : ∃ n, n = a.ons.length := ⟨_, rfl⟩
  obtain ⟨n3, hn3⟩ : ∃ n, n = a.rules.length := ⟨_, rfl⟩
  have HN1 := Lib.hid hn1
  have HN2 := Lib.hid hn2
  have HN3 := Lib.hid hn3
  rw [← hn1] at H1 l1 ⊢
  rw [← hn2] at H2 l2 ⊢
  rw [← hn3] at H3 l3 ⊢
  have m1 : (n1 : Int) ≤ 9223372036854775807 := by omega
  have m2 : (n2 : Int) ≤ 9223372036854775807 := by omega
  have m3 : (n3 : Int) ≤ 9223372036854775807 := by omega
  clear h1 h2 i1 i2 j1 j2 hn1 hn2 hn3 l1 l2 l3
  go_enter Tryd.func8, Tryd.ntmps8
  go_wp2_with fail
  go_loopw [5] (fun i wr => ∃ k : Nat, k ≤ n1 ∧ i = .int .i64 k ∧ Hid (Below w.heap.size w wr ∧ wr.heap[w.heap.size]? = some (.cells #[.slice p1 n1 c1, .slice p2 n2 c2, .slice p3 n3 c3] 37 (0, 0)) ∧ wr.heap[w.heap.size + 1]? = some (.cells #[.slice p1' n1 c1', .slice p2' n2 c2', .slice p3' n3 c3'] 37 (0, 0)))) (fun i _ => n1 - (intOf i).toNat)
  case atStart => exact ⟨0, Nat.zero_le _, rfl, Lib.hid ⟨((Below.refl _ w).alloc (Nat.le_refl _) _).alloc (by simp) _, (two_newA w _ _).1, (two_newA w _ _).2⟩⟩
  case round =>
    obtain ⟨k, hk, rfl, HJ⟩ := hrel
    have h0 : (0 : Int) ≤ (k : Int) := by omega
    obtain ⟨hb, hr, hr'⟩ := HJ.out
    have g1 : wr.cell? ⟨w.heap.size, 0, none⟩ = some (.slice p1 n1 c1) := cell_of_row wr _ 0 _ _ (0, 0) hr
    have g2 : wr.cell? ⟨w.heap.size + 1, 0, none⟩ = some (.slice p1' n1 c1') := cell_of_row wr _ 0 _ _ (0, 0) hr'
    by_cases hlt : k < n1
    · have hlt' : (k : Int) < (n1 : Int) := by omega
      have hkn : k < a.decls.length := by rw [← HN1.out]; exact hlt
      obtain ⟨b, off, cc, u, e1, a0, a1, a2, hu⟩ := de_at (H1.out.1.in_below hb) hkn
      obtain ⟨b', off', cc', u', e2, d0, d1, d2, hu'⟩ := de_at (H1.out.2.in_below hb) hkn
      injection e1 with e1 h2' h3'
      injection e2 with e2 h4' h5'
      subst e1
      subst e2
      clear h2' h3' h4' h5'
      generalize a.decls[k] = X at a0 a1 a2 d0 d1 d2 hu hu'
      have HU : Hid (∀ WW, Below wr.heap.size wr WW → Calls Tryd.prog 13 #[.agg #[.string ⟨X.name.toArray⟩, .bool X.base, u], .agg #[.string ⟨X.name.toArray⟩, .bool X.base, u']] WW fun e w' => e = .returned (.bool true) ∧ Below WW.heap.size WW w') := Lib.hid (fun WW hb => rsamedecl_yes (w := WW) (a := X) (hu.in_below hb) (hu'.in_below hb))
      obtain ⟨q0, n0q, k0q, rfl⟩ : ∃ q n k, u = .slice q n k := (by obtain ⟨q, k, e⟩ := hu.shape; exact ⟨_, _, _, e⟩)
      obtain ⟨q1, n1q, k1q, rfl⟩ : ∃ q n k, u' = .slice q n k := (by obtain ⟨q, k, e⟩ := hu'.shape; exact ⟨_, _, _, e⟩)
      clear hb hr hr' hu hu'
      go_wp2_with fail
      refine region_tail 10 mixed (by kernel_rfl) ?_
      simp only [List.take_succ_cons, List.take_zero, List.drop_succ_cons, List.drop_zero]
      iterate 10 still_step
      refine wpStill_nil ?_
      go_wp2_with fail
      refine (HU.out wr.drew (below_drew wr)).mono ?_
      rintro e w3 ⟨rfl, hb3⟩
      have HB3 : Hid (Below wr.heap.size wr w3) := Lib.hid ⟨hb3.os, hb3.tape, hb3.output, hb3.size, hb3.block⟩
      clear hb3
      go_wp2_with fail
      go_roundw
      case rel =>
        obtain ⟨hb, hr, hr'⟩ := HJ.out
        exact ⟨k + 1, hlt, by simp, Lib.hid ⟨hb.trans (HB3.out.mono hb.size), (HB3.out.block _ (Array.getElem?_eq_some_iff.1 hr).1).trans hr, (HB3.out.block _ (Array.getElem?_eq_some_iff.1 hr').1).trans hr'⟩⟩
      case measure => simp [intOf]; omega
    · obtain rfl : n1 = k := by omega
      have hlt' : ¬ ((n1 : Nat) : Int) < (n1 : Int) := by omega
      clear hr hr' hb
      go_wp2_with fail
      clear g1 g2
      go_loopw [6] (fun i wr => ∃ k : Nat, k ≤ n2 ∧ i = .int .i64 k ∧ Hid (Below w.heap.size w wr ∧ wr.heap[w.heap.size]? = some (.cells #[.slice p1 n1 c1, .slice p2 n2 c2, .slice p3 n3 c3] 37 (0, 0)) ∧ wr.heap[w.heap.size + 1]? = some (.cells #[.slice p1' n1 c1', .slice p2' n2 c2', .slice p3' n3 c3'] 37 (0, 0)))) (fun i _ => n2 - (intOf i).toNat)
      case atStart => exact ⟨0, Nat.zero_le _, rfl, HJ⟩
      case round =>
        clear HJ hlt hlt' hk h0
        obtain ⟨k, hk, rfl, HJ⟩ := hrel
        have h0 : (0 : Int) ≤ (k : Int) := by omega
        obtain ⟨hb, hr, hr'⟩ := HJ.out
        have g1 : wr.cell? ⟨w.heap.size, 1, none⟩ = some (.slice p2 n2 c2) := cell_of_row wr _ 1 _ _ (0, 0) hr
        have g2 : wr.cell? ⟨w.heap.size + 1, 1, none⟩ = some (.slice p2' n2 c2') := cell_of_row wr _ 1 _ _ (0, 0) hr'
        by_cases hlt : k < n2
        · have hlt' : (k : Int) < (n2 : Int) := by omega
          have hkn : k < a.ons.length := by rw [← HN2.out]; exact hlt
          obtain ⟨b, off, cc, u, x, e1, a0, a1, a2, hu, hx⟩ := on_at (H2.out.1.in_below hb) hkn
          obtain ⟨b', off', cc', u', x', e2, d0, d1, d2, hu', hx'⟩ := on_at (H2.out.2.in_below hb) hkn
          injection e1 with e1 h2' h3'
          injection e2 with e2 h4' h5'
          subst e1
          subst e2
          clear h2' h3' h4' h5'
          generalize a.ons[k] = X at a0 a1 a2 d0 d1 d2 hu hx hu' hx'
          have HU : Hid (∀ WW, Below wr.heap.size wr WW → Calls Tryd.prog 14 #[.agg #[.string ⟨X.event.toArray⟩, u, x], .agg #[.string ⟨X.event.toArray⟩, u', x']] WW fun e w' => e = .returned (.bool true) ∧ Below WW.heap.size WW w') := Lib.hid (fun WW hb => rsameon_yes (w := WW) (a := X) (hu.in_below hb) (hu'.in_below hb) (hx.in_below hb) (hx'.in_below hb))
          obtain ⟨q0, n0q, k0q, rfl⟩ : ∃ q n k, u = .slice q n k := (by obtain ⟨q, k, e⟩ := hu.shape; exact ⟨_, _, _, e⟩)
          obtain ⟨q1, n1q, k1q, rfl⟩ : ∃ q n k, u' = .slice q n k := (by obtain ⟨q, k, e⟩ := hu'.shape; exact ⟨_, _, _, e⟩)
          obtain ⟨q2, n2q, k2q, rfl⟩ : ∃ q n k, x = .slice q n k := (by obtain ⟨q, k, e⟩ := hx.shape; exact ⟨_, _, _, e⟩)
          obtain ⟨q3, n3q, k3q, rfl⟩ : ∃ q n k, x' = .slice q n k := (by obtain ⟨q, k, e⟩ := hx'.shape; exact ⟨_, _, _, e⟩)
          clear hb hr hr' hu hx hu' hx'
          go_wp2_with fail
          refine region_tail 10 mixed (by kernel_rfl) ?_
          simp only [List.take_succ_cons, List.take_zero, List.drop_succ_cons, List.drop_zero]
          iterate 10 still_step
          refine wpStill_nil ?_
          go_wp2_with fail
          refine (HU.out wr.drew (below_drew wr)).mono ?_
          rintro e w3 ⟨rfl, hb3⟩
          have HB3 : Hid (Below wr.heap.size wr w3) := Lib.hid ⟨hb3.os, hb3.tape, hb3.output, hb3.size, hb3.block⟩
          clear hb3
          go_wp2_with fail
          go_roundw
          case rel =>
            obtain ⟨hb, hr, hr'⟩ := HJ.out
            exact ⟨k + 1, hlt, by simp, Lib.hid ⟨hb.trans (HB3.out.mono hb.size), (HB3.out.block _ (Array.getElem?_eq_some_iff.1 hr).1).trans hr, (HB3.out.block _ (Array.getElem?_eq_some_iff.1 hr').1).trans hr'⟩⟩
          case measure => simp [intOf]; omega
        · obtain rfl : n2 = k := by omega
          have hlt' : ¬ ((n2 : Nat) : Int) < (n2 : Int) := by omega
          clear hr hr' hb
          go_wp2_with fail
          clear g1 g2
          go_loopw [7] (fun i wr => ∃ k : Nat, k ≤ n3 ∧ i = .int .i64 k ∧ Hid (Below w.heap.size w wr ∧ wr.heap[w.heap.size]? = some (.cells #[.slice p1 n1 c1, .slice p2 n2 c2, .slice p3 n3 c3] 37 (0, 0)) ∧ wr.heap[w.heap.size + 1]? = some (.cells #[.slice p1' n1 c1', .slice p2' n2 c2', .slice p3' n3 c3'] 37 (0, 0)))) (fun i _ => n3 - (intOf i).toNat)
          case atStart => exact ⟨0, Nat.zero_le _, rfl, HJ⟩
          case round =>
            clear HJ hlt hlt' hk h0
            obtain ⟨k, hk, rfl, HJ⟩ := hrel
            have h0 : (0 : Int) ≤ (k : Int) := by omega
            obtain ⟨hb, hr, hr'⟩ := HJ.out
            have g1 : wr.cell? ⟨w.heap.size, 2, none⟩ = some (.slice p3 n3 c3) := cell_of_row wr _ 2 _ _ (0, 0) hr
            have g2 : wr.cell? ⟨w.heap.size + 1, 2, none⟩ = some (.slice p3' n3 c3') := cell_of_row wr _ 2 _ _ (0, 0) hr'
            by_cases hlt : k < n3
            · have hlt' : (k : Int) < (n3 : Int) := by omega
              have hkn : k < a.rules.length := by rw [← HN3.out]; exact hlt
              obtain ⟨b, off, cc, u, x, e1, a0, a1, a2, hu, hx⟩ := ru_at (H3.out.1.in_below hb) hkn
              obtain ⟨b', off', cc', u', x', e2, d0, d1, d2, hu', hx'⟩ := ru_at (H3.out.2.in_below hb) hkn
              injection e1 with e1 h2' h3'
              injection e2 with e2 h4' h5'
              subst e1
              subst e2
              clear h2' h3' h4' h5'
              generalize a.rules[k] = X at a0 a1 a2 d0 d1 d2 hu hx hu' hx'
              have HU : Hid (∀ WW, Below wr.heap.size wr WW → Calls Tryd.prog 15 #[.agg #[.string ⟨X.head.pred.toArray⟩, u, x], .agg #[.string ⟨X.head.pred.toArray⟩, u', x']] WW fun e w' => e = .returned (.bool true) ∧ Below WW.heap.size WW w') := Lib.hid (fun WW hb => rsamerule_yes (w := WW) (a := X) (hu.in_below hb) (hu'.in_below hb) (hx.in_below hb) (hx'.in_below hb))
              obtain ⟨q0, n0q, k0q, rfl⟩ : ∃ q n k, u = .slice q n k := (by obtain ⟨q, k, e⟩ := hu.shape; exact ⟨_, _, _, e⟩)
              obtain ⟨q1, n1q, k1q, rfl⟩ : ∃ q n k, u' = .slice q n k := (by obtain ⟨q, k, e⟩ := hu'.shape; exact ⟨_, _, _, e⟩)
              obtain ⟨q2, n2q, k2q, rfl⟩ : ∃ q n k, x = .slice q n k := (by obtain ⟨q, k, e⟩ := hx.shape; exact ⟨_, _, _, e⟩)
              obtain ⟨q3, n3q, k3q, rfl⟩ : ∃ q n k, x' = .slice q n k := (by obtain ⟨q, k, e⟩ := hx'.shape; exact ⟨_, _, _, e⟩)
              clear hb hr hr' hu hx hu' hx'
              go_wp2_with fail
              refine region_tail 10 mixed (by kernel_rfl) ?_
              simp only [List.take_succ_cons, List.take_zero, List.drop_succ_cons, List.drop_zero]
              iterate 10 still_step
              refine wpStill_nil ?_
              go_wp2_with fail
              refine (HU.out wr.drew (below_drew wr)).mono ?_
              rintro e w3 ⟨rfl, hb3⟩
              have HB3 : Hid (Below wr.heap.size wr w3) := Lib.hid ⟨hb3.os, hb3.tape, hb3.output, hb3.size, hb3.block⟩
              clear hb3
              go_wp2_with fail
              go_roundw
              case rel =>
                obtain ⟨hb, hr, hr'⟩ := HJ.out
                exact ⟨k + 1, hlt, by simp, Lib.hid ⟨hb.trans (HB3.out.mono hb.size), (HB3.out.block _ (Array.getElem?_eq_some_iff.1 hr).1).trans hr, (HB3.out.block _ (Array.getElem?_eq_some_iff.1 hr').1).trans hr'⟩⟩
              case measure => simp [intOf]; omega
            · obtain rfl : n3 = k := by omega
              have hlt' : ¬ ((n3 : Nat) : Int) < (n3 : Int) := by omega
              clear hr hr'
              go_wp2_with fail
              go_ret
              exact ⟨rfl, hb⟩
end Go.Proofs.YtmnbbbkikbcbjaaDoor

/-
  The document's SameRule at two that stand for the same.
-/
import Derived.Test.YtmnbbbkikbcbjaaDoorG15
namespace Go.Proofs.YtmnbbbkikbcbjaaDoor
open Go Go.RowKit Go.Shelf

set_option maxRecDepth 100000 in
set_option maxHeartbeats 8000000 in
theorem rsamerule_yes {S S' : Nat → Prop} {w : World} {u u' x x' : Value} {a : RuL} (h1 : RowIn tmY S w u a.head.args) (h2 : RowIn tmY S' w u' a.head.args) (i1 : RowIn liY S w x a.body) (i2 : RowIn liY S' w x' a.body) :
    Calls Tryd.prog 15 #[.agg #[.string ⟨a.head.pred.toArray⟩, u, x], .agg #[.string ⟨a.head.pred.toArray⟩, u', x']] w fun e w' => e = .returned (.bool true) ∧ Below w.heap.size w w' := by
  have H1 := Lib.hid h1
  have H2 := Lib.hid h2
  have I1 := Lib.hid i1
  have I2 := Lib.hid i2
  have mixed : Tryd.prog.follows .mixedOrders = true := by kernel_rfl
  obtain ⟨p, n1, c, rfl⟩ : ∃ p n c, u = .slice p n c := (by obtain ⟨p, c, e⟩ := h1.shape; exact ⟨p, _, c, e⟩)
  obtain ⟨p', n2, c', rfl⟩ : ∃ p n c, u' = .slice p n c := (by obtain ⟨p, c, e⟩ := h2.shape; exact ⟨p, _, c, e⟩)
  obtain ⟨q, d, rfl⟩ := i1.shape
  obtain ⟨q', d', rfl⟩ := i2.shape
  have hm2 := len_le i1
  obtain ⟨m, hm⟩ : ∃ m, m = a.body.length := ⟨_, rfl⟩
  have HM := Lib.hid hm
  rw [← hm] at I1 I2 hm2 ⊢
  have hm3 : (m : Int) ≤ 9223372036854775807 := by omega
  have HO : Hid (∀ W, Below w.heap.size w W → Calls Tryd.prog 28 #[.agg #[.string ⟨a.head.pred.toArray⟩, .slice p n1 c], .agg #[.string ⟨a.head.pred.toArray⟩, .slice p' n2 c']] W fun e w' => e = .returned (.bool true) ∧ Below W.heap.size W w') := Lib.hid (fun W hb => rsameatom_yes (a := a.head) (H1.out.in_below hb) (H2.out.in_below hb))
  generalize a.head.pred = nm at HO ⊢
  clear h1 h2 i1 i2 hm hm2 H1 H2
  go_enter Tryd.func15, Tryd.ntmps15
  go_wp2_with fail
  refine (HO.out _ (((Below.refl _ w).alloc (Nat.le_refl _) _).alloc (by simp) _)).mono ?_
  rintro e w1 ⟨rfl, hb1⟩
  have k0 := (hb1.block w.heap.size (by simp; omega)).trans (two_newA w (.cells #[.string ⟨nm.toArray⟩, .slice p n1 c, .slice q m d] 28) (.cells #[.string ⟨nm.toArray⟩, .slice p' n2 c', .slice q' m d'] 28)).1
  have k1 := (hb1.block (w.heap.size + 1) (by simp)).trans (two_newA w (.cells #[.string ⟨nm.toArray⟩, .slice p n1 c, .slice q m d] 28) (.cells #[.string ⟨nm.toArray⟩, .slice p' n2 c', .slice q' m d'] 28)).2
  have HJ0 : Hid (Below w.heap.size w w1 ∧ w1.heap[w.heap.size]? = some (.cells #[.string ⟨nm.toArray⟩, .slice p n1 c, .slice q m d] 28 (0, 0)) ∧ w1.heap[w.heap.size + 1]? = some (.cells #[.string ⟨nm.toArray⟩, .slice p' n2 c', .slice q' m d'] 28 (0, 0))) := Lib.hid ⟨(((Below.refl _ w).alloc (Nat.le_refl _) _).alloc (by simp) _).trans (hb1.mono (by simp; omega)), k0, k1⟩
  have y0 : w1.cell? ⟨w.heap.size, 2, none⟩ = some (.slice q m d) := cell_of_row w1 _ 2 _ _ (0, 0) k0
  have y1 : w1.cell? ⟨w.heap.size + 1, 2, none⟩ = some (.slice q' m d') := cell_of_row w1 _ 2 _ _ (0, 0) k1
  clear hb1 k0 k1
  go_wp2_with fail
  clear y0 y1
  go_loopw [5] (fun i wr => ∃ k : Nat, k ≤ m ∧ i = .int .i64 k ∧ Hid (Below w.heap.size w wr ∧ wr.heap[w.heap.size]? = some (.cells #[.string ⟨nm.toArray⟩, .slice p n1 c, .slice q m d] 28 (0, 0)) ∧ wr.heap[w.heap.size + 1]? = some (.cells #[.string ⟨nm.toArray⟩, .slice p' n2 c', .slice q' m d'] 28 (0, 0)))) (fun i _ => m - (intOf i).toNat)
  case atStart => exact ⟨0, Nat.zero_le _, rfl, HJ0⟩
  case round =>
    clear HJ0
    obtain ⟨k, hk, rfl, HJ⟩ := hrel
    have h0 : (0 : Int) ≤ (k : Int) := by omega
    obtain ⟨hb, hr, hr'⟩ := HJ.out
    have g1 : wr.cell? ⟨w.heap.size, 2, none⟩ = some (.slice q m d) := cell_of_row wr _ 2 _ _ (0, 0) hr
    have g2 : wr.cell? ⟨w.heap.size + 1, 2, none⟩ = some (.slice q' m d') := cell_of_row wr _ 2 _ _ (0, 0) hr'
    by_cases hlt : k < m
    · have hlt' : (k : Int) < (m : Int) := by omega
      have hkn : k < a.body.length := by rw [← HM.out]; exact hlt
      obtain ⟨b, off, c1, u, e1, hbb, hu, a0, a1, a2, a3, a4, a5, a6, a7, a8, a9, a10, a11, a12, a13⟩ := li_at (I1.out.in_below hb) hkn
      obtain ⟨b', off', c2, u', e2, hbb', hu', d0, d1, d2, d3, d4, d5, d6, d7, d8, d9, d10, d11, d12, d13⟩ := li_at (I2.out.in_below hb) hkn
      injection e1 with e1 h2' h3'
      injection e2 with e2 h4' h5'
      subst e1
      subst e2
      clear h2' h3' h4' h5'
      generalize a.body[k] = X at hu hu' a0 a1 a2 a3 a4 a5 a6 a7 a8 a9 a10 a11 a12 a13 d0 d1 d2 d3 d4 d5 d6 d7 d8 d9 d10 d11 d12 d13
      obtain ⟨K, at_, o_, ⟨k1, s1, ⟨v1, v2, v3⟩⟩, ⟨k2, s2, ⟨z1, z2, z3⟩⟩⟩ := X
      simp only at hu hu' a0 a1 a2 a3 a4 a5 a6 a7 a8 a9 a10 a11 a12 a13 d0 d1 d2 d3 d4 d5 d6 d7 d8 d9 d10 d11 d12 d13
      have HU : Hid (∀ W, Below wr.heap.size wr W → Calls Tryd.prog 28 #[.agg #[.string ⟨at_.pred.toArray⟩, u], .agg #[.string ⟨at_.pred.toArray⟩, u']] W fun e w' => e = .returned (.bool true) ∧ Below W.heap.size W w') := Lib.hid (fun W hb => rsameatom_yes (a := at_) (hu.in_below hb) (hu'.in_below hb))
      obtain ⟨pu, nu, cu, rfl⟩ : ∃ p n c, u = .slice p n c := (by obtain ⟨p, c, e⟩ := hu.shape; exact ⟨p, _, c, e⟩)
      obtain ⟨pu', nu', cu', rfl⟩ : ∃ p n c, u' = .slice p n c := (by obtain ⟨p, c, e⟩ := hu'.shape; exact ⟨p, _, c, e⟩)
      have hz1 : w.heap.size + 1 < wr.heap.size := (Array.getElem?_eq_some_iff.1 hr').1
      have hz0 : w.heap.size < wr.heap.size := (Array.getElem?_eq_some_iff.1 hr).1
      clear hb hr hr' hu hu'
      go_wp2_with fail
      go_region
      all_goals
        go_wp2_with fail
        refine (HU.out _ (((Below.refl _ wr).alloc (Nat.le_refl _) _).alloc (by simp) _).drew).mono ?_
        rintro e w3 ⟨rfl, hb3⟩
        have HB3 : Hid (Below wr.heap.size wr w3) := Lib.hid ((((Below.refl _ wr).alloc (Nat.le_refl _) _).alloc (by simp) _).drew.trans (hb3.mono (by simp; omega)))
        clear hb3
        go_wp2_with fail
        go_roundw
      case rel =>
        obtain ⟨hb, hr, hr'⟩ := HJ.out
        exact ⟨k + 1, hlt, by simp, Lib.hid ⟨hb.trans (HB3.out.mono hb.size), (HB3.out.block _ (Array.getElem?_eq_some_iff.1 hr).1).trans hr, (HB3.out.block _ (Array.getElem?_eq_some_iff.1 hr').1).trans hr'⟩⟩
      case measure => simp [intOf]; omega
      case rel =>
        obtain ⟨hb, hr, hr'⟩ := HJ.out
        exact ⟨k + 1, hlt, by simp, Lib.hid ⟨hb.trans (HB3.out.mono hb.size), (HB3.out.block _ (Array.getElem?_eq_some_iff.1 hr).1).trans hr, (HB3.out.block _ (Array.getElem?_eq_some_iff.1 hr').1).trans hr'⟩⟩
      case measure => simp [intOf]; omega
    · obtain rfl : m = k := by omega
      have hlt' : ¬ ((m : Nat) : Int) < (m : Int) := by omega
      clear hr hr'
      go_wp2_with fail
      go_ret
      exact ⟨rfl, hb⟩
end Go.Proofs.YtmnbbbkikbcbjaaDoor

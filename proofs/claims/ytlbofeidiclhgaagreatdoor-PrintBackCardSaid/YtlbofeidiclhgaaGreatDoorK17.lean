/-
  The document's print: Same of atoms, declarations, events at equal ones.
  The document's print: Same of literals, rules at equal ones.
  The document's print: Same at two programs that stand for the same.
  What print writes is read and gives what it was: the grammar's readers at the tokens of each part. No function is named here.
-/
import Derived.Test.YtlbofeidiclhgaaGreatDoorK07
import Derived.Test.YtlbofeidiclhgaaGreatDoorK12
import Derived.Test.YtlbofeidiclhgaaGreatDoorK02
import Derived.Test.YtlbofeidiclhgaaGreatDoorK16
namespace Go.Proofs.YtlbofeidiclhgaaGreatDoor
section
open Go Go.RowKit Go.Shelf

set_option maxRecDepth 100000 in
set_option maxHeartbeats 4000000 in
theorem rsameatom_yes {S S' : Nat → Prop} {w : World} {u u' : Value} {a : AtL} (h1 : RowIn tmY S w u a.args) (h2 : RowIn tmY S' w u' a.args) :
    Calls Tryz.prog 51 #[.agg #[.string ⟨a.pred.toArray⟩, u], .agg #[.string ⟨a.pred.toArray⟩, u']] w fun e w' => e = .returned (.bool true) ∧ Below w.heap.size w w' := by
  have H1 := Lib.hid h1
  have H2 := Lib.hid h2
  have mixed : Tryz.prog.follows .mixedOrders = true := by kernel_rfl
  obtain ⟨p, c, rfl⟩ := h1.shape
  obtain ⟨p', c', rfl⟩ := h2.shape
  obtain ⟨n, hn⟩ : ∃ n, n = a.args.length := ⟨_, rfl⟩
  have HN := Lib.hid hn
  have hs : ((⟨a.pred.toArray⟩ : ByteArray).toList == (⟨a.pred.toArray⟩ : ByteArray).toList) = true := by simp
  rw [← hn] at H1 H2 ⊢
  clear h1 h2 hn
  go_enter Tryz.func51, Tryz.ntmps51
  go_wp2_with fail
  go_loopw [5] (fun i wr => ∃ k : Nat, k ≤ n ∧ i = .int .i64 k ∧ Hid (Below w.heap.size w wr ∧ wr.heap[w.heap.size]? = some (.cells #[.string ⟨a.pred.toArray⟩, .slice p n c] 24 (0, 0)) ∧ wr.heap[w.heap.size + 1]? = some (.cells #[.string ⟨a.pred.toArray⟩, .slice p' n c'] 24 (0, 0)))) (fun i _ => n - (intOf i).toNat)
  case atStart => exact ⟨0, Nat.zero_le _, rfl, Lib.hid ⟨((Below.refl _ w).alloc (Nat.le_refl _) _).alloc (by simp) _, (two_newA w _ _).1, (two_newA w _ _).2⟩⟩
  case round =>
    obtain ⟨k, hk, rfl, HJ⟩ := hrel
    have h0 : (0 : Int) ≤ (k : Int) := by omega
    obtain ⟨hb, hr, hr'⟩ := HJ.out
    have g1 : wr.cell? ⟨w.heap.size, 1, none⟩ = some (.slice p n c) := cell_of_row wr _ 1 _ _ (0, 0) hr
    have g2 : wr.cell? ⟨w.heap.size + 1, 1, none⟩ = some (.slice p' n c') := cell_of_row wr _ 1 _ _ (0, 0) hr'
    by_cases hlt : k < n
    · have hlt' : (k : Int) < (n : Int) := by omega
      have hkn : k < a.args.length := by rw [← HN.out]; exact hlt
      obtain ⟨b, off, c1, e1, hb1, a0, a1, a2, a3, a4⟩ := cells5_at (H1.out.in_below hb) hkn
      obtain ⟨b', off', c2, e2, hb2, d0, d1, d2, d3, d4⟩ := cells5_at (H2.out.in_below hb) hkn
      injection e1 with e1 _ _
      injection e2 with e2 _ _
      subst e1
      subst e2
      generalize a.args[k] = X at a0 a1 a2 a3 a4 d0 d1 d2 d3 d4
      obtain ⟨K, N, ⟨v1, v2, v3⟩⟩ := X
      simp only at a0 a1 a2 a3 a4 d0 d1 d2 d3 d4
      have hn2 : (n : Int) ≤ 9223372036854775807 := by have := H1.out; obtain ⟨p0, c0, e0, l1, l2, -⟩ := this; unfold maxLen at l2; have := HN.out; omega
      clear hb hr hr'
      go_wp2_with fail
      go_quiet (fail)
      go_wp2_with fail
      go_roundw
      case rel => exact ⟨k + 1, hlt, by simp, Lib.hid (by obtain ⟨hb, hr, hr'⟩ := HJ.out; exact ⟨⟨hb.os, hb.tape, hb.output, hb.size, hb.block⟩, hr, hr'⟩)⟩
      case measure => simp [intOf]; omega
    · obtain rfl : k = n := by omega
      have hlt' : ¬ ((k : Nat) : Int) < (k : Int) := by omega
      clear hr hr'
      go_wp2_with fail
      go_ret
      exact ⟨rfl, hb⟩
set_option maxRecDepth 100000 in
set_option maxHeartbeats 4000000 in
theorem rsamedecl_yes {S S' : Nat → Prop} {w : World} {u u' : Value} {a : DeL} (h1 : RowIn tyY S w u a.types) (h2 : RowIn tyY S' w u' a.types) :
    Calls Tryz.prog 47 #[.agg #[.string ⟨a.name.toArray⟩, .bool a.base, u], .agg #[.string ⟨a.name.toArray⟩, .bool a.base, u']] w fun e w' => e = .returned (.bool true) ∧ Below w.heap.size w w' := by
  have H1 := Lib.hid h1
  have H2 := Lib.hid h2
  have mixed : Tryz.prog.follows .mixedOrders = true := by kernel_rfl
  obtain ⟨p, c, rfl⟩ := h1.shape
  obtain ⟨p', c', rfl⟩ := h2.shape
  have hn2 := len_le h1
  obtain ⟨n, hn⟩ : ∃ n, n = a.types.length := ⟨_, rfl⟩
  have HN := Lib.hid hn
  have hs : ((⟨a.name.toArray⟩ : ByteArray).toList == (⟨a.name.toArray⟩ : ByteArray).toList) = true := by simp
  rw [← hn] at H1 H2 hn2 ⊢
  have hn3 : (n : Int) ≤ 9223372036854775807 := by omega
  generalize a.name = nm at hs ⊢
  generalize a.base = bs
  clear h1 h2 hn hn2
  go_enter Tryz.func47, Tryz.ntmps47
  go_wp2_with fail
  go_loopw [5] (fun i wr => ∃ k : Nat, k ≤ n ∧ i = .int .i64 k ∧ Hid (Below w.heap.size w wr ∧ wr.heap[w.heap.size]? = some (.cells #[.string ⟨nm.toArray⟩, .bool bs, .slice p n c] 30 (0, 0)) ∧ wr.heap[w.heap.size + 1]? = some (.cells #[.string ⟨nm.toArray⟩, .bool bs, .slice p' n c'] 30 (0, 0)))) (fun i _ => n - (intOf i).toNat)
  case atStart => exact ⟨0, Nat.zero_le _, rfl, Lib.hid ⟨((Below.refl _ w).alloc (Nat.le_refl _) _).alloc (by simp) _, (two_newA w _ _).1, (two_newA w _ _).2⟩⟩
  case round =>
    obtain ⟨k, hk, rfl, HJ⟩ := hrel
    have h0 : (0 : Int) ≤ (k : Int) := by omega
    obtain ⟨hb, hr, hr'⟩ := HJ.out
    have g1 : wr.cell? ⟨w.heap.size, 2, none⟩ = some (.slice p n c) := cell_of_row wr _ 2 _ _ (0, 0) hr
    have g2 : wr.cell? ⟨w.heap.size + 1, 2, none⟩ = some (.slice p' n c') := cell_of_row wr _ 2 _ _ (0, 0) hr'
    by_cases hlt : k < n
    · have hlt' : (k : Int) < (n : Int) := by omega
      have hkn : k < a.types.length := by rw [← HN.out]; exact hlt
      obtain ⟨b, off, c1, e1, hb1, a0⟩ := ty_at (H1.out.in_below hb) hkn
      obtain ⟨b', off', c2, e2, hb2, d0⟩ := ty_at (H2.out.in_below hb) hkn
      injection e1 with e1 _ _
      injection e2 with e2 _ _
      subst e1
      subst e2
      generalize a.types[k] = X at a0 d0
      clear hb hr hr'
      go_wp2_with fail
      go_quiet (fail)
      go_wp2_with fail
      go_roundw
      case rel => exact ⟨k + 1, hlt, by simp, Lib.hid (by obtain ⟨hb, hr, hr'⟩ := HJ.out; exact ⟨⟨hb.os, hb.tape, hb.output, hb.size, hb.block⟩, hr, hr'⟩)⟩
      case measure => simp [intOf]; omega
    · obtain rfl : k = n := by omega
      have hlt' : ¬ ((k : Nat) : Int) < (k : Int) := by omega
      clear hr hr'
      go_wp2_with fail
      go_ret
      exact ⟨rfl, hb⟩
set_option maxRecDepth 100000 in
set_option maxHeartbeats 4000000 in
theorem rsameon_yes {S S' : Nat → Prop} {w : World} {u u' x x' : Value} {a : OnL} (h1 : RowIn paY S w u a.params) (h2 : RowIn paY S' w u' a.params) (i1 : RowIn acY S w x a.acts) (i2 : RowIn acY S' w x' a.acts) :
    Calls Tryz.prog 48 #[.agg #[.string ⟨a.event.toArray⟩, u, x], .agg #[.string ⟨a.event.toArray⟩, u', x']] w fun e w' => e = .returned (.bool true) ∧ Below w.heap.size w w' := by
  have H1 := Lib.hid h1
  have H2 := Lib.hid h2
  have I1 := Lib.hid i1
  have I2 := Lib.hid i2
  have mixed : Tryz.prog.follows .mixedOrders = true := by kernel_rfl
  obtain ⟨p, c, rfl⟩ := h1.shape
  obtain ⟨p', c', rfl⟩ := h2.shape
  obtain ⟨q, d, rfl⟩ := i1.shape
  obtain ⟨q', d', rfl⟩ := i2.shape
  have hn2 := len_le h1
  have hm2 := len_le i1
  obtain ⟨n, hn⟩ : ∃ n, n = a.params.length := ⟨_, rfl⟩
  obtain ⟨m, hm⟩ : ∃ m, m = a.acts.length := ⟨_, rfl⟩
  have HN := Lib.hid hn
  have HM := Lib.hid hm
  have hs : ((⟨a.event.toArray⟩ : ByteArray).toList == (⟨a.event.toArray⟩ : ByteArray).toList) = true := by simp
  rw [← hn] at H1 H2 hn2 ⊢
  rw [← hm] at I1 I2 hm2 ⊢
  have hn3 : (n : Int) ≤ 9223372036854775807 := by omega
  have hm3 : (m : Int) ≤ 9223372036854775807 := by omega
  generalize a.event = nm at hs ⊢
  clear h1 h2 i1 i2 hn hn2 hm hm2
  go_enter Tryz.func48, Tryz.ntmps48
  go_wp2_with fail
  go_loopw [5] (fun i wr => ∃ k : Nat, k ≤ n ∧ i = .int .i64 k ∧ Hid (Below w.heap.size w wr ∧ wr.heap[w.heap.size]? = some (.cells #[.string ⟨nm.toArray⟩, .slice p n c, .slice q m d] 34 (0, 0)) ∧ wr.heap[w.heap.size + 1]? = some (.cells #[.string ⟨nm.toArray⟩, .slice p' n c', .slice q' m d'] 34 (0, 0)))) (fun i _ => n - (intOf i).toNat)
  case atStart => exact ⟨0, Nat.zero_le _, rfl, Lib.hid ⟨((Below.refl _ w).alloc (Nat.le_refl _) _).alloc (by simp) _, (two_newA w _ _).1, (two_newA w _ _).2⟩⟩
  case round =>
    obtain ⟨k, hk, rfl, HJ⟩ := hrel
    have h0 : (0 : Int) ≤ (k : Int) := by omega
    obtain ⟨hb, hr, hr'⟩ := HJ.out
    have g1 : wr.cell? ⟨w.heap.size, 1, none⟩ = some (.slice p n c) := cell_of_row wr _ 1 _ _ (0, 0) hr
    have g2 : wr.cell? ⟨w.heap.size + 1, 1, none⟩ = some (.slice p' n c') := cell_of_row wr _ 1 _ _ (0, 0) hr'
    by_cases hlt : k < n
    · have hlt' : (k : Int) < (n : Int) := by omega
      have hkn : k < a.params.length := by rw [← HN.out]; exact hlt
      obtain ⟨b, off, c1, e1, hb1, a0, a1⟩ := pa_at (H1.out.in_below hb) hkn
      obtain ⟨b', off', c2, e2, hb2, d0, d1⟩ := pa_at (H2.out.in_below hb) hkn
      injection e1 with e1 h2' h3'
      injection e2 with e2 h4' h5'
      subst e1
      subst e2
      clear h2' h3' h4' h5'
      generalize a.params[k] = X at a0 a1 d0 d1
      obtain ⟨X1, X2⟩ := X
      simp only at a0 a1 d0 d1
      clear hb hr hr'
      go_wp2_with fail
      go_quiet (fail)
      go_wp2_with fail
      go_roundw
      case rel => exact ⟨k + 1, hlt, by simp, Lib.hid (by obtain ⟨hb, hr, hr'⟩ := HJ.out; exact ⟨⟨hb.os, hb.tape, hb.output, hb.size, hb.block⟩, hr, hr'⟩)⟩
      case measure => simp [intOf]; omega
    · obtain rfl : n = k := by omega
      have hlt' : ¬ ((n : Nat) : Int) < (n : Int) := by omega
      clear hr hr' hb
      go_wp2_with fail
      clear g1 g2
      go_loopw [6] (fun i wr => ∃ k : Nat, k ≤ m ∧ i = .int .i64 k ∧ Hid (Below w.heap.size w wr ∧ wr.heap[w.heap.size]? = some (.cells #[.string ⟨nm.toArray⟩, .slice p n c, .slice q m d] 34 (0, 0)) ∧ wr.heap[w.heap.size + 1]? = some (.cells #[.string ⟨nm.toArray⟩, .slice p' n c', .slice q' m d'] 34 (0, 0)))) (fun i _ => m - (intOf i).toNat)
      case atStart => exact ⟨0, Nat.zero_le _, rfl, HJ⟩
      case round =>
        clear HJ hlt hlt' hk h0
        obtain ⟨k, hk, rfl, HJ⟩ := hrel
        have h0 : (0 : Int) ≤ (k : Int) := by omega
        obtain ⟨hb, hr, hr'⟩ := HJ.out
        have HB := Lib.hid hb
        have g1 : wr.cell? ⟨w.heap.size, 2, none⟩ = some (.slice q m d) := cell_of_row wr _ 2 _ _ (0, 0) hr
        have g2 : wr.cell? ⟨w.heap.size + 1, 2, none⟩ = some (.slice q' m d') := cell_of_row wr _ 2 _ _ (0, 0) hr'
        by_cases hlt : k < m
        · have hlt' : (k : Int) < (m : Int) := by omega
          have hkn : k < a.acts.length := by rw [← HM.out]; exact hlt
          obtain ⟨b, off, c1, u, e1, a0, a1, a2, hu⟩ := ac_at (I1.out.in_below hb) hkn
          obtain ⟨b', off', c2, u', e2, d0, d1, d2, hu'⟩ := ac_at (I2.out.in_below hb) hkn
          injection e1 with e1 h2' h3'
          injection e2 with e2 h4' h5'
          subst e1
          subst e2
          clear h2' h3' h4' h5'
          generalize a.acts[k] = X at a0 a1 a2 d0 d1 d2 hu hu'
          obtain ⟨pl, at_⟩ := X
          simp only at a0 a1 a2 d0 d1 d2 hu hu'
          have HU := Lib.hid (And.intro hu hu')
          obtain ⟨pu, cu, rfl⟩ := hu.shape
          obtain ⟨pu', cu', rfl⟩ := hu'.shape
          have hp : (!(pl == pl)) = false := by simp
          have hp2 : (pl != pl) = false := by simp
          clear hb hr hr' hu hu'
          go_wp2_with fail
          refine region_tail 26 mixed (by kernel_rfl) ?_
          simp only [List.take_succ_cons, List.take_zero, List.drop_succ_cons, List.drop_zero]
          iterate 26 still_step
          refine wpStill_nil ?_
          go_wp2_with fail
          refine (rsameatom_yes (w := wr.drew) (a := at_) (HU.out.1.in_below ⟨rfl, rfl, rfl, Nat.le_refl _, fun _ _ => rfl⟩) (HU.out.2.in_below ⟨rfl, rfl, rfl, Nat.le_refl _, fun _ _ => rfl⟩)).mono ?_
          rintro e w3 ⟨rfl, hb3⟩
          have HB3 : Hid (Below wr.heap.size wr w3) := Lib.hid ⟨hb3.os, hb3.tape, hb3.output, hb3.size, hb3.block⟩
          clear hb3
          go_wp2_with fail
          go_roundw
          case rel =>
            obtain ⟨hb, hr, hr'⟩ := HJ.out
            exact ⟨k + 1, hlt, by simp, Lib.hid ⟨hb.trans (HB3.out.mono hb.size), (HB3.out.block _ (Array.getElem?_eq_some_iff.1 hr).1).trans hr, (HB3.out.block _ (Array.getElem?_eq_some_iff.1 hr').1).trans hr'⟩⟩
          case measure => simp [intOf]; omega
        · obtain rfl : m = k := by omega
          have hlt' : ¬ ((m : Nat) : Int) < (m : Int) := by omega
          clear hr hr'
          go_wp2_with fail
          go_ret
          exact ⟨rfl, hb⟩
end
section
open Go Go.RowKit Go.Shelf

set_option maxRecDepth 100000 in
set_option maxHeartbeats 8000000 in
theorem rsamelit_yes {S S' : Nat → Prop} {w : World} {u u' : Value} {a : LiL} (h1 : RowIn tmY S w u a.atom.args) (h2 : RowIn tmY S' w u' a.atom.args) :
    Calls Tryz.prog 52 #[valLi a u, valLi a u'] w fun e w' => e = .returned (.bool true) ∧ Below w.heap.size w w' := by
  have HA : Hid (∀ W, Below w.heap.size w W → Calls Tryz.prog 51 #[.agg #[.string ⟨a.atom.pred.toArray⟩, u], .agg #[.string ⟨a.atom.pred.toArray⟩, u']] W fun e w' => e = .returned (.bool true) ∧ Below W.heap.size W w') := Lib.hid (fun W hb => rsameatom_yes (h1.in_below hb) (h2.in_below hb))
  obtain ⟨p, c, rfl⟩ := h1.shape
  obtain ⟨p', c', rfl⟩ := h2.shape
  clear h1 h2
  obtain ⟨bA, hA1, -, qA⟩ := neqTT_run a.a a.a
  obtain ⟨bB, hB1, -, qB⟩ := neqTT_run a.b a.b
  obtain rfl : bA = true := hA1.2 rfl
  obtain rfl : bB = true := hB1.2 rfl
  clear hA1 hB1
  obtain ⟨k, at_, op, ⟨ka, na', ⟨a1, a2, a3⟩⟩, ⟨kb, nb', ⟨b1, b2, b3⟩⟩⟩ := a
  unfold valT at qA qB
  unfold valLi
  simp only at HA qA qB ⊢
  generalize (⟨na'.toArray⟩ : ByteArray) = na at *
  generalize (⟨nb'.toArray⟩ : ByteArray) = nb at *
  generalize (⟨at_.pred.toArray⟩ : ByteArray) = nm at *
  generalize at_.args.length = m at *
  have hx := two_newA w (.cells #[.int .i64 k, .string nm, .slice p m c, .int .i64 op, .int .i64 ka, .string na, .int .i64 a1, .int .i64 a2, .string a3, .int .i64 kb, .string nb, .int .i64 b1, .int .i64 b2, .string b3] 73) (.cells #[.int .i64 k, .string nm, .slice p' m c', .int .i64 op, .int .i64 ka, .string na, .int .i64 a1, .int .i64 a2, .string a3, .int .i64 kb, .string nb, .int .i64 b1, .int .i64 b2, .string b3] 73)
  obtain ⟨w0, hw0⟩ : ∃ w0, (w.alloc (.cells #[.int .i64 k, .string nm, .slice p m c, .int .i64 op, .int .i64 ka, .string na, .int .i64 a1, .int .i64 a2, .string a3, .int .i64 kb, .string nb, .int .i64 b1, .int .i64 b2, .string b3] 73)).alloc (.cells #[.int .i64 k, .string nm, .slice p' m c', .int .i64 op, .int .i64 ka, .string na, .int .i64 a1, .int .i64 a2, .string a3, .int .i64 kb, .string nb, .int .i64 b1, .int .i64 b2, .string b3] 73) = w0 := ⟨_, rfl⟩
  have HB := Lib.hid (show Below w.heap.size w w0 by rw [← hw0]; exact below_box2 w _ _)
  rw [hw0] at hx
  have HX := Lib.hid hx
  have HW0 := Lib.hid hw0
  clear hw0 hx
  go_enter Tryz.func52, Tryz.ntmps52
  go_wp2_with fail
  try rw [HW0.out]
  refine (HA.out _ HB.out).mono ?_
  rintro y w1 ⟨rfl, hb1⟩
  have HB1 := Lib.hid (HB.out.trans (hb1.mono HB.out.size))
  obtain ⟨⟨c0, c1, c2, c3, c4, c5, c6, c7, c8, c9, c10, c11, c12, c13⟩, -⟩ := cells14 ((hb1.block w.heap.size (Array.getElem?_eq_some_iff.1 HX.out.1).1).trans HX.out.1)
  obtain ⟨⟨d0, d1, d2, d3, d4, d5, d6, d7, d8, d9, d10, d11, d12, d13⟩, -⟩ := cells14 ((hb1.block (w.heap.size + 1) (Array.getElem?_eq_some_iff.1 HX.out.2).1).trans HX.out.2)
  clear hb1
  go_wp2_with fail
  go_ret
  exact ⟨rfl, HB1.out⟩
set_option maxRecDepth 100000 in
set_option maxHeartbeats 8000000 in
theorem rsamerule_yes {S S' : Nat → Prop} {w : World} {u u' x x' : Value} {a : RuL} (h1 : RowIn tmY S w u a.head.args) (h2 : RowIn tmY S' w u' a.head.args) (i1 : RowIn liY S w x a.body) (i2 : RowIn liY S' w x' a.body) :
    Calls Tryz.prog 24 #[.agg #[.string ⟨a.head.pred.toArray⟩, u, x], .agg #[.string ⟨a.head.pred.toArray⟩, u', x']] w fun e w' => e = .returned (.bool true) ∧ Below w.heap.size w w' := by
  have HA : Hid (∀ W, Below w.heap.size w W → Calls Tryz.prog 51 #[.agg #[.string ⟨a.head.pred.toArray⟩, u], .agg #[.string ⟨a.head.pred.toArray⟩, u']] W fun e w' => e = .returned (.bool true) ∧ Below W.heap.size W w') := Lib.hid (fun W hb => rsameatom_yes (h1.in_below hb) (h2.in_below hb))
  have H1 := Lib.hid (And.intro i1 i2)
  have mixed : Tryz.prog.follows .mixedOrders = true := by kernel_rfl
  obtain ⟨p, c, rfl⟩ := h1.shape
  obtain ⟨p', c', rfl⟩ := h2.shape
  obtain ⟨q, d, rfl⟩ := i1.shape
  obtain ⟨q', d', rfl⟩ := i2.shape
  have l1 := len_le i1
  obtain ⟨L, hL⟩ : ∃ L, L = a.body := ⟨_, rfl⟩
  obtain ⟨n, hn⟩ : ∃ n, n = L.length := ⟨_, rfl⟩
  have HN := Lib.hid hn
  rw [← hL] at H1 l1 ⊢
  rw [← hn] at H1 l1 ⊢
  have m1 : (n : Int) ≤ 9223372036854775807 := by omega
  generalize (⟨a.head.pred.toArray⟩ : ByteArray) = nm at *
  generalize a.head.args.length = m at *
  clear h1 h2 i1 i2 hL hn l1 a
  obtain ⟨w0, hw0⟩ : ∃ w0, (w.alloc (.cells #[.string nm, .slice p m c, .slice q n d] 27)).alloc (.cells #[.string nm, .slice p' m c', .slice q' n d'] 27) = w0 := ⟨_, rfl⟩
  have HB := Lib.hid (show Below w.heap.size w w0 by rw [← hw0]; exact below_box2 w _ _)
  have hx := two_newA w (.cells #[.string nm, .slice p m c, .slice q n d] 27) (.cells #[.string nm, .slice p' m c', .slice q' n d'] 27)
  rw [hw0] at hx
  have HX := Lib.hid hx
  have HW0 := Lib.hid hw0
  clear hw0 hx
  go_enter Tryz.func24, Tryz.ntmps24
  go_wp2_with fail
  try rw [HW0.out]
  refine (HA.out _ HB.out).mono ?_
  rintro y w1 ⟨rfl, hb1⟩
  have HB1 := Lib.hid (HB.out.trans (hb1.mono HB.out.size))
  have HX1 := Lib.hid (And.intro ((hb1.block w.heap.size (Array.getElem?_eq_some_iff.1 HX.out.1).1).trans HX.out.1) ((hb1.block (w.heap.size + 1) (Array.getElem?_eq_some_iff.1 HX.out.2).1).trans HX.out.2))
  obtain ⟨⟨c0, c1, c2⟩, -⟩ := cells3 HX1.out.1
  obtain ⟨⟨d0, d1, d2⟩, -⟩ := cells3 HX1.out.2
  clear hb1
  go_wp2_with fail
  clear c0 c1 c2 d0 d1 d2
  go_loopw [5] (fun i wr => ∃ k : Nat, k ≤ n ∧ i = .int .i64 k ∧ Hid (Below w.heap.size w wr ∧ wr.heap[w.heap.size]? = some (.cells #[.string nm, .slice p m c, .slice q n d] 27 (0, 0)) ∧ wr.heap[w.heap.size + 1]? = some (.cells #[.string nm, .slice p' m c', .slice q' n d'] 27 (0, 0)))) (fun i _ => n - (intOf i).toNat)
  case atStart => exact ⟨0, Nat.zero_le _, rfl, Lib.hid ⟨HB1.out, HX1.out.1, HX1.out.2⟩⟩
  case round =>
    obtain ⟨k, hk, rfl, HJ⟩ := hrel
    have h0 : (0 : Int) ≤ (k : Int) := by omega
    obtain ⟨hb, hr, hr'⟩ := HJ.out
    have g1 : wr.cell? ⟨w.heap.size, 2, none⟩ = some (.slice q n d) := cell_of_row wr _ 2 _ _ (0, 0) hr
    have g2 : wr.cell? ⟨w.heap.size + 1, 2, none⟩ = some (.slice q' n d') := cell_of_row wr _ 2 _ _ (0, 0) hr'
    by_cases hlt : k < n
    · have hlt' : (k : Int) < (n : Int) := by omega
      have hkn : k < L.length := by rw [← HN.out]; exact hlt
      obtain ⟨b, off, cc, us, e1, hbl, hu, hc⟩ := row_at (H1.out.1.in_below hb) hkn
      obtain ⟨b', off', cc', us', e2, hbl', hu', hc'⟩ := row_at (H1.out.2.in_below hb) hkn
      injection e1 with e1 hq1 hq2
      injection e2 with e2 hq3 hq4
      subst e1
      subst e2
      clear hq1 hq2 hq3 hq4 hbl hbl'
      generalize L[k] = X at hu hu'
      obtain ⟨v, rfl, hv⟩ := hu
      obtain ⟨v', rfl, hv'⟩ := hu'
      have HU : Hid (∀ WW, Below wr.heap.size wr WW → Calls Tryz.prog 52 #[valLi X v, valLi X v'] WW fun e w' => e = .returned (.bool true) ∧ Below WW.heap.size WW w') := Lib.hid (fun WW hb => rsamelit_yes (hv.in_below hb) (hv'.in_below hb))
      obtain ⟨r, e, rfl⟩ := hv.shape
      obtain ⟨r', e', rfl⟩ := hv'.shape
      have a0 : wr.cell? ⟨b, off + k * 14, none⟩ = some (.int .i64 X.kind) := hc 0 _ rfl
      have a1 : wr.cell? ⟨b, off + k * 14 + 1, none⟩ = some (.string ⟨X.atom.pred.toArray⟩) := hc 1 _ rfl
      have a2 : wr.cell? ⟨b, off + k * 14 + 2, none⟩ = some (.slice r X.atom.args.length e) := hc 2 _ rfl
      have a3 : wr.cell? ⟨b, off + k * 14 + 3, none⟩ = some (.int .i64 X.op) := hc 3 _ rfl
      have a4 : wr.cell? ⟨b, off + k * 14 + 4, none⟩ = some (.int .i64 X.a.kind) := hc 4 _ rfl
      have a5 : wr.cell? ⟨b, off + k * 14 + 5, none⟩ = some (.string ⟨X.a.name.toArray⟩) := hc 5 _ rfl
      have a6 : wr.cell? ⟨b, off + k * 14 + 6, none⟩ = some (.int .i64 X.a.val.1) := hc 6 _ rfl
      have a7 : wr.cell? ⟨b, off + k * 14 + 7, none⟩ = some (.int .i64 X.a.val.2.1) := hc 7 _ rfl
      have a8 : wr.cell? ⟨b, off + k * 14 + 8, none⟩ = some (.string X.a.val.2.2) := hc 8 _ rfl
      have a9 : wr.cell? ⟨b, off + k * 14 + 9, none⟩ = some (.int .i64 X.b.kind) := hc 9 _ rfl
      have a10 : wr.cell? ⟨b, off + k * 14 + 10, none⟩ = some (.string ⟨X.b.name.toArray⟩) := hc 10 _ rfl
      have a11 : wr.cell? ⟨b, off + k * 14 + 11, none⟩ = some (.int .i64 X.b.val.1) := hc 11 _ rfl
      have a12 : wr.cell? ⟨b, off + k * 14 + 12, none⟩ = some (.int .i64 X.b.val.2.1) := hc 12 _ rfl
      have a13 : wr.cell? ⟨b, off + k * 14 + 13, none⟩ = some (.string X.b.val.2.2) := hc 13 _ rfl
      have z0 : wr.cell? ⟨b', off' + k * 14, none⟩ = some (.int .i64 X.kind) := hc' 0 _ rfl
      have z1 : wr.cell? ⟨b', off' + k * 14 + 1, none⟩ = some (.string ⟨X.atom.pred.toArray⟩) := hc' 1 _ rfl
      have z2 : wr.cell? ⟨b', off' + k * 14 + 2, none⟩ = some (.slice r' X.atom.args.length e') := hc' 2 _ rfl
      have z3 : wr.cell? ⟨b', off' + k * 14 + 3, none⟩ = some (.int .i64 X.op) := hc' 3 _ rfl
      have z4 : wr.cell? ⟨b', off' + k * 14 + 4, none⟩ = some (.int .i64 X.a.kind) := hc' 4 _ rfl
      have z5 : wr.cell? ⟨b', off' + k * 14 + 5, none⟩ = some (.string ⟨X.a.name.toArray⟩) := hc' 5 _ rfl
      have z6 : wr.cell? ⟨b', off' + k * 14 + 6, none⟩ = some (.int .i64 X.a.val.1) := hc' 6 _ rfl
      have z7 : wr.cell? ⟨b', off' + k * 14 + 7, none⟩ = some (.int .i64 X.a.val.2.1) := hc' 7 _ rfl
      have z8 : wr.cell? ⟨b', off' + k * 14 + 8, none⟩ = some (.string X.a.val.2.2) := hc' 8 _ rfl
      have z9 : wr.cell? ⟨b', off' + k * 14 + 9, none⟩ = some (.int .i64 X.b.kind) := hc' 9 _ rfl
      have z10 : wr.cell? ⟨b', off' + k * 14 + 10, none⟩ = some (.string ⟨X.b.name.toArray⟩) := hc' 10 _ rfl
      have z11 : wr.cell? ⟨b', off' + k * 14 + 11, none⟩ = some (.int .i64 X.b.val.1) := hc' 11 _ rfl
      have z12 : wr.cell? ⟨b', off' + k * 14 + 12, none⟩ = some (.int .i64 X.b.val.2.1) := hc' 12 _ rfl
      have z13 : wr.cell? ⟨b', off' + k * 14 + 13, none⟩ = some (.string X.b.val.2.2) := hc' 13 _ rfl
      unfold valLi at HU
      clear hb hr hr' hv hv' hc hc'
      go_wp2_with fail
      refine region_tail 10 mixed (by kernel_rfl) ?_
      simp only [List.take_succ_cons, List.take_zero, List.drop_succ_cons, List.drop_zero]
      iterate 10 still_step
      refine wpStill_nil ?_
      go_wp2_with fail
      refine (HU.out wr.drew ((Below.refl _ wr).drew)).mono ?_
      rintro e w3 ⟨rfl, hb3⟩
      have HB3 : Hid (Below wr.heap.size wr w3) := Lib.hid ⟨hb3.os, hb3.tape, hb3.output, hb3.size, hb3.block⟩
      clear hb3
      go_wp2_with fail
      go_roundw
      case rel =>
        obtain ⟨hb, hr, hr'⟩ := HJ.out
        exact ⟨k + 1, hlt, by simp, Lib.hid ⟨hb.trans (HB3.out.mono hb.size), (HB3.out.block _ (Array.getElem?_eq_some_iff.1 hr).1).trans hr, (HB3.out.block _ (Array.getElem?_eq_some_iff.1 hr').1).trans hr'⟩⟩
      case measure => simp [intOf]; omega
    · obtain rfl : n = k := by omega
      have hlt' : ¬ ((n : Nat) : Int) < (n : Int) := by omega
      clear hr hr'
      go_wp2_with fail
      go_ret
      exact ⟨rfl, hb⟩
end
section
open Go Go.RowKit Go.Shelf

theorem de_at {S : Nat → Prop} {w : World} {v : Value} {L : List DeL} (h : RowIn deY S w v L) {j : Nat} (hj : j < L.length) : ∃ b off c u, v = .slice (some ⟨b, off, none⟩) L.length c ∧ w.cell? ⟨b, off + j * 3, none⟩ = some (.string ⟨L[j].name.toArray⟩) ∧ w.cell? ⟨b, off + j * 3 + 1, none⟩ = some (.bool L[j].base) ∧ w.cell? ⟨b, off + j * 3 + 2, none⟩ = some u ∧ RowIn tyY S w u L[j].types := by
  obtain ⟨p, c, rfl, -, -, h⟩ := h
  rcases h with h | ⟨b, off, rfl, -, hb, h⟩
  · subst h; simp at hj
  · obtain ⟨us, ⟨u, rfl, hu⟩, hc⟩ := h j hj
    exact ⟨b, off, c, u, rfl, hc 0 _ rfl, hc 1 _ rfl, hc 2 _ rfl, hu⟩
theorem on_at {S : Nat → Prop} {w : World} {v : Value} {L : List OnL} (h : RowIn onY S w v L) {j : Nat} (hj : j < L.length) : ∃ b off c u x, v = .slice (some ⟨b, off, none⟩) L.length c ∧ w.cell? ⟨b, off + j * 3, none⟩ = some (.string ⟨L[j].event.toArray⟩) ∧ w.cell? ⟨b, off + j * 3 + 1, none⟩ = some u ∧ w.cell? ⟨b, off + j * 3 + 2, none⟩ = some x ∧ RowIn paY S w u L[j].params ∧ RowIn acY S w x L[j].acts := by
  obtain ⟨p, c, rfl, -, -, h⟩ := h
  rcases h with h | ⟨b, off, rfl, -, hb, h⟩
  · subst h; simp at hj
  · obtain ⟨us, ⟨u, x, rfl, hu, hx⟩, hc⟩ := h j hj
    exact ⟨b, off, c, u, x, rfl, hc 0 _ rfl, hc 1 _ rfl, hc 2 _ rfl, hu, hx⟩
theorem ru_at {S : Nat → Prop} {w : World} {v : Value} {L : List RuL} (h : RowIn ruY S w v L) {j : Nat} (hj : j < L.length) : ∃ b off c u x, v = .slice (some ⟨b, off, none⟩) L.length c ∧ w.cell? ⟨b, off + j * 3, none⟩ = some (.string ⟨L[j].head.pred.toArray⟩) ∧ w.cell? ⟨b, off + j * 3 + 1, none⟩ = some u ∧ w.cell? ⟨b, off + j * 3 + 2, none⟩ = some x ∧ RowIn tmY S w u L[j].head.args ∧ RowIn liY S w x L[j].body := by
  obtain ⟨p, c, rfl, -, -, h⟩ := h
  rcases h with h | ⟨b, off, rfl, -, hb, h⟩
  · subst h; simp at hj
  · obtain ⟨us, ⟨u, x, rfl, hu, hx⟩, hc⟩ := h j hj
    exact ⟨b, off, c, u, x, rfl, hc 0 _ rfl, hc 1 _ rfl, hc 2 _ rfl, hu, hx⟩
theorem below_drew (W : World) : Below W.heap.size W W.drew := ⟨rfl, rfl, rfl, Nat.le_refl _, fun _ _ => rfl⟩
set_option maxRecDepth 100000 in
set_option maxHeartbeats 8000000 in
theorem rsame_yes {S S' : Nat → Prop} {w : World} {u u' x x' y y' : Value} {a : PrL} (h1 : RowIn deY S w u a.decls) (h2 : RowIn deY S' w u' a.decls) (i1 : RowIn onY S w x a.ons) (i2 : RowIn onY S' w x' a.ons) (j1 : RowIn ruY S w y a.rules) (j2 : RowIn ruY S' w y' a.rules) :
    Calls Tryz.prog 22 #[.agg #[u, x, y], .agg #[u', x', y']] w fun e w' => e = .returned (.bool true) ∧ Below w.heap.size w w' := by
  have H1 := Lib.hid (And.intro h1 h2)
  have H2 := Lib.hid (And.intro i1 i2)
  have H3 := Lib.hid (And.intro j1 j2)
  have mixed : Tryz.prog.follows .mixedOrders = true := by kernel_rfl
  obtain ⟨p1, c1, rfl⟩ := h1.shape
  obtain ⟨p1', c1', rfl⟩ := h2.shape
  obtain ⟨p2, c2, rfl⟩ := i1.shape
  obtain ⟨p2', c2', rfl⟩ := i2.shape
  obtain ⟨p3, c3, rfl⟩ := j1.shape
  obtain ⟨p3', c3', rfl⟩ := j2.shape
  have l1 := len_le h1
  have l2 := len_le i1
  have l3 := len_le j1
  obtain ⟨n1, hn1⟩ : ∃ n, n = a.decls.length := ⟨_, rfl⟩
  obtain ⟨n2, hn2⟩ : ∃ n, n = a.ons.length := ⟨_, rfl⟩
  obtain ⟨n3, hn3⟩ : ∃ n, n = a.rules.length := ⟨_, rfl⟩
  have HN1 := Lib.hid hn1
  have HN2 := Lib.hid hn2
  have HN3 := Lib.hid hn3
  rw [← hn1] at H1 l1 ⊢
  rw [← hn2] at H2 l2 ⊢
  rw [← hn3] at H3 l3 ⊢
  have m1 : (n1 : Int) ≤ 9223372036854775807 := by omega
  have m2 : (n2 : Int) ≤ 9223372036854775807 := by omega
  have m3 : (n3 : Int) ≤ 9223372036854775807 := by omega
  clear h1 h2 i1 i2 j1 j2 hn1 hn2 hn3 l1 l2 l3
  go_enter Tryz.func22, Tryz.ntmps22
  go_wp2_with fail
  go_loopw [5] (fun i wr => ∃ k : Nat, k ≤ n1 ∧ i = .int .i64 k ∧ Hid (Below w.heap.size w wr ∧ wr.heap[w.heap.size]? = some (.cells #[.slice p1 n1 c1, .slice p2 n2 c2, .slice p3 n3 c3] 49 (0, 0)) ∧ wr.heap[w.heap.size + 1]? = some (.cells #[.slice p1' n1 c1', .slice p2' n2 c2', .slice p3' n3 c3'] 49 (0, 0)))) (fun i _ => n1 - (intOf i).toNat)
  case atStart => exact ⟨0, Nat.zero_le _, rfl, Lib.hid ⟨((Below.refl _ w).alloc (Nat.le_refl _) _).alloc (by simp) _, (two_newA w _ _).1, (two_newA w _ _).2⟩⟩
  case round =>
    obtain ⟨k, hk, rfl, HJ⟩ := hrel
    have h0 : (0 : Int) ≤ (k : Int) := by omega
    obtain ⟨hb, hr, hr'⟩ := HJ.out
    have g1 : wr.cell? ⟨w.heap.size, 0, none⟩ = some (.slice p1 n1 c1) := cell_of_row wr _ 0 _ _ (0, 0) hr
    have g2 : wr.cell? ⟨w.heap.size + 1, 0, none⟩ = some (.slice p1' n1 c1') := cell_of_row wr _ 0 _ _ (0, 0) hr'
    by_cases hlt : k < n1
    · have hlt' : (k : Int) < (n1 : Int) := by omega
      have hkn : k < a.decls.length := by rw [← HN1.out]; exact hlt
      obtain ⟨b, off, cc, u, e1, a0, a1, a2, hu⟩ := de_at (H1.out.1.in_below hb) hkn
      obtain ⟨b', off', cc', u', e2, d0, d1, d2, hu'⟩ := de_at (H1.out.2.in_below hb) hkn
      injection e1 with e1 h2' h3'
      injection e2 with e2 h4' h5'
      subst e1
      subst e2
      clear h2' h3' h4' h5'
      generalize a.decls[k] = X at a0 a1 a2 d0 d1 d2 hu hu'
      have HU : Hid (∀ WW, Below wr.heap.size wr WW → Calls Tryz.prog 47 #[.agg #[.string ⟨X.name.toArray⟩, .bool X.base, u], .agg #[.string ⟨X.name.toArray⟩, .bool X.base, u']] WW fun e w' => e = .returned (.bool true) ∧ Below WW.heap.size WW w') := Lib.hid (fun WW hb => rsamedecl_yes (w := WW) (a := X) (hu.in_below hb) (hu'.in_below hb))
      obtain ⟨q0, n0q, k0q, rfl⟩ : ∃ q n k, u = .slice q n k := (by obtain ⟨q, k, e⟩ := hu.shape; exact ⟨_, _, _, e⟩)
      obtain ⟨q1, n1q, k1q, rfl⟩ : ∃ q n k, u' = .slice q n k := (by obtain ⟨q, k, e⟩ := hu'.shape; exact ⟨_, _, _, e⟩)
      clear hb hr hr' hu hu'
      go_wp2_with fail
      refine region_tail 10 mixed (by kernel_rfl) ?_
      simp only [List.take_succ_cons, List.take_zero, List.drop_succ_cons, List.drop_zero]
      iterate 10 still_step
      refine wpStill_nil ?_
      go_wp2_with fail
      refine (HU.out wr.drew (below_drew wr)).mono ?_
      rintro e w3 ⟨rfl, hb3⟩
      have HB3 : Hid (Below wr.heap.size wr w3) := Lib.hid ⟨hb3.os, hb3.tape, hb3.output, hb3.size, hb3.block⟩
      clear hb3
      go_wp2_with fail
      go_roundw
      case rel =>
        obtain ⟨hb, hr, hr'⟩ := HJ.out
        exact ⟨k + 1, hlt, by simp, Lib.hid ⟨hb.trans (HB3.out.mono hb.size), (HB3.out.block _ (Array.getElem?_eq_some_iff.1 hr).1).trans hr, (HB3.out.block _ (Array.getElem?_eq_some_iff.1 hr').1).trans hr'⟩⟩
      case measure => simp [intOf]; omega
    · obtain rfl : n1 = k := by omega
      have hlt' : ¬ ((n1 : Nat) : Int) < (n1 : Int) := by omega
      clear hr hr' hb
      go_wp2_with fail
      clear g1 g2
      go_loopw [6] (fun i wr => ∃ k : Nat, k ≤ n2 ∧ i = .int .i64 k ∧ Hid (Below w.heap.size w wr ∧ wr.heap[w.heap.size]? = some (.cells #[.slice p1 n1 c1, .slice p2 n2 c2, .slice p3 n3 c3] 49 (0, 0)) ∧ wr.heap[w.heap.size + 1]? = some (.cells #[.slice p1' n1 c1', .slice p2' n2 c2', .slice p3' n3 c3'] 49 (0, 0)))) (fun i _ => n2 - (intOf i).toNat)
      case atStart => exact ⟨0, Nat.zero_le _, rfl, HJ⟩
      case round =>
        clear HJ hlt hlt' hk h0
        obtain ⟨k, hk, rfl, HJ⟩ := hrel
        have h0 : (0 : Int) ≤ (k : Int) := by omega
        obtain ⟨hb, hr, hr'⟩ := HJ.out
        have g1 : wr.cell? ⟨w.heap.size, 1, none⟩ = some (.slice p2 n2 c2) := cell_of_row wr _ 1 _ _ (0, 0) hr
        have g2 : wr.cell? ⟨w.heap.size + 1, 1, none⟩ = some (.slice p2' n2 c2') := cell_of_row wr _ 1 _ _ (0, 0) hr'
        by_cases hlt : k < n2
        · have hlt' : (k : Int) < (n2 : Int) := by omega
          have hkn : k < a.ons.length := by rw [← HN2.out]; exact hlt
          obtain ⟨b, off, cc, u, x, e1, a0, a1, a2, hu, hx⟩ := on_at (H2.out.1.in_below hb) hkn
          obtain ⟨b', off', cc', u', x', e2, d0, d1, d2, hu', hx'⟩ := on_at (H2.out.2.in_below hb) hkn
          injection e1 with e1 h2' h3'
          injection e2 with e2 h4' h5'
          subst e1
          subst e2
          clear h2' h3' h4' h5'
          generalize a.ons[k] = X at a0 a1 a2 d0 d1 d2 hu hx hu' hx'
          have HU : Hid (∀ WW, Below wr.heap.size wr WW → Calls Tryz.prog 48 #[.agg #[.string ⟨X.event.toArray⟩, u, x], .agg #[.string ⟨X.event.toArray⟩, u', x']] WW fun e w' => e = .returned (.bool true) ∧ Below WW.heap.size WW w') := Lib.hid (fun WW hb => rsameon_yes (w := WW) (a := X) (hu.in_below hb) (hu'.in_below hb) (hx.in_below hb) (hx'.in_below hb))
          obtain ⟨q0, n0q, k0q, rfl⟩ : ∃ q n k, u = .slice q n k := (by obtain ⟨q, k, e⟩ := hu.shape; exact ⟨_, _, _, e⟩)
          obtain ⟨q1, n1q, k1q, rfl⟩ : ∃ q n k, u' = .slice q n k := (by obtain ⟨q, k, e⟩ := hu'.shape; exact ⟨_, _, _, e⟩)
          obtain ⟨q2, n2q, k2q, rfl⟩ : ∃ q n k, x = .slice q n k := (by obtain ⟨q, k, e⟩ := hx.shape; exact ⟨_, _, _, e⟩)
          obtain ⟨q3, n3q, k3q, rfl⟩ : ∃ q n k, x' = .slice q n k := (by obtain ⟨q, k, e⟩ := hx'.shape; exact ⟨_, _, _, e⟩)
          clear hb hr hr' hu hx hu' hx'
          go_wp2_with fail
          refine region_tail 10 mixed (by kernel_rfl) ?_
          simp only [List.take_succ_cons, List.take_zero, List.drop_succ_cons, List.drop_zero]
          iterate 10 still_step
          refine wpStill_nil ?_
          go_wp2_with fail
          refine (HU.out wr.drew (below_drew wr)).mono ?_
          rintro e w3 ⟨rfl, hb3⟩
          have HB3 : Hid (Below wr.heap.size wr w3) := Lib.hid ⟨hb3.os, hb3.tape, hb3.output, hb3.size, hb3.block⟩
          clear hb3
          go_wp2_with fail
          go_roundw
          case rel =>
            obtain ⟨hb, hr, hr'⟩ := HJ.out
            exact ⟨k + 1, hlt, by simp, Lib.hid ⟨hb.trans (HB3.out.mono hb.size), (HB3.out.block _ (Array.getElem?_eq_some_iff.1 hr).1).trans hr, (HB3.out.block _ (Array.getElem?_eq_some_iff.1 hr').1).trans hr'⟩⟩
          case measure => simp [intOf]; omega
        · obtain rfl : n2 = k := by omega
          have hlt' : ¬ ((n2 : Nat) : Int) < (n2 : Int) := by omega
          clear hr hr' hb
          go_wp2_with fail
          clear g1 g2
          go_loopw [7] (fun i wr => ∃ k : Nat, k ≤ n3 ∧ i = .int .i64 k ∧ Hid (Below w.heap.size w wr ∧ wr.heap[w.heap.size]? = some (.cells #[.slice p1 n1 c1, .slice p2 n2 c2, .slice p3 n3 c3] 49 (0, 0)) ∧ wr.heap[w.heap.size + 1]? = some (.cells #[.slice p1' n1 c1', .slice p2' n2 c2', .slice p3' n3 c3'] 49 (0, 0)))) (fun i _ => n3 - (intOf i).toNat)
          case atStart => exact ⟨0, Nat.zero_le _, rfl, HJ⟩
          case round =>
            clear HJ hlt hlt' hk h0
            obtain ⟨k, hk, rfl, HJ⟩ := hrel
            have h0 : (0 : Int) ≤ (k : Int) := by omega
            obtain ⟨hb, hr, hr'⟩ := HJ.out
            have g1 : wr.cell? ⟨w.heap.size, 2, none⟩ = some (.slice p3 n3 c3) := cell_of_row wr _ 2 _ _ (0, 0) hr
            have g2 : wr.cell? ⟨w.heap.size + 1, 2, none⟩ = some (.slice p3' n3 c3') := cell_of_row wr _ 2 _ _ (0, 0) hr'
            by_cases hlt : k < n3
            · have hlt' : (k : Int) < (n3 : Int) := by omega
              have hkn : k < a.rules.length := by rw [← HN3.out]; exact hlt
              obtain ⟨b, off, cc, u, x, e1, a0, a1, a2, hu, hx⟩ := ru_at (H3.out.1.in_below hb) hkn
              obtain ⟨b', off', cc', u', x', e2, d0, d1, d2, hu', hx'⟩ := ru_at (H3.out.2.in_below hb) hkn
              injection e1 with e1 h2' h3'
              injection e2 with e2 h4' h5'
              subst e1
              subst e2
              clear h2' h3' h4' h5'
              generalize a.rules[k] = X at a0 a1 a2 d0 d1 d2 hu hx hu' hx'
              have HU : Hid (∀ WW, Below wr.heap.size wr WW → Calls Tryz.prog 24 #[.agg #[.string ⟨X.head.pred.toArray⟩, u, x], .agg #[.string ⟨X.head.pred.toArray⟩, u', x']] WW fun e w' => e = .returned (.bool true) ∧ Below WW.heap.size WW w') := Lib.hid (fun WW hb => rsamerule_yes (w := WW) (a := X) (hu.in_below hb) (hu'.in_below hb) (hx.in_below hb) (hx'.in_below hb))
              obtain ⟨q0, n0q, k0q, rfl⟩ : ∃ q n k, u = .slice q n k := (by obtain ⟨q, k, e⟩ := hu.shape; exact ⟨_, _, _, e⟩)
              obtain ⟨q1, n1q, k1q, rfl⟩ : ∃ q n k, u' = .slice q n k := (by obtain ⟨q, k, e⟩ := hu'.shape; exact ⟨_, _, _, e⟩)
              obtain ⟨q2, n2q, k2q, rfl⟩ : ∃ q n k, x = .slice q n k := (by obtain ⟨q, k, e⟩ := hx.shape; exact ⟨_, _, _, e⟩)
              obtain ⟨q3, n3q, k3q, rfl⟩ : ∃ q n k, x' = .slice q n k := (by obtain ⟨q, k, e⟩ := hx'.shape; exact ⟨_, _, _, e⟩)
              clear hb hr hr' hu hx hu' hx'
              go_wp2_with fail
              refine region_tail 10 mixed (by kernel_rfl) ?_
              simp only [List.take_succ_cons, List.take_zero, List.drop_succ_cons, List.drop_zero]
              iterate 10 still_step
              refine wpStill_nil ?_
              go_wp2_with fail
              refine (HU.out wr.drew (below_drew wr)).mono ?_
              rintro e w3 ⟨rfl, hb3⟩
              have HB3 : Hid (Below wr.heap.size wr w3) := Lib.hid ⟨hb3.os, hb3.tape, hb3.output, hb3.size, hb3.block⟩
              clear hb3
              go_wp2_with fail
              go_roundw
              case rel =>
                obtain ⟨hb, hr, hr'⟩ := HJ.out
                exact ⟨k + 1, hlt, by simp, Lib.hid ⟨hb.trans (HB3.out.mono hb.size), (HB3.out.block _ (Array.getElem?_eq_some_iff.1 hr).1).trans hr, (HB3.out.block _ (Array.getElem?_eq_some_iff.1 hr').1).trans hr'⟩⟩
              case measure => simp [intOf]; omega
            · obtain rfl : n3 = k := by omega
              have hlt' : ¬ ((n3 : Nat) : Int) < (n3 : Int) := by omega
              clear hr hr'
              go_wp2_with fail
              go_ret
              exact ⟨rfl, hb⟩
end
section
open Go Go.RowKit

/-- Ahead of anything the reader takes these tokens, so. -/
def Rz {α : Type} (p : Rd α) (T : List Kt) (a : α) : Prop := ∀ r, p (T ++ r) = .ok a r
section
variable {α β : Type} {p p' : Rd α} {f : α → Rd β} {T T' : List Kt} {a : α} {b : β} {q : Kt → Bool} {t : Kt}
theorem Rz.pure (a : α) : Rz (pureR a) [] a := fun _ => rfl
theorem Rz.bind (h : Rz p T a) (h' : Rz (f a) T' b) : Rz (bindR p f) (T ++ T') b := fun r => by
  unfold bindR
  rw [List.append_assoc, h]
  exact h' r
theorem Rz.map (h : Rz p T a) (g : α → β) : Rz (bindR p fun a => pureR (g a)) T (g a) := by
  have := h.bind (f := fun a => pureR (g a)) (Rz.pure (g a))
  rwa [List.append_nil] at this
theorem Rz.tok (h : q t = true) : Rz (tok1 q) [t] t := fun r => by
  show tok1 q (t :: r) = _
  rw [tok1_cons, if_pos h]
theorem Rz.yes (h : q t = true) (hp : Rz p (t :: T) a) : Rz (altR q p p') (t :: T) a := fun r => by
  unfold altR
  rw [if_pos (by exact h)]
  exact hp r
theorem Rz.no (h : q t = false) (hp : Rz p' (t :: T) a) : Rz (altR q p p') (t :: T) a := fun r => by
  unfold altR
  rw [if_neg (by show ¬ q t = true; rw [h]; simp)]
  exact hp r
/-- What is one thing alone is no other. -/
theorem Rz.one {b : α} (h : Rz p T a) (h' : Rz p T b) : a = b := by
  have e := (h []).symm.trans (h' [])
  injection e
end
theorem rd_mark (m : List UInt8) : Rz (markR m) [cK m] () := (Rz.tok (q := isM m) (by simp [isM, cK])).map _
/-- A row with commas, ahead of another mark. -/
theorem rd_sep {α : Type} {p : Rd α} {K : α → List Kt} {q : Kt → Bool} (hc : q (cK [44]) = true) {m : Kt} (hm : q m = false) : ∀ (L : List α), L ≠ [] → (∀ x ∈ L, Rz p (K x) x) → ∀ r, sepL q p (joinK (L.map K) ++ m :: r) = .ok L (m :: r)
  | [], h, _, _ => absurd rfl h
  | [x], _, hP, r => by
    have h1 := hP x List.mem_cons_self (m :: r)
    have e : joinK ([x].map K) ++ m :: r = K x ++ m :: r := by simp [joinK]
    rw [e, sepL, h1]
    simp only
    rw [if_neg (by rw [hm]; simp)]
  | x :: y :: L, _, hP, r => by
    have h1 := hP x List.mem_cons_self (cK [44] :: (joinK ((y :: L).map K) ++ m :: r))
    have h2 := rd_sep hc hm (y :: L) (by simp) (fun z hz => hP z (List.mem_cons_of_mem _ hz)) r
    have e : joinK ((x :: y :: L).map K) ++ m :: r = K x ++ cK [44] :: (joinK ((y :: L).map K) ++ m :: r) := by
      rw [List.map_cons, joinK, if_neg (by simp), List.append_assoc]
      rfl
    rw [e, sepL, h1]
    simp only
    rw [if_pos hc, if_pos (by simp only [List.length_append, List.length_cons]; omega), h2]
    rfl
/-- A row in brackets. -/
theorem rd_row {α : Type} {p : Rd α} {K : α → List Kt} (L : List α) (hP : ∀ x ∈ L, Rz p (K x) x) (hh : ∀ x ∈ L, ∃ t T, K x = t :: T ∧ isM [41] t = false) : Rz (rowR p) (joinK (L.map K) ++ [cK [41]]) L := fun r => by
  unfold rowR bindR altR
  by_cases hL : L = []
  · subst hL
    rfl
  · have e : (joinK (L.map K) ++ [cK [41]] ++ r) = joinK (L.map K) ++ cK [41] :: r := by simp
    obtain ⟨x, L', rfl⟩ : ∃ x L', L = x :: L' := by
      cases L with
      | nil => exact absurd rfl hL
      | cons x L' => exact ⟨x, L', rfl⟩
    obtain ⟨t, T, ht, hq⟩ := hh x List.mem_cons_self
    have hn : ¬ nxt (isM [41]) (joinK ((x :: L').map K) ++ cK [41] :: r) = true := by
      rw [List.map_cons, joinK, ht]
      show ¬ isM [41] t = true
      rw [hq]
      simp
    rw [e, if_neg hn, rd_sep (q := isM [44]) rfl rfl (x :: L') hL hP r]
    rfl
/-- What may stand behind a mark, and the point. -/
theorem rd_more {α : Type} {p : Rd α} {K : α → List Kt} {m : List UInt8} (hm : m ≠ [46]) (L : List α) (hP : ∀ x ∈ L, Rz p (K x) x) : Rz (bindR (moreR m p) fun b => bindR (markR [46]) fun _ => pureR b) (tailK m (L.map K) ++ [cK [46]]) L := fun r => by
  unfold moreR bindR altR
  by_cases hL : L = []
  · subst hL
    have hn : ¬ nxt (isM m) (tailK m (([] : List α).map K) ++ [cK [46]] ++ r) = true := by
      show ¬ isM m (cK [46]) = true
      intro e
      simp [isM, cK] at e
      exact hm e.symm
    rw [if_neg hn]
    rfl
  · have e : tailK m (L.map K) ++ [cK [46]] ++ r = cK m :: (joinK (L.map K) ++ cK [46] :: r) := by
      unfold tailK
      rw [if_neg (by simpa using hL)]
      simp
    have hy : nxt (isM m) (cK m :: (joinK (L.map K) ++ cK [46] :: r)) = true := by show isM m (cK m) = true; simp [isM, cK]
    have ht : tok1 (isM m) (cK m :: (joinK (L.map K) ++ cK [46] :: r)) = .ok (cK m) (joinK (L.map K) ++ cK [46] :: r) := by rw [tok1_cons, if_pos (by exact hy)]
    rw [e, if_pos hy]
    simp only [ht, Rs.bind]
    rw [rd_sep (q := isM [44]) rfl rfl L hL hP r]
    rfl
theorem rd_name {s r : List UInt8} (h : nameP s = some r) : Rz nameR [wK s] s := by
  have hb := (Lx.name h).2.2
  have hr : reservedL s = false := by unfold nameB at hb; simp at hb; exact hb.2
  exact (Rz.tok (q := isName) (t := wK s) (by simp [isName, wK, hr])).map fun t => t.2.1
theorem name_not {s r : List UInt8} (h : nameP s = some r) : s ≠ wBase ∧ s ≠ wView ∧ s ≠ wOn ∧ s ≠ wNot ∧ isName (wK s) = true := by
  have hb := (Lx.name h).2.2
  have hr : reservedL s = false := by unfold nameB at hb; simp at hb; exact hb.2
  refine ⟨?_, ?_, ?_, ?_, by simp [isName, wK, hr]⟩ <;> rintro rfl <;> revert hr <;> decide
theorem rd_term {t : TmL} {s : List UInt8} (h : termP t = some s) : Rz termR [termK t] t := by
  have key : isTerm (termK t) = true ∧ termOf (termK t) = t := by
    obtain ⟨k, n, v⟩ := t
    unfold termP at h
    unfold termK
    simp only at h ⊢
    by_cases h1 : k = 1
    · subst h1
      rw [if_pos rfl] at h ⊢
      split at h
      · rename_i hc
        exact ⟨rfl, by rw [hc.2]; rfl⟩
      · cases h
    · rw [if_neg h1] at h ⊢
      by_cases h2 : k = 2
      · subst h2
        rw [if_pos rfl] at h ⊢
        split at h
        · rename_i hc
          rw [hc.2]
          by_cases hk : v.1 = 1
          · rw [if_pos hk]; exact ⟨rfl, rfl⟩
          · rw [if_neg hk]; exact ⟨rfl, rfl⟩
        · cases h
      · rw [if_neg h2] at h ⊢
        by_cases h3 : k = 3
        · subst h3
          rw [if_pos rfl] at h
          split at h
          · rename_i hc
            rw [hc.1, hc.2]
            exact ⟨rfl, rfl⟩
          · cases h
        · rw [if_neg h3] at h; cases h
  have := (Rz.tok (q := isTerm) key.1).map termOf
  rw [key.2] at this
  exact this
theorem term_head (t : TmL) : isM [41] (termK t) = false ∧ isW wNot (termK t) = false ∧ isName (termK t) = false := by
  unfold termK
  by_cases h1 : t.kind = 1
  · rw [if_pos h1]; exact ⟨rfl, rfl, rfl⟩
  · rw [if_neg h1]
    by_cases h2 : t.kind = 2
    · rw [if_pos h2]
      by_cases hk : t.val.1 = 1
      · rw [if_pos hk]; exact ⟨rfl, rfl, rfl⟩
      · rw [if_neg hk]; exact ⟨rfl, rfl, rfl⟩
    · rw [if_neg h2]; exact ⟨rfl, rfl, rfl⟩
theorem row_all_some {α : Type} {P : α → Option (List UInt8)} {sep : List UInt8} {L : List α} {s : List UInt8} (h : rowP P sep L = some s) : ∀ x ∈ L, ∃ y, P x = some y := fun x hx => by
  cases e : P x with
  | some y => exact ⟨y, rfl⟩
  | none =>
    unfold rowP at h
    rw [allO_bad _ (List.mem_map.2 ⟨x, hx, e⟩)] at h
    cases h
/-- A name and a row in brackets. -/
theorem rd_named {α β : Type} {P : α → Option (List UInt8)} {p : Rd α} {K : α → List Kt} {n : List UInt8} {L : List α} {s : List UInt8} {g : List UInt8 → List α → Rd β} {T : List Kt} {b : β} (h : namedP P n L = some s) (hP : ∀ x ∈ L, ∀ y, P x = some y → Rz p (K x) x) (hh : ∀ x ∈ L, ∃ t T, K x = t :: T ∧ isM [41] t = false) (hg : Rz (g n L) T b) :
    Rz (bindR nameR fun n => bindR (markR [40]) fun _ => bindR (rowR p) fun xs => g n xs) (namedK n (L.map K) ++ T) b := by
  obtain ⟨x, y, h1, h2, -⟩ := two_some h
  have hr := rd_row (p := p) (K := K) L (fun x hx => by obtain ⟨y, e⟩ := row_all_some h2 x hx; exact hP x hx y e) hh
  have e : namedK n (L.map K) ++ T = [wK n] ++ ([cK [40]] ++ ((joinK (L.map K) ++ [cK [41]]) ++ T)) := by unfold namedK; simp
  rw [e]
  exact (rd_name h1).bind ((rd_mark [40]).bind (hr.bind hg))
theorem rd_atom {a : AtL} {s : List UInt8} (h : atomP a = some s) : Rz atomR (atomK a) a := by
  have := rd_named (g := fun n xs => pureR (AtL.mk n xs)) (T := []) (b := a) (K := fun t => [termK t]) (p := termR) h (fun x _ y e => rd_term e) (fun x _ => ⟨_, [], rfl, (term_head x).1⟩) (Rz.pure _)
  rw [List.append_nil] at this
  exact this
theorem rd_op {n : Int} {s : List UInt8} (h : opP n = some s) : Rz opR [cK (opM n)] n := by
  have key : isOp (cK (opM n)) = true ∧ opNo (cK (opM n)) = n := by
    unfold opM
    rw [h]
    unfold opP at h
    revert h
    repeat' split
    all_goals intro h; cases h
    all_goals rename_i e; subst e; exact ⟨rfl, rfl⟩
  have := (Rz.tok (q := isOp) key.1).map opNo
  rw [key.2] at this
  exact this
theorem atomK_cons (a : AtL) : ∃ T, atomK a = wK a.pred :: T := ⟨_, rfl⟩
theorem rd_lit {l : LiL} {s : List UInt8} (h : litP l = some s) : Rz literalR (litK l) l := by
  obtain ⟨k, at_, op, a, b⟩ := l
  unfold litP at h
  unfold litK
  simp only at h ⊢
  by_cases h12 : k = 1 ∨ k = 2
  · rw [if_pos h12] at h
    split at h
    · rename_i hc
      obtain ⟨rfl, rfl, rfl⟩ := hc
      cases hA : atomP at_ with
      | none => rw [hA] at h; cases h
      | some x =>
        have hx := rd_atom hA
        obtain ⟨z, y, h1, -, -⟩ := two_some hA
        obtain ⟨-, -, -, h5, h6⟩ := name_not h1
        by_cases h2 : k = 2
        · subst h2
          rw [if_pos rfl]
          exact Rz.yes (q := isW wNot) (by rfl) ((Rz.tok (q := isW wNot) (t := wK wNot) (by rfl)).bind (T' := atomK at_) (hx.map fun a => LiL.mk 2 a 0 zeroT zeroT))
        · obtain rfl : k = 1 := by omega
          rw [if_neg (by decide), if_pos rfl]
          obtain ⟨T, hT⟩ := atomK_cons at_
          rw [hT] at hx ⊢
          exact Rz.no (q := isW wNot) (by simp [isW, wK, h5]) (Rz.yes h6 (hx.map fun a => LiL.mk 1 a 0 zeroT zeroT))
    · cases h
  · rw [if_neg h12] at h
    rw [if_neg (by omega), if_neg (by omega)]
    by_cases h3 : k = 3
    · subst h3
      rw [if_pos rfl] at h
      split at h
      · rename_i hc
        obtain ⟨z, y, hz, hy, -⟩ := two_some h
        obtain ⟨x, o, hx, ho, -⟩ := two_some hz
        obtain ⟨p, l⟩ := at_
        obtain ⟨rfl, rfl⟩ := hc
        have e := (rd_term hx).bind (f := fun a => bindR opR fun o => bindR termR fun b => pureR (LiL.mk 3 zeroA o a b)) ((rd_op ho).bind ((rd_term hy).map fun b => LiL.mk 3 zeroA op a b))
        exact Rz.no (term_head a).2.1 (Rz.no (term_head a).2.2 e)
      · cases h
    · rw [if_neg h3] at h; cases h
theorem tail_some {α : Type} {P : α → Option (List UInt8)} {m : List UInt8} {L : List α} {y : List UInt8} (h : tailP m P L = some y) : ∀ x ∈ L, ∃ z, P x = some z := fun x hx => by
  unfold tailP at h
  by_cases hL : L.length = 0
  · rw [List.eq_nil_of_length_eq_zero hL] at hx; cases hx
  · rw [if_neg hL] at h
    cases hR : rowP P [44, 32] L with
    | none => rw [hR] at h; cases h
    | some z => exact row_all_some hR x hx
theorem rd_rule {r : RuL} {s : List UInt8} (h : ruleP r = some s) : Rz ruleR (ruleK r) r := by
  obtain ⟨x, y, hx, hy, -⟩ := two_some h
  have e2 := rd_more (p := literalR) (K := litK) (m := [58, 45]) (by decide) r.body fun l hl => by obtain ⟨z, e⟩ := tail_some hy l hl; exact rd_lit e
  exact (rd_atom hx).bind (e2.map fun b => RuL.mk r.head b)
theorem rd_type {n : Int} {s : List UInt8} (h : typeP n = some s) : Rz kindR [typeK n] n := by
  have key : isType (typeK n) = true ∧ (if isW wInt (typeK n) = true then (1 : Int) else 2) = n := by
    unfold typeK
    unfold typeP at h ⊢
    by_cases h1 : n = 1
    · subst h1; exact ⟨rfl, rfl⟩
    · rw [if_neg h1] at h ⊢
      by_cases h2 : n = 2
      · subst h2; exact ⟨rfl, rfl⟩
      · rw [if_neg h2] at h; cases h
  have := (Rz.tok (q := isType) key.1).map fun t => if isW wInt t = true then (1 : Int) else 2
  rw [key.2] at this
  exact this
theorem type_head (n : Int) : isM [41] (typeK n) = false := rfl
theorem rd_decl {d : DeL} {s : List UInt8} (h : declP d = some s) : Rz (declR d.base) (declK d) d := by
  unfold declP at h
  cases hN : namedP typeP d.name d.types with
  | none => rw [hN] at h; cases h
  | some x =>
    have e := rd_named (p := kindR) (K := fun n => [typeK n]) (g := fun n ts => bindR (markR [46]) fun _ => pureR (DeL.mk d.base n ts)) (T := [cK [46]]) (b := d) hN (fun n _ y e => rd_type e) (fun n _ => ⟨_, [], rfl, type_head n⟩) ((rd_mark [46]).map fun _ => DeL.mk d.base d.name d.types)
    exact (Rz.tok (q := fun _ => true) (t := wK (if d.base = true then wBase else wView)) rfl).bind e
theorem rd_param {p : List UInt8 × Int} {s : List UInt8} (h : paramP p = some s) : Rz paramR (paramK p) p := by
  obtain ⟨x, y, hx, hy, -⟩ := two_some h
  exact (Rz.tok (q := isK 2) (t := (2, p.1, zeroL)) rfl).bind (T' := [typeK p.2]) ((rd_type hy).map fun k => (p.1, k))
theorem rd_act {a : ActL} {s : List UInt8} (h : actP a = some s) : Rz actR (actK a) a := by
  obtain ⟨pl, at_⟩ := a
  unfold actP at h
  cases hA : atomP at_ with
  | none => rw [hA] at h; cases h
  | some x =>
    have e := rd_atom hA
    cases pl with
    | true => exact Rz.yes (q := isM [43]) rfl ((Rz.tok (q := isM [43]) (t := cK [43]) rfl).bind (T' := atomK at_) (e.map fun a => ActL.mk true a))
    | false => exact Rz.no (q := isM [43]) rfl ((rd_mark [45]).bind (T' := atomK at_) (e.map fun a => ActL.mk false a))
theorem rd_on {o : OnL} {s : List UInt8} (h : onP o = some s) : Rz onR (onK o) o := by
  obtain ⟨x, y, hx, hy, -⟩ := two_some h
  have e2 := rd_more (p := actR) (K := actK) (m := [58]) (by decide) o.acts fun a ha => by obtain ⟨z, e⟩ := tail_some hy a ha; exact rd_act e
  have e := rd_named (p := paramR) (K := paramK) (g := fun n ps => bindR (bindR (moreR [58] actR) fun xs => bindR (markR [46]) fun _ => pureR xs) fun xs => pureR (OnL.mk n ps xs)) (T := tailK [58] (o.acts.map actK) ++ [cK [46]]) (b := o) hx (fun p _ y e => rd_param e) (fun p _ => ⟨_, _, rfl, rfl⟩) (e2.map fun xs => OnL.mk o.event o.params xs)
  exact (Rz.tok (q := fun _ => true) (t := wK wOn) rfl).bind e
/-- One text, one part. -/
theorem rule_one {a b : RuL} {s : List UInt8} (ha : ruleP a = some s) (hb : ruleP b = some s) (hk : ruleK a = ruleK b) : a = b := (rd_rule ha).one (hk ▸ rd_rule hb)
theorem on_one {a b : OnL} {s : List UInt8} (ha : onP a = some s) (hb : onP b = some s) (hk : onK a = onK b) : a = b := (rd_on ha).one (hk ▸ rd_on hb)
end
end Go.Proofs.YtlbofeidiclhgaaGreatDoor

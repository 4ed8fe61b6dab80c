/-
  The document's print: Same of events at any two.
-/
import Derived.Test.YtfjpiofinffpfaaDoorL07
namespace Go.Proofs.YtfjpiofinffpfaaDoor
open Go Go.RowKit Go.Shelf

/-- Two parameters compared. -/
theorem neqPP_run (x y : List UInt8 × Int) : ∃ b : Bool, (b = true ↔ x = y) ∧ ∀ W : World, (binOp .neq 60 (.agg #[.string ⟨x.1.toArray⟩, .int .i64 x.2]) (.agg #[.string ⟨y.1.toArray⟩, .int .i64 y.2])).run Tryd.prog W = .ok (.bool (!b)) W := by
  obtain ⟨n, a⟩ := x
  obtain ⟨n', a'⟩ := y
  refine ⟨n == n' && a == a', by simp, fun W => ?_⟩
  rw [run_neq_struct]
  simp [go_sem]
  by_cases h1 : n = n'
  · by_cases h2 : a = a'
    · simp [h1, h2]
    · simp [h1, h2]
  · simp [h1]
theorem acL_eq {a b : ActL} : a = b ↔ a.plus = b.plus ∧ a.atom = b.atom := by
  obtain ⟨p, l⟩ := a
  obtain ⟨p', l'⟩ := b
  simp
set_option maxRecDepth 100000 in
set_option maxHeartbeats 16000000 in
theorem rsameonG (a b : OnL) (u x u' x' : Value) (S S' : Nat → Prop) (w : World) (h1 : RowIn paY S w u a.params) (i1 : RowIn acY S w x a.acts) (h2 : RowIn paY S' w u' b.params) (i2 : RowIn acY S' w x' b.acts) :
    Calls Tryd.prog 12 #[.agg #[.string ⟨a.event.toArray⟩, u, x], .agg #[.string ⟨b.event.toArray⟩, u', x']] w (BoolE (a = b) w) := by
  have H1 := Lib.hid (And.intro h1 h2)
  have I1 := Lib.hid (And.intro i1 i2)
  have HEq := Lib.hid (onL_eq (a := a) (b := b))
  have mixed : Tryd.prog.follows .mixedOrders = true := by kernel_rfl
  obtain ⟨p, c, rfl⟩ := h1.shape
  obtain ⟨p', c', rfl⟩ := h2.shape
  obtain ⟨q, d, rfl⟩ := i1.shape
  obtain ⟨q', d', rfl⟩ := i2.shape
  have l1 := len_le h1
  have l2 := len_le i1
  obtain ⟨L, hL⟩ : ∃ L, L = a.params := ⟨_, rfl⟩
  obtain ⟨M, hM⟩ : ∃ L, L = b.params := ⟨_, rfl⟩
  obtain ⟨A, hA⟩ : ∃ L, L = a.acts := ⟨_, rfl⟩
  obtain ⟨B, hB⟩ : ∃ L, L = b.acts := ⟨_, rfl⟩
  obtain ⟨n, hn⟩ : ∃ n, n = L.length := ⟨_, rfl⟩
  obtain ⟨m, hm⟩ : ∃ n, n = M.length := ⟨_, rfl⟩
  obtain ⟨e, he⟩ : ∃ n, n = A.length := ⟨_, rfl⟩
  obtain ⟨f, hf⟩ : ∃ n, n = B.length := ⟨_, rfl⟩
  have HN := Lib.hid hn
  have HM := Lib.hid hm
  have HE := Lib.hid he
  have HF := Lib.hid hf
  obtain ⟨pa, hpa⟩ : ∃ pa : ByteArray, pa = ⟨a.event.toArray⟩ := ⟨_, rfl⟩
  obtain ⟨pb, hpb⟩ : ∃ pb : ByteArray, pb = ⟨b.event.toArray⟩ := ⟨_, rfl⟩
  have la : pa.toList = a.event := by rw [hpa, Lib.toList_data]
  have lb : pb.toList = b.event := by rw [hpb, Lib.toList_data]
  rw [← hL, ← hM, ← hA, ← hB, ← la, ← lb] at HEq
  rw [← hL, ← hM] at H1
  rw [← hA, ← hB] at I1
  rw [← hL] at l1 ⊢
  rw [← hA] at l2 ⊢
  rw [← hM, ← hB, ← hpa, ← hpb]
  rw [← hn] at l1
  rw [← he] at l2
  rw [← hn, ← hm] at H1 ⊢
  rw [← he, ← hf] at I1 ⊢
  have m1 : (n : Int) ≤ 9223372036854775807 := by omega
  have m2 : (e : Int) ≤ 9223372036854775807 := by omega
  generalize (a = b) = Q at HEq ⊢
  clear h1 h2 i1 i2 hL hM hA hB hn hm he hf hpa hpb la lb l1 l2 a b
  have HB := Lib.hid (below_box2 w (.cells #[.string pa, .slice p n c, .slice q e d] 31) (.cells #[.string pb, .slice p' m c', .slice q' f d'] 31))
  have hx := two_newA w (.cells #[.string pa, .slice p n c, .slice q e d] 31) (.cells #[.string pb, .slice p' m c', .slice q' f d'] 31)
  have HX := Lib.hid hx
  clear hx
  by_cases hp : pa.toList = pb.toList
  rotate_left
  · have e1 : (pa.toList == pb.toList) = false := by simpa using hp
    have HP := Lib.hid hp
    clear hp
    go_enter Tryd.func12, Tryd.ntmps12
    go_wp2_with fail
    go_ret
    exact ⟨.inr ⟨fun e => HP.out (HEq.out.1 e).1, rfl⟩, HB.out⟩
  have e1 : (pa.toList == pb.toList) = true := by simpa using hp
  have HP := Lib.hid hp
  clear hp
  by_cases hnm : n = m
  rotate_left
  · have e2 : ((n : Int) == (m : Int)) = false := by simp; omega
    have HNe := Lib.hid (show L ≠ M from fun e => hnm (by rw [HN.out, HM.out, e]))
    clear hnm
    go_enter Tryd.func12, Tryd.ntmps12
    go_wp2_with fail
    go_ret
    exact ⟨.inr ⟨fun e => HNe.out (HEq.out.1 e).2.1, rfl⟩, HB.out⟩
  subst hnm
  by_cases hef : e = f
  rotate_left
  · have e2 : ((e : Int) == (f : Int)) = false := by simp; omega
    have HNe := Lib.hid (show A ≠ B from fun h => hef (by rw [HE.out, HF.out, h]))
    clear hef
    go_enter Tryd.func12, Tryd.ntmps12
    go_wp2_with fail
    go_ret
    exact ⟨.inr ⟨fun e => HNe.out (HEq.out.1 e).2.2, rfl⟩, HB.out⟩
  subst hef
  go_enter Tryd.func12, Tryd.ntmps12
  go_wp2_with fail
  go_loopw [5] (fun i wr => ∃ k : Nat, k ≤ n ∧ i = .int .i64 k ∧ Hid (L.take k = M.take k ∧ Below w.heap.size w wr ∧ wr.heap[w.heap.size]? = some (.cells #[.string pa, .slice p n c, .slice q e d] 31 (0, 0)) ∧ wr.heap[w.heap.size + 1]? = some (.cells #[.string pb, .slice p' n c', .slice q' e d'] 31 (0, 0)))) (fun i _ => n - (intOf i).toNat)
  case atStart => exact ⟨0, Nat.zero_le _, rfl, Lib.hid ⟨rfl, HB.out, HX.out.1, HX.out.2⟩⟩
  case round =>
    obtain ⟨k, hk, rfl, HJ⟩ := hrel
    have h0 : (0 : Int) ≤ (k : Int) := by omega
    obtain ⟨hpre, hb, hr, hr'⟩ := HJ.out
    have g1 : wr.cell? ⟨w.heap.size, 1, none⟩ = some (.slice p n c) := cell_of_row wr _ 1 _ _ (0, 0) hr
    have g2 : wr.cell? ⟨w.heap.size + 1, 1, none⟩ = some (.slice p' n c') := cell_of_row wr _ 1 _ _ (0, 0) hr'
    by_cases hlt : k < n
    · have hlt' : (k : Int) < (n : Int) := by omega
      have hkn : k < L.length := by rw [← HN.out]; exact hlt
      have hkm : k < M.length := by rw [← HM.out]; exact hlt
      obtain ⟨b, off, cc, us, e2, hbl, hu, hc⟩ := row_at (H1.out.1.in_below hb) hkn
      obtain ⟨b', off', cc', us', e3, hbl', hu', hc'⟩ := row_at (H1.out.2.in_below hb) hkm
      injection e2 with e2 hq1 hq2
      injection e3 with e3 hq3 hq4
      subst e2
      subst e3
      clear hq1 hq2 hq3 hq4 hbl hbl'
      have HTk := Lib.hid (take_succ_eq hpre hkn hkm)
      have HNa := Lib.hid (fun h => ne_of_at hkn hkm h)
      obtain ⟨X, hX⟩ : ∃ X, X = L[k] := ⟨_, rfl⟩
      obtain ⟨Y, hY⟩ : ∃ Y, Y = M[k] := ⟨_, rfl⟩
      rw [← hX] at hu HTk HNa
      rw [← hY] at hu' HTk HNa
      have hu : us = [.string ⟨X.1.toArray⟩, .int .i64 X.2] := hu
      have hu' : us' = [.string ⟨Y.1.toArray⟩, .int .i64 Y.2] := hu'
      subst hu
      subst hu'
      obtain ⟨bt, hbt, qt⟩ := neqPP_run X Y
      have HBt := Lib.hid hbt
      have a0 : wr.cell? ⟨b, off + k * 2, none⟩ = some (.string ⟨X.1.toArray⟩) := hc 0 _ rfl
      have a1 : wr.cell? ⟨b, off + k * 2 + 1, none⟩ = some (.int .i64 X.2) := hc 1 _ rfl
      have z0 : wr.cell? ⟨b', off' + k * 2, none⟩ = some (.string ⟨Y.1.toArray⟩) := hc' 0 _ rfl
      have z1 : wr.cell? ⟨b', off' + k * 2 + 1, none⟩ = some (.int .i64 Y.2) := hc' 1 _ rfl
      have HDr : Hid (∀ nq, Below w.heap.size w (wr.drewN nq)) := Lib.hid (fun nq => ⟨hb.os, hb.tape, hb.output, hb.size, hb.block⟩)
      clear hX hY hpre hb hr hr' hc hc' hbt
      obtain ⟨X1, X2⟩ := X
      obtain ⟨Y1, Y2⟩ := Y
      simp only at a0 a1 z0 z1 qt
      cases bt with
      | true =>
        go_wp2_with fail
        go_quiet (fail)
        rename_i nq
        go_wp2_with fail
        go_roundw
        case rel => exact ⟨k + 1, hlt, by simp, Lib.hid ⟨HTk.out.2 (HBt.out.1 (by simp)), HDr.out nq, HJ.out.2.2.1, HJ.out.2.2.2⟩⟩
        case measure => simp [intOf]; omega
      | false =>
        go_wp2_with fail
        go_quiet (fail)
        rename_i nq
        go_wp2_with fail
        go_ret
        exact ⟨.inr ⟨fun e => HNa.out (fun h => by have := HBt.out.2 h; simp at this) (HEq.out.1 e).2.1, rfl⟩, HDr.out nq⟩
    · obtain rfl : n = k := by omega
      have hlt' : ¬ ((n : Nat) : Int) < (n : Int) := by omega
      have HLM := Lib.hid (show L = M by rwa [List.take_of_length_le (by rw [← HN.out]; exact Nat.le_refl _), List.take_of_length_le (by rw [← HM.out]; exact Nat.le_refl _)] at hpre)
      have HJ0 := Lib.hid HJ.out.2
      clear hr hr' hb hpre HJ
      go_wp2_with fail
      clear g1 g2 hlt hlt' hk h0
      go_loopw [6] (fun i wr => ∃ k : Nat, k ≤ e ∧ i = .int .i64 k ∧ Hid (A.take k = B.take k ∧ Below w.heap.size w wr ∧ wr.heap[w.heap.size]? = some (.cells #[.string pa, .slice p n c, .slice q e d] 31 (0, 0)) ∧ wr.heap[w.heap.size + 1]? = some (.cells #[.string pb, .slice p' n c', .slice q' e d'] 31 (0, 0)))) (fun i _ => e - (intOf i).toNat)
      case atStart => exact ⟨0, Nat.zero_le _, rfl, Lib.hid ⟨rfl, HJ0.out⟩⟩
      case round =>
        clear HJ0
        obtain ⟨k, hk, rfl, HJ⟩ := hrel
        have h0 : (0 : Int) ≤ (k : Int) := by omega
        obtain ⟨hpre, hb, hr, hr'⟩ := HJ.out
        have g1 : wr.cell? ⟨w.heap.size, 2, none⟩ = some (.slice q e d) := cell_of_row wr _ 2 _ _ (0, 0) hr
        have g2 : wr.cell? ⟨w.heap.size + 1, 2, none⟩ = some (.slice q' e d') := cell_of_row wr _ 2 _ _ (0, 0) hr'
        by_cases hlt : k < e
        · have hlt' : (k : Int) < (e : Int) := by omega
          have hkn : k < A.length := by rw [← HE.out]; exact hlt
          have hkm : k < B.length := by rw [← HF.out]; exact hlt
          obtain ⟨b, off, cc, us, e2, hbl, hu, hc⟩ := row_at (I1.out.1.in_below hb) hkn
          obtain ⟨b', off', cc', us', e3, hbl', hu', hc'⟩ := row_at (I1.out.2.in_below hb) hkm
          injection e2 with e2 hq1 hq2
          injection e3 with e3 hq3 hq4
          subst e2
          subst e3
          clear hq1 hq2 hq3 hq4 hbl hbl'
          have HTk := Lib.hid (take_succ_eq hpre hkn hkm)
          have HNa := Lib.hid (fun h => ne_of_at hkn hkm h)
          obtain ⟨X, hX⟩ : ∃ X, X = A[k] := ⟨_, rfl⟩
          obtain ⟨Y, hY⟩ : ∃ Y, Y = B[k] := ⟨_, rfl⟩
          rw [← hX] at hu HTk HNa
          rw [← hY] at hu' HTk HNa
          clear hX hY hpre
          obtain ⟨v, rfl, hv⟩ := hu
          obtain ⟨v', rfl, hv'⟩ := hu'
          obtain ⟨pl, at_⟩ := X
          obtain ⟨pl', at'⟩ := Y
          have HAc := Lib.hid (acL_eq (a := ⟨pl, at_⟩) (b := ⟨pl', at'⟩))
          simp only at hv hv' HAc
          have HU : Hid (∀ WW, Below wr.heap.size wr WW → Calls Tryd.prog 23 #[.agg #[.string ⟨at_.pred.toArray⟩, v], .agg #[.string ⟨at'.pred.toArray⟩, v']] WW (BoolE (at_ = at') WW)) := Lib.hid (fun WW hb => rsameatomG at_ at' v v' _ _ WW (hv.in_below hb) (hv'.in_below hb))
          obtain ⟨r, e3, rfl⟩ := hv.shape
          obtain ⟨r', e4, rfl⟩ := hv'.shape
          have a0 : wr.cell? ⟨b, off + k * 3, none⟩ = some (.bool pl) := hc 0 _ rfl
          have a1 : wr.cell? ⟨b, off + k * 3 + 1, none⟩ = some (.string ⟨at_.pred.toArray⟩) := hc 1 _ rfl
          have a2 : wr.cell? ⟨b, off + k * 3 + 2, none⟩ = some (.slice r at_.args.length e3) := hc 2 _ rfl
          have z0 : wr.cell? ⟨b', off' + k * 3, none⟩ = some (.bool pl') := hc' 0 _ rfl
          have z1 : wr.cell? ⟨b', off' + k * 3 + 1, none⟩ = some (.string ⟨at'.pred.toArray⟩) := hc' 1 _ rfl
          have z2 : wr.cell? ⟨b', off' + k * 3 + 2, none⟩ = some (.slice r' at'.args.length e4) := hc' 2 _ rfl
          clear hb hr hr' hv hv' hc hc'
          by_cases hpl : pl = pl'
          · subst hpl
            have hp : (!(pl == pl)) = false := by simp
            have hp2 : (pl != pl) = false := by simp
            go_wp2_with fail
            refine region_tail 26 mixed (by kernel_rfl) ?_
            simp only [List.take_succ_cons, List.take_zero, List.drop_succ_cons, List.drop_zero]
            iterate 26 still_step
            refine wpStill_nil ?_
            go_wp2_with fail
            refine (HU.out wr.drew (below_drewG wr)).mono ?_
            rintro y w3 ⟨⟨hq, rfl⟩ | ⟨hq, rfl⟩, hb3⟩
            · have HB3 : Hid (Below wr.heap.size wr w3) := Lib.hid ⟨hb3.os, hb3.tape, hb3.output, hb3.size, hb3.block⟩
              have HQ3 := Lib.hid (HTk.out.2 (HAc.out.2 ⟨by simp, hq⟩))
              clear hb3 hq
              go_wp2_with fail
              go_roundw
              case rel =>
                obtain ⟨-, hb, hr, hr'⟩ := HJ.out
                exact ⟨k + 1, hlt, by simp, Lib.hid ⟨HQ3.out, hb.trans (HB3.out.mono hb.size), (HB3.out.block _ (Array.getElem?_eq_some_iff.1 hr).1).trans hr, (HB3.out.block _ (Array.getElem?_eq_some_iff.1 hr').1).trans hr'⟩⟩
              case measure => simp [intOf]; omega
            · have HB3 : Hid (Below wr.heap.size wr w3) := Lib.hid ⟨hb3.os, hb3.tape, hb3.output, hb3.size, hb3.block⟩
              have HQ3 := Lib.hid (HNa.out fun h => hq (HAc.out.1 h).2)
              clear hb3 hq
              go_wp2_with fail
              go_ret
              exact ⟨.inr ⟨fun e => HQ3.out (HEq.out.1 e).2.2, rfl⟩, HJ.out.2.1.trans (HB3.out.mono HJ.out.2.1.size)⟩
          · have HQ3 := Lib.hid (HNa.out fun h => hpl (HAc.out.1 h).1)
            have HDr : Hid (∀ nq, Below w.heap.size w (wr.drewN nq)) := Lib.hid (fun nq => ⟨HJ.out.2.1.os, HJ.out.2.1.tape, HJ.out.2.1.output, HJ.out.2.1.size, HJ.out.2.1.block⟩)
            clear HU HTk HNa HAc
            cases pl <;> cases pl'
            · exact absurd rfl hpl
            · clear hpl
              go_wp2_with fail
              go_quiet (fail)
              rename_i nq
              go_wp2_with fail
              go_ret
              exact ⟨.inr ⟨fun e => HQ3.out (HEq.out.1 e).2.2, rfl⟩, HDr.out nq⟩
            · clear hpl
              go_wp2_with fail
              go_quiet (fail)
              rename_i nq
              go_wp2_with fail
              go_ret
              exact ⟨.inr ⟨fun e => HQ3.out (HEq.out.1 e).2.2, rfl⟩, HDr.out nq⟩
            · exact absurd rfl hpl
        · obtain rfl : e = k := by omega
          have hlt' : ¬ ((e : Nat) : Int) < (e : Int) := by omega
          have HAB := Lib.hid (show A = B by rwa [List.take_of_length_le (by rw [← HE.out]; exact Nat.le_refl _), List.take_of_length_le (by rw [← HF.out]; exact Nat.le_refl _)] at hpre)
          clear hr hr' hpre
          go_wp2_with fail
          go_ret
          exact ⟨.inl ⟨HEq.out.2 ⟨HP.out, HLM.out, HAB.out⟩, rfl⟩, hb⟩
end Go.Proofs.YtfjpiofinffpfaaDoor

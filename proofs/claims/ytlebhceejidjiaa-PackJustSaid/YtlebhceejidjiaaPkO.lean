/-
  The law PackOrder's own walk.
-/
import Derived.Test.YtlebhceejidjiaaPkQ
import Derived.Test.YtlebhceejidjiaaOpenB
namespace Go.Proofs.Ytlebhceejidjiaa
open Go Go.RowKit

theorem cut_arg (v : Value) (T : List V3) (w : World) (h : ArgT w v T) : Calls Try.prog 10 #[v] w (EndR (cutT T) w) := by
  obtain ⟨p, cap, rfl, h1, h2, h3, h4⟩ := h
  exact cut_any p cap T w h1 h2 h3 fun x hx => (h4 x hx).2
theorem fit_I {T : List V3} {w : World} {v : Value} (h : ArgT w v T) : AllI (cutT T) := by
  obtain ⟨_, _, -, -, -, -, h⟩ := h
  exact cutT_I fun x hx => (h x hx).1
theorem ok_all {T : List V3} (h : OkT T) (hi : AllI T) : ∀ x ∈ T, OkV x := fun x hx => isV_ok (h.2 x hx) (hi x hx)
/-- The two keys as texts stand as the tuples stand. -/
theorem key_str {A B : List V3} (ha : OkT A) (hai : AllI A) (hb : OkT B) (hbi : AllI B) {x y : ByteArray} (hx : x = ⟨(keyT A).toArray⟩) (hy : y = ⟨(keyT B).toArray⟩) :
    (cmpT A B = -1 ∧ Op.bytesLess x.toList y.toList = true ∧ (x.toList == y.toList) = false) ∨ (cmpT A B = 0 ∧ Op.bytesLess x.toList y.toList = false ∧ (x.toList == y.toList) = true) ∨ (cmpT A B = 1 ∧ Op.bytesLess x.toList y.toList = false ∧ (x.toList == y.toList) = false) := by
  obtain ⟨h1, h2⟩ := keyT_order A B (ok_all ha hai) (ok_all hb hbi)
  have h3 : (keyT A == keyT B) = decide (keyT A = keyT B) := by rw [Bool.eq_iff_iff]; simp
  rw [← h3] at h2
  rw [hx, hy, Lib.toList_data, Lib.toList_data, h1]
  show _ ∧ _ ∧ (keyT A == keyT B) = _ ∨ _ ∧ _ ∧ (keyT A == keyT B) = _ ∨ _ ∧ _ ∧ (keyT A == keyT B) = _
  rw [h2]
  rcases cmpT_cases A B with h | h | h <;> rw [h] <;> simp
theorem cutT_small (T : List V3) : (cutT T).length ≤ 1000000 := Nat.le_trans (cutT_len T) (by decide)

set_option maxHeartbeats 2000000 in
set_option maxRecDepth 100000 in
theorem order_any (a : Value) (T1 : List V3) (b : Value) (T2 : List V3) (w : World) (h1 : ArgT w a T1) (h2 : ArgT w b T2) :
    Calls Try.prog 8 #[a, b] w fun e w' => e = .returned (.bool true) ∧ Below w.heap.size w w' := by
  have H1 := Lib.hid h1
  have H2 := Lib.hid h2
  have IA := Lib.hid (fit_I h1)
  have IB := Lib.hid (fit_I h2)
  clear h1 h2
  go_enter Try.func8, Try.ntmps8
  go_wp2_with fail
  refine (cut_arg a T1 w H1.out).mono ?_
  rintro e w1 ⟨v1, rfl, ho1, hb1⟩
  have HO1 := Lib.hid ho1
  have HB1 := Lib.hid hb1
  clear ho1 hb1
  go_wp2_with fail
  refine (cut_arg b T2 w1 (H2.out.below HB1.out)).mono ?_
  rintro e w2 ⟨v2, rfl, ho2, hb2⟩
  have HA := Lib.hid ((HO1.out.below hb2).in_ (cutT_small T1))
  have HB := Lib.hid (ho2.in_ (cutT_small T2))
  have HB2 := Lib.hid (below_2 HB1.out hb2)
  clear ho2 hb2
  obtain ⟨A, hA⟩ : ∃ A, A = cutT T1 := ⟨_, rfl⟩
  obtain ⟨B, hB⟩ : ∃ B, B = cutT T2 := ⟨_, rfl⟩
  rw [← hA] at HA IA
  rw [← hB] at HB IB
  clear hA hB
  go_wp2_with fail
  refine (key_any v1 A _ w2 HA.out (Nat.le_refl _) IA.out).mono ?_
  rintro e w3 ⟨hb3, hk1⟩
  have HB3 := Lib.hid (below_2 HB2.out hb3)
  have HA3 := Lib.hid (HA.out.below hb3)
  have HBB3 := Lib.hid (HB.out.below hb3)
  have HZ3 := Lib.hid hb3.size
  clear hb3
  rcases hk1 with ⟨okA, k1, rfl, hk1⟩ | ⟨noA, rfl⟩
  · have OA := Lib.hid okA
    have HK1 := Lib.hid hk1
    clear okA hk1
    go_wp2_with fail
    refine (key_any v2 B _ w3 HBB3.out HZ3.out IB.out).mono ?_
    rintro e w4 ⟨hb4, hk2⟩
    have HB4 := Lib.hid (below_2 HB3.out hb4)
    have HA4 := Lib.hid (HA3.out.below (hb4.mono HZ3.out))
    have HBB4 := Lib.hid (HBB3.out.below (hb4.mono HZ3.out))
    have HK4 := Lib.hid (HK1.out.below hb4)
    have HZ4 := Lib.hid (Nat.le_trans HZ3.out hb4.size)
    clear hb4
    rcases hk2 with ⟨okB, k2, rfl, hk2⟩ | ⟨noB, rfl⟩
    · have OB := Lib.hid okB
      have HK2 := Lib.hid hk2
      clear okB hk2
      obtain ⟨sa, hsa⟩ : ∃ sa : ByteArray, sa = ⟨(keyT A).toArray⟩ := ⟨_, rfl⟩
      obtain ⟨sb, hsb⟩ : ∃ sb : ByteArray, sb = ⟨(keyT B).toArray⟩ := ⟨_, rfl⟩
      have HKS := Lib.hid (key_str OA.out IA.out OB.out IB.out hsa hsb)
      have HSA := Lib.hid hsa
      have HSB := Lib.hid hsb
      clear hsa hsb
      go_wp2_with fail
      refine (rcompare_any v1 v2 A B _ w4 HA4.out HBB4.out HZ4.out).mono ?_
      rintro e w5 ⟨rfl, g5⟩
      have HB5 := Lib.hid (below_2 HB4.out g5.below)
      have hs1 := run_str w5 _ k1 _ (HK4.out.below g5.below).in_
      have hs2 := run_str w5 _ k2 _ (HK2.out.below g5.below).in_
      rw [← HSA.out] at hs1
      rw [← HSB.out] at hs2
      clear g5
      rcases HKS.out with ⟨hc, hl, he⟩ | ⟨hc, hl, he⟩ | ⟨hc, hl, he⟩
      all_goals
        rw [hc]
        clear hc
        go_wp2_with (go_at_call 24; refine (alive_true _).mono ?_; rintro e w6 ⟨rfl, hb6⟩; have HB6 := Lib.hid (below_2 HB5.out hb6); clear hb6)
        go_ret
        exact ⟨by simp, HB6.out⟩
    · have NB := Lib.hid noB
      clear noB
      go_wp2_with fail
      refine (ris_any v1 A _ w4 HA4.out HZ4.out).mono ?_
      rintro e w5 ⟨⟨-, rfl⟩ | ⟨no, -⟩, hb5⟩
      case inr => exact absurd OA.out no
      have HB5 := Lib.hid (below_2 HB4.out hb5)
      have HBB5 := Lib.hid (HBB4.out.below (hb5.mono HZ4.out))
      have HZ5 := Lib.hid (Nat.le_trans HZ4.out hb5.size)
      clear hb5
      go_wp2_with fail
      refine (ris_any v2 B _ w5 HBB5.out HZ5.out).mono ?_
      rintro e w6 ⟨⟨ok, -⟩ | ⟨-, rfl⟩, hb6⟩
      case inl => exact absurd ok NB.out
      have HB6 := Lib.hid (below_2 HB5.out hb6)
      clear hb6
      go_wp2_with fail
      refine (alive_true _).mono ?_
      rintro e w7 ⟨rfl, hb7⟩
      have HB7 := Lib.hid (below_2 HB6.out hb7)
      clear hb7
      go_wp2_with fail
      go_ret
      exact ⟨rfl, HB7.out⟩
  · have NA := Lib.hid noA
    clear noA
    go_wp2_with fail
    refine (key_any v2 B _ w3 HBB3.out HZ3.out IB.out).mono ?_
    rintro e w4 ⟨hb4, hk2⟩
    have HB4 := Lib.hid (below_2 HB3.out hb4)
    have HA4 := Lib.hid (HA3.out.below (hb4.mono HZ3.out))
    have HBB4 := Lib.hid (HBB3.out.below (hb4.mono HZ3.out))
    have HZ4 := Lib.hid (Nat.le_trans HZ3.out hb4.size)
    clear hb4
    rcases hk2 with ⟨okB, k2, rfl, -⟩ | ⟨noB, rfl⟩
    · have OB := Lib.hid okB
      clear okB
      go_wp2_with fail
      refine (ris_any v1 A _ w4 HA4.out HZ4.out).mono ?_
      rintro e w5 ⟨⟨ok, -⟩ | ⟨-, rfl⟩, hb5⟩
      case inl => exact absurd ok NA.out
      have HB5 := Lib.hid (below_2 HB4.out hb5)
      have HBB5 := Lib.hid (HBB4.out.below (hb5.mono HZ4.out))
      have HZ5 := Lib.hid (Nat.le_trans HZ4.out hb5.size)
      clear hb5
      go_wp2_with fail
      refine (ris_any v2 B _ w5 HBB5.out HZ5.out).mono ?_
      rintro e w6 ⟨⟨-, rfl⟩ | ⟨no, -⟩, hb6⟩
      case inr => exact absurd OB.out no
      have HB6 := Lib.hid (below_2 HB5.out hb6)
      clear hb6
      go_wp2_with fail
      refine (alive_true _).mono ?_
      rintro e w7 ⟨rfl, hb7⟩
      have HB7 := Lib.hid (below_2 HB6.out hb7)
      clear hb7
      go_wp2_with fail
      go_ret
      exact ⟨rfl, HB7.out⟩
    · have NB := Lib.hid noB
      clear noB
      go_wp2_with fail
      refine (ris_any v1 A _ w4 HA4.out HZ4.out).mono ?_
      rintro e w5 ⟨⟨ok, -⟩ | ⟨-, rfl⟩, hb5⟩
      case inl => exact absurd ok NA.out
      have HB5 := Lib.hid (below_2 HB4.out hb5)
      have HBB5 := Lib.hid (HBB4.out.below (hb5.mono HZ4.out))
      have HZ5 := Lib.hid (Nat.le_trans HZ4.out hb5.size)
      clear hb5
      go_wp2_with fail
      refine (ris_any v2 B _ w5 HBB5.out HZ5.out).mono ?_
      rintro e w6 ⟨⟨ok, -⟩ | ⟨-, rfl⟩, hb6⟩
      case inl => exact absurd ok NB.out
      have HB6 := Lib.hid (below_2 HB5.out hb6)
      clear hb6
      go_wp2_with fail
      refine (alive_true _).mono ?_
      rintro e w7 ⟨rfl, hb7⟩
      have HB7 := Lib.hid (below_2 HB6.out hb7)
      clear hb7
      go_wp2_with fail
      go_ret
      exact ⟨rfl, HB7.out⟩
end Go.Proofs.Ytlebhceejidjiaa

/-
  The closure of crc.frames hands the body each piece, as long as there are frames; what has come is told of the world of its round.
-/
import Derived.Test.YteaeiejkdnbcnaaDoorCrSm
import Derived.RangeFuncBox
import Derived.RangeFuncLeaves
import Derived.RangeFuncCalls
import Derived.Shelf.Abstract
import Derived.OwnWalkIn
import Derived.TacticsInMore
import Derived.LoopNIn
import Derived.LoopIn
namespace Go.Proofs.YteaeiejkdnbcnaaDoor
open Go Go.RowKit Go.Shelf

attribute [local go_sem] Oper.semAt_some

/-- How long a slice value is: a loop's measure. -/
def lenV : Value → Nat
  | .slice _ n _ => n
  | _ => 0
set_option maxRecDepth 100000 in
set_option maxHeartbeats 2000000 in
theorem frames_in (f : Nat) (hf : 2 ≤ f) (l Bs : Nat) (L : List UInt8) (hL : L.length ≤ 90000000000000) (w0 W : World) (G : Glob w0) (hb0 : Below w0.heap.size w0 W) (v : Value) (hv : ByC w0.heap.size w0 v L) (hBs : W.cell? ⟨Bs, 0, none⟩ = some v)
    (J : List (UInt8 × List UInt8) → Nat → World → Prop) (hJ : ∀ P t A B, J P t A → Below A.heap.size A B → J P t B)
    (hY : ∀ P t k p c m n W1, J P t W1 → OwnB 0 W1 (.slice p (List.length m) c) m → 13 * P.length ≤ t → 13 ≤ n → t + n ≤ L.length → Below w0.heap.size w0 W1 → YieldAt Fence.wide (f - 1) Tryd.prog l #[.agg #[.int .u8 ((UInt8.toNat k : Nat) : Int), .slice p (List.length m) c], .int .i64 (n : Nat)] W1 fun e W' =>
      e = .returned (.bool true) ∧ J (P ++ [(k, m)]) (t + n) W' ∧ Below w0.heap.size W1 W')
    (h0 : J [] 0 W) :
    CallsIn Fence.wide f Tryd.prog 46 #[.func (.yield l) #[] #[], .pointer (some ⟨Bs, 0, none⟩)] W fun e W' => (∃ v, e = .returned v) ∧ J (scanL L).1 (scanL L).2 W' := by
  have HJ := Lib.hid hJ
  have HY := Lib.hid hY
  have HB0 := Lib.hid hb0
  have HV := Lib.hid hv
  have h1 : 1 ≤ f := by omega
  have h2 : 1 ≤ f - 1 := by omega
  obtain ⟨-, p0, c0, rfl, -, -⟩ := hv
  clear hJ hY hb0
  refine callsIn_of_wp Tryd.func46 rfl trivial ?_ rfl
  simp only [Tryd.ntmps46, List.size_toArray, List.length_cons, List.length_nil, Nat.reduceAdd, Nat.reduceSub, Array.replicate_succ, Array.replicate_zero, List.push_toArray, List.append_toArray, List.nil_append, List.cons_append]
  gi_wp2
  gi_loopw [3] (fun r wr => ∃ (P : List (UInt8 × List UInt8)) (t : Nat), Hid (J P t wr ∧ Below w0.heap.size w0 wr ∧ scanL L = (P ++ (scanL (L.drop t)).1, t + (scanL (L.drop t)).2) ∧ 13 * P.length ≤ t ∧ t ≤ L.length) ∧ Hid (ByC w0.heap.size wr r (L.drop t))) (fun r _ => lenV r)
  case atStart =>
    refine ⟨[], 0, Lib.hid ⟨h0, HB0.out, by rw [List.drop_zero, List.nil_append, Nat.zero_add], by simp, Nat.zero_le _⟩, Lib.hid ?_⟩
    rw [List.drop_zero]
    exact ⟨HV.out.1.below HB0.out, HV.out.2⟩
  case round =>
    obtain ⟨P, t, HR, HD0⟩ := hrel
    obtain ⟨D, HD⟩ : ∃ D, Hid (D = L.drop t) := ⟨_, Lib.hid rfl⟩
    rw [← HD.out] at HD0
    obtain ⟨p, c, e, hlc, hcm⟩ := HD0.out.2
    subst e
    have HM := Lib.hid hcm
    unfold maxLen at hcm
    have g1 : (D.length : Int) ≤ (c : Int) := by omega
    have g2 : (c : Int) ≤ 9223372036854775807 := by omega
    have HDl := Lib.hid (show D.length ≤ 90000000000000 by rw [HD.out, List.length_drop]; omega)
    have HC := Lib.hid (unf_all _ D wr ⟨HD0.out.1.mono HR.out.2.1.size, HD0.out.2⟩ HDl.out (G.below HR.out.2.1))
    gi_wp2_with fail
    refine ⟨trivial, (callsIn_wide.2 HC.out).mono ?_⟩
    rintro e w1 ⟨vb, rfl, hob, hb1⟩
    obtain ⟨er, HEr⟩ : ∃ er, Hid (er = (unfE D).1) := ⟨_, Lib.hid rfl⟩
    obtain ⟨n, HN⟩ : ∃ n, Hid (n = (unfE D).2.1) := ⟨_, Lib.hid rfl⟩
    obtain ⟨k, HK⟩ : ∃ k, Hid (k = (unfE D).2.2.1) := ⟨_, Lib.hid rfl⟩
    obtain ⟨m, HMm⟩ : ∃ m, Hid (m = (unfE D).2.2.2) := ⟨_, Lib.hid rfl⟩
    rw [← HEr.out, ← HN.out, ← HK.out]
    rw [← HMm.out] at hob
    have HB1 := Lib.hid hb1
    have HO1 := Lib.hid hob
    obtain ⟨pb, cb, eb⟩ := hob.in_.shape
    subst eb
    clear hob hb1 HC
    obtain ⟨w2, hw2⟩ : ∃ w2, w2 = w1.alloc (.cells #[.int .u8 (k.toNat : Int), .slice pb m.length cb] 35) := ⟨_, rfl⟩
    have hbl : Below w1.heap.size w1 w2 := by rw [hw2]; exact (Below.refl _ _).alloc (Nat.le_refl _) _
    have HB2 := Lib.hid (show Below wr.heap.size wr w2 from HB1.out.trans (hbl.mono HB1.out.size))
    have HJ2 := Lib.hid (HJ.out _ _ _ _ HR.out.1 HB2.out)
    have HO2 := Lib.hid ((HO1.out.below hbl).mono (Nat.zero_le _))
    have HW2 := Lib.hid (HR.out.2.1.trans (HB2.out.mono HR.out.2.1.size))
    clear hbl
    by_cases he : er = 0
    · have HOk := Lib.hid (show (unfE D).1 = 0 by rw [← HEr.out, he])
      have HSc := Lib.hid (scanL_ok HOk.out)
      have HBd := Lib.hid (show 13 ≤ n ∧ n ≤ D.length by rw [HN.out]; exact unfE_ok HOk.out)
      subst he
      have HN13 := Lib.hid (show t + n ≤ L.length by
        have h1 := HBd.out
        have h2 := HR.out.2.2.2.2
        rw [HD.out, List.length_drop] at h1
        omega)
      have r1 : (n : Int) ≤ (D.length : Int) := by have := HBd.out; omega
      have r2 : (0 : Int) ≤ (n : Int) := by omega
      have HF := Lib.hid (show scanL L = ((P ++ [(k, m)]) ++ (scanL (L.drop (t + n))).1, (t + n) + (scanL (L.drop (t + n))).2) by
        have h1 := HR.out.2.2.1
        rw [← HD.out, HSc.out, ← HN.out] at h1
        rw [h1, ← List.drop_drop, ← HD.out]
        have e : (unfE D).2.2 = (k, m) := by rw [HK.out, HMm.out]
        rw [e, List.append_assoc, Nat.add_assoc]
        rfl)
      have HPn := Lib.hid (show 13 * (P ++ [(k, m)]).length ≤ t + n by have := HR.out.2.2.2.1; have := HBd.out; rw [List.length_append, List.length_singleton]; omega)
      have HRest := Lib.hid (fun (W3 : World) (h : Below w0.heap.size w2 W3) => ByC.rest (HD0.out.1.below ((HB2.out.mono HR.out.2.1.size).trans h)) hlc HM.out n HBd.out.2)
      obtain ⟨fn, tmps, assign, body, hy, hR⟩ := HY.out P t k pb cb m n w2 HJ2.out HO2.out HR.out.2.2.2.1 HBd.out.1 HN13.out HW2.out
      by_cases hct : c = n
      · subst hw2
        gi_wp2_with fail
        refine hR.mono ?_
        rintro e W3 ⟨rfl, hJ3, hb3⟩
        have HJ3 := Lib.hid hJ3
        have HV3 := Lib.hid ((HRest.out W3 hb3).1 hct)
        have HB3 := Lib.hid (HW2.out.trans hb3)
        clear hJ3 hb3
        gi_wp2_with fail
        go_roundw
        case rel => exact ⟨P ++ [(k, m)], t + n, Lib.hid ⟨HJ3.out, HB3.out, HF.out, HPn.out, HN13.out⟩, Lib.hid (by rw [← List.drop_drop, ← HD.out]; exact HV3.out)⟩
        case measure => have := HBd.out; show D.length - n < D.length; omega
      · subst hw2
        gi_wp2_with fail
        refine hR.mono ?_
        rintro e W3 ⟨rfl, hJ3, hb3⟩
        have HJ3 := Lib.hid hJ3
        have HV3 := Lib.hid (HRest.out W3 hb3).2
        have HB3 := Lib.hid (HW2.out.trans hb3)
        clear hJ3 hb3
        gi_wp2_with fail
        go_roundw
        case rel => exact ⟨P ++ [(k, m)], t + n, Lib.hid ⟨HJ3.out, HB3.out, HF.out, HPn.out, HN13.out⟩, Lib.hid (by rw [← List.drop_drop, ← HD.out]; exact HV3.out)⟩
        case measure => have := HBd.out; show D.length - n < D.length; omega
    · have he1 : (er == 0) = false := by simpa using he
      have he2 : (er != 0) = true := by simpa using he
      have HSc := Lib.hid (scanL_no (l := D) (by rw [← HEr.out]; exact he))
      have HE : Hid (scanL L = (P, t)) := Lib.hid (by
        have h1 := HR.out.2.2.1
        rw [← HD.out, HSc.out, List.append_nil, Nat.add_zero] at h1
        exact h1)
      subst hw2
      gi_wp2_with fail
      refine ⟨fun _ h => (by cases h), ?_⟩
      gi_wp2_with fail
      refine bodyPost_ret (results_none rfl _ _ _) rfl ?_
      refine ⟨⟨_, rfl⟩, ?_⟩
      rw [HE.out]
      exact HJ2.out
end Go.Proofs.YteaeiejkdnbcnaaDoor

/-
  Contract of the document's Scan.
-/
import Derived.Test.YteaeiejkdnbcnaaDoorCrSc
namespace Go.Proofs.YteaeiejkdnbcnaaDoor
open Go Go.RowKit

/-- What Scan answers. -/
def ScanEnd (l : List UInt8) (w : World) (e : Ending) (w' : World) : Prop :=
  ∃ v, e = .returned (.tuple #[v, .int .i64 ((scanL l).2 : Nat)]) ∧ OwnP w.heap.size w' v (scanL l).1 ∧ Below w.heap.size w w'
theorem ScanEnd.mk {l : List UInt8} {w w' : World} {v : Value} {P : List (UInt8 × List UInt8)} {t : Nat} (h : scanL l = (P, t)) (ho : OwnP w.heap.size w' v P) (hb : Below w.heap.size w w') : ScanEnd l w (.returned (.tuple #[v, .int .i64 (t : Nat)])) w' :=
  ⟨v, by rw [h], by rw [h]; exact ho, hb⟩
theorem runf_all (v : Value) (l : List UInt8) (w : World) (h : ByC w.heap.size w v l) (hl : l.length ≤ 90000000000000) : Calls Tryd.prog 23 #[v] w (UnfEnd l w) := by
  by_cases h9 : l.length < 9
  · exact runf_short v l w h h9
  · exact runf_any v l w h h9 hl
theorem unf_all (v : Value) (l : List UInt8) (w : World) (h : ByC w.heap.size w v l) (hl : l.length ≤ 90000000000000) (G : Glob w) : Calls Tryd.prog 22 #[v] w (UnfEnd l w) := by
  by_cases h9 : l.length < 9
  · exact unf_short v l w h h9
  · exact unf_any v l w h h9 hl G
/-- The rest of bytes, cut off at t. -/
theorem ByC.rest {n₀ : Nat} {w : World} {p : Option Addr} {c : Nat} {l : List UInt8} (h : BytIn n₀ w (.slice p l.length c) l) (hl : l.length ≤ c) (hc : c ≤ maxLen) (t : Nat) (ht : t ≤ l.length) :
    (c = t → ByC n₀ w (.slice p (l.length - t) 0) (l.drop t)) ∧ ByC n₀ w (.slice (Option.map (fun x => x.add t) p) (l.length - t) (c - t)) (l.drop t) := by
  constructor
  · intro e
    have h0 : l.length - t = 0 := by omega
    have hd : l.drop t = [] := List.drop_of_length_le (by omega)
    rw [h0, hd]
    refine ⟨?_, p, 0, rfl, Nat.le_refl _, Nat.zero_le _⟩
    rcases h with ⟨e', -⟩ | ⟨a, c', e', -⟩
    · injection e' with e1; subst e1; exact .inl ⟨rfl, rfl⟩
    · injection e' with e1; subst e1; exact .inr ⟨a, 0, rfl, fun j hj => by simp at hj⟩
  · refine ⟨?_, _, c - t, by rw [List.length_drop], by rw [List.length_drop]; omega, Nat.le_trans (Nat.sub_le _ _) hc⟩
    rcases h with ⟨e', e2⟩ | ⟨a, c', e', hx⟩
    · injection e' with e1 _ e3
      subst e1 e2 e3
      simp only [List.length_nil, Nat.zero_sub, List.drop_nil]
      exact .inl ⟨rfl, rfl⟩
    · injection e' with e1
      subst e1
      exact BytIn.drop (.inr ⟨a, c, rfl, hx⟩) t (c - t)
set_option maxHeartbeats 2000000 in
set_option maxRecDepth 100000 in
theorem rscan_any (v : Value) (l : List UInt8) (w : World) (h : ByC w.heap.size w v l) (hl : l.length ≤ 100000000000) :
    Calls Tryd.prog 25 #[v] w (ScanEnd l w) := by
  obtain ⟨hb, p, c, rfl, hlc, hcm⟩ := h
  have HI := Lib.hid hb
  have HM := Lib.hid hcm
  unfold maxLen at hcm
  have g1 : (l.length : Int) ≤ (c : Int) := by omega
  have g2 : (c : Int) ≤ 9223372036854775807 := by omega
  have g3 : (l.length : Int) ≤ 100000000000 := by omega
  clear hb
  go_enter Tryd.func25, Tryd.ntmps25
  go_wp2_with fail
  go_loopw [4, 5] (fun u i wr => ∃ t : Nat, t ≤ l.length ∧ i = .int .i64 t ∧ ∃ P, Hid (OwnP w.heap.size wr u P ∧ Below w.heap.size w wr ∧ scanL l = (P ++ (scanL (l.drop t)).1, t + (scanL (l.drop t)).2) ∧ 13 * P.length ≤ t)) (fun _ i _ => l.length - (intOf i).toNat)
  case atStart => exact ⟨0, Nat.zero_le _, rfl, [], Lib.hid ⟨OwnP.nil _ _, Below.refl _ _, by rw [List.drop_zero, List.nil_append, Nat.zero_add], by simp⟩⟩
  case round =>
    obtain ⟨t, ht, rfl, P, HR⟩ := hrel
    have q1 : (t : Int) ≤ (l.length : Int) := by omega
    have q2 : (0 : Int) ≤ (t : Int) := by omega
    obtain ⟨D, HD⟩ : ∃ D, Hid (D = l.drop t) := ⟨_, Lib.hid rfl⟩
    have HDl := Lib.hid (show D.length ≤ 100000000000 by rw [HD.out, List.length_drop]; omega)
    have HRest := Lib.hid (ByC.rest ((HI.out.below HR.out.2.1).mono HR.out.2.1.size) hlc HM.out t ht)
    rw [← HD.out] at HRest
    by_cases hct : c = t
    · have HC := Lib.hid (runf_all _ D wr (HRest.out.1 hct) (by have := HDl.out; omega))
      go_wp2_with fail
      refine HC.out.mono ?_
      rintro e w1 ⟨vb, rfl, hob, hb1⟩
      obtain ⟨er, HEr⟩ : ∃ er, Hid (er = (unfE D).1) := ⟨_, Lib.hid rfl⟩
      obtain ⟨n, HN⟩ : ∃ n, Hid (n = (unfE D).2.1) := ⟨_, Lib.hid rfl⟩
      obtain ⟨k, HK⟩ : ∃ k, Hid (k = (unfE D).2.2.1) := ⟨_, Lib.hid rfl⟩
      obtain ⟨m, HMm⟩ : ∃ m, Hid (m = (unfE D).2.2.2) := ⟨_, Lib.hid rfl⟩
      rw [← HEr.out, ← HN.out, ← HK.out]
      rw [← HMm.out] at hob
      have HB1 := Lib.hid (HR.out.2.1.trans (hb1.mono HR.out.2.1.size))
      have HP1 := Lib.hid (HR.out.1.below hb1 HR.out.2.1.size)
      have HO1 := Lib.hid hob
      obtain ⟨pb, cb, eb⟩ := hob.in_.shape
      subst eb
      clear hob hb1 HC
      obtain ⟨w2, hw2⟩ : ∃ w2, w2 = w1.alloc (.cells #[.int .u8 (k.toNat : Int), .slice pb m.length cb] 35) := ⟨_, rfl⟩
      obtain ⟨N, hN⟩ : ∃ N, N = w1.heap.size := ⟨_, rfl⟩
      have hbl : Below w1.heap.size w1 w2 := by rw [hw2]; exact (Below.refl _ _).alloc (Nat.le_refl _) _
      have HB2 := Lib.hid (HB1.out.trans (hbl.mono HB1.out.size))
      have HP2 := Lib.hid (HP1.out.below hbl HB1.out.size)
      have HO2 := Lib.hid (HO1.out.below hbl)
      have hx0 : w2.cell? ⟨N, 0, none⟩ = some (.int .u8 (k.toNat : Int)) := by rw [hw2, hN, cell_of_row _ w1.heap.size 0 _ _ (0, 0) (heap_alloc_new w1 _)]; rfl
      have hx1 : w2.cell? ⟨N, 1, none⟩ = some (.slice pb m.length cb) := by rw [hw2, hN, cell_of_row _ w1.heap.size 1 _ _ (0, 0) (heap_alloc_new w1 _)]; rfl
      have hs2 : w2.heap.size = N + 1 := by rw [hw2, hN]; exact size_one _ _
      obtain ⟨w3, hw3⟩ : ∃ w3, w3 = w2.alloc (.cells #[.int .u8 (k.toNat : Int), .slice pb m.length cb] 35) := ⟨_, rfl⟩
      have hbl3 : Below w2.heap.size w2 w3 := by rw [hw3]; exact (Below.refl _ _).alloc (Nat.le_refl _) _
      have HB3 := Lib.hid (HB2.out.trans (hbl3.mono HB2.out.size))
      have HP3 := Lib.hid (HP2.out.below hbl3 HB2.out.size)
      have HRd := Lib.hid (show ReadP w.heap.size w3 (.slice pb m.length cb) m from (HO2.out.below hbl3).readP)
      have HY0 := Lib.hid (show w3.cell? ((⟨N + 1, 0, none⟩ : Addr).add 0) = some (.int .u8 (k.toNat : Int)) by
        rw [← hs2, hw3]
        show World.cell? _ ⟨w2.heap.size, 0, none⟩ = _
        rw [cell_of_row _ w2.heap.size 0 _ _ (0, 0) (heap_alloc_new w2 _)]; rfl)
      have HY1 := Lib.hid (show w3.cell? ((⟨N + 1, 0, none⟩ : Addr).add 1) = some (.slice pb m.length cb) by
        rw [← hs2, hw3]
        show World.cell? _ ⟨w2.heap.size, 1, none⟩ = _
        rw [cell_of_row _ w2.heap.size 1 _ _ (0, 0) (heap_alloc_new w2 _)]; rfl)
      have HPl := Lib.hid (show P.length ≤ 1000000000000 by have := HR.out.2.2.2; omega)
      subst hw3 hw2 hN
      by_cases he : er = 0
      · have HOk := Lib.hid (show (unfE D).1 = 0 by rw [← HEr.out, he])
        have HSc := Lib.hid (scanL_ok HOk.out)
        have HBd := Lib.hid (unfE_ok HOk.out)
        subst he
        have HN13 := Lib.hid (show 13 ≤ n ∧ t + n ≤ l.length by
          have h1 := HBd.out
          rw [← HN.out, HD.out, List.length_drop] at h1
          omega)
        exfalso
        have := HN13.out
        omega
      · have he1 : (er == 0) = false := by simpa using he
        have he2 : (er != 0) = true := by simpa using he
        have HSc := Lib.hid (scanL_no (l := D) (by rw [← HEr.out]; exact he))
        have HE : Hid (scanL l = (P, t)) := Lib.hid (by
          have h1 := HR.out.2.2.1
          rw [← HD.out, HSc.out, List.append_nil, Nat.add_zero] at h1
          exact h1)
        clear hx0 hx1 hs2 hbl hbl3
        go_wp2_with fail
        go_ret2
        exact ScanEnd.mk HE.out HP2.out HB2.out
    · have HC := Lib.hid (runf_all _ D wr HRest.out.2 (by have := HDl.out; omega))
      go_wp2_with fail
      refine HC.out.mono ?_
      rintro e w1 ⟨vb, rfl, hob, hb1⟩
      obtain ⟨er, HEr⟩ : ∃ er, Hid (er = (unfE D).1) := ⟨_, Lib.hid rfl⟩
      obtain ⟨n, HN⟩ : ∃ n, Hid (n = (unfE D).2.1) := ⟨_, Lib.hid rfl⟩
      obtain ⟨k, HK⟩ : ∃ k, Hid (k = (unfE D).2.2.1) := ⟨_, Lib.hid rfl⟩
      obtain ⟨m, HMm⟩ : ∃ m, Hid (m = (unfE D).2.2.2) := ⟨_, Lib.hid rfl⟩
      rw [← HEr.out, ← HN.out, ← HK.out]
      rw [← HMm.out] at hob
      have HB1 := Lib.hid (HR.out.2.1.trans (hb1.mono HR.out.2.1.size))
      have HP1 := Lib.hid (HR.out.1.below hb1 HR.out.2.1.size)
      have HO1 := Lib.hid hob
      obtain ⟨pb, cb, eb⟩ := hob.in_.shape
      subst eb
      clear hob hb1 HC
      obtain ⟨w2, hw2⟩ : ∃ w2, w2 = w1.alloc (.cells #[.int .u8 (k.toNat : Int), .slice pb m.length cb] 35) := ⟨_, rfl⟩
      obtain ⟨N, hN⟩ : ∃ N, N = w1.heap.size := ⟨_, rfl⟩
      have hbl : Below w1.heap.size w1 w2 := by rw [hw2]; exact (Below.refl _ _).alloc (Nat.le_refl _) _
      have HB2 := Lib.hid (HB1.out.trans (hbl.mono HB1.out.size))
      have HP2 := Lib.hid (HP1.out.below hbl HB1.out.size)
      have HO2 := Lib.hid (HO1.out.below hbl)
      have hx0 : w2.cell? ⟨N, 0, none⟩ = some (.int .u8 (k.toNat : Int)) := by rw [hw2, hN, cell_of_row _ w1.heap.size 0 _ _ (0, 0) (heap_alloc_new w1 _)]; rfl
      have hx1 : w2.cell? ⟨N, 1, none⟩ = some (.slice pb m.length cb) := by rw [hw2, hN, cell_of_row _ w1.heap.size 1 _ _ (0, 0) (heap_alloc_new w1 _)]; rfl
      have hs2 : w2.heap.size = N + 1 := by rw [hw2, hN]; exact size_one _ _
      obtain ⟨w3, hw3⟩ : ∃ w3, w3 = w2.alloc (.cells #[.int .u8 (k.toNat : Int), .slice pb m.length cb] 35) := ⟨_, rfl⟩
      have hbl3 : Below w2.heap.size w2 w3 := by rw [hw3]; exact (Below.refl _ _).alloc (Nat.le_refl _) _
      have HB3 := Lib.hid (HB2.out.trans (hbl3.mono HB2.out.size))
      have HP3 := Lib.hid (HP2.out.below hbl3 HB2.out.size)
      have HRd := Lib.hid (show ReadP w.heap.size w3 (.slice pb m.length cb) m from (HO2.out.below hbl3).readP)
      have HY0 := Lib.hid (show w3.cell? ((⟨N + 1, 0, none⟩ : Addr).add 0) = some (.int .u8 (k.toNat : Int)) by
        rw [← hs2, hw3]
        show World.cell? _ ⟨w2.heap.size, 0, none⟩ = _
        rw [cell_of_row _ w2.heap.size 0 _ _ (0, 0) (heap_alloc_new w2 _)]; rfl)
      have HY1 := Lib.hid (show w3.cell? ((⟨N + 1, 0, none⟩ : Addr).add 1) = some (.slice pb m.length cb) by
        rw [← hs2, hw3]
        show World.cell? _ ⟨w2.heap.size, 1, none⟩ = _
        rw [cell_of_row _ w2.heap.size 1 _ _ (0, 0) (heap_alloc_new w2 _)]; rfl)
      have HPl := Lib.hid (show P.length ≤ 1000000000000 by have := HR.out.2.2.2; omega)
      subst hw3 hw2 hN
      by_cases he : er = 0
      · have HOk := Lib.hid (show (unfE D).1 = 0 by rw [← HEr.out, he])
        have HSc := Lib.hid (scanL_ok HOk.out)
        have HBd := Lib.hid (unfE_ok HOk.out)
        subst he
        have HN13 := Lib.hid (show 13 ≤ n ∧ t + n ≤ l.length by
          have h1 := HBd.out
          rw [← HN.out, HD.out, List.length_drop] at h1
          omega)
        have r1 : (t : Int) + (n : Int) ≤ 100000000000 := by have := HN13.out; omega
        have r2 : (0 : Int) ≤ (t : Int) + (n : Int) := by omega
        have HF := Lib.hid (show scanL l = ((P ++ [(k, m)]) ++ (scanL (l.drop (t + n))).1, (t + n) + (scanL (l.drop (t + n))).2) by
          have h1 := HR.out.2.2.1
          rw [← HD.out, HSc.out, ← HN.out] at h1
          rw [h1, ← List.drop_drop, ← HD.out]
          have e : (unfE D).2.2 = (k, m) := by rw [HK.out, HMm.out]
          rw [e, List.append_assoc, Nat.add_assoc]
          rfl)
        have HPn := Lib.hid (show 13 * (P ++ [(k, m)]).length ≤ t + n by have := HR.out.2.2.2; have := HN13.out; rw [List.length_append, List.length_singleton]; omega)
        clear hx0 hx1 hs2 hbl hbl3
        go_wp2_with (at_builtin; refine wpList_appP rfl (.tmp 21) (.tmp 23) rfl w.heap.size _ P k (.slice pb m.length cb) m ⟨w1.heap.size + 1, 0, none⟩ rfl rfl HP3.out HRd.out HPl.out HB3.out.size HY0.out HY1.out ?_; intro v4 w4 ho4 hb4; have HO4 := Lib.hid ho4; have HB4 := Lib.hid hb4; clear ho4 hb4)
        go_roundw
        case rel => exact ⟨t + n, HN13.out.2, by go_num, P ++ [(k, m)], Lib.hid ⟨HO4.out, HB3.out.trans HB4.out, HF.out, HPn.out⟩⟩
        case measure => have := HN13.out; simp [intOf]; omega
      · have he1 : (er == 0) = false := by simpa using he
        have he2 : (er != 0) = true := by simpa using he
        have HSc := Lib.hid (scanL_no (l := D) (by rw [← HEr.out]; exact he))
        have HE : Hid (scanL l = (P, t)) := Lib.hid (by
          have h1 := HR.out.2.2.1
          rw [← HD.out, HSc.out, List.append_nil, Nat.add_zero] at h1
          exact h1)
        clear hx0 hx1 hs2 hbl hbl3
        go_wp2_with fail
        go_ret2
        exact ScanEnd.mk HE.out HP2.out HB2.out
end Go.Proofs.YteaeiejkdnbcnaaDoor

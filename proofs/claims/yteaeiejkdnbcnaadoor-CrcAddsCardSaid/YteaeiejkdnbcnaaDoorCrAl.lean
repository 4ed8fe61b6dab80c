/-
  For every row of byte slices the law CrcAdds returns true and leaves its argument as it was: an adder's sum and length are those of all that was added, however it is cut; an adder that is nil, or that New did not make, stays empty.
  Conditions: those that the row prints (the size of memory that is read); the table crc.nibbles holds what its initialiser lays, which the card ties to the program's text; none of the proof's own.
-/
import Derived.Test.YteaeiejkdnbcnaaDoorCrAd
import Derived.Test.YteaeiejkdnbcnaaDoorTie
import Derived.Test.YteaeiejkdnbcnaaDoorCards
namespace Go.Proofs.YteaeiejkdnbcnaaDoor
open Go Go.RowKit

set_option maxHeartbeats 4000000 in
set_option maxRecDepth 100000 in
theorem adds_any (v : Value) (L : List (List UInt8)) (w : World) (hv : BytsIn w.heap.size w v L) (HG0 : Glob w) :
    Calls Tryd.prog 7 #[v] w fun e w' => e = .returned (.bool true) ∧ Below w.heap.size w w' := by
  have HG := Lib.hid HG0
  have HV := Lib.hid hv
  obtain ⟨p, cap, rfl, hLm, -⟩ := hv
  unfold maxLen at hLm
  clear HG0
  go_enter Tryd.func7, Tryd.ntmps7
  go_wp2_with fail
  refine (awake_true w HG.out).mono ?_
  rintro e w1 ⟨rfl, hb1⟩
  have HB1 := Lib.hid hb1
  clear hb1
  go_wp2_with fail
  refine (new_any w1).mono ?_
  rintro e w2 ⟨rfl, ha2, hb2⟩
  obtain ⟨A, hA⟩ : ∃ A, A = w1.heap.size := ⟨_, rfl⟩
  rw [← hA] at ha2 ⊢
  have HA2 := Lib.hid ha2
  have HB2 := Lib.hid (HB1.out.trans (hb2.mono HB1.out.size))
  have HNA := Lib.hid (show w.heap.size ≤ A by rw [hA]; exact HB1.out.size)
  have HGA := Lib.hid (show 0 ≠ A by have := HG.out.big; have := HNA.out; omega)
  clear ha2 hb2 hA
  go_wp2_with fail
  go_loopw [5, 6] (fun va i wr => ∃ k : Nat, k ≤ L.length ∧ k ≤ 40 ∧ i = .int .i64 k ∧ Hid (OwnB (A + 1) wr va (addL L k) ∧ AddAt wr A true (sumL (addL L k)) (addL L k).length ∧ Below w.heap.size w wr)) (fun _ i _ => 40 - (intOf i).toNat)
  case atStart => exact ⟨0, Nat.zero_le _, by decide, rfl, Lib.hid ⟨OwnB.nil _ _, by rw [show addL L 0 = [] from rfl, show sumL [] = 0#32 by decide]; exact HA2.out, HB2.out⟩⟩
  case round =>
    obtain ⟨k, hk, hk40, rfl, HR⟩ := hrel
    by_cases hin : k < L.length ∧ k < 40
    · obtain ⟨hkL, hk4⟩ := hin
      have q1 : (k : Int) < (L.length : Int) := by omega
      have q2 : (k : Int) < 40 := by omega
      have q3 : (L.length : Int) ≤ 9223372036854775807 := by omega
      obtain ⟨l, HLk⟩ : ∃ l, Hid (l = L[k]) := ⟨_, Lib.hid rfl⟩
      obtain ⟨a, rfl, q, c, m, hcell, hqc, HQ, Hm⟩ : ∃ a, p = some a ∧ ∃ q c m, wr.cell? (a.add k) = some (.slice q m c) ∧ ((m : Int) ≤ (c : Int) ∧ (c : Int) ≤ 9223372036854775807) ∧ Hid (ByC w.heap.size wr (.slice q m c) l) ∧ Hid (m = l.length) := by
        obtain ⟨p', cap', e, -, hj⟩ := HV.out.below HR.out.2.2
        injection e with e1
        obtain ⟨a, s, h1, h2, h3, h4⟩ := hj k hkL
        rw [← HLk.out] at h4
        obtain ⟨q, c, rfl, hc1, hc2⟩ := h4.2
        unfold maxLen at hc2
        exact ⟨a, e1.trans h1, q, c, l.length, h3, ⟨by omega, by omega⟩, Lib.hid h4, Lib.hid rfl⟩
      obtain ⟨hqc1, hqc2⟩ := hqc
      obtain ⟨t, HT⟩ : ∃ t, Hid (t = l.take 200) := ⟨_, Lib.hid rfl⟩
      have HL0 := Lib.hid (addL_len L k)
      have HSn := Lib.hid (show addL L (k + 1) = addL L k ++ t by rw [addL_succ L k hkL, HT.out, HLk.out])
      obtain ⟨B0, HB0⟩ : ∃ B0, Hid (B0 = addL L k) := ⟨_, Lib.hid rfl⟩
      have HO := Lib.hid HR.out.1
      have HAd := Lib.hid HR.out.2.1
      have HBl := Lib.hid HR.out.2.2
      rw [← HB0.out] at HO HAd HL0 HSn
      have HGr := Lib.hid (HG.out.below HBl.out)
      have hz := HAd.out.lt
      have HQb := Lib.hid (HQ.out.1)
      have hk02 : (k : Int) % 2 = 0 ∨ (k : Int) % 2 = 1 := by omega
      by_cases hbig : 200 < m
      · have b1 : (200 : Int) < (m : Int) := by omega
        have b2 : (200 : Int) ≤ (c : Int) := by omega
        have HTl := Lib.hid (show t.length = 200 by rw [HT.out, List.length_take]; have := Hm.out; omega)
        have Htl := Lib.hid (show t.length ≤ 200 by rw [HTl.out]; exact Nat.le_refl _)
        have HTb := Lib.hid (show BytIn w.heap.size wr (.slice q 200 c) t by
          rw [HT.out]
          have h := HQb.out
          rcases h with ⟨e, e2⟩ | ⟨a', c', e, hx⟩
          · exfalso; injection e with _ e3; omega
          · injection e with e1 e2 e3
            subst e1 e2 e3
            exact BytIn.take (.inr ⟨a', _, rfl, hx⟩) 200 (by omega))
        rcases hk02 with hk2 | hk2
        · have HS0 := Lib.hid (show StN w A wr _ B0 B0 (.slice q 200 c) t from ⟨HO.out, HAd.out, HBl.out, HTb.out, HNA.out⟩)
          go_wp2_with fail
          have HS1 := Lib.hid (HS0.out.alloc (.cells #[.slice q 200 c] 22))
          have HPt := parts_one wr A w.heap.size q c t (by rw [HTl.out]; exact HTb.out) HNA.out hz
          rw [HTl.out] at HPt
          have HPt := Lib.hid HPt
          refine (add_any _ A wr.heap.size (sumL B0) B0.length [t] HS1.out.add_ HPt.out (by simp) (by have := HL0.out; have := Htl.out; rw [List.flatten_singleton]; omega) (HG.out.below HS1.out.below_) HGA.out).mono ?_
          rintro e wa ⟨rfl, ha, hka⟩
          rw [List.flatten_singleton] at ha
          have HS2 := Lib.hid (HS1.out.added hka ha)
          clear ha hka
          go_wp2_with fail
          refine (add_nil _ _).mono ?_
          rintro e w' ⟨rfl, rfl⟩
          have HS3 := Lib.hid (HS2.out.alloc (.cells #[.slice q 200 c] 22))
          have HR4 := Lib.hid (show B0.length + t.length ≤ 100000000000000 by have := HL0.out; have := Htl.out; omega)
          go_wp2_with (at_builtin; refine wpList_app rfl (.tmp 55) (.tmp 56) rfl (A + 1) w.heap.size _ _ _ B0 t rfl rfl HS3.out.own_ HS3.out.part_ HR4.out (Below.refl _ _) HS3.out.big ?_; intro v4 w4 ho4 hb4)
          have HS4 := Lib.hid (HS3.out.app ho4 hb4)
          clear ho4 hb4
          refine (asum_any w4 A true _ _ HS4.out.add_).mono ?_
          rintro e w' ⟨rfl, rfl⟩
          go_wp2_with fail
          refine (rsum_any v4 (B0 ++ t) w4 (HS4.out.own_.in_) (by have := HR4.out; rw [List.length_append]; omega)).mono ?_
          rintro e w' ⟨rfl, rfl⟩
          obtain ⟨p4, c4, e4⟩ := HS4.out.own_.in_.shape
          subst e4
          obtain ⟨x4, hx4⟩ : ∃ x4, x4 = sumL (B0 ++ t) := ⟨_, rfl⟩
          rw [← hx4]
          obtain ⟨n4, hn4⟩ : ∃ n4, n4 = (B0 ++ t).length := ⟨_, rfl⟩
          have HAl := Lib.hid (alen_any w4 A true _ _ HS4.out.add_)
          rw [← hn4] at HAl ⊢
          have HE : Hid (OwnB (A + 1) w4 (.slice p4 n4 c4) (addL L (k + 1)) ∧ AddAt w4 A true (sumL (addL L (k + 1))) (addL L (k + 1)).length ∧ Below w.heap.size w w4) := Lib.hid (by rw [HSn.out, hn4]; exact ⟨HS4.out.own_, HS4.out.add_, HS4.out.below_⟩)
          clear hx4 hn4
          go_wp2_with fail
          refine HAl.out.mono ?_
          rintro e w' ⟨rfl, rfl⟩
          go_wp2_with fail
          go_roundw
          case rel => exact ⟨k + 1, by omega, by omega, by go_num, HE⟩
          case measure => simp [intOf]; omega
        · have HS0 := Lib.hid (show StN w A wr _ B0 B0 (.slice q 200 c) t from ⟨HO.out, HAd.out, HBl.out, HTb.out, HNA.out⟩)
          obtain ⟨qa, rfl⟩ : ∃ qa, q = some qa := by
            rcases HTb.out with ⟨e, -⟩ | ⟨a', c', e, -⟩
            · injection e with _ e3; omega
            · injection e with e1; exact ⟨a', e1⟩
          have r1 : (100 : Int) ≤ (c : Int) := by omega
          have r1' : 100 ≤ c := by omega
          have r1'' : 200 ≤ c := by omega
          have r5 : IntKind.i64.wrap (100 : Int) = (100 : Int) := by decide
          have r2 : ¬ c = 100 := by have := b2; omega
          have r3 : (200 : Int).tdiv 2 = 100 := by decide
          have HP1 := Lib.hid (show BytIn w.heap.size wr (.slice (some qa) 100 c) (t.take 100) by
            have h := HTb.out
            rw [← HTl.out] at h
            exact h.take 100 (by rw [HTl.out]; decide))
          have HP2 := Lib.hid (show BytIn w.heap.size wr (.slice (some (qa.add 100)) (200 - 100) (c - 100)) (t.drop 100) by
            have h := HTb.out
            rw [← HTl.out] at h
            have h2 := h.drop 100 (c - 100)
            rw [HTl.out] at h2
            exact h2)
          have HS1 := Lib.hid ((HS0.out.alloc (.cells #[.slice (some qa) 100 c, .slice (some ⟨qa.block, qa.off + 100, none⟩) 100 (c - 100), .slice none 0 0] 22)).drew)
          have HFl := Lib.hid (show ([t.take 100, t.drop 100, []] : List (List UInt8)).flatten = t by simp)
          have HPt : Hid (Parts A (wr.alloc (.cells #[.slice (some qa) 100 c, .slice (some ⟨qa.block, qa.off + 100, none⟩) 100 (c - 100), .slice none 0 0] 22)).drew wr.heap.size [t.take 100, t.drop 100, []]) := Lib.hid (by
            have e1 : (t.take 100).length = 100 := by rw [List.length_take, HTl.out]; decide
            have e2 : (t.drop 100).length = 100 := by rw [List.length_drop, HTl.out]
            have e3 : qa.add 100 = ⟨qa.block, qa.off + 100, none⟩ := by unfold Addr.add; simp
            have h2 := HP2.out
            rw [e3] at h2
            have h := parts_three wr A w.heap.size (some qa) (some ⟨qa.block, qa.off + 100, none⟩) none c (c - 100) 0 (t.take 100) (t.drop 100) [] (by rw [e1]; exact HP1.out) (by rw [e2]; exact h2) (.inl ⟨rfl, rfl⟩) HNA.out hz
            rw [e1, e2] at h
            exact h)
          go_wp2_with fail
          go_region_held3 (fun _ => True) (exact trivial) ((go_at_call 28; refine (add_any _ A wr.heap.size (sumL B0) B0.length [t.take 100, t.drop 100, []] HS1.out.add_ HPt.out (by simp) (by have := HL0.out; have := Htl.out; rw [HFl.out]; omega) (HG.out.below HS1.out.below_) HGA.out).mono ?_; rintro e wa ⟨rfl, ha, hka⟩; rw [HFl.out] at ha; have HS2 := Lib.hid (HS1.out.added hka ha); clear ha hka))
          go_wp2_with fail
          refine (add_nil _ _).mono ?_
          rintro e w' ⟨rfl, rfl⟩
          have HS3 := Lib.hid (HS2.out.alloc (.cells #[.slice (some qa) 200 c] 22))
          have HR4 := Lib.hid (show B0.length + t.length ≤ 100000000000000 by have := HL0.out; have := Htl.out; omega)
          go_wp2_with (at_builtin; refine wpList_app rfl (.tmp 55) (.tmp 56) rfl (A + 1) w.heap.size _ _ _ B0 t rfl rfl HS3.out.own_ HS3.out.part_ HR4.out (Below.refl _ _) HS3.out.big ?_; intro v4 w4 ho4 hb4)
          have HS4 := Lib.hid (HS3.out.app ho4 hb4)
          clear ho4 hb4
          refine (asum_any w4 A true _ _ HS4.out.add_).mono ?_
          rintro e w' ⟨rfl, rfl⟩
          go_wp2_with fail
          refine (rsum_any v4 (B0 ++ t) w4 (HS4.out.own_.in_) (by have := HR4.out; rw [List.length_append]; omega)).mono ?_
          rintro e w' ⟨rfl, rfl⟩
          obtain ⟨p4, c4, e4⟩ := HS4.out.own_.in_.shape
          subst e4
          obtain ⟨x4, hx4⟩ : ∃ x4, x4 = sumL (B0 ++ t) := ⟨_, rfl⟩
          rw [← hx4]
          obtain ⟨n4, hn4⟩ : ∃ n4, n4 = (B0 ++ t).length := ⟨_, rfl⟩
          have HAl := Lib.hid (alen_any w4 A true _ _ HS4.out.add_)
          rw [← hn4] at HAl ⊢
          have HE : Hid (OwnB (A + 1) w4 (.slice p4 n4 c4) (addL L (k + 1)) ∧ AddAt w4 A true (sumL (addL L (k + 1))) (addL L (k + 1)).length ∧ Below w.heap.size w w4) := Lib.hid (by rw [HSn.out, hn4]; exact ⟨HS4.out.own_, HS4.out.add_, HS4.out.below_⟩)
          clear hx4 hn4
          go_wp2_with fail
          refine HAl.out.mono ?_
          rintro e w' ⟨rfl, rfl⟩
          go_wp2_with fail
          go_roundw
          case rel => exact ⟨k + 1, by omega, by omega, by go_num, HE⟩
          case measure => simp [intOf]; omega
      · have b1 : (m : Int) ≤ 200 := by omega
        have HTl := Lib.hid (show t.length = m by rw [HT.out, List.length_take]; have := Hm.out; omega)
        have Htl := Lib.hid (show t.length ≤ 200 by rw [HTl.out]; omega)
        have HTb := Lib.hid (show BytIn w.heap.size wr (.slice q m c) t by
          rw [HT.out, List.take_of_length_le (by have := Hm.out; omega)]
          exact HQb.out)
        rcases hk02 with hk2 | hk2
        · have HS0 := Lib.hid (show StN w A wr _ B0 B0 (.slice q m c) t from ⟨HO.out, HAd.out, HBl.out, HTb.out, HNA.out⟩)
          go_wp2_with fail
          have HS1 := Lib.hid (HS0.out.alloc (.cells #[.slice q m c] 22))
          have HPt := parts_one wr A w.heap.size q c t (by rw [HTl.out]; exact HTb.out) HNA.out hz
          rw [HTl.out] at HPt
          have HPt := Lib.hid HPt
          refine (add_any _ A wr.heap.size (sumL B0) B0.length [t] HS1.out.add_ HPt.out (by simp) (by have := HL0.out; have := Htl.out; rw [List.flatten_singleton]; omega) (HG.out.below HS1.out.below_) HGA.out).mono ?_
          rintro e wa ⟨rfl, ha, hka⟩
          rw [List.flatten_singleton] at ha
          have HS2 := Lib.hid (HS1.out.added hka ha)
          clear ha hka
          go_wp2_with fail
          refine (add_nil _ _).mono ?_
          rintro e w' ⟨rfl, rfl⟩
          have HS3 := Lib.hid (HS2.out.alloc (.cells #[.slice q m c] 22))
          have HR4 := Lib.hid (show B0.length + t.length ≤ 100000000000000 by have := HL0.out; have := Htl.out; omega)
          go_wp2_with (at_builtin; refine wpList_app rfl (.tmp 55) (.tmp 56) rfl (A + 1) w.heap.size _ _ _ B0 t rfl rfl HS3.out.own_ HS3.out.part_ HR4.out (Below.refl _ _) HS3.out.big ?_; intro v4 w4 ho4 hb4)
          have HS4 := Lib.hid (HS3.out.app ho4 hb4)
          clear ho4 hb4
          refine (asum_any w4 A true _ _ HS4.out.add_).mono ?_
          rintro e w' ⟨rfl, rfl⟩
          go_wp2_with fail
          refine (rsum_any v4 (B0 ++ t) w4 (HS4.out.own_.in_) (by have := HR4.out; rw [List.length_append]; omega)).mono ?_
          rintro e w' ⟨rfl, rfl⟩
          obtain ⟨p4, c4, e4⟩ := HS4.out.own_.in_.shape
          subst e4
          obtain ⟨x4, hx4⟩ : ∃ x4, x4 = sumL (B0 ++ t) := ⟨_, rfl⟩
          rw [← hx4]
          obtain ⟨n4, hn4⟩ : ∃ n4, n4 = (B0 ++ t).length := ⟨_, rfl⟩
          have HAl := Lib.hid (alen_any w4 A true _ _ HS4.out.add_)
          rw [← hn4] at HAl ⊢
          have HE : Hid (OwnB (A + 1) w4 (.slice p4 n4 c4) (addL L (k + 1)) ∧ AddAt w4 A true (sumL (addL L (k + 1))) (addL L (k + 1)).length ∧ Below w.heap.size w w4) := Lib.hid (by rw [HSn.out, hn4]; exact ⟨HS4.out.own_, HS4.out.add_, HS4.out.below_⟩)
          clear hx4 hn4
          go_wp2_with fail
          refine HAl.out.mono ?_
          rintro e w' ⟨rfl, rfl⟩
          go_wp2_with fail
          go_roundw
          case rel => exact ⟨k + 1, by omega, by omega, by go_num, HE⟩
          case measure => simp [intOf]; omega
        · have HS0 := Lib.hid (show StN w A wr _ B0 B0 (.slice q m c) t from ⟨HO.out, HAd.out, HBl.out, HTb.out, HNA.out⟩)
          by_cases hc0 : m = 0 ∧ c = 0
          · obtain ⟨h, HH⟩ : ∃ h, Hid (h = 0) := ⟨0, Lib.hid rfl⟩
            obtain rfl : m = h := by rw [HH.out]; exact hc0.1
            obtain rfl : c = m := by rw [HH.out]; exact hc0.2
            have r0 : (c : Int).tdiv 2 = (c : Int) := by rw [HH.out]; rfl
            have r5 : IntKind.i64.wrap (c : Int) = (c : Int) := by rw [IntKind.wrap_i64]; omega
            have r3 : (0 : Int) ≤ (c : Int) := by omega
            clear hc0
            have HS1 := Lib.hid ((HS0.out.alloc (.cells #[.slice q c c, .slice q 0 0, .slice none 0 0] 22)).drew)
            have HFl := Lib.hid (show ([t, [], []] : List (List UInt8)).flatten = t by simp)
            have HPt : Hid (Parts A (wr.alloc (.cells #[.slice q c c, .slice q 0 0, .slice none 0 0] 22)).drew wr.heap.size [t, [], []]) := Lib.hid (by
              have h := parts_three wr A w.heap.size q q none c 0 0 t [] [] (by rw [HTl.out]; exact HTb.out) (by
                rcases HTb.out with ⟨e, -⟩ | ⟨a', c', e, -⟩
                · injection e with e1; subst e1; exact .inl ⟨rfl, rfl⟩
                · injection e with e1; subst e1; exact .inr ⟨a', 0, rfl, fun j hj => by simp at hj⟩) (.inl ⟨rfl, rfl⟩) HNA.out hz
              rw [HTl.out] at h
              exact h)
            go_wp2_with fail
            go_region_held3 (fun _ => True) (exact trivial) ((go_at_call 28; refine (add_any _ A wr.heap.size (sumL B0) B0.length [t, [], []] HS1.out.add_ HPt.out (by simp) (by have := HL0.out; have := Htl.out; rw [HFl.out]; omega) (HG.out.below HS1.out.below_) HGA.out).mono ?_; rintro e wa ⟨rfl, ha, hka⟩; rw [HFl.out] at ha; have HS2 := Lib.hid (HS1.out.added hka ha); clear ha hka))
            go_wp2_with fail
            refine (add_nil _ _).mono ?_
            rintro e w' ⟨rfl, rfl⟩
            have HS3 := Lib.hid (HS2.out.alloc (.cells #[.slice q c c] 22))
            have HR4 := Lib.hid (show B0.length + t.length ≤ 100000000000000 by have := HL0.out; have := Htl.out; omega)
            go_wp2_with (at_builtin; refine wpList_app rfl (.tmp 55) (.tmp 56) rfl (A + 1) w.heap.size _ _ _ B0 t rfl rfl HS3.out.own_ HS3.out.part_ HR4.out (Below.refl _ _) HS3.out.big ?_; intro v4 w4 ho4 hb4)
            have HS4 := Lib.hid (HS3.out.app ho4 hb4)
            clear ho4 hb4
            refine (asum_any w4 A true _ _ HS4.out.add_).mono ?_
            rintro e w' ⟨rfl, rfl⟩
            go_wp2_with fail
            refine (rsum_any v4 (B0 ++ t) w4 (HS4.out.own_.in_) (by have := HR4.out; rw [List.length_append]; omega)).mono ?_
            rintro e w' ⟨rfl, rfl⟩
            obtain ⟨p4, c4, e4⟩ := HS4.out.own_.in_.shape
            subst e4
            obtain ⟨x4, hx4⟩ : ∃ x4, x4 = sumL (B0 ++ t) := ⟨_, rfl⟩
            rw [← hx4]
            obtain ⟨n4, hn4⟩ : ∃ n4, n4 = (B0 ++ t).length := ⟨_, rfl⟩
            have HAl := Lib.hid (alen_any w4 A true _ _ HS4.out.add_)
            rw [← hn4] at HAl ⊢
            have HE : Hid (OwnB (A + 1) w4 (.slice p4 n4 c4) (addL L (k + 1)) ∧ AddAt w4 A true (sumL (addL L (k + 1))) (addL L (k + 1)).length ∧ Below w.heap.size w w4) := Lib.hid (by rw [HSn.out, hn4]; exact ⟨HS4.out.own_, HS4.out.add_, HS4.out.below_⟩)
            clear hx4 hn4
            go_wp2_with fail
            refine HAl.out.mono ?_
            rintro e w' ⟨rfl, rfl⟩
            go_wp2_with fail
            go_roundw
            case rel => exact ⟨k + 1, by omega, by omega, by go_num, HE⟩
            case measure => simp [intOf]; omega
          · obtain ⟨qa, rfl⟩ : ∃ qa, q = some qa := by
              rcases HTb.out with ⟨e, -⟩ | ⟨a', c', e, -⟩
              · injection e with _ e2 e3; exact absurd ⟨e2, e3⟩ hc0
              · injection e with e1; exact ⟨a', e1⟩
            obtain ⟨h, HH⟩ : ∃ h, Hid (h = m / 2) := ⟨_, Lib.hid rfl⟩
            have r0 : (m : Int).tdiv 2 = (h : Int) := by rw [HH.out, Int.tdiv_eq_ediv_of_nonneg (by omega)]; omega
            have r1 : (h : Int) ≤ (c : Int) := by have := HH.out; omega
            have r2 : ¬ c = h := by have := HH.out; omega
            have r3 : (0 : Int) ≤ (h : Int) := by omega
            have r4 : (h : Int) ≤ (m : Int) := by have := HH.out; omega
            have r5 : IntKind.i64.wrap (h : Int) = (h : Int) := by rw [IntKind.wrap_i64]; omega
            clear hc0
            have HS1 := Lib.hid ((HS0.out.alloc (.cells #[.slice (some qa) h c, .slice (some (qa.add h)) (m - h) (c - h), .slice none 0 0] 22)).drew)
            have HFl := Lib.hid (show ([t.take h, t.drop h, []] : List (List UInt8)).flatten = t by simp)
            have HPt : Hid (Parts A (wr.alloc (.cells #[.slice (some qa) h c, .slice (some (qa.add h)) (m - h) (c - h), .slice none 0 0] 22)).drew wr.heap.size [t.take h, t.drop h, []]) := Lib.hid (by
              have hhm : h ≤ m := by have := HH.out; omega
              have e1 : (t.take h).length = h := by rw [List.length_take, HTl.out]; omega
              have e2 : (t.drop h).length = m - h := by rw [List.length_drop, HTl.out]
              have h0 := HTb.out
              rw [← HTl.out] at h0
              have h1 := h0.take h (by rw [HTl.out]; exact hhm)
              have h2 := h0.drop h (c - h)
              rw [HTl.out] at h2
              have h3 := parts_three wr A w.heap.size (some qa) (some (qa.add h)) none c (c - h) 0 (t.take h) (t.drop h) [] (by rw [e1]; exact h1) (by rw [e2]; exact h2) (.inl ⟨rfl, rfl⟩) HNA.out hz
              rw [e1, e2] at h3
              exact h3)
            go_wp2_with fail
            go_region_held3 (fun _ => True) (exact trivial) ((go_at_call 28; refine (add_any _ A wr.heap.size (sumL B0) B0.length [t.take h, t.drop h, []] HS1.out.add_ HPt.out (by simp) (by have := HL0.out; have := Htl.out; rw [HFl.out]; omega) (HG.out.below HS1.out.below_) HGA.out).mono ?_; rintro e wa ⟨rfl, ha, hka⟩; rw [HFl.out] at ha; have HS2 := Lib.hid (HS1.out.added hka ha); clear ha hka))
            go_wp2_with fail
            refine (add_nil _ _).mono ?_
            rintro e w' ⟨rfl, rfl⟩
            have HS3 := Lib.hid (HS2.out.alloc (.cells #[.slice (some qa) m c] 22))
            have HR4 := Lib.hid (show B0.length + t.length ≤ 100000000000000 by have := HL0.out; have := Htl.out; omega)
            go_wp2_with (at_builtin; refine wpList_app rfl (.tmp 55) (.tmp 56) rfl (A + 1) w.heap.size _ _ _ B0 t rfl rfl HS3.out.own_ HS3.out.part_ HR4.out (Below.refl _ _) HS3.out.big ?_; intro v4 w4 ho4 hb4)
            have HS4 := Lib.hid (HS3.out.app ho4 hb4)
            clear ho4 hb4
            refine (asum_any w4 A true _ _ HS4.out.add_).mono ?_
            rintro e w' ⟨rfl, rfl⟩
            go_wp2_with fail
            refine (rsum_any v4 (B0 ++ t) w4 (HS4.out.own_.in_) (by have := HR4.out; rw [List.length_append]; omega)).mono ?_
            rintro e w' ⟨rfl, rfl⟩
            obtain ⟨p4, c4, e4⟩ := HS4.out.own_.in_.shape
            subst e4
            obtain ⟨x4, hx4⟩ : ∃ x4, x4 = sumL (B0 ++ t) := ⟨_, rfl⟩
            rw [← hx4]
            obtain ⟨n4, hn4⟩ : ∃ n4, n4 = (B0 ++ t).length := ⟨_, rfl⟩
            have HAl := Lib.hid (alen_any w4 A true _ _ HS4.out.add_)
            rw [← hn4] at HAl ⊢
            have HE : Hid (OwnB (A + 1) w4 (.slice p4 n4 c4) (addL L (k + 1)) ∧ AddAt w4 A true (sumL (addL L (k + 1))) (addL L (k + 1)).length ∧ Below w.heap.size w w4) := Lib.hid (by rw [HSn.out, hn4]; exact ⟨HS4.out.own_, HS4.out.add_, HS4.out.below_⟩)
            clear hx4 hn4
            go_wp2_with fail
            refine HAl.out.mono ?_
            rintro e w' ⟨rfl, rfl⟩
            go_wp2_with fail
            go_roundw
            case rel => exact ⟨k + 1, by omega, by omega, by go_num, HE⟩
            case measure => simp [intOf]; omega
    · obtain ⟨pv, cv, ev⟩ := HR.out.1.in_.shape
      subst ev
      obtain ⟨nv, hnv⟩ : ∃ nv, nv = (addL L k).length := ⟨_, rfl⟩
      rw [← hnv] at HR ⊢
      have HEnd := Lib.hid HR.out.2.2
      clear hnv
      by_cases hkL : k < L.length
      · have q1 : (k : Int) < (L.length : Int) := by omega
        have q2 : (40 : Int) ≤ (k : Int) := by omega
        clear hin
        go_wp2_with fail
        have HB1' := Lib.hid (HEnd.out.alloc HEnd.out.size (.cells #[.bool false, .int .u32 0, .int .i64 0] 54))
        have HAu : Hid (AddAt ((wr.alloc (.cells #[.bool false, .int .u32 0, .int .i64 0] 54)).alloc (.cells #[.slice pv nv cv] 22)) wr.heap.size false 0#32 0) := Lib.hid ((heap_alloc_old _ _ (by simp)).trans (heap_alloc_new wr _))
        have HBf := Lib.hid (HB1'.out.alloc HB1'.out.size (.cells #[.slice pv nv cv] 22))
        obtain ⟨wf, hwf⟩ : ∃ wf, wf = (wr.alloc (.cells #[.bool false, .int .u32 0, .int .i64 0] 54)).alloc (.cells #[.slice pv nv cv] 22) := ⟨_, rfl⟩
        rw [← hwf] at HAu HBf ⊢
        clear hwf HB1'
        refine (add_unmade wf wr.heap.size 0#32 0 _ HAu.out).mono ?_
        rintro e w' ⟨rfl, rfl⟩
        have has : Calls Tryd.prog 29 #[.pointer (some ⟨wr.heap.size, 0, none⟩)] wf fun e w' => e = .returned (.int .u32 0) ∧ wf = w' := asum_any wf _ _ _ _ HAu.out
        have hal : Calls Tryd.prog 30 #[.pointer (some ⟨wr.heap.size, 0, none⟩)] wf fun e w' => e = .returned (.int .i64 0) ∧ wf = w' := alen_any wf _ _ _ _ HAu.out
        have HAs := Lib.hid has
        have HAl := Lib.hid hal
        clear has hal
        go_wp2_with fail
        refine (asum_nil wf).mono ?_
        rintro e w' ⟨rfl, rfl⟩
        go_wp2_with fail
        refine (alen_nil wf).mono ?_
        rintro e w' ⟨rfl, rfl⟩
        go_wp2_with fail
        refine HAs.out.mono ?_
        rintro e w' ⟨rfl, rfl⟩
        go_wp2_with fail
        refine HAl.out.mono ?_
        rintro e w' ⟨rfl, rfl⟩
        go_wp2_with fail
        go_ret
        exact ⟨rfl, HBf.out⟩
      · have q1 : (L.length : Int) ≤ (k : Int) := by omega
        clear hin
        go_wp2_with fail
        have HB1' := Lib.hid (HEnd.out.alloc HEnd.out.size (.cells #[.bool false, .int .u32 0, .int .i64 0] 54))
        have HAu : Hid (AddAt ((wr.alloc (.cells #[.bool false, .int .u32 0, .int .i64 0] 54)).alloc (.cells #[.slice pv nv cv] 22)) wr.heap.size false 0#32 0) := Lib.hid ((heap_alloc_old _ _ (by simp)).trans (heap_alloc_new wr _))
        have HBf := Lib.hid (HB1'.out.alloc HB1'.out.size (.cells #[.slice pv nv cv] 22))
        obtain ⟨wf, hwf⟩ : ∃ wf, wf = (wr.alloc (.cells #[.bool false, .int .u32 0, .int .i64 0] 54)).alloc (.cells #[.slice pv nv cv] 22) := ⟨_, rfl⟩
        rw [← hwf] at HAu HBf ⊢
        clear hwf HB1'
        refine (add_unmade wf wr.heap.size 0#32 0 _ HAu.out).mono ?_
        rintro e w' ⟨rfl, rfl⟩
        have has : Calls Tryd.prog 29 #[.pointer (some ⟨wr.heap.size, 0, none⟩)] wf fun e w' => e = .returned (.int .u32 0) ∧ wf = w' := asum_any wf _ _ _ _ HAu.out
        have hal : Calls Tryd.prog 30 #[.pointer (some ⟨wr.heap.size, 0, none⟩)] wf fun e w' => e = .returned (.int .i64 0) ∧ wf = w' := alen_any wf _ _ _ _ HAu.out
        have HAs := Lib.hid has
        have HAl := Lib.hid hal
        clear has hal
        go_wp2_with fail
        refine (asum_nil wf).mono ?_
        rintro e w' ⟨rfl, rfl⟩
        go_wp2_with fail
        refine (alen_nil wf).mono ?_
        rintro e w' ⟨rfl, rfl⟩
        go_wp2_with fail
        refine HAs.out.mono ?_
        rintro e w' ⟨rfl, rfl⟩
        go_wp2_with fail
        refine HAl.out.mono ?_
        rintro e w' ⟨rfl, rfl⟩
        go_wp2_with fail
        go_ret
        exact ⟨rfl, HBf.out⟩

open Go.ChangeShapes Go.WideShapes Go.ChangeAt
set_option maxRecDepth 100000 in
theorem lifted_adds_any (os : Os) (started : os.Started) (H : Type) (enc : TypeId × Value → H) :
    ReturnsInHanded {} Tryd.checked os 7 .any (fun w args => (Rows.crcAddsSpec.pre enc Tryd.prog Tryd.f7 [] false w args ∧ laidMetH Tryd.prog laid4 w) ∧ sizedMet enc Tryd.prog Tryd.f7 (OpenSpec.ofChange Rows.crcAddsSpec) false w args)
      (Rows.crcAddsSpec.post enc Tryd.prog Tryd.f7 false true false false) := by
  refine returnsInHanded_of_change_and (C := Tryd.checked) (X := fun w _ => laidMetH Tryd.prog laid4 w) (fun _ _ _ hh h => h.of_heap hh) own started (by kernel_rfl) Tryd.func7
    (ChangeSpec.witness_shaped (enc := enc) (C := Tryd.checked) (os := os) (X := fun w _ => laidMetH Tryd.prog laid4 w) false (World.doorLaid Tryd.prog 400 os) #[.slice none 0 0] 8 rfl (World.shaped_of_RefB (by kernel_rfl) (by kernel_rfl)) (by kernel_rfl) (by kernel_rfl) (by kernel_rfl) (door_met os _)) ?_
  intro W base args ds gs before hval0 hW _ _ hL _
  have hval : ∀ (j : Nat) t v, Tryd.f7.params[j]? = some t → args[j]? = some v → Value.okWide Tryd.prog W .any base t v := hval0
  have hW' := hW
  obtain ⟨p, q, hA0, hV, rfl, hfz, hnd⟩ := hW
  have hA : DataW.TrodAll enc Tryd.prog W 0 (fun _ => true) true Tryd.f7.params.toList args.toList ds p := hA0
  rw [Tryd.params7] at hA hval
  obtain ⟨v0, vs0, d0, ds0, p0, q0, hargs, rfl, rfl, h0, r0⟩ := trodAll_cons hA
  obtain ⟨rfl, rfl, rfl⟩ := trodAll_nil r0
  obtain rfl : args = #[v0] := by cases args; simp_all
  obtain ⟨rfl, rfl⟩ := trodVars_none hV
  have t0 := h0
  have lt0 : ∀ x ∈ p0, x.block < W.heap.size := by obtain ⟨m, hm⟩ := t0; exact DataW.trod_lt m _ _ _ hm
  obtain ⟨l0, a0⟩ := open_byts (hval 0 47 v0 rfl rfl) h0
  clear hA0 hval0
  refine (adds_any v0 l0 W a0 (glob_of_laid hL)).mono fun e W' ⟨he, bel⟩ => ?_
  subst he
  exact ⟨_, rfl, _, _, _, [], _, [], hW', trodAll_mk1 (shut_bool Tryd.underlying4 _), (trodAll_cons_mk (Below.trod laidOut (by kernel_rfl) (of_decide_eq_true (by kernel_rfl)) t0 bel lt0) trodAll_mk0), rfl, bel.frame _, fun h => by cases h⟩

theorem holds_adds_any : Rows.CrcAddsSaid :=
  OpenClaim.holds_of_wide 7 Tryd.f7 rfl rfl rfl rfl rfl rfl rfl ⟨rfl, rfl, rfl, rfl, rfl⟩ rfl rfl rfl rfl rfl (by kernel_rfl) Tryd.func7 (by kernel_rfl)
    (of_decide_eq_true (by kernel_rfl)) (by unfold Func.isWrapper; rw [if_neg (of_decide_eq_false (by kernel_rfl))]; exact ⟨rfl, rfl⟩)
    (fun os started H enc _ => lifted_adds_any os started H enc)

theorem card_adds_any : Rows.CrcAddsCardSaid :=
  Claim7.holds_tied_plain_at .later [] Rows.crcAddsCard.laidKinds true Rows.crcAddsCard.stood.harness Rows.crcAddsCard.stood.looks
    holds_adds_any (fun _ h => by cases h) (by kernel_rfl) (fun _ h => by cases h) crcAdds_row_tie rfl ⟨rfl, rfl⟩ (by kernel_rfl) rfl
    (fun f fn hf hfn => by
      obtain rfl : f = 7 := Option.some.inj ((show Tryd.prog.funcNamed "pedigree/pedigreelaw04.CrcAdds" = some 7 by kernel_rfl).symm.trans hf) |>.symm
      obtain rfl : fn = Tryd.f7 := (Option.some.inj (Tryd.func7.symm.trans hfn)).symm
      exact ⟨by kernel_rfl, fun j t ht => by
        rw [Tryd.params7] at ht
        have hm : t ∈ [47] := by simpa using Array.mem_of_getElem? ht
        have hall : ([47].all fun u => !Tryd.prog.wantsStandIn u) = true := by kernel_rfl
        exact (show Tryd.prog.wantsStandIn t = false by simpa using List.all_eq_true.1 hall t hm)⟩)
    (by kernel_rfl)
#print axioms card_adds_any


end Go.Proofs.YteaeiejkdnbcnaaDoor

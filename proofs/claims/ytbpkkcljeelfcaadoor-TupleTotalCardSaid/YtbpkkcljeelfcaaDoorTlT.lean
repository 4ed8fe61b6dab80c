/-
  For every three tuples the law TupleTotal returns true and leaves its arguments as they were: the order is total, and no tuple stands behind one that begins with it.
  Conditions: those that the row and its tied card print (the library's listed variables hold what their initialisers laid; the size of memory that is read); none of the proof's own.
-/
import Derived.Test.YtbpkkcljeelfcaaDoorTlF
import Derived.Test.YtbpkkcljeelfcaaDoorTck
import Derived.Test.YtbpkkcljeelfcaaDoorTupO
import Derived.Test.YtbpkkcljeelfcaaDoorTie
import Derived.Test.YtbpkkcljeelfcaaDoorCards
namespace Go.Proofs.YtbpkkcljeelfcaaDoor
open Go Go.RowKit

theorem cmpT_append : ∀ (A B : List V3), cmpT A (A ++ B) ≤ 0
  | [], [] => by simp [cmpT]
  | [], _ :: _ => by simp [cmpT]
  | a :: A, B => by
    rw [List.cons_append, cmpT_cons, if_pos (cmp3_zero.2 rfl)]
    exact cmpT_append A B
/-- The order of three tuples, as the law asks it. -/
theorem order3 (A B C : List V3) : (-1 ≤ cmpT A B ∧ cmpT A B ≤ 1) ∧ cmpT A B = -cmpT B A ∧ (cmpT A B ≤ 0 → cmpT B C ≤ 0 → cmpT A C ≤ 0) ∧ (cmpT A B < 0 → cmpT B C ≤ 0 → cmpT A C < 0) := by
  refine ⟨?_, cmpT_neg A B, cmpT_trans A B C, cmpT_trans_lt A B C⟩
  rcases cmpT_cases A B with h | h | h <;> omega

set_option maxHeartbeats 2000000 in
set_option maxRecDepth 100000 in
theorem ltotal (a : Value) (T1 : List V3) (b : Value) (T2 : List V3) (c : Value) (T3 : List V3) (w : World) (h1 : ArgT w a T1) (h2 : ArgT w b T2) (h3 : ArgT w c T3) (G : Glob w) :
    Calls Tryd.prog 6 #[a, b, c] w fun e w' => e = .returned (.bool true) ∧ Below w.heap.size w w' := by
  have H1 := Lib.hid h1
  have H2 := Lib.hid h2
  have H3 := Lib.hid h3
  have HG := Lib.hid G
  clear h1 h2 h3 G
  go_enter Tryd.func6, Tryd.ntmps6
  go_wp2_with fail
  refine (awake_true w HG.out).mono ?_
  rintro e w1 ⟨rfl, b1⟩
  have B1 := Lib.hid b1
  clear b1
  go_wp2_with fail
  refine (cut_any a T1 w1 (H1.out.below B1.out)).mono ?_
  rintro e w1' ⟨v1, rfl, c1, rfl⟩
  have C1 := Lib.hid c1.1
  have D1 := Lib.hid (List.length_take_le 20 T1)
  clear c1
  go_wp2_with fail
  refine (cut_any b T2 w1 (H2.out.below B1.out)).mono ?_
  rintro e w1' ⟨v2, rfl, c2, rfl⟩
  have C2 := Lib.hid c2.1
  have D2 := Lib.hid (List.length_take_le 20 T2)
  clear c2
  go_wp2_with fail
  refine (cut_any c T3 w1 (H3.out.below B1.out)).mono ?_
  rintro e w1' ⟨v3, rfl, c3, rfl⟩
  have C3 := Lib.hid c3.1
  clear c3
  obtain ⟨A, hA⟩ : ∃ A, A = T1.take 20 := ⟨_, rfl⟩
  obtain ⟨B, hB⟩ : ∃ B, B = T2.take 20 := ⟨_, rfl⟩
  obtain ⟨C, hC⟩ : ∃ C, C = T3.take 20 := ⟨_, rfl⟩
  rw [← hA] at C1 D1
  rw [← hB] at C2 D2
  rw [← hC] at C3
  clear hA hB hC
  have HO := Lib.hid (order3 A B C)
  have HS : Hid (cmpT B A = -cmpT A B) := Lib.hid (by have := HO.out.2.1; omega)
  have HP := Lib.hid (cmpT_append A B)
  obtain ⟨x, hx⟩ : ∃ x, x = cmpT A B := ⟨_, rfl⟩
  obtain ⟨y, hy⟩ : ∃ y, y = cmpT B C := ⟨_, rfl⟩
  obtain ⟨z, hz⟩ : ∃ z, z = cmpT A C := ⟨_, rfl⟩
  have KX := Lib.hid hx
  have KY := Lib.hid hy
  have KZ := Lib.hid hz
  rw [← hx, ← hy, ← hz] at HO
  rw [← hx] at HS
  clear hx hy hz
  go_wp2_with fail
  refine (tcompare_any v1 v2 A B _ w1 C1.out C2.out (Nat.le_refl _)).mono ?_
  rintro e w2 ⟨rfl, g2⟩
  have G2 := Lib.hid g2
  clear g2
  rw [← KX.out]
  go_wp2_with fail
  refine (tcompare_any v2 v3 B C w1.heap.size w2 (C2.out.below G2.out.below) (C3.out.below G2.out.below) G2.out.size).mono ?_
  rintro e w3 ⟨rfl, g3⟩
  have G3 := Lib.hid (G2.out.trans g3)
  clear g3
  rw [← KY.out]
  go_wp2_with fail
  refine (tcompare_any v1 v3 A C w1.heap.size w3 (C1.out.below G3.out.below) (C3.out.below G3.out.below) G3.out.size).mono ?_
  rintro e w4 ⟨rfl, g4⟩
  have G4 := Lib.hid (G3.out.trans g4)
  clear g4
  rw [← KZ.out]
  obtain ⟨⟨xl, xu⟩, -, tr1, tr2⟩ := HO.out
  have CASES : ((x = -1 ∨ x = 0 ∨ x = 1) ∧ (x ≤ 0 → y ≤ 0 → z ≤ 0) ∧ (x < 0 → y ≤ 0 → z < 0)) := ⟨by omega, tr1, tr2⟩
  have HCS := Lib.hid CASES
  clear xl xu tr1 tr2 CASES
  rcases HCS.out with ⟨rfl | rfl | rfl, k1, k2⟩
  · by_cases hy : y ≤ 0
    · have hz : z < 0 := k2 (by omega) hy
      have hz' : z ≤ 0 := by omega
      clear k1 k2
      go_wp2_with (first
        | (go_at_call 13; refine (tcompare_any v2 v1 B A w1.heap.size w4 (C2.out.below G4.out.below) (C1.out.below G4.out.below) G4.out.size).mono ?_; rintro e w5 ⟨rfl, g5⟩; have G5 := Lib.hid (G4.out.trans g5); clear g5; rw [HS.out])
        | (go_at_call 20; refine (same_any v1 v2 A B w1.heap.size w5 (C1.out.below G5.out.below) (C2.out.below G5.out.below) G5.out.size).mono ?_; rintro e w6 ⟨rfl, g6⟩; have G6 := Lib.hid (G5.out.trans g6); have T1' := Lib.hid (C1.out.below G6.out.below); have T2' := Lib.hid (C2.out.below G6.out.below); have Z6 := Lib.hid G6.out.size; clear g6; rw [← KX.out])
        | (at_builtin; refine wpList_appT rfl (.tmp 72) (.tmp 73) rfl w6.heap.size w1.heap.size w6 _ _ [] A rfl rfl (OwnR.empty _ w6 (Nat.le_refl _)) (T1'.out.below (((Below.refl _ _).alloc (Nat.le_refl _) _).mono Z6.out)) (by simp) ((Below.refl _ _).alloc (Nat.le_refl _) _) (Nat.le_refl _) ?_; intro v4 w7 ho hb; have O7 := Lib.hid ho; have B7 := Lib.hid hb; clear ho hb)
        | (at_builtin; refine wpList_appT rfl (.tmp 74) (.tmp 75) rfl w6.heap.size w1.heap.size w6 _ _ ([] ++ A) B rfl rfl O7.out (T2'.out.below (B7.out.mono Z6.out)) (by have := D1.out; simp; omega) B7.out (Nat.le_refl _) ?_; intro v5 w8 ho hb; have O8 := Lib.hid ho; have B8 := Lib.hid hb; clear ho hb))
      refine (tcompare_any v1 v5 A (A ++ B) w8.heap.size w8 ((T1'.out.below (B8.out.mono Z6.out)).mono (Nat.le_trans Z6.out B8.out.size)) (O8.out.in_ (by have := D1.out; have := D2.out; simp; omega)) (Nat.le_refl _)).mono ?_
      rintro e w9 ⟨rfl, g9⟩
      have B9 := Lib.hid (B1.out.trans ((G6.out.below.trans ((B8.out.trans (g9.below.mono B8.out.size)).mono Z6.out)).mono B1.out.size))
      clear g9
      have hp := HP.out
      go_wp2_with fail
      go_ret
      exact ⟨by simp, B9.out⟩
    · have hy' : 0 < y := by omega
      clear k1 k2
      go_wp2_with (first
        | (go_at_call 13; refine (tcompare_any v2 v1 B A w1.heap.size w4 (C2.out.below G4.out.below) (C1.out.below G4.out.below) G4.out.size).mono ?_; rintro e w5 ⟨rfl, g5⟩; have G5 := Lib.hid (G4.out.trans g5); clear g5; rw [HS.out])
        | (go_at_call 20; refine (same_any v1 v2 A B w1.heap.size w5 (C1.out.below G5.out.below) (C2.out.below G5.out.below) G5.out.size).mono ?_; rintro e w6 ⟨rfl, g6⟩; have G6 := Lib.hid (G5.out.trans g6); have T1' := Lib.hid (C1.out.below G6.out.below); have T2' := Lib.hid (C2.out.below G6.out.below); have Z6 := Lib.hid G6.out.size; clear g6; rw [← KX.out])
        | (at_builtin; refine wpList_appT rfl (.tmp 72) (.tmp 73) rfl w6.heap.size w1.heap.size w6 _ _ [] A rfl rfl (OwnR.empty _ w6 (Nat.le_refl _)) (T1'.out.below (((Below.refl _ _).alloc (Nat.le_refl _) _).mono Z6.out)) (by simp) ((Below.refl _ _).alloc (Nat.le_refl _) _) (Nat.le_refl _) ?_; intro v4 w7 ho hb; have O7 := Lib.hid ho; have B7 := Lib.hid hb; clear ho hb)
        | (at_builtin; refine wpList_appT rfl (.tmp 74) (.tmp 75) rfl w6.heap.size w1.heap.size w6 _ _ ([] ++ A) B rfl rfl O7.out (T2'.out.below (B7.out.mono Z6.out)) (by have := D1.out; simp; omega) B7.out (Nat.le_refl _) ?_; intro v5 w8 ho hb; have O8 := Lib.hid ho; have B8 := Lib.hid hb; clear ho hb))
      refine (tcompare_any v1 v5 A (A ++ B) w8.heap.size w8 ((T1'.out.below (B8.out.mono Z6.out)).mono (Nat.le_trans Z6.out B8.out.size)) (O8.out.in_ (by have := D1.out; have := D2.out; simp; omega)) (Nat.le_refl _)).mono ?_
      rintro e w9 ⟨rfl, g9⟩
      have B9 := Lib.hid (B1.out.trans ((G6.out.below.trans ((B8.out.trans (g9.below.mono B8.out.size)).mono Z6.out)).mono B1.out.size))
      clear g9
      have hp := HP.out
      go_wp2_with fail
      go_ret
      exact ⟨by simp, B9.out⟩
  · by_cases hy : y ≤ 0
    · have hz : z ≤ 0 := k1 (by omega) hy
      clear k1 k2
      go_wp2_with (first
        | (go_at_call 13; refine (tcompare_any v2 v1 B A w1.heap.size w4 (C2.out.below G4.out.below) (C1.out.below G4.out.below) G4.out.size).mono ?_; rintro e w5 ⟨rfl, g5⟩; have G5 := Lib.hid (G4.out.trans g5); clear g5; rw [HS.out])
        | (go_at_call 20; refine (same_any v1 v2 A B w1.heap.size w5 (C1.out.below G5.out.below) (C2.out.below G5.out.below) G5.out.size).mono ?_; rintro e w6 ⟨rfl, g6⟩; have G6 := Lib.hid (G5.out.trans g6); have T1' := Lib.hid (C1.out.below G6.out.below); have T2' := Lib.hid (C2.out.below G6.out.below); have Z6 := Lib.hid G6.out.size; clear g6; rw [← KX.out])
        | (at_builtin; refine wpList_appT rfl (.tmp 72) (.tmp 73) rfl w6.heap.size w1.heap.size w6 _ _ [] A rfl rfl (OwnR.empty _ w6 (Nat.le_refl _)) (T1'.out.below (((Below.refl _ _).alloc (Nat.le_refl _) _).mono Z6.out)) (by simp) ((Below.refl _ _).alloc (Nat.le_refl _) _) (Nat.le_refl _) ?_; intro v4 w7 ho hb; have O7 := Lib.hid ho; have B7 := Lib.hid hb; clear ho hb)
        | (at_builtin; refine wpList_appT rfl (.tmp 74) (.tmp 75) rfl w6.heap.size w1.heap.size w6 _ _ ([] ++ A) B rfl rfl O7.out (T2'.out.below (B7.out.mono Z6.out)) (by have := D1.out; simp; omega) B7.out (Nat.le_refl _) ?_; intro v5 w8 ho hb; have O8 := Lib.hid ho; have B8 := Lib.hid hb; clear ho hb))
      refine (tcompare_any v1 v5 A (A ++ B) w8.heap.size w8 ((T1'.out.below (B8.out.mono Z6.out)).mono (Nat.le_trans Z6.out B8.out.size)) (O8.out.in_ (by have := D1.out; have := D2.out; simp; omega)) (Nat.le_refl _)).mono ?_
      rintro e w9 ⟨rfl, g9⟩
      have B9 := Lib.hid (B1.out.trans ((G6.out.below.trans ((B8.out.trans (g9.below.mono B8.out.size)).mono Z6.out)).mono B1.out.size))
      clear g9
      have hp := HP.out
      go_wp2_with fail
      go_ret
      exact ⟨by simp, B9.out⟩
    · have hy' : 0 < y := by omega
      clear k1 k2
      go_wp2_with (first
        | (go_at_call 13; refine (tcompare_any v2 v1 B A w1.heap.size w4 (C2.out.below G4.out.below) (C1.out.below G4.out.below) G4.out.size).mono ?_; rintro e w5 ⟨rfl, g5⟩; have G5 := Lib.hid (G4.out.trans g5); clear g5; rw [HS.out])
        | (go_at_call 20; refine (same_any v1 v2 A B w1.heap.size w5 (C1.out.below G5.out.below) (C2.out.below G5.out.below) G5.out.size).mono ?_; rintro e w6 ⟨rfl, g6⟩; have G6 := Lib.hid (G5.out.trans g6); have T1' := Lib.hid (C1.out.below G6.out.below); have T2' := Lib.hid (C2.out.below G6.out.below); have Z6 := Lib.hid G6.out.size; clear g6; rw [← KX.out])
        | (at_builtin; refine wpList_appT rfl (.tmp 72) (.tmp 73) rfl w6.heap.size w1.heap.size w6 _ _ [] A rfl rfl (OwnR.empty _ w6 (Nat.le_refl _)) (T1'.out.below (((Below.refl _ _).alloc (Nat.le_refl _) _).mono Z6.out)) (by simp) ((Below.refl _ _).alloc (Nat.le_refl _) _) (Nat.le_refl _) ?_; intro v4 w7 ho hb; have O7 := Lib.hid ho; have B7 := Lib.hid hb; clear ho hb)
        | (at_builtin; refine wpList_appT rfl (.tmp 74) (.tmp 75) rfl w6.heap.size w1.heap.size w6 _ _ ([] ++ A) B rfl rfl O7.out (T2'.out.below (B7.out.mono Z6.out)) (by have := D1.out; simp; omega) B7.out (Nat.le_refl _) ?_; intro v5 w8 ho hb; have O8 := Lib.hid ho; have B8 := Lib.hid hb; clear ho hb))
      refine (tcompare_any v1 v5 A (A ++ B) w8.heap.size w8 ((T1'.out.below (B8.out.mono Z6.out)).mono (Nat.le_trans Z6.out B8.out.size)) (O8.out.in_ (by have := D1.out; have := D2.out; simp; omega)) (Nat.le_refl _)).mono ?_
      rintro e w9 ⟨rfl, g9⟩
      have B9 := Lib.hid (B1.out.trans ((G6.out.below.trans ((B8.out.trans (g9.below.mono B8.out.size)).mono Z6.out)).mono B1.out.size))
      clear g9
      have hp := HP.out
      go_wp2_with fail
      go_ret
      exact ⟨by simp, B9.out⟩
  · clear k1 k2
    go_wp2_with (first
      | (go_at_call 13; refine (tcompare_any v2 v1 B A w1.heap.size w4 (C2.out.below G4.out.below) (C1.out.below G4.out.below) G4.out.size).mono ?_; rintro e w5 ⟨rfl, g5⟩; have G5 := Lib.hid (G4.out.trans g5); clear g5; rw [HS.out])
      | (go_at_call 20; refine (same_any v1 v2 A B w1.heap.size w5 (C1.out.below G5.out.below) (C2.out.below G5.out.below) G5.out.size).mono ?_; rintro e w6 ⟨rfl, g6⟩; have G6 := Lib.hid (G5.out.trans g6); have T1' := Lib.hid (C1.out.below G6.out.below); have T2' := Lib.hid (C2.out.below G6.out.below); have Z6 := Lib.hid G6.out.size; clear g6; rw [← KX.out])
      | (at_builtin; refine wpList_appT rfl (.tmp 72) (.tmp 73) rfl w6.heap.size w1.heap.size w6 _ _ [] A rfl rfl (OwnR.empty _ w6 (Nat.le_refl _)) (T1'.out.below (((Below.refl _ _).alloc (Nat.le_refl _) _).mono Z6.out)) (by simp) ((Below.refl _ _).alloc (Nat.le_refl _) _) (Nat.le_refl _) ?_; intro v4 w7 ho hb; have O7 := Lib.hid ho; have B7 := Lib.hid hb; clear ho hb)
      | (at_builtin; refine wpList_appT rfl (.tmp 74) (.tmp 75) rfl w6.heap.size w1.heap.size w6 _ _ ([] ++ A) B rfl rfl O7.out (T2'.out.below (B7.out.mono Z6.out)) (by have := D1.out; simp; omega) B7.out (Nat.le_refl _) ?_; intro v5 w8 ho hb; have O8 := Lib.hid ho; have B8 := Lib.hid hb; clear ho hb))
    refine (tcompare_any v1 v5 A (A ++ B) w8.heap.size w8 ((T1'.out.below (B8.out.mono Z6.out)).mono (Nat.le_trans Z6.out B8.out.size)) (O8.out.in_ (by have := D1.out; have := D2.out; simp; omega)) (Nat.le_refl _)).mono ?_
    rintro e w9 ⟨rfl, g9⟩
    have B9 := Lib.hid (B1.out.trans ((G6.out.below.trans ((B8.out.trans (g9.below.mono B8.out.size)).mono Z6.out)).mono B1.out.size))
    clear g9
    have hp := HP.out
    go_wp2_with fail
    go_ret
    exact ⟨by simp, B9.out⟩

open Go.ChangeShapes Go.WideShapes Go.ChangeAt
set_option maxRecDepth 100000 in
theorem lifted_ltotal (os : Os) (started : os.Started) (H : Type) (enc : TypeId × Value → H) :
    ReturnsInHanded {} Tryd.checked os 6 .any (fun w args => (Rows.tupleTotalSpec.pre enc Tryd.prog Tryd.f6 [] false w args ∧ laidMetH Tryd.prog laid3 w) ∧ sizedMet enc Tryd.prog Tryd.f6 (OpenSpec.ofChange Rows.tupleTotalSpec) false w args)
      (Rows.tupleTotalSpec.post enc Tryd.prog Tryd.f6 false true false false) := by
  refine returnsInHanded_of_change_and (C := Tryd.checked) (X := fun w _ => laidMetH Tryd.prog laid3 w) (fun _ _ _ hh h => h.of_heap hh) own started (by kernel_rfl) Tryd.func6
    (ChangeSpec.witness_shaped (enc := enc) (C := Tryd.checked) (os := os) (X := fun w _ => laidMetH Tryd.prog laid3 w) false (World.doorLaid Tryd.prog 400 os) #[.slice none 0 0, .slice none 0 0, .slice none 0 0] 8 rfl (World.shaped_of_RefB (by kernel_rfl) (by kernel_rfl)) (by kernel_rfl) (by kernel_rfl) (by kernel_rfl) (door_met os _)) ?_
  intro W base args ds gs before hval0 hW _ _ hL _
  have hval : ∀ (j : Nat) t v, Tryd.f6.params[j]? = some t → args[j]? = some v → Value.okWide Tryd.prog W .any base t v := hval0
  have hW' := hW
  obtain ⟨p, q, hA0, hV, rfl, hfz, hnd⟩ := hW
  have hA : DataW.TrodAll enc Tryd.prog W 0 (fun _ => true) true Tryd.f6.params.toList args.toList ds p := hA0
  rw [Tryd.params6] at hA hval
  obtain ⟨v0, vs0, d0, ds0, p0, q0, hargs, rfl, rfl, h0, r0⟩ := trodAll_cons hA
  obtain ⟨v1, vs1, d1, ds1, p1, q1, rfl, rfl, rfl, h1, r1⟩ := trodAll_cons r0
  obtain ⟨v2, vs2, d2, ds2, p2, q2, rfl, rfl, rfl, h2, r2⟩ := trodAll_cons r1
  obtain ⟨rfl, rfl, rfl⟩ := trodAll_nil r2
  obtain rfl : args = #[v0, v1, v2] := by cases args; simp_all
  obtain ⟨rfl, rfl⟩ := trodVars_none hV
  have t0 := h0
  have lt0 : ∀ x ∈ p0, x.block < W.heap.size := by obtain ⟨m, hm⟩ := t0; exact DataW.trod_lt m _ _ _ hm
  have t1 := h1
  have lt1 : ∀ x ∈ p1, x.block < W.heap.size := by obtain ⟨m, hm⟩ := t1; exact DataW.trod_lt m _ _ _ hm
  have t2 := h2
  have lt2 : ∀ x ∈ p2, x.block < W.heap.size := by obtain ⟨m, hm⟩ := t2; exact DataW.trod_lt m _ _ _ hm
  obtain ⟨T0, a0⟩ := open_tup (hval 0 23 v0 rfl rfl) h0
  obtain ⟨T1, a1⟩ := open_tup (hval 1 23 v1 rfl rfl) h1
  obtain ⟨T2, a2⟩ := open_tup (hval 2 23 v2 rfl rfl) h2
  clear hA0 hval0
  refine (ltotal v0 T0 v1 T1 v2 T2 W a0 a1 a2 (glob_of_laid hL)).mono fun e W' ⟨he, bel⟩ => ?_
  subst he
  exact ⟨_, rfl, _, _, _, [], _, [], hW', trodAll_mk1 (shut_bool Tryd.underlying4 _), (trodAll_cons_mk (Below.trod laidOut (by kernel_rfl) (of_decide_eq_true (by kernel_rfl)) t0 bel lt0) (trodAll_cons_mk (Below.trod laidOut (by kernel_rfl) (of_decide_eq_true (by kernel_rfl)) t1 bel lt1) (trodAll_cons_mk (Below.trod laidOut (by kernel_rfl) (of_decide_eq_true (by kernel_rfl)) t2 bel lt2) trodAll_mk0))), rfl, bel.frame _, fun h => by cases h⟩

theorem holds_ltotal : Rows.TupleTotalSaid :=
  OpenClaim.holds_of_wide 6 Tryd.f6 rfl rfl rfl rfl rfl rfl rfl ⟨rfl, rfl, rfl, rfl, rfl⟩ rfl rfl rfl rfl rfl (by kernel_rfl) Tryd.func6 (by kernel_rfl)
    (of_decide_eq_true (by kernel_rfl)) (by unfold Func.isWrapper; rw [if_neg (of_decide_eq_false (by kernel_rfl))]; exact ⟨rfl, rfl⟩)
    (fun os started H enc _ => lifted_ltotal os started H enc)

theorem card_ltotal : Rows.TupleTotalCardSaid :=
  Claim7.holds_tied_plain_at .later [] Rows.tupleTotalCard.laidKinds true Rows.tupleTotalCard.stood.harness Rows.tupleTotalCard.stood.looks
    holds_ltotal (fun _ h => by cases h) (by kernel_rfl) (fun _ h => by cases h) tupleTotal_row_tie rfl ⟨rfl, rfl⟩ (by kernel_rfl) rfl
    (fun f fn hf hfn => by
      obtain rfl : f = 6 := Option.some.inj ((show Tryd.prog.funcNamed "pedigree/pedigreelaw02.TupleTotal" = some 6 by kernel_rfl).symm.trans hf) |>.symm
      obtain rfl : fn = Tryd.f6 := (Option.some.inj (Tryd.func6.symm.trans hfn)).symm
      exact ⟨by kernel_rfl, fun j t ht => by
        rw [Tryd.params6] at ht
        have hm : t ∈ [23, 23, 23] := by simpa using Array.mem_of_getElem? ht
        have hall : ([23, 23, 23].all fun u => !Tryd.prog.wantsStandIn u) = true := by kernel_rfl
        exact (show Tryd.prog.wantsStandIn t = false by simpa using List.all_eq_true.1 hall t hm)⟩)
    (by kernel_rfl)
#print axioms card_ltotal

end Go.Proofs.YtbpkkcljeelfcaaDoor

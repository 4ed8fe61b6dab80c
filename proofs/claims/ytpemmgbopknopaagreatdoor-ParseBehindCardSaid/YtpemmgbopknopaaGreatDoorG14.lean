/-
  The walk of the law ParseBehind.
  The walk of the law ParseBehind, the document's Words laid in.
  For every input the law ParseBehind returns true and leaves its arguments as they were.
  Conditions: those that the row and its tied card print; none of the proof's own.
-/
import Derived.Test.YtpemmgbopknopaaGreatDoorG13
import Derived.Test.YtpemmgbopknopaaGreatDoorLxX
import Derived.Test.YtpemmgbopknopaaGreatDoorG12
import Derived.Test.YtpemmgbopknopaaGreatDoorTie
import Derived.Test.YtpemmgbopknopaaGreatDoorCards
namespace Go.Proofs.YtpemmgbopknopaaGreatDoor
section
open Go Go.RowKit Go.Shelf

theorem name_a {P : Program} {ops : Array Oper} {Q : Exit → Act → World → Prop} {md : Region.Mode} {S : World → Prop} {fuel : Nat} {listed : Array Bool} {a : Act} {W : World} (h : ∀ A, A = a → wpAnyH P md ops Q S fuel listed A W) : wpAnyH P md ops Q S fuel listed a W := h a rfl
theorem list_h {P : Program} {ops : Array Oper} {Q : Exit → Act → World → Prop} {md : Region.Mode} {S : World → Prop} {fuel : Nat} {l l' : Array Bool} {a : Act} {W : World} (e : l = l') (h : wpAnyH P md ops Q S fuel l' a W) : wpAnyH P md ops Q S fuel l a W := e ▸ h
set_option maxRecDepth 100000 in
set_option maxHeartbeats 8000000 in
theorem parseBehind_walk (HR : RWords) (s t : ByteArray) (w : World) (hm : s.size ≤ 140737488355328) (hn : t.size ≤ 140737488355328) (G : Glob w) :
    Calls Tryz.prog 3 #[.string s, .string t] w fun e w' => e = .returned (.bool true) ∧ Below w.heap.size w w' := by
  obtain ⟨C, hC, hCM, HC'⟩ := pcut_le s _ hm
  obtain ⟨D, hD, hDM, HD'⟩ := pcut_le t _ hn
  have HC := Lib.hid HC'
  have HD := Lib.hid HD'
  have HG := Lib.hid G
  have q1 : ∀ W, (Op.stringOp .add C ⟨#[10]⟩).run Tryz.prog W = .ok (.string (C ++ ⟨#[10]⟩)) W := fun W => run_string_add_sum (P := Tryz.prog) (w := W) _ _ (by have h1 : (⟨#[10]⟩ : ByteArray).size = 1 := rfl; omega)
  have q2 : ∀ W, (Op.stringOp .add (C ++ ⟨#[10]⟩) D).run Tryz.prog W = .ok (.string (C ++ ⟨#[10]⟩ ++ D)) W := fun W => run_string_add_sum (P := Tryz.prog) (w := W) _ _ (by rw [ByteArray.size_append]; have h1 : (⟨#[10]⟩ : ByteArray).size = 1 := rfl; omega)
  obtain ⟨X, hX⟩ : ∃ X, C ++ ⟨#[10]⟩ ++ D = X := ⟨_, rfl⟩
  have hXs : X.size = C.size + 1 + D.size := by rw [← hX, ByteArray.size_append, ByteArray.size_append]; rfl
  have hXl : X.data.toList = C.data.toList ++ 10 :: D.data.toList := by rw [← hX]; exact both_list C D
  simp only [hX] at q2
  obtain ⟨P1, n1, e1, W1, c1⟩ := show_n C
  obtain ⟨P2, n2, e2, W2, c2⟩ := show_n D
  obtain ⟨P3, n3, e3, W3, c3⟩ := show_n X
  have K1 := Lib.hid c1
  have K2 := Lib.hid c2
  have K3 := Lib.hid c3
  have HX := Lib.hid hX
  have HXs := Lib.hid hXs
  have HXl := Lib.hid hXl
  have HW1 := Lib.hid W1
  have HW2 := Lib.hid W2
  have HW3 := Lib.hid W3
  have HWx := Lib.hid (fun (h : X.size ≤ 1000000) (W : World) => HR X W h)
  clear HC' HD' G c1 c2 c3 hX hXs hXl HR hm hn W1 W2 W3
  by_cases hbig : 65536 ≤ C.size + D.size
  · have hbig' : (65536 : Int) ≤ (C.size : Int) + (D.size : Int) := by omega
    have hC' : (C.size : Int) ≤ 140737488355328 := by omega
    have hD' : (D.size : Int) ≤ 140737488355328 := by omega
    clear hbig hC hD hCM hDM
    go_enter Tryz.func3, Tryz.ntmps3
    go_wp2_with fail
    refine (HC.out _).mono ?_
    rintro y w0 ⟨rfl, rfl⟩
    go_wp2_with fail
    refine (HD.out _).mono ?_
    rintro y w0 ⟨rfl, rfl⟩
    go_wp2_with fail
    refine (K1.out _ HG.out).mono ?_
    rintro y w1 ⟨hb1, p0, k0, p1, k1, p2, k2, rfl, g0, g1, g2⟩
    have HB1 := Lib.hid hb1
    have HR1 := Lib.hid (And.intro g0 (And.intro g1 g2))
    clear hb1 g0 g1 g2
    go_wp2_with fail
    have HA1 := Lib.hid (HB1.out.alloc HB1.out.size (.cells #[.slice p0 P1.decls.length k0, .slice p1 P1.ons.length k1, .slice p2 P1.rules.length k2] 27))
    refine (K2.out _ (HG.out.below HA1.out)).mono ?_
    rintro y w2 ⟨hb2, p0', k0', p1', k1', p2', k2', rfl, g0, g1, g2⟩
    have HB2 := Lib.hid hb2
    have HR2 := Lib.hid (And.intro g0 (And.intro g1 g2))
    clear hb2 g0 g1 g2
    go_wp2_with fail
    have HA2 := Lib.hid ((HA1.out.trans (HB2.out.mono HA1.out.size)).alloc (Nat.le_trans HA1.out.size HB2.out.size) (.cells #[.slice p0' P2.decls.length k0', .slice p1' P2.ons.length k1', .slice p2' P2.rules.length k2'] 27))
    refine (K3.out _ (HG.out.below HA2.out)).mono ?_
    rintro y w3 ⟨hb3, p0'', k0'', p1'', k1'', p2'', k2'', rfl, g0, g1, g2⟩
    have HB3 := Lib.hid hb3
    have HR3 := Lib.hid (And.intro g0 (And.intro g1 g2))
    have HA3 := Lib.hid ((HA2.out.trans (HB3.out.mono HA2.out.size)).alloc (Nat.le_trans HA2.out.size HB3.out.size) (.cells #[.slice p0'' P3.decls.length k0'', .slice p1'' P3.ons.length k1'', .slice p2'' P3.rules.length k2''] 27))
    clear hb3 g0 g1 g2
    go_wp2_with fail
    refine (alive_any _ (HG.out.below HA3.out)).mono ?_
    rintro y w7 ⟨rfl, hb7⟩
    have HB7 := Lib.hid hb7
    clear hb7
    go_wp2_with fail
    go_ret
    exact ⟨rfl, HA3.out.trans (HB7.out.mono HA3.out.size)⟩
  obtain ⟨Z, hZ⟩ : ∃ Z : Int, (C.size : Int) + (D.size : Int) = Z := ⟨_, rfl⟩
  have hZ0 : 0 ≤ Z := by omega
  have hbig' : ¬ (65536 : Int) ≤ Z := by omega
  have hC1 : C.size ≤ 1500 := by omega
  have hD1 : D.size ≤ 1500 := by omega
  have hC' : (C.size : Int) ≤ 140737488355328 := by omega
  have hD' : (D.size : Int) ≤ 140737488355328 := by omega
  have HX6 := Lib.hid (show X.size ≤ 65536 by have := HXs.out; omega)
  clear hbig hC hD hCM hDM
  rcases HW1.out with ⟨he1, -, cs, hs1, hP1⟩ | ⟨he1, -, hs1⟩ | ⟨he1, -, -⟩ | ⟨-, hl⟩
  · rcases HW2.out with ⟨he2, -, ds, hs2, hP2⟩ | ⟨he2, -, -⟩ | ⟨he2, -, -⟩ | ⟨-, hl⟩
    · subst he1 he2
      have hs3 : sayOf valL progR X.data.toList = .ok (cs ++ ds) := by rw [HXl.out]; exact say_both valL_open hs1 hs2
      rcases HW3.out with ⟨he3, -, cs', hs', hP3⟩ | ⟨-, -, hs'⟩ | ⟨-, -, hs'⟩ | ⟨-, hl⟩
      rotate_left
      · exact absurd (hs'.symm.trans hs3) (by intro e; cases e)
      · exact absurd (hs'.symm.trans hs3) (by intro e; cases e)
      · exact absurd hl (by have := HX6.out; omega)
      obtain rfl : cs' = cs ++ ds := by have := hs'.symm.trans hs3; injection this
      subst he3
      have HP3 := Lib.hid (show P3.decls = P1.decls ++ P2.decls ∧ P3.ons = P1.ons ++ P2.ons ∧ P3.rules = P1.rules ++ P2.rules by rw [hP1, hP2, hP3]; exact ofCs_app cs ds)
      have HLen : Hid (∀ a b : Nat, (a ≤ P1.decls.length ∨ a ≤ P1.ons.length ∨ a ≤ P1.rules.length) → (b ≤ P2.decls.length ∨ b ≤ P2.ons.length ∨ b ≤ P2.rules.length) → a + b ≤ 1000000) := Lib.hid (fun a b ha hb => by
        have l1 := say_len hs1
        have l2 := say_len hs2
        rw [← Lib.size_eq] at l1 l2
        rw [hP1] at ha
        rw [hP2] at hb
        have o1 := ofCs_len cs
        have o2 := ofCs_len ds
        omega)
      clear hs1 hs2 hs3 hs' hP1 hP2 hP3
      clear hC1 hD1
      go_enter Tryz.func3, Tryz.ntmps3
      go_wp2_with fail
      refine (HC.out _).mono ?_
      rintro y w0 ⟨rfl, rfl⟩
      go_wp2_with fail
      refine (HD.out _).mono ?_
      rintro y w0 ⟨rfl, rfl⟩
      go_wp2_with fail
      refine (K1.out _ HG.out).mono ?_
      rintro y w1 ⟨hb1, p0, k0, p1, k1, p2, k2, rfl, g0, g1, g2⟩
      have HB1 := Lib.hid hb1
      have HR1 := Lib.hid (And.intro g0 (And.intro g1 g2))
      clear hb1 g0 g1 g2
      go_wp2_with fail
      have HA1 := Lib.hid (HB1.out.alloc HB1.out.size (.cells #[.slice p0 P1.decls.length k0, .slice p1 P1.ons.length k1, .slice p2 P1.rules.length k2] 27))
      refine (K2.out _ (HG.out.below HA1.out)).mono ?_
      rintro y w2 ⟨hb2, p0', k0', p1', k1', p2', k2', rfl, g0, g1, g2⟩
      have HB2 := Lib.hid hb2
      have HR2 := Lib.hid (And.intro g0 (And.intro g1 g2))
      clear hb2 g0 g1 g2
      go_wp2_with fail
      have HA2 := Lib.hid ((HA1.out.trans (HB2.out.mono HA1.out.size)).alloc (Nat.le_trans HA1.out.size HB2.out.size) (.cells #[.slice p0' P2.decls.length k0', .slice p1' P2.ons.length k1', .slice p2' P2.rules.length k2'] 27))
      refine (K3.out _ (HG.out.below HA2.out)).mono ?_
      rintro y w3 ⟨hb3, p0'', k0'', p1'', k1'', p2'', k2'', rfl, g0, g1, g2⟩
      have HB3 := Lib.hid hb3
      have HR3 := Lib.hid (And.intro g0 (And.intro g1 g2))
      have HA3 := Lib.hid ((HA2.out.trans (HB3.out.mono HA2.out.size)).alloc (Nat.le_trans HA2.out.size HB3.out.size) (.cells #[.slice p0'' P3.decls.length k0'', .slice p1'' P3.ons.length k1'', .slice p2'' P3.rules.length k2''] 27))
      clear hb3 g0 g1 g2
      go_wp2_with fail
      obtain ⟨W3, hW3⟩ : ∃ W, W = w3.alloc (.cells #[.slice p0'' P3.decls.length k0'', .slice p1'' P3.ons.length k1'', .slice p2'' P3.rules.length k2''] 27) := ⟨_, rfl⟩
      have B33 : Below w3.heap.size w3 W3 := by rw [hW3]; exact (Below.refl _ w3).alloc (Nat.le_refl _) _
      have B2a : Below w2.heap.size w2 w3 := ((Below.refl _ w2).alloc (Nat.le_refl _) _).trans (HB3.out.mono (by simp))
      have B23 : Below w2.heap.size w2 W3 := B2a.trans (B33.mono B2a.size)
      have B1a : Below w1.heap.size w1 w2 := ((Below.refl _ w1).alloc (Nat.le_refl _) _).trans (HB2.out.mono (by simp))
      have B13 : Below w1.heap.size w1 W3 := B1a.trans (B23.mono B1a.size)
      have z2 : w1.heap.size < w2.heap.size := by have := HB2.out.size; simp at this; omega
      have z3 : w2.heap.size < w3.heap.size := by have := HB3.out.size; simp at this; omega
      have r1 := (B23.block w1.heap.size z2).trans ((HB2.out.block w1.heap.size (by simp)).trans (heap_alloc_new w1 _))
      have r2 := (B33.block w2.heap.size z3).trans ((HB3.out.block w2.heap.size (by simp)).trans (heap_alloc_new w2 _))
      have r3 := heap_alloc_new w3 (.cells #[.slice p0'' P3.decls.length k0'', .slice p1'' P3.ons.length k1'', .slice p2'' P3.rules.length k2''] 27)
      rw [← hW3] at r3
      have HA := Lib.hid HA3.out
      rw [← hW3] at HA ⊢
      clear HA3
      obtain ⟨us1, x1, y1⟩ := (HR1.out.1.in_below B13).src
      obtain ⟨us2, x2, y2⟩ := (HR1.out.2.1.in_below B13).src
      obtain ⟨us3, x3, y3⟩ := (HR1.out.2.2.in_below B13).src
      obtain ⟨us1', x1', y1'⟩ := (HR2.out.1.in_below B23).src
      obtain ⟨us2', x2', y2'⟩ := (HR2.out.2.1.in_below B23).src
      obtain ⟨us3', x3', y3'⟩ := (HR2.out.2.2.in_below B23).src
      have HX1 := Lib.hid (And.intro x1 x1')
      have HX2 := Lib.hid (And.intro x2 x2')
      have HX3 := Lib.hid (And.intro x3 x3')
      have HY1 := Lib.hid (And.intro y1 y1')
      have HY2 := Lib.hid (And.intro y2 y2')
      have HY3 := Lib.hid (And.intro y3 y3')
      have HR := Lib.hid (And.intro (HR3.out.1.in_below B33) (And.intro (HR3.out.2.1.in_below B33) (HR3.out.2.2.in_below B33)))
      have Hr1 := Lib.hid r1
      have Hr2 := Lib.hid r2
      have Hr3 := Lib.hid r3
      have Hz3 := Lib.hid (show w3.heap.size < W3.heap.size by rw [hW3]; simp)
      clear hW3 B33 B2a B23 B1a B13 z2 z3 r1 r2 r3 x1 x2 x3 x1' x2' x3' y1 y2 y3 y1' y2' y3' HR1 HR2 HR3 HB1 HB2 HB3 HA1 HA2
      refine wp_region_held_drew (S := fun X => Below W3.heap.size W3 X) (by kernel_rfl) ((Below.refl _ W3).drew) (fun _ => ?_)
      refine take1 1 92 (v := ?_) rfl rfl (by kernel_rfl) (by kernel_rfl) (by kernel_rfl) (fun _ _ _ h => h) (by kernel_rfl) ?_ ((Below.refl _ W3).drew) (by simp only [put_norm]; exact rfl) ?_
      rotate_left
      · rintro X0 s0
        obtain ⟨⟨b0, b1, b2⟩, -⟩ := cells3 ((s0.block _ (Array.getElem?_eq_some_iff.1 Hr1.out).1).trans Hr1.out)
        clear s0
        go_simp; try (with_reducible rfl)
      refine take1 2 93 (v := ?_) rfl rfl (by kernel_rfl) (by kernel_rfl) (by kernel_rfl) (fun _ _ _ h => h) (by kernel_rfl) ?_ ((Below.refl _ W3).drew) (by simp only [put_norm]; exact rfl) ?_
      rotate_left
      · rintro X0 s0
        obtain ⟨⟨b0, b1, b2⟩, -⟩ := cells3 ((s0.block _ (Array.getElem?_eq_some_iff.1 Hr1.out).1).trans Hr1.out)
        clear s0
        go_simp; try (with_reducible rfl)
      refine take1 4 95 (v := ?_) rfl rfl (by kernel_rfl) (by kernel_rfl) (by kernel_rfl) (fun _ _ _ h => h) (by kernel_rfl) ?_ ((Below.refl _ W3).drew) (by simp only [put_norm]; exact rfl) ?_
      rotate_left
      · rintro X0 s0
        obtain ⟨⟨b0, b1, b2⟩, -⟩ := cells3 ((s0.block _ (Array.getElem?_eq_some_iff.1 Hr2.out).1).trans Hr2.out)
        clear s0
        go_simp; try (with_reducible rfl)
      refine take1 5 96 (v := ?_) rfl rfl (by kernel_rfl) (by kernel_rfl) (by kernel_rfl) (fun _ _ _ h => h) (by kernel_rfl) ?_ ((Below.refl _ W3).drew) (by simp only [put_norm]; exact rfl) ?_
      rotate_left
      · rintro X0 s0
        obtain ⟨⟨b0, b1, b2⟩, -⟩ := cells3 ((s0.block _ (Array.getElem?_eq_some_iff.1 Hr2.out).1).trans Hr2.out)
        clear s0
        go_simp; try (with_reducible rfl)
      refine take1 8 99 (v := ?_) rfl rfl (by kernel_rfl) (by kernel_rfl) (by kernel_rfl) (fun _ _ _ h => h) (by kernel_rfl) ?_ ((Below.refl _ W3).drew) (by simp only [put_norm]; exact rfl) ?_
      rotate_left
      · rintro X0 s0
        obtain ⟨⟨b0, b1, b2⟩, -⟩ := cells3 ((s0.block _ (Array.getElem?_eq_some_iff.1 Hr1.out).1).trans Hr1.out)
        clear s0
        go_simp; try (with_reducible rfl)
      refine take1 9 100 (v := ?_) rfl rfl (by kernel_rfl) (by kernel_rfl) (by kernel_rfl) (fun _ _ _ h => h) (by kernel_rfl) ?_ ((Below.refl _ W3).drew) (by simp only [put_norm]; exact rfl) ?_
      rotate_left
      · rintro X0 s0
        obtain ⟨⟨b0, b1, b2⟩, -⟩ := cells3 ((s0.block _ (Array.getElem?_eq_some_iff.1 Hr1.out).1).trans Hr1.out)
        clear s0
        go_simp; try (with_reducible rfl)
      refine take1 11 102 (v := ?_) rfl rfl (by kernel_rfl) (by kernel_rfl) (by kernel_rfl) (fun _ _ _ h => h) (by kernel_rfl) ?_ ((Below.refl _ W3).drew) (by simp only [put_norm]; exact rfl) ?_
      rotate_left
      · rintro X0 s0
        obtain ⟨⟨b0, b1, b2⟩, -⟩ := cells3 ((s0.block _ (Array.getElem?_eq_some_iff.1 Hr2.out).1).trans Hr2.out)
        clear s0
        go_simp; try (with_reducible rfl)
      refine take1 12 103 (v := ?_) rfl rfl (by kernel_rfl) (by kernel_rfl) (by kernel_rfl) (fun _ _ _ h => h) (by kernel_rfl) ?_ ((Below.refl _ W3).drew) (by simp only [put_norm]; exact rfl) ?_
      rotate_left
      · rintro X0 s0
        obtain ⟨⟨b0, b1, b2⟩, -⟩ := cells3 ((s0.block _ (Array.getElem?_eq_some_iff.1 Hr2.out).1).trans Hr2.out)
        clear s0
        go_simp; try (with_reducible rfl)
      refine take1 15 106 (v := ?_) rfl rfl (by kernel_rfl) (by kernel_rfl) (by kernel_rfl) (fun _ _ _ h => h) (by kernel_rfl) ?_ ((Below.refl _ W3).drew) (by simp only [put_norm]; exact rfl) ?_
      rotate_left
      · rintro X0 s0
        obtain ⟨⟨b0, b1, b2⟩, -⟩ := cells3 ((s0.block _ (Array.getElem?_eq_some_iff.1 Hr1.out).1).trans Hr1.out)
        clear s0
        go_simp; try (with_reducible rfl)
      refine take1 16 107 (v := ?_) rfl rfl (by kernel_rfl) (by kernel_rfl) (by kernel_rfl) (fun _ _ _ h => h) (by kernel_rfl) ?_ ((Below.refl _ W3).drew) (by simp only [put_norm]; exact rfl) ?_
      rotate_left
      · rintro X0 s0
        obtain ⟨⟨b0, b1, b2⟩, -⟩ := cells3 ((s0.block _ (Array.getElem?_eq_some_iff.1 Hr1.out).1).trans Hr1.out)
        clear s0
        go_simp; try (with_reducible rfl)
      refine take1 18 109 (v := ?_) rfl rfl (by kernel_rfl) (by kernel_rfl) (by kernel_rfl) (fun _ _ _ h => h) (by kernel_rfl) ?_ ((Below.refl _ W3).drew) (by simp only [put_norm]; exact rfl) ?_
      rotate_left
      · rintro X0 s0
        obtain ⟨⟨b0, b1, b2⟩, -⟩ := cells3 ((s0.block _ (Array.getElem?_eq_some_iff.1 Hr2.out).1).trans Hr2.out)
        clear s0
        go_simp; try (with_reducible rfl)
      refine take1 19 110 (v := ?_) rfl rfl (by kernel_rfl) (by kernel_rfl) (by kernel_rfl) (fun _ _ _ h => h) (by kernel_rfl) ?_ ((Below.refl _ W3).drew) (by simp only [put_norm]; exact rfl) ?_
      rotate_left
      · rintro X0 s0
        obtain ⟨⟨b0, b1, b2⟩, -⟩ := cells3 ((s0.block _ (Array.getElem?_eq_some_iff.1 Hr2.out).1).trans Hr2.out)
        clear s0
        go_simp; try (with_reducible rfl)
      refine name_a fun A0 hA0 => ?_
      have e93 : A0.eval (.tmp 93) = .slice p0 P1.decls.length k0 := by rw [hA0]; rfl
      have e96 : A0.eval (.tmp 96) = .slice p0' P2.decls.length k0' := by rw [hA0]; rfl
      have e100 : A0.eval (.tmp 100) = .slice p1 P1.ons.length k1 := by rw [hA0]; rfl
      have e103 : A0.eval (.tmp 103) = .slice p1' P2.ons.length k1' := by rw [hA0]; rfl
      have e107 : A0.eval (.tmp 107) = .slice p2 P1.rules.length k2 := by rw [hA0]; rfl
      have e110 : A0.eval (.tmp 110) = .slice p2' P2.rules.length k2' := by rw [hA0]; rfl
      have esz : A0.tmps.size = 123 := by rw [hA0]; rfl
      refine list_h (l' := stL ⟨0, 0, 0, 0, 0⟩) (by kernel_rfl) ?_
      refine wpAnyH_six (by kernel_rfl) (I6 A0 W3 P1.decls.length us1 P2.decls.length us1' P1.ons.length us2 P2.ons.length us2' P1.rules.length us3 P2.rules.length us3') ?_ ?_ _ _ (I6.init _ _ _ _ _ _ _ _ _ _ _ _ _ _ _ ((Below.refl _ W3).drew))
      · intro s a w hok hI q hq
        obtain ⟨hb, f, v1, v2, v3, og, rfl, hsup, c1, c2, c3, al, hbb, d12, d13, d23, g1, g2, g3⟩ := hI
        obtain ⟨s1, s2, s3, sm, sb⟩ := s
        simp only [stR, List.mem_append] at hq
        simp only [stOk, Bool.and_eq_true, Bool.or_eq_true, decide_eq_true_eq] at hok
        simp only at c1 c2 c3 al hbb
        rcases hq with (((((((((hq | hq) | hq) | hq) | hq) | hq) | hq) | hq) | hq) | hq) | hq <;> obtain ⟨hc, rfl⟩ := mem_if hq <;> clear hq
        · subst hc
          refine ⟨_, rfl, fun K hK => ?_⟩
          have B' := hb.alloc hb.size (.cells #[] 63)
          obtain ⟨i0, hi0, -, -, -⟩ := info_parts Tryz.infoDe
          refine bs_step _ 23 63 rfl rfl Tryz.underlying23 i0 hi0 (hK _ _ B' ⟨B', _, .slice (some ⟨w.heap.size, 0, none⟩) 0 0, v2, v3, og, over_put _ _ _ _, sup_set hsup 91 (by decide) _, Chn.start hb.size, c2.alloc _, c3.alloc _, al.alloc _, fun (h : 1 ≤ sb) => (by exfalso; omega), dj_new (fun k e => (c2.lt k e).2), dj_new (fun k e => (c3.lt k e).2), d23, dj_new (fun k e => (al.lt k e).2), g2, g3⟩)
        · subst hc
          refine ⟨_, rfl, fun K hK => ?_⟩
          refine step_appR rfl (.tmp 91) (.tmp 93) 23 63 rfl W3.heap.size _ 3 _ Tryz.underlying23 Tryz.infoDe rfl (by decide) (by decide) v1 (.slice p0 P1.decls.length k0) 0 P1.decls.length [] us1 (by rw [over_eval _ _ _ (by rw [esz]; decide), c1.a rfl]; rfl) (by rw [over_eval _ _ _ (by rw [esz]; decide), hsup 93 (by decide)]; exact e93) c1.own (c1.some_ (by decide)) (HY1.out.1.below hb) (by have := HLen.out P1.decls.length 0 (by omega) (by omega); omega) hb.size ?_
          intro v' w' ho hg hv hne
          have B' := hb.grown hg hb.size (fun k e => (c1.lt k e).1)
          exact hK _ _ B' ⟨B', _, v', v2, v3, og, over_put _ _ _ _, sup_set hsup 94 (by decide) _, c1.one ho hne, c2.off hg d12, c3.off hg d13, al.off hg g1, fun (h : 1 ≤ sb) => (by exfalso; omega), d12.fresh hv (fun k e => (c2.lt k e).2), d13.fresh hv (fun k e => (c3.lt k e).2), d23, g1.fresh hv (fun k e => (al.lt k e).2), g2, g3⟩
        · subst hc
          refine ⟨_, rfl, fun K hK => ?_⟩
          refine step_appR rfl (.tmp 94) (.tmp 96) 23 63 rfl W3.heap.size _ 3 _ Tryz.underlying23 Tryz.infoDe rfl (by decide) (by decide) v1 (.slice p0' P2.decls.length k0') P1.decls.length P2.decls.length us1 us1' (by rw [over_eval _ _ _ (by rw [esz]; decide), c1.b rfl]; rfl) (by rw [over_eval _ _ _ (by rw [esz]; decide), hsup 96 (by decide)]; exact e96) c1.own (c1.some_ (by decide)) (HY1.out.2.below hb) (by have := HLen.out P1.decls.length P2.decls.length (by omega) (by omega); omega) hb.size ?_
          intro v' w' ho hg hv hne
          have B' := hb.grown hg hb.size (fun k e => (c1.lt k e).1)
          exact hK _ _ B' ⟨B', _, v', v2, v3, og, over_put _ _ _ _, sup_set hsup 97 (by decide) _, c1.two ho hne, c2.off hg d12, c3.off hg d13, al.off hg g1, fun (h : 1 ≤ sb) => (by exfalso; omega), d12.fresh hv (fun k e => (c2.lt k e).2), d13.fresh hv (fun k e => (c3.lt k e).2), d23, g1.fresh hv (fun k e => (al.lt k e).2), g2, g3⟩
        · subst hc
          refine ⟨_, rfl, fun K hK => ?_⟩
          have B' := hb.alloc hb.size (.cells #[] 67)
          obtain ⟨i0, hi0, -, -, -⟩ := info_parts Tryz.infoOn
          refine bs_step _ 24 67 rfl rfl Tryz.underlying24 i0 hi0 (hK _ _ B' ⟨B', _, v1, .slice (some ⟨w.heap.size, 0, none⟩) 0 0, v3, og, over_put _ _ _ _, sup_set hsup 98 (by decide) _, c1.alloc _, Chn.start hb.size, c3.alloc _, al.alloc _, fun (h : 1 ≤ sb) => (by exfalso; omega), (dj_new (fun k e => (c1.lt k e).2)).symm, d13, dj_new (fun k e => (c3.lt k e).2), g1, dj_new (fun k e => (al.lt k e).2), g3⟩)
        · obtain ⟨rfl, rfl⟩ := hc
          refine ⟨_, rfl, fun K hK => ?_⟩
          refine step_appR rfl (.tmp 98) (.tmp 100) 24 67 rfl W3.heap.size _ 3 _ Tryz.underlying24 Tryz.infoOn rfl (by decide) (by decide) v2 (.slice p1 P1.ons.length k1) 0 P1.ons.length [] us2 (by rw [over_eval _ _ _ (by rw [esz]; decide), c2.a rfl]; rfl) (by rw [over_eval _ _ _ (by rw [esz]; decide), hsup 100 (by decide)]; exact e100) c2.own (c2.some_ (by decide)) (HY2.out.1.below hb) (by have := HLen.out P1.ons.length 0 (by omega) (by omega); omega) hb.size ?_
          intro v' w' ho hg hv hne
          have B' := hb.grown hg hb.size (fun k e => (c2.lt k e).1)
          exact hK _ _ B' ⟨B', _, v1, v', v3, og, over_put _ _ _ _, sup_set hsup 101 (by decide) _, c1.off hg d12.symm, c2.one ho hne, c3.off hg d23, al.off hg g2, fun (h : 1 ≤ sb) => (by exfalso; omega), (d12.symm.fresh hv (fun k e => (c1.lt k e).2)).symm, d13, d23.fresh hv (fun k e => (c3.lt k e).2), g1, g2.fresh hv (fun k e => (al.lt k e).2), g3⟩
        · subst hc
          refine ⟨_, rfl, fun K hK => ?_⟩
          refine step_appR rfl (.tmp 101) (.tmp 103) 24 67 rfl W3.heap.size _ 3 _ Tryz.underlying24 Tryz.infoOn rfl (by decide) (by decide) v2 (.slice p1' P2.ons.length k1') P1.ons.length P2.ons.length us2 us2' (by rw [over_eval _ _ _ (by rw [esz]; decide), c2.b rfl]; rfl) (by rw [over_eval _ _ _ (by rw [esz]; decide), hsup 103 (by decide)]; exact e103) c2.own (c2.some_ (by decide)) (HY2.out.2.below hb) (by have := HLen.out P1.ons.length P2.ons.length (by omega) (by omega); omega) hb.size ?_
          intro v' w' ho hg hv hne
          have B' := hb.grown hg hb.size (fun k e => (c2.lt k e).1)
          exact hK _ _ B' ⟨B', _, v1, v', v3, og, over_put _ _ _ _, sup_set hsup 104 (by decide) _, c1.off hg d12.symm, c2.two ho hne, c3.off hg d23, al.off hg g2, fun (h : 1 ≤ sb) => (by exfalso; omega), (d12.symm.fresh hv (fun k e => (c1.lt k e).2)).symm, d13, d23.fresh hv (fun k e => (c3.lt k e).2), g1, g2.fresh hv (fun k e => (al.lt k e).2), g3⟩
        · subst hc
          refine ⟨_, rfl, fun K hK => ?_⟩
          have B' := hb.alloc hb.size (.cells #[] 60)
          obtain ⟨i0, hi0, -, -, -⟩ := info_parts Tryz.infoRu
          refine bs_step _ 25 60 rfl rfl Tryz.underlying25 i0 hi0 (hK _ _ B' ⟨B', _, v1, v2, .slice (some ⟨w.heap.size, 0, none⟩) 0 0, og, over_put _ _ _ _, sup_set hsup 105 (by decide) _, c1.alloc _, c2.alloc _, Chn.start hb.size, al.alloc _, fun (h : 1 ≤ sb) => (by exfalso; omega), d12, (dj_new (fun k e => (c1.lt k e).2)).symm, (dj_new (fun k e => (c2.lt k e).2)).symm, g1, g2, dj_new (fun k e => (al.lt k e).2)⟩)
        · obtain ⟨rfl, rfl⟩ := hc
          refine ⟨_, rfl, fun K hK => ?_⟩
          refine step_appR rfl (.tmp 105) (.tmp 107) 25 60 rfl W3.heap.size _ 3 _ Tryz.underlying25 Tryz.infoRu rfl (by decide) (by decide) v3 (.slice p2 P1.rules.length k2) 0 P1.rules.length [] us3 (by rw [over_eval _ _ _ (by rw [esz]; decide), c3.a rfl]; rfl) (by rw [over_eval _ _ _ (by rw [esz]; decide), hsup 107 (by decide)]; exact e107) c3.own (c3.some_ (by decide)) (HY3.out.1.below hb) (by have := HLen.out P1.rules.length 0 (by omega) (by omega); omega) hb.size ?_
          intro v' w' ho hg hv hne
          have B' := hb.grown hg hb.size (fun k e => (c3.lt k e).1)
          exact hK _ _ B' ⟨B', _, v1, v2, v', og, over_put _ _ _ _, sup_set hsup 108 (by decide) _, c1.off hg d13.symm, c2.off hg d23.symm, c3.one ho hne, al.off hg g3, fun (h : 1 ≤ sb) => (by exfalso; omega), d12, (d13.symm.fresh hv (fun k e => (c1.lt k e).2)).symm, (d23.symm.fresh hv (fun k e => (c2.lt k e).2)).symm, g1, g2, g3.fresh hv (fun k e => (al.lt k e).2)⟩
        · subst hc
          refine ⟨_, rfl, fun K hK => ?_⟩
          refine step_appR rfl (.tmp 108) (.tmp 110) 25 60 rfl W3.heap.size _ 3 _ Tryz.underlying25 Tryz.infoRu rfl (by decide) (by decide) v3 (.slice p2' P2.rules.length k2') P1.rules.length P2.rules.length us3 us3' (by rw [over_eval _ _ _ (by rw [esz]; decide), c3.b rfl]; rfl) (by rw [over_eval _ _ _ (by rw [esz]; decide), hsup 110 (by decide)]; exact e110) c3.own (c3.some_ (by decide)) (HY3.out.2.below hb) (by have := HLen.out P1.rules.length P2.rules.length (by omega) (by omega); omega) hb.size ?_
          intro v' w' ho hg hv hne
          have B' := hb.grown hg hb.size (fun k e => (c3.lt k e).1)
          exact hK _ _ B' ⟨B', _, v1, v2, v', og, over_put _ _ _ _, sup_set hsup 111 (by decide) _, c1.off hg d13.symm, c2.off hg d23.symm, c3.two ho hne, al.off hg g3, fun (h : 1 ≤ sb) => (by exfalso; omega), d12, (d13.symm.fresh hv (fun k e => (c1.lt k e).2)).symm, (d23.symm.fresh hv (fun k e => (c2.lt k e).2)).symm, g1, g2, g3.fresh hv (fun k e => (al.lt k e).2)⟩
        · obtain ⟨rfl, rfl⟩ := hc
          obtain rfl : s2 = 3 := by omega
          obtain rfl : s1 = 3 := by omega
          refine ⟨_, rfl, fun K hK => ?_⟩
          obtain ⟨p19, m19, l19, rfl⟩ : ∃ p n c, v1 = .slice p n c := by rcases c1.own.2 with ⟨e, -⟩ | ⟨g, cap, cur, e, -⟩ <;> exact ⟨_, _, _, e⟩
          obtain ⟨p29, m29, l29, rfl⟩ : ∃ p n c, v2 = .slice p n c := by rcases c2.own.2 with ⟨e, -⟩ | ⟨g, cap, cur, e, -⟩ <;> exact ⟨_, _, _, e⟩
          obtain ⟨p39, m39, l39, rfl⟩ : ∃ p n c, v3 = .slice p n c := by rcases c3.own.2 with ⟨e, -⟩ | ⟨g, cap, cur, e, -⟩ <;> exact ⟨_, _, _, e⟩
          have h97 : (over A0 f).eval (.tmp 97) = .slice p19 m19 l19 := by rw [over_eval _ _ _ (by rw [esz]; decide), c1.c rfl]; rfl
          have h104 : (over A0 f).eval (.tmp 104) = .slice p29 m29 l29 := by rw [over_eval _ _ _ (by rw [esz]; decide), c2.c rfl]; rfl
          have h111 : (over A0 f).eval (.tmp 111) = .slice p39 m39 l39 := by rw [over_eval _ _ _ (by rw [esz]; decide), c3.c rfl]; rfl
          refine build_step _ rfl rfl h97 h104 h111 (hK _ _ hb ⟨hb, _, _, _, _, og, over_put _ _ _ _, sup_set hsup 112 (by decide) _, c1, c2, c3, al, fun _ => rfl, d12, d13, d23, g1, g2, g3⟩)
        · subst hc
          refine ⟨_, rfl, fun K hK => ?_⟩
          have B' := hb.alloc hb.size zPr
          refine al_step _ rfl rfl (hK _ _ B' ⟨B', _, v1, v2, v3, some w.heap.size, over_put _ _ _ _, sup_set hsup 17 (by decide) _, c1.alloc _, c2.alloc _, c3.alloc _, ⟨fun h => (by cases h), fun _ => ⟨w.heap.size, rfl, hb.size, by simp, rfl, heap_alloc_new w _⟩⟩, hbb, d12, d13, d23, (dj_new (fun k e => (c1.lt k e).2)).symm, (dj_new (fun k e => (c2.lt k e).2)).symm, (dj_new (fun k e => (c3.lt k e).2)).symm⟩)
      · intro s a wz hok hleft hI
        obtain ⟨hb, f, v1, v2, v3, og, rfl, hsup, c1, c2, c3, al, hbb, d12, d13, d23, g1, g2, g3⟩ := hI
        obtain ⟨s1, s2, s3, sm, sb⟩ := s
        simp only [stLeft] at hleft
        simp only [stOk, Bool.and_eq_true, Bool.or_eq_true, decide_eq_true_eq] at hok
        simp only at c1 c2 c3 al hbb
        obtain rfl : s1 = 3 := by omega
        obtain rfl : s2 = 3 := by omega
        obtain rfl : s3 = 3 := by omega
        obtain rfl : sm = 1 := by omega
        obtain rfl : sb = 1 := by omega
        clear hok hleft
        obtain ⟨g, rfl, hgB, hgl, h17, hcell⟩ := al.yes (Nat.le_refl _)
        have h112 := hbb (Nat.le_refl _)
        obtain ⟨x91, h91⟩ := Option.isSome_iff_exists.1 (c1.ha (by decide))
        obtain ⟨x94, h94⟩ := Option.isSome_iff_exists.1 (c1.hb (by decide))
        obtain ⟨x98, h98⟩ := Option.isSome_iff_exists.1 (c2.ha (by decide))
        obtain ⟨x101, h101⟩ := Option.isSome_iff_exists.1 (c2.hb (by decide))
        obtain ⟨x105, h105⟩ := Option.isSome_iff_exists.1 (c3.ha (by decide))
        obtain ⟨x108, h108⟩ := Option.isSome_iff_exists.1 (c3.hb (by decide))
        have h97 := c1.c rfl
        have h104 := c2.c rfl
        have h111 := c3.c rfl
        have up : ∀ k, k < W3.heap.size → k ≠ g := fun k hk => by omega
        have RI1 : RowIn deY (fun k => k ≠ g) wz v1 P3.decls := by
          rw [HP3.out.1]
          have ho := c1.own
          simp only [cn, cu, show ¬ (3 ≤ 1) by decide, show ¬ (3 = 2) by decide, if_false] at ho
          rw [← List.length_append] at ho
          exact rowIn_of_own (Y := deY) ho ((HX1.out.1.keep hb.size fun k _ hk => ⟨up k hk, hb.block k hk⟩).app (HX1.out.2.keep hb.size fun k _ hk => ⟨up k hk, hb.block k hk⟩)) (fun k e e2 => g1 k e (by rw [e2]))
        have RI2 : RowIn onY (fun k => k ≠ g) wz v2 P3.ons := by
          rw [HP3.out.2.1]
          have ho := c2.own
          simp only [cn, cu, show ¬ (3 ≤ 1) by decide, show ¬ (3 = 2) by decide, if_false] at ho
          rw [← List.length_append] at ho
          exact rowIn_of_own (Y := onY) ho ((HX2.out.1.keep hb.size fun k _ hk => ⟨up k hk, hb.block k hk⟩).app (HX2.out.2.keep hb.size fun k _ hk => ⟨up k hk, hb.block k hk⟩)) (fun k e e2 => g2 k e (by rw [e2]))
        have RI3 : RowIn ruY (fun k => k ≠ g) wz v3 P3.rules := by
          rw [HP3.out.2.2]
          have ho := c3.own
          simp only [cn, cu, show ¬ (3 ≤ 1) by decide, show ¬ (3 = 2) by decide, if_false] at ho
          rw [← List.length_append] at ho
          exact rowIn_of_own (Y := ruY) ho ((HX3.out.1.keep hb.size fun k _ hk => ⟨up k hk, hb.block k hk⟩).app (HX3.out.2.keep hb.size fun k _ hk => ⟨up k hk, hb.block k hk⟩)) (fun k e e2 => g3 k e (by rw [e2]))
        clear c1 c2 c3 al hbb d12 d13 d23 g1 g2 g3 up HX1 HX2 HX3 HY1 HY2 HY3 HLen
        clear e93 e96 e100 e103 e107 e110 esz
        obtain ⟨q1, l1, rfl⟩ := RI1.shape
        obtain ⟨q2, l2, rfl⟩ := RI2.shape
        obtain ⟨q3, l3, rfl⟩ := RI3.shape
        have e : over A0 f = (((((((((((A0.put (some 91) x91).put (some 94) x94).put (some 97) (.slice q1 P3.decls.length l1)).put (some 98) x98).put (some 101) x101).put (some 104) (.slice q2 P3.ons.length l2)).put (some 105) x105).put (some 108) x108).put (some 111) (.slice q3 P3.rules.length l3)).put (some 112) (.agg #[.slice q1 P3.decls.length l1, .slice q2 P3.ons.length l2, .slice q3 P3.rules.length l3])).put (some 17) (.pointer (some ⟨g, 0, none⟩))) := by
          rw [over_move A0 f 91 x91 h91, over_move _ _ 94 x94 (by simpa using h94), over_move _ _ 97 _ (by simpa using h97), over_move _ _ 98 x98 (by simpa using h98), over_move _ _ 101 x101 (by simpa using h101), over_move _ _ 104 _ (by simpa using h104), over_move _ _ 105 x105 (by simpa using h105), over_move _ _ 108 x108 (by simpa using h108), over_move _ _ 111 _ (by simpa using h111), over_move _ _ 112 _ (by simpa using h112), over_move _ _ 17 _ (by simpa using h17)]
          refine over_none _ _ fun i => ?_
          by_cases hi : i ∈ sixSlots
          · simp only [sixSlots, List.mem_cons, List.not_mem_nil, or_false] at hi
            rcases hi with rfl | rfl | rfl | rfl | rfl | rfl | rfl | rfl | rfl | rfl | rfl <;> simp
          · have hf := hsup i hi
            simp only [sixSlots, List.mem_cons, List.not_mem_nil, or_false, not_or] at hi
            simp [hi, hf]
        rw [e]
        clear e h91 h94 h97 h98 h101 h104 h105 h108 h111 h112 h17 hsup f
        subst hA0
        simp only [put_norm]
        have HF1 := Lib.hid RI1
        have HF2 := Lib.hid RI2
        have HF3 := Lib.hid RI3
        have HbZ := Lib.hid hb
        have HcZ := Lib.hid hcell
        have HgB := Lib.hid hgB
        clear RI1 RI2 RI3 hb hgB
        obtain ⟨⟨z0, z1, z2⟩, f0, f1, f2⟩ := cells3 hcell
        clear hcell
        refine wpAnyH_ready (rs := [23]) (by kernel_rfl) (by simp) ?_
        refine AllReadyH.cons rfl (fun K hK => ?_) AllReadyH.nil
        go_simp
        have hrow := rowS3_set (y0 := .slice q1 P3.decls.length l1) (y1 := .slice q2 P3.ons.length l2) (y2 := .slice q3 P3.rules.length l3) HcZ.out
        have BF : Below W3.heap.size W3 (((wz.setCell ⟨g, 0, none⟩ (.slice q1 P3.decls.length l1)).setCell ⟨g, 1, none⟩ (.slice q2 P3.ons.length l2)).setCell ⟨g, 2, none⟩ (.slice q3 P3.rules.length l3)) :=
          ((HbZ.out.setCell (p := ⟨g, 0, none⟩) HgB.out _).setCell (p := ⟨g, 1, none⟩) HgB.out _).setCell (p := ⟨g, 2, none⟩) HgB.out _
        have RF1 := HF1.out.keep (S' := fun k => k ≠ g) (w' := ((wz.setCell ⟨g, 0, none⟩ (.slice q1 P3.decls.length l1)).setCell ⟨g, 1, none⟩ (.slice q2 P3.ons.length l2)).setCell ⟨g, 2, none⟩ (.slice q3 P3.rules.length l3)) (by simp) (fun k hk _ => ⟨hk, set3_off hk⟩)
        have RF2 := HF2.out.keep (S' := fun k => k ≠ g) (w' := ((wz.setCell ⟨g, 0, none⟩ (.slice q1 P3.decls.length l1)).setCell ⟨g, 1, none⟩ (.slice q2 P3.ons.length l2)).setCell ⟨g, 2, none⟩ (.slice q3 P3.rules.length l3)) (by simp) (fun k hk _ => ⟨hk, set3_off hk⟩)
        have RF3 := HF3.out.keep (S' := fun k => k ≠ g) (w' := ((wz.setCell ⟨g, 0, none⟩ (.slice q1 P3.decls.length l1)).setCell ⟨g, 1, none⟩ (.slice q2 P3.ons.length l2)).setCell ⟨g, 2, none⟩ (.slice q3 P3.rules.length l3)) (by simp) (fun k hk _ => ⟨hk, set3_off hk⟩)
        refine hK.out _ _ BF (fun _ => ?_)
        clear hK K z0 z1 z2 f0 f1 f2 HF1 HF2 HF3 HbZ HcZ HgB
        generalize (((wz.setCell ⟨g, 0, none⟩ (.slice q1 P3.decls.length l1)).setCell ⟨g, 1, none⟩ (.slice q2 P3.ons.length l2)).setCell ⟨g, 2, none⟩ (.slice q3 P3.rules.length l3)) = WF at *
        obtain ⟨⟨z0, z1, z2⟩, -⟩ := cells3 hrow
        obtain ⟨⟨y0, y1, y2⟩, -⟩ := cells3 ((BF.block _ (Array.getElem?_eq_some_iff.1 Hr3.out).1).trans Hr3.out)
        have HBF := Lib.hid BF
        have HRF := Lib.hid (And.intro RF1 (And.intro RF2 RF3))
        clear hrow BF RF1 RF2 RF3
        refine wpAnyH_done (by kernel_rfl) ?_ _
        go_wp2_with fail
        refine (rsame_yes (a := P3) (HR.out.1.in_below HBF.out) HRF.out.1 (HR.out.2.1.in_below HBF.out) HRF.out.2.1 (HR.out.2.2.in_below HBF.out) HRF.out.2.2).mono ?_
        rintro y w6 ⟨rfl, hb6⟩
        have HB6 : Hid (Below w.heap.size w w6) := Lib.hid ((HA.out.trans (HBF.out.mono HA.out.size)).trans (hb6.mono (Nat.le_trans HA.out.size HBF.out.size)))
        clear hb6
        go_wp2_with fail
        refine (alive_any _ (HG.out.below HB6.out)).mono ?_
        rintro y w7 ⟨rfl, hb7⟩
        have HB7 := Lib.hid hb7
        clear hb7
        go_wp2_with fail
        go_ret
        exact ⟨rfl, HB6.out.trans (HB7.out.mono HB6.out.size)⟩
    · subst he1 he2
      clear hs1 hP1 hC1 hD1
      go_enter Tryz.func3, Tryz.ntmps3
      go_wp2_with fail
      refine (HC.out _).mono ?_
      rintro y w0 ⟨rfl, rfl⟩
      go_wp2_with fail
      refine (HD.out _).mono ?_
      rintro y w0 ⟨rfl, rfl⟩
      go_wp2_with fail
      refine (K1.out _ HG.out).mono ?_
      rintro y w1 ⟨hb1, p0, k0, p1, k1, p2, k2, rfl, g0, g1, g2⟩
      have HB1 := Lib.hid hb1
      have HR1 := Lib.hid (And.intro g0 (And.intro g1 g2))
      clear hb1 g0 g1 g2
      go_wp2_with fail
      have HA1 := Lib.hid (HB1.out.alloc HB1.out.size (.cells #[.slice p0 P1.decls.length k0, .slice p1 P1.ons.length k1, .slice p2 P1.rules.length k2] 27))
      refine (K2.out _ (HG.out.below HA1.out)).mono ?_
      rintro y w2 ⟨hb2, p0', k0', p1', k1', p2', k2', rfl, g0, g1, g2⟩
      have HB2 := Lib.hid hb2
      have HR2 := Lib.hid (And.intro g0 (And.intro g1 g2))
      clear hb2 g0 g1 g2
      go_wp2_with fail
      have HA2 := Lib.hid ((HA1.out.trans (HB2.out.mono HA1.out.size)).alloc (Nat.le_trans HA1.out.size HB2.out.size) (.cells #[.slice p0' P2.decls.length k0', .slice p1' P2.ons.length k1', .slice p2' P2.rules.length k2'] 27))
      refine (K3.out _ (HG.out.below HA2.out)).mono ?_
      rintro y w3 ⟨hb3, p0'', k0'', p1'', k1'', p2'', k2'', rfl, g0, g1, g2⟩
      have HB3 := Lib.hid hb3
      have HR3 := Lib.hid (And.intro g0 (And.intro g1 g2))
      have HA3 := Lib.hid ((HA2.out.trans (HB3.out.mono HA2.out.size)).alloc (Nat.le_trans HA2.out.size HB3.out.size) (.cells #[.slice p0'' P3.decls.length k0'', .slice p1'' P3.ons.length k1'', .slice p2'' P3.rules.length k2''] 27))
      clear hb3 g0 g1 g2
      go_wp2_with fail
      refine (alive_any _ (HG.out.below HA3.out)).mono ?_
      rintro y w7 ⟨rfl, hb7⟩
      have HB7 := Lib.hid hb7
      clear hb7
      go_wp2_with fail
      go_ret
      exact ⟨rfl, HA3.out.trans (HB7.out.mono HA3.out.size)⟩
    · subst he1 he2
      clear hs1 hP1 hC1 hD1
      go_enter Tryz.func3, Tryz.ntmps3
      go_wp2_with fail
      refine (HC.out _).mono ?_
      rintro y w0 ⟨rfl, rfl⟩
      go_wp2_with fail
      refine (HD.out _).mono ?_
      rintro y w0 ⟨rfl, rfl⟩
      go_wp2_with fail
      refine (K1.out _ HG.out).mono ?_
      rintro y w1 ⟨hb1, p0, k0, p1, k1, p2, k2, rfl, g0, g1, g2⟩
      have HB1 := Lib.hid hb1
      have HR1 := Lib.hid (And.intro g0 (And.intro g1 g2))
      clear hb1 g0 g1 g2
      go_wp2_with fail
      have HA1 := Lib.hid (HB1.out.alloc HB1.out.size (.cells #[.slice p0 P1.decls.length k0, .slice p1 P1.ons.length k1, .slice p2 P1.rules.length k2] 27))
      refine (K2.out _ (HG.out.below HA1.out)).mono ?_
      rintro y w2 ⟨hb2, p0', k0', p1', k1', p2', k2', rfl, g0, g1, g2⟩
      have HB2 := Lib.hid hb2
      have HR2 := Lib.hid (And.intro g0 (And.intro g1 g2))
      clear hb2 g0 g1 g2
      go_wp2_with fail
      have HA2 := Lib.hid ((HA1.out.trans (HB2.out.mono HA1.out.size)).alloc (Nat.le_trans HA1.out.size HB2.out.size) (.cells #[.slice p0' P2.decls.length k0', .slice p1' P2.ons.length k1', .slice p2' P2.rules.length k2'] 27))
      refine (K3.out _ (HG.out.below HA2.out)).mono ?_
      rintro y w3 ⟨hb3, p0'', k0'', p1'', k1'', p2'', k2'', rfl, g0, g1, g2⟩
      have HB3 := Lib.hid hb3
      have HR3 := Lib.hid (And.intro g0 (And.intro g1 g2))
      have HA3 := Lib.hid ((HA2.out.trans (HB3.out.mono HA2.out.size)).alloc (Nat.le_trans HA2.out.size HB3.out.size) (.cells #[.slice p0'' P3.decls.length k0'', .slice p1'' P3.ons.length k1'', .slice p2'' P3.rules.length k2''] 27))
      clear hb3 g0 g1 g2
      go_wp2_with fail
      refine (alive_any _ (HG.out.below HA3.out)).mono ?_
      rintro y w7 ⟨rfl, hb7⟩
      have HB7 := Lib.hid hb7
      clear hb7
      go_wp2_with fail
      go_ret
      exact ⟨rfl, HA3.out.trans (HB7.out.mono HA3.out.size)⟩
    · omega
  · subst he1
    by_cases hlt : n1 < C.size
    · have hlt' : (n1 : Int) < (C.size : Int) := by omega
      rcases words_ways X with ⟨hl, hww⟩ | ⟨hl, k, hk, hww⟩ | ⟨hl, hk, hww⟩
      · exact absurd hl (by have := HX6.out; omega)
      · have hWx := HWx.out (by omega)
        simp only [hww] at hWx
        have HWY := Lib.hid hWx
        clear hWx HWx hww hk hl hs1 hC1 hD1 hlt
        go_enter Tryz.func3, Tryz.ntmps3
        go_wp2_with fail
        refine (HC.out _).mono ?_
        rintro y w0 ⟨rfl, rfl⟩
        go_wp2_with fail
        refine (HD.out _).mono ?_
        rintro y w0 ⟨rfl, rfl⟩
        go_wp2_with fail
        refine (K1.out _ HG.out).mono ?_
        rintro y w1 ⟨hb1, p0, k0, p1, k1, p2, k2, rfl, g0, g1, g2⟩
        have HB1 := Lib.hid hb1
        have HR1 := Lib.hid (And.intro g0 (And.intro g1 g2))
        clear hb1 g0 g1 g2
        go_wp2_with fail
        have HA1 := Lib.hid (HB1.out.alloc HB1.out.size (.cells #[.slice p0 P1.decls.length k0, .slice p1 P1.ons.length k1, .slice p2 P1.rules.length k2] 27))
        refine (K2.out _ (HG.out.below HA1.out)).mono ?_
        rintro y w2 ⟨hb2, p0', k0', p1', k1', p2', k2', rfl, g0, g1, g2⟩
        have HB2 := Lib.hid hb2
        have HR2 := Lib.hid (And.intro g0 (And.intro g1 g2))
        clear hb2 g0 g1 g2
        go_wp2_with fail
        have HA2 := Lib.hid ((HA1.out.trans (HB2.out.mono HA1.out.size)).alloc (Nat.le_trans HA1.out.size HB2.out.size) (.cells #[.slice p0' P2.decls.length k0', .slice p1' P2.ons.length k1', .slice p2' P2.rules.length k2'] 27))
        refine (K3.out _ (HG.out.below HA2.out)).mono ?_
        rintro y w3 ⟨hb3, p0'', k0'', p1'', k1'', p2'', k2'', rfl, g0, g1, g2⟩
        have HB3 := Lib.hid hb3
        have HR3 := Lib.hid (And.intro g0 (And.intro g1 g2))
        have HA3 := Lib.hid ((HA2.out.trans (HB3.out.mono HA2.out.size)).alloc (Nat.le_trans HA2.out.size HB3.out.size) (.cells #[.slice p0'' P3.decls.length k0'', .slice p1'' P3.ons.length k1'', .slice p2'' P3.rules.length k2''] 27))
        clear hb3 g0 g1 g2
        go_wp2_with fail
        refine (HWY.out _).mono ?_
        rintro y w4 ⟨⟨v, rfl, ho⟩, hb4⟩
        obtain ⟨p4, k4, rfl, -⟩ := ownG_in ho
        have HA4 := Lib.hid (HA3.out.trans (hb4.mono HA3.out.size))
        clear ho hb4
        go_wp2_with fail
        refine (alive_any _ (HG.out.below HA4.out)).mono ?_
        rintro y w7 ⟨rfl, hb7⟩
        have HB7 := Lib.hid hb7
        clear hb7
        go_wp2_with fail
        go_ret
        exact ⟨rfl, HA4.out.trans (HB7.out.mono HA4.out.size)⟩
      · have hs3 : sayOf valL progR X.data.toList = .bad n1 := by
          rw [HXl.out]
          rw [HXl.out] at hk
          exact say_none valL_open hs1 (by rw [← Lib.size_eq]; exact hlt) hk
        rcases HW3.out with ⟨-, -, cs', hs', -⟩ | ⟨he3, -, hs'⟩ | ⟨-, -, hs'⟩ | ⟨-, hl⟩
        · exact absurd (hs'.symm.trans hs3) (by intro e; cases e)
        rotate_left
        · exact absurd (hs'.symm.trans hs3) (by intro e; cases e)
        · exact absurd hl (by have := HX6.out; omega)
        obtain rfl : n3 = n1 := by have := hs'.symm.trans hs3; injection this
        subst he3
        have hWx := HWx.out (by omega)
        simp only [hww] at hWx
        have HWY := Lib.hid hWx
        clear hWx HWx hww hk hl hs1 hs3 hs' hC1 hD1 hlt
        go_enter Tryz.func3, Tryz.ntmps3
        go_wp2_with fail
        refine (HC.out _).mono ?_
        rintro y w0 ⟨rfl, rfl⟩
        go_wp2_with fail
        refine (HD.out _).mono ?_
        rintro y w0 ⟨rfl, rfl⟩
        go_wp2_with fail
        refine (K1.out _ HG.out).mono ?_
        rintro y w1 ⟨hb1, p0, k0, p1, k1, p2, k2, rfl, g0, g1, g2⟩
        have HB1 := Lib.hid hb1
        have HR1 := Lib.hid (And.intro g0 (And.intro g1 g2))
        clear hb1 g0 g1 g2
        go_wp2_with fail
        have HA1 := Lib.hid (HB1.out.alloc HB1.out.size (.cells #[.slice p0 P1.decls.length k0, .slice p1 P1.ons.length k1, .slice p2 P1.rules.length k2] 27))
        refine (K2.out _ (HG.out.below HA1.out)).mono ?_
        rintro y w2 ⟨hb2, p0', k0', p1', k1', p2', k2', rfl, g0, g1, g2⟩
        have HB2 := Lib.hid hb2
        have HR2 := Lib.hid (And.intro g0 (And.intro g1 g2))
        clear hb2 g0 g1 g2
        go_wp2_with fail
        have HA2 := Lib.hid ((HA1.out.trans (HB2.out.mono HA1.out.size)).alloc (Nat.le_trans HA1.out.size HB2.out.size) (.cells #[.slice p0' P2.decls.length k0', .slice p1' P2.ons.length k1', .slice p2' P2.rules.length k2'] 27))
        refine (K3.out _ (HG.out.below HA2.out)).mono ?_
        rintro y w3 ⟨hb3, p0'', k0'', p1'', k1'', p2'', k2'', rfl, g0, g1, g2⟩
        have HB3 := Lib.hid hb3
        have HR3 := Lib.hid (And.intro g0 (And.intro g1 g2))
        have HA3 := Lib.hid ((HA2.out.trans (HB3.out.mono HA2.out.size)).alloc (Nat.le_trans HA2.out.size HB3.out.size) (.cells #[.slice p0'' P3.decls.length k0'', .slice p1'' P3.ons.length k1'', .slice p2'' P3.rules.length k2''] 27))
        clear hb3 g0 g1 g2
        go_wp2_with fail
        refine (HWY.out _).mono ?_
        rintro y w4 ⟨⟨v, rfl, ho⟩, hb4⟩
        obtain ⟨p4, k4, rfl, -⟩ := ownG_in ho
        have HA4 := Lib.hid (HA3.out.trans (hb4.mono HA3.out.size))
        clear ho hb4
        go_wp2_with fail
        refine (alive_any _ (HG.out.below HA4.out)).mono ?_
        rintro y w7 ⟨rfl, hb7⟩
        have HB7 := Lib.hid hb7
        clear hb7
        go_wp2_with fail
        go_ret
        exact ⟨rfl, HA4.out.trans (HB7.out.mono HA4.out.size)⟩
    · have hlt' : ¬ (n1 : Int) < (C.size : Int) := by omega
      clear hs1 hC1 hD1 hlt
      go_enter Tryz.func3, Tryz.ntmps3
      go_wp2_with fail
      refine (HC.out _).mono ?_
      rintro y w0 ⟨rfl, rfl⟩
      go_wp2_with fail
      refine (HD.out _).mono ?_
      rintro y w0 ⟨rfl, rfl⟩
      go_wp2_with fail
      refine (K1.out _ HG.out).mono ?_
      rintro y w1 ⟨hb1, p0, k0, p1, k1, p2, k2, rfl, g0, g1, g2⟩
      have HB1 := Lib.hid hb1
      have HR1 := Lib.hid (And.intro g0 (And.intro g1 g2))
      clear hb1 g0 g1 g2
      go_wp2_with fail
      have HA1 := Lib.hid (HB1.out.alloc HB1.out.size (.cells #[.slice p0 P1.decls.length k0, .slice p1 P1.ons.length k1, .slice p2 P1.rules.length k2] 27))
      refine (K2.out _ (HG.out.below HA1.out)).mono ?_
      rintro y w2 ⟨hb2, p0', k0', p1', k1', p2', k2', rfl, g0, g1, g2⟩
      have HB2 := Lib.hid hb2
      have HR2 := Lib.hid (And.intro g0 (And.intro g1 g2))
      clear hb2 g0 g1 g2
      go_wp2_with fail
      have HA2 := Lib.hid ((HA1.out.trans (HB2.out.mono HA1.out.size)).alloc (Nat.le_trans HA1.out.size HB2.out.size) (.cells #[.slice p0' P2.decls.length k0', .slice p1' P2.ons.length k1', .slice p2' P2.rules.length k2'] 27))
      refine (K3.out _ (HG.out.below HA2.out)).mono ?_
      rintro y w3 ⟨hb3, p0'', k0'', p1'', k1'', p2'', k2'', rfl, g0, g1, g2⟩
      have HB3 := Lib.hid hb3
      have HR3 := Lib.hid (And.intro g0 (And.intro g1 g2))
      have HA3 := Lib.hid ((HA2.out.trans (HB3.out.mono HA2.out.size)).alloc (Nat.le_trans HA2.out.size HB3.out.size) (.cells #[.slice p0'' P3.decls.length k0'', .slice p1'' P3.ons.length k1'', .slice p2'' P3.rules.length k2''] 27))
      clear hb3 g0 g1 g2
      go_wp2_with fail
      refine (alive_any _ (HG.out.below HA3.out)).mono ?_
      rintro y w7 ⟨rfl, hb7⟩
      have HB7 := Lib.hid hb7
      clear hb7
      go_wp2_with fail
      go_ret
      exact ⟨rfl, HA3.out.trans (HB7.out.mono HA3.out.size)⟩
  · subst he1
    clear hC1 hD1
    go_enter Tryz.func3, Tryz.ntmps3
    go_wp2_with fail
    refine (HC.out _).mono ?_
    rintro y w0 ⟨rfl, rfl⟩
    go_wp2_with fail
    refine (HD.out _).mono ?_
    rintro y w0 ⟨rfl, rfl⟩
    go_wp2_with fail
    refine (K1.out _ HG.out).mono ?_
    rintro y w1 ⟨hb1, p0, k0, p1, k1, p2, k2, rfl, g0, g1, g2⟩
    have HB1 := Lib.hid hb1
    have HR1 := Lib.hid (And.intro g0 (And.intro g1 g2))
    clear hb1 g0 g1 g2
    go_wp2_with fail
    have HA1 := Lib.hid (HB1.out.alloc HB1.out.size (.cells #[.slice p0 P1.decls.length k0, .slice p1 P1.ons.length k1, .slice p2 P1.rules.length k2] 27))
    refine (K2.out _ (HG.out.below HA1.out)).mono ?_
    rintro y w2 ⟨hb2, p0', k0', p1', k1', p2', k2', rfl, g0, g1, g2⟩
    have HB2 := Lib.hid hb2
    have HR2 := Lib.hid (And.intro g0 (And.intro g1 g2))
    clear hb2 g0 g1 g2
    go_wp2_with fail
    have HA2 := Lib.hid ((HA1.out.trans (HB2.out.mono HA1.out.size)).alloc (Nat.le_trans HA1.out.size HB2.out.size) (.cells #[.slice p0' P2.decls.length k0', .slice p1' P2.ons.length k1', .slice p2' P2.rules.length k2'] 27))
    refine (K3.out _ (HG.out.below HA2.out)).mono ?_
    rintro y w3 ⟨hb3, p0'', k0'', p1'', k1'', p2'', k2'', rfl, g0, g1, g2⟩
    have HB3 := Lib.hid hb3
    have HR3 := Lib.hid (And.intro g0 (And.intro g1 g2))
    have HA3 := Lib.hid ((HA2.out.trans (HB3.out.mono HA2.out.size)).alloc (Nat.le_trans HA2.out.size HB3.out.size) (.cells #[.slice p0'' P3.decls.length k0'', .slice p1'' P3.ons.length k1'', .slice p2'' P3.rules.length k2''] 27))
    clear hb3 g0 g1 g2
    go_wp2_with fail
    refine (alive_any _ (HG.out.below HA3.out)).mono ?_
    rintro y w7 ⟨rfl, hb7⟩
    have HB7 := Lib.hid hb7
    clear hb7
    go_wp2_with fail
    go_ret
    exact ⟨rfl, HA3.out.trans (HB7.out.mono HA3.out.size)⟩
  · omega
end
section
open Go Go.RowKit Go.Shelf

theorem parseBehind_any (s t : ByteArray) (w : World) (hm : s.size ≤ 140737488355328) (hn : t.size ≤ 140737488355328) (G : Glob w) :
    Calls Tryz.prog 3 #[.string s, .string t] w fun e w' => e = .returned (.bool true) ∧ Below w.heap.size w w' := parseBehind_walk rwords_any s t w hm hn G
end
section
open Go Go.RowKit

open Go.ChangeShapes Go.WideShapes Go.ChangeAt
set_option maxRecDepth 100000 in
theorem lifted_parseBehind_any (os : Os) (started : os.Started) (H : Type) (enc : TypeId × Value → H) :
    ReturnsInHanded {} Tryz.checked os 3 .any (fun w args => (Rows.parseBehindSpec.pre enc Tryz.prog Tryz.f3 [] false w args ∧ laidMetH Tryz.prog laid6 w) ∧ sizedMet enc Tryz.prog Tryz.f3 (OpenSpec.ofChange Rows.parseBehindSpec) false w args)
      (Rows.parseBehindSpec.post enc Tryz.prog Tryz.f3 false true false false) := by
  refine returnsInHanded_of_change_and (C := Tryz.checked) (X := fun w _ => laidMetH Tryz.prog laid6 w) (fun _ _ _ hh h => h.of_heap hh) own started (by kernel_rfl) Tryz.func3
    (ChangeSpec.witness_shaped (enc := enc) (C := Tryz.checked) (os := os) (X := fun w _ => laidMetH Tryz.prog laid6 w) false (World.doorLaid Tryz.prog 400 os) #[.string ⟨#[]⟩, .string ⟨#[]⟩] 8 rfl (World.shaped_of_RefB (by kernel_rfl) (by kernel_rfl)) (by kernel_rfl) (by kernel_rfl) (by kernel_rfl) (door_met os _)) ?_
  intro W base args ds gs before hval0 hW _ hsz0 hL _
  have hval : ∀ (j : Nat) t v, Tryz.f3.params[j]? = some t → args[j]? = some v → Value.okWide Tryz.prog W .any base t v := hval0
  have hW' := hW
  obtain ⟨p, q, hA0, hV, rfl, hfz, hnd⟩ := hW
  have hA : DataW.TrodAll enc Tryz.prog W 0 (fun _ => true) true Tryz.f3.params.toList args.toList ds p := hA0
  have hsz : ∀ (j : Nat) (t : TypeId) (d : DataW H), Tryz.f3.params.toList[j]? = some t → ds[j]? = some d → ∀ n ∈ d.weights Tryz.prog t, n ≤ reachBytes := fun j t d ht hd n hn =>
    of_decide_eq_true (List.all_eq_true.1 hsz0 n (DataW.weights_mem_each (j := j) (by rw [List.getElem?_append_left (List.getElem?_eq_some_iff.1 ht).1]; exact ht) (by rw [List.getElem?_append_left (List.getElem?_eq_some_iff.1 hd).1]; exact hd) n hn))
  rw [Tryz.params3] at hA hval hsz
  obtain ⟨v0, vs0, d0, ds0, p0, q0, hargs, rfl, rfl, h0, r0⟩ := trodAll_cons hA
  obtain ⟨v1, vs1, d1, ds1, p1, q1, rfl, rfl, rfl, h1, r1⟩ := trodAll_cons r0
  obtain ⟨rfl, rfl, rfl⟩ := trodAll_nil r1
  obtain rfl : args = #[v0, v1] := by cases args; simp_all
  obtain ⟨rfl, rfl⟩ := trodVars_none hV
  have t0 := h0
  have lt0 : ∀ x ∈ p0, x.block < W.heap.size := by obtain ⟨m, hm⟩ := t0; exact DataW.trod_lt m _ _ _ hm
  have t1 := h1
  have lt1 : ∀ x ∈ p1, x.block < W.heap.size := by obtain ⟨m, hm⟩ := t1; exact DataW.trod_lt m _ _ _ hm
  obtain ⟨s0v, rfl, rfl, -, -⟩ := ChangeMaps.open_string Tryz.underlying9 (hval 0 9 v0 rfl rfl) h0
  have iz0 : s0v.size ≤ 140737488355328 := by
    have hz := hsz 0 9 _ rfl rfl s0v.data.toList.length (by simp [DataW.weights])
    rw [← Lib.size_eq] at hz
    unfold reachBytes at hz
    omega
  obtain ⟨s1v, rfl, rfl, -, -⟩ := ChangeMaps.open_string Tryz.underlying9 (hval 1 9 v1 rfl rfl) h1
  have iz1 : s1v.size ≤ 140737488355328 := by
    have hz := hsz 1 9 _ rfl rfl s1v.data.toList.length (by simp [DataW.weights])
    rw [← Lib.size_eq] at hz
    unfold reachBytes at hz
    omega
  clear hA0 hval0 hsz0 hsz
  refine (parseBehind_any s0v s1v W iz0 iz1 (glob_of_laid hL)).mono fun e W' ⟨he, bel⟩ => ?_
  subst he
  exact ⟨_, rfl, _, _, _, [], _, [], hW', trodAll_mk1 (shut_bool Tryz.underlying4 _), (trodAll_cons_mk (Below.trod laidOut (by kernel_rfl) (of_decide_eq_true (by kernel_rfl)) t0 bel lt0) (trodAll_cons_mk (Below.trod laidOut (by kernel_rfl) (of_decide_eq_true (by kernel_rfl)) t1 bel lt1) trodAll_mk0)), rfl, bel.frame _, fun h => by cases h⟩

theorem holds_parseBehind_any : Rows.ParseBehindSaid :=
  OpenClaim.holds_of_wide 3 Tryz.f3 rfl rfl rfl rfl rfl rfl rfl ⟨rfl, rfl, rfl, rfl, rfl⟩ rfl rfl rfl rfl rfl (by kernel_rfl) Tryz.func3 (by kernel_rfl)
    (of_decide_eq_true (by kernel_rfl)) (by unfold Func.isWrapper; rw [if_neg (of_decide_eq_false (by kernel_rfl))]; exact ⟨rfl, rfl⟩)
    (fun os started H enc _ => lifted_parseBehind_any os started H enc)

theorem card_parseBehind_any : Rows.ParseBehindCardSaid :=
  Claim7.holds_tied_plain_at .later [] Rows.parseBehindCard.laidKinds true Rows.parseBehindCard.stood.harness Rows.parseBehindCard.stood.looks
    holds_parseBehind_any (fun _ h => by cases h) (by kernel_rfl) (fun _ h => by cases h) parseBehind_row_tie rfl ⟨rfl, rfl⟩ (by kernel_rfl) rfl
    (fun f fn hf hfn => by
      obtain rfl : f = 3 := Option.some.inj ((show Tryz.prog.funcNamed "pedigree/pedigreelaw13.ParseBehind" = some 3 by kernel_rfl).symm.trans hf) |>.symm
      obtain rfl : fn = Tryz.f3 := (Option.some.inj (Tryz.func3.symm.trans hfn)).symm
      exact ⟨by kernel_rfl, fun j t ht => by
        rw [Tryz.params3] at ht
        have hm : t ∈ [9, 9] := by simpa using Array.mem_of_getElem? ht
        have hall : ([9, 9].all fun u => !Tryz.prog.wantsStandIn u) = true := by kernel_rfl
        exact (show Tryz.prog.wantsStandIn t = false by simpa using List.all_eq_true.1 hall t hm)⟩)
    (by kernel_rfl)
#print axioms card_parseBehind_any

end
end Go.Proofs.YtpemmgbopknopaaGreatDoor

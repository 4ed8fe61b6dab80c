/-
  The walk of MergeSets.
-/
import Derived.Test.YtlccleafjpeccaaMhT
namespace Go.Proofs.Ytlccleafjpeccaa
open Go Go.RowKit Go.Shelf

def FourC (b1 o1 n b2 o2 m : Nat) (x y : Th) (X : World) : Prop := X.cell? ⟨b1, o1 + n * 2, none⟩ = some (.int .i8 x.1) ∧ X.cell? ⟨b1, o1 + n * 2 + 1, none⟩ = some (.int .i64 x.2) ∧ X.cell? ⟨b2, o2 + m * 2, none⟩ = some (.int .i8 y.1) ∧ X.cell? ⟨b2, o2 + m * 2 + 1, none⟩ = some (.int .i64 y.2)
theorem FourC.below {b1 o1 n b2 o2 m : Nat} {x y : Th} {W W' : World} (hb : Below W.heap.size W W') (h : FourC b1 o1 n b2 o2 m x y W) : FourC b1 o1 n b2 o2 m x y W' := by
  obtain ⟨h1, h2, h3, h4⟩ := h
  have g : ∀ {b o v}, W.cell? ⟨b, o, none⟩ = some v → W'.cell? ⟨b, o, none⟩ = some v := fun {b o v} e => (hb.cell (p := ⟨b, o, none⟩) (World.block_lt_of_cell? W _ e)).trans e
  exact ⟨g h1, g h2, g h3, g h4⟩
set_option maxRecDepth 100000 in
set_option maxHeartbeats 20000000 in
theorem lsets (va : Value) (A0 : List Th) (vb : Value) (B0 : List Th) (w : World) (ha : ThIn (fun b => b < w.heap.size) w va A0) (hb : ThIn (fun b => b < w.heap.size) w vb B0) :
    Calls Try.prog 9 #[va, vb] w fun e w' => e = .returned (.bool true) ∧ Below w.heap.size w w' := by
  have HA0 := Lib.hid ha
  have HB0 := Lib.hid hb
  obtain ⟨pa, ca, rfl, -⟩ := ha
  obtain ⟨pb, cb, rfl, -⟩ := hb
  obtain ⟨M1, hM1⟩ : ∃ M, M = mergeL (oneL (A0.take 30)) := ⟨_, rfl⟩
  obtain ⟨M2, hM2⟩ : ∃ M, M = mergeL (oneL (B0.take 30)) := ⟨_, rfl⟩
  obtain ⟨A, hA⟩ : ∃ A, A = setL A0 := ⟨_, rfl⟩
  obtain ⟨B, hB⟩ : ∃ B, B = setL B0 := ⟨_, rfl⟩
  obtain ⟨sA, lA, mA⟩ := setL_facts A0
  obtain ⟨sB, lB, mB⟩ := setL_facts B0
  have eA : onceL (mergeL [M1]) = A := by rw [hM1, hA]; rfl
  have eB : onceL (mergeL [M2]) = B := by rw [hM2, hB]; rfl
  have HSa := Lib.hid (single_any HA0.out)
  rw [← hM1] at mA HSa
  rw [← hM2] at mB
  rw [← hA] at sA lA
  rw [← hB] at sB lB
  have HL := Lib.hid (And.intro lA (And.intro lB (And.intro mA mB)))
  have HST := Lib.hid (And.intro sA sB)
  have HEA := Lib.hid eA
  have HEB := Lib.hid eB
  have HM2 := Lib.hid hM2
  clear hM1 hM2 hA hB sA lA mA sB lB mB eA eB
  go_enter Try.func9, Try.ntmps9
  go_wp2_with fail
  refine HSa.out.mono ?_
  rintro e w1 ⟨v1, rfl, ho1, hb1⟩
  have B1 := Lib.hid hb1
  have ht1 : ThIn (fun k => True ∧ k < w1.heap.size) w1 v1 M1 := ho1.in_ _ (fun k e => ⟨trivial, (ho1.lt k e).2⟩)
  obtain ⟨p1, c1, rfl, -⟩ := id ht1
  have HRm := Lib.hid (rmerge_any (RowsIn.lit (S := fun _ => True) ht1 trivial) (by simp) (by have := HL.out.2.2.1; simp [tot]; omega))
  have HBz := Lib.hid (hb1.trans ((below_new' w1 (.cells #[.slice p1 M1.length c1] 22)).mono hb1.size))
  clear ho1 hb1 ht1 HSa
  go_wp2_with fail
  refine HRm.out.mono ?_
  rintro e w2 ⟨v2, rfl, ho2, hb2⟩
  have B2 := Lib.hid (HBz.out.trans (hb2.mono HBz.out.size))
  have HRo := Lib.hid (ronce_any (ho2.in_ (fun _ => True) (fun _ _ => trivial)) (by rw [mergeL_len]; have := HL.out.2.2.1; simp [tot]; omega))
  rw [HEA.out] at HRo
  clear ho2 hb2 HRm HBz
  go_wp2_with fail
  refine HRo.out.mono ?_
  rintro e w3 ⟨v3, rfl, ho3, hb3⟩
  have B3 := Lib.hid (B2.out.trans (hb3.mono B2.out.size))
  have hta : ThIn (fun k => k < w3.heap.size) w3 v3 A := ho3.in_ _ (fun k e => (ho3.lt k e).2)
  have HTa := Lib.hid (fun W (hb : Below w3.heap.size w3 W) => hta.keep (S' := fun _ => True) hb.size (fun k e _ => ⟨trivial, hb.block k e⟩))
  obtain ⟨pA, cA, rfl, hcA, -⟩ := id hta
  have HSb := Lib.hid (single_any (HB0.out.up B3.out))
  rw [← HM2.out] at HSb
  clear ho3 hb3 hta HRo
  have D3 := Lib.hid (Below.refl w3.heap.size w3)
  go_wp2_with fail
  refine HSb.out.mono ?_
  rintro e w4 ⟨v4, rfl, ho4, hb4⟩
  have D4 := Lib.hid hb4
  have ht4 : ThIn (fun k => True ∧ k < w4.heap.size) w4 v4 M2 := ho4.in_ _ (fun k e => ⟨trivial, (ho4.lt k e).2⟩)
  obtain ⟨p4, c4, rfl, -⟩ := id ht4
  have HRm := Lib.hid (rmerge_any (RowsIn.lit (S := fun _ => True) ht4 trivial) (by simp) (by have := HL.out.2.2.2; simp [tot]; omega))
  have HBz := Lib.hid (hb4.trans ((below_new' w4 (.cells #[.slice p4 M2.length c4] 22)).mono hb4.size))
  clear ho4 hb4 ht4 HSb
  go_wp2_with fail
  refine HRm.out.mono ?_
  rintro e w5 ⟨v5, rfl, ho5, hb5⟩
  have D5 := Lib.hid (HBz.out.trans (hb5.mono HBz.out.size))
  have HRo := Lib.hid (ronce_any (ho5.in_ (fun _ => True) (fun _ _ => trivial)) (by rw [mergeL_len]; have := HL.out.2.2.2; simp [tot]; omega))
  rw [HEB.out] at HRo
  clear ho5 hb5 HRm HBz
  go_wp2_with fail
  refine HRo.out.mono ?_
  rintro e w6 ⟨v6, rfl, ho6, hb6⟩
  have D6 := Lib.hid (D5.out.trans (hb6.mono D5.out.size))
  have htb : ThIn (fun k => k < w6.heap.size) w6 v6 B := ho6.in_ _ (fun k e => (ho6.lt k e).2)
  have HTb := Lib.hid (fun W (hb : Below w6.heap.size w6 W) => htb.keep (S' := fun _ => True) hb.size (fun k e _ => ⟨trivial, hb.block k e⟩))
  obtain ⟨pB, cB, rfl, hcB, -⟩ := id htb
  have HTA := Lib.hid (fun W (hb : Below w6.heap.size w6 W) => HTa.out W (D6.out.trans (hb.mono D6.out.size)))
  have B6 := Lib.hid (B3.out.trans (D6.out.mono B3.out.size))
  clear ho6 hb6 htb HRo HTa
  have E6 := Lib.hid (Below.refl w6.heap.size w6)
  go_wp2_with fail
  refine (of_any (HTA.out w6 E6.out) (by have := HL.out.1; omega)).mono ?_
  rintro e w7 ⟨b7, Y7, rfl, hm7, hy7, hb7⟩
  have E7 := Lib.hid hb7
  have HM7 := Lib.hid (And.intro hm7 hy7)
  clear hm7 hy7 hb7
  go_wp2_with fail
  refine (of_any (HTb.out w7 E7.out) (by have := HL.out.2.1; omega)).mono ?_
  rintro e w8 ⟨b8, Y8, rfl, hm8, hy8, hb8⟩
  have E8 := Lib.hid (E7.out.trans (hb8.mono E7.out.size))
  have HC := Lib.hid (both_any (a := (some b7, A)) (b := (some b8, B)) (F := Y7) (G := Y8) (w := w8) (HM7.out.1.below hb8) hm8 (fun k e e' => by have := HM7.out.1.inside k e; have := hy8 k e'; omega))
  have HY := Lib.hid (show ∀ k, (Y7 k ∨ Y8 k) ∨ w8.heap.size ≤ k → w6.heap.size ≤ k from fun k e => by
    have := E7.out.size
    have := E8.out.size
    rcases e with (e | e) | e
    · exact HM7.out.2 k e
    · have := hy8 k e; omega
    · omega)
  clear hm8 hy8 hb8 HM7
  go_wp2_with fail
  refine HC.out.mono ?_
  rintro e w9 ⟨b9, Y9, rfl, hm9, hy9, hb9⟩
  have hfx := among_filter true A B (strict_rise HST.out.1) (strict_rise HST.out.2)
  have hm9 : MadeAt Tt b9 Y9 (onlyL (amStep true) B A) w9 := hm9
  rw [hfx] at hm9
  have E9 := Lib.hid (E8.out.trans (hb9.mono E8.out.size))
  have HM9 := Lib.hid (And.intro hm9 (show ∀ k, Y9 k → w6.heap.size ≤ k from fun k e => HY.out k (hy9 k e)))
  clear hm9 hy9 hb9 HC HY hfx
  obtain ⟨X, hX⟩ : ∃ X, X = A.filter (pT B true) := ⟨_, rfl⟩
  have hXl : X.length ≤ 30 := by rw [hX]; exact Nat.le_trans (List.length_filter_le _ _) HL.out.1
  rw [← hX] at HM9
  have HX := Lib.hid hX
  have HXl := Lib.hid hXl
  clear hX hXl
  go_wp2_with fail
  refine (rest_any HM9.out.1 (by have := HXl.out; omega)).mono ?_
  rintro e w10 ⟨v10, rfl, ho10, hu10, -⟩
  have E10 := Lib.hid (E9.out.trans (hu10.below E9.out.size (fun x _ e => HM9.out.2 x e)))
  have htx : ThIn (fun k => k < w10.heap.size) w10 v10 X := ho10.in_ _ (fun k e => (ho10.lt k e).2)
  have HTx := Lib.hid (fun W (hb : Below w10.heap.size w10 W) => htx.keep (S' := fun _ => True) hb.size (fun k e _ => ⟨trivial, hb.block k e⟩))
  obtain ⟨pX, cX, rfl, hcX, -⟩ := id htx
  have F10 := Lib.hid (Below.refl w10.heap.size w10)
  clear ho10 hu10 htx HM9
  go_wp2_with fail
  refine (of_any (HTA.out w10 E10.out) (by have := HL.out.1; omega)).mono ?_
  rintro e w11 ⟨b11, Y11, rfl, hm11, hy11, hb11⟩
  have F11 := Lib.hid hb11
  have HM11 := Lib.hid (And.intro hm11 hy11)
  clear hm11 hy11 hb11
  go_wp2_with fail
  refine (of_any (HTb.out w11 (E10.out.trans (F11.out.mono E10.out.size))) (by have := HL.out.2.1; omega)).mono ?_
  rintro e w12 ⟨b12, Y12, rfl, hm12, hy12, hb12⟩
  have F12 := Lib.hid (F11.out.trans (hb12.mono F11.out.size))
  have HC := Lib.hid (less_any (a := (some b11, A)) (b := (some b12, B)) (F := Y11) (G := Y12) (w := w12) (HM11.out.1.below hb12) hm12 (fun k e e' => by have := HM11.out.1.inside k e; have := hy12 k e'; omega))
  have HY := Lib.hid (show ∀ k, (Y11 k ∨ Y12 k) ∨ w12.heap.size ≤ k → w10.heap.size ≤ k from fun k e => by
    have := F11.out.size
    have := F12.out.size
    rcases e with (e | e) | e
    · exact HM11.out.2 k e
    · have := hy12 k e; omega
    · omega)
  clear hm12 hy12 hb12 HM11
  go_wp2_with fail
  refine HC.out.mono ?_
  rintro e w13 ⟨b13, Y13, rfl, hm13, hy13, hb13⟩
  have hfx := among_filter false A B (strict_rise HST.out.1) (strict_rise HST.out.2)
  have hm13 : MadeAt Tt b13 Y13 (onlyL (amStep false) B A) w13 := hm13
  rw [hfx] at hm13
  have F13 := Lib.hid (F12.out.trans (hb13.mono F12.out.size))
  have HM13 := Lib.hid (And.intro hm13 (show ∀ k, Y13 k → w10.heap.size ≤ k from fun k e => HY.out k (hy13 k e)))
  clear hm13 hy13 hb13 HC HY hfx
  obtain ⟨Z, hZ⟩ : ∃ Z, Z = A.filter (pT B false) := ⟨_, rfl⟩
  have hZl : Z.length ≤ 30 := by rw [hZ]; exact Nat.le_trans (List.length_filter_le _ _) HL.out.1
  rw [← hZ] at HM13
  have HZ := Lib.hid hZ
  have HZl := Lib.hid hZl
  clear hZ hZl
  go_wp2_with fail
  refine (rest_any HM13.out.1 (by have := HZl.out; omega)).mono ?_
  rintro e w14 ⟨v14, rfl, ho14, hu14, -⟩
  have F14 := Lib.hid (F13.out.trans (hu14.below F13.out.size (fun x _ e => HM13.out.2 x e)))
  have htz : ThIn (fun k => k < w14.heap.size) w14 v14 Z := ho14.in_ _ (fun k e => (ho14.lt k e).2)
  have HTz := Lib.hid (fun W (hb : Below w14.heap.size w14 W) => htz.keep (S' := fun _ => True) hb.size (fun k e _ => ⟨trivial, hb.block k e⟩))
  obtain ⟨pZ, cZ, rfl, hcZ, -⟩ := id htz
  have HAll := Lib.hid (show ∀ W, Below w14.heap.size w14 W → ThIn (fun _ => True) W (.slice pA A.length cA) A ∧ ThIn (fun _ => True) W (.slice pB B.length cB) B ∧ ThIn (fun _ => True) W (.slice pX X.length cX) X ∧ ThIn (fun _ => True) W (.slice pZ Z.length cZ) Z from fun W hb => by
    have h10 := F14.out.trans (hb.mono F14.out.size)
    have h6 := E10.out.trans (h10.mono E10.out.size)
    exact ⟨HTA.out W h6, HTb.out W h6, HTx.out W h10, HTz.out W hb⟩)
  have B14 := Lib.hid (B6.out.trans ((E10.out.trans (F14.out.mono E10.out.size)).mono B6.out.size))
  have H0 := Lib.hid (show SsJ A B w14 0 0 0 w14 from ⟨rfl, rfl, Below.refl _ _⟩)
  clear ho14 hu14 htz HM13 HTA HTb HTx HTz
  go_wp2_with fail
  go_loopw [9, 10, 11] (fun i k n wr => ∃ nn ci ck : Nat, nn ≤ A.length ∧ i = .int .i64 ci ∧ k = .int .i64 ck ∧ n = .int .i64 nn ∧ Hid (SsJ A B w14 nn ci ck wr)) (fun _ _ n _ => A.length - (intOf n).toNat)
  case atStart => exact ⟨0, 0, 0, Nat.zero_le _, rfl, rfl, rfl, H0⟩
  case round =>
    obtain ⟨n, ci, ck, hn, rfl, rfl, rfl, HJ⟩ := hrel
    by_cases hlt : n < A.length
    · have hlt' : (n : Int) < (A.length : Int) := by omega
      have hn63 : (n : Int) + 1 ≤ 1000 := by have := HL.out.1; omega
      obtain ⟨x, hx⟩ : ∃ x, x = A[n] := ⟨_, rfl⟩
      obtain ⟨hta, htb, -, -⟩ := HAll.out wr HJ.out.2.2
      obtain ⟨bA, oA, cA', eA, -, xa0, xa1⟩ := hta.cell_at (j := n) (x := x) (by rw [hx]; exact List.getElem?_eq_getElem hlt)
      injection eA with eA _ eC
      subst eA eC
      have HXx := Lib.hid hx
      have HAc := Lib.hid (show ∀ W, Below wr.heap.size wr W → W.cell? ⟨bA, oA + n * 2, none⟩ = some (.int .i8 x.1) ∧ W.cell? ⟨bA, oA + n * 2 + 1, none⟩ = some (.int .i64 x.2) from fun W hb => ⟨(hb.cell (p := ⟨bA, _, none⟩) (World.block_lt_of_cell? wr _ xa0)).trans xa0, (hb.cell (p := ⟨bA, _, none⟩) (World.block_lt_of_cell? wr _ xa1)).trans xa1⟩)
      clear hta htb hx xa0 xa1
      obtain ⟨wo, rfl⟩ : ∃ wo, wo = wr := ⟨_, rfl⟩
      go_wp2_with fail
      go_loopw [12, 13] (fun t m wq => ∃ (mm : Nat) (tb : Bool), mm ≤ B.length ∧ t = .bool tb ∧ m = .int .i64 mm ∧ Hid (tb = (B.take mm).any (fun b => cmpT2 x b == 0) ∧ Below wo.heap.size wo wq)) (fun _ m _ => B.length - (intOf m).toNat)
      case atStart => exact ⟨0, false, Nat.zero_le _, rfl, rfl, Lib.hid ⟨rfl, Below.refl _ _⟩⟩
      case round =>
        obtain ⟨m, tb, hm, rfl, rfl, HR⟩ := hrel
        by_cases hml : m < B.length
        · have hml' : (m : Int) < (B.length : Int) := by omega
          have hm63 : (m : Int) + 1 ≤ 1000 := by have := HL.out.2.1; omega
          obtain ⟨y, hy⟩ : ∃ y, y = B[m] := ⟨_, rfl⟩
          have HAn := Lib.hid (show (B.take (m + 1)).any (fun b => cmpT2 x b == 0) = (tb || cmpT2 x y == 0) by rw [List.take_succ_eq_append_getElem hml, List.any_append, ← HR.out.1, hy]; simp)
          have HBd := Lib.hid (HR.out.2.drew)
          obtain ⟨-, htb, -, -⟩ := HAll.out wr (HJ.out.2.2.trans (HR.out.2.mono HJ.out.2.2.size))
          obtain ⟨bB, oB, cB', eB, -, yb0, yb1⟩ := htb.cell_at (j := m) (x := y) (by rw [hy]; exact List.getElem?_eq_getElem hml)
          injection eB with eB _ eC
          subst eB eC
          obtain ⟨xa0, xa1⟩ := HAc.out wr HR.out.2
          have HF := Lib.hid (show FourC bA oA n bB oB m x y wr from ⟨xa0, xa1, yb0, yb1⟩)
          clear htb hy xa0 xa1 yb0 yb1
          cases tb with
          | true =>
            go_wp2_with fail
            go_region
            go_wp2_with fail
            go_roundw
            case rel => exact ⟨m + 1, true, hml, rfl, by simp, Lib.hid ⟨by rw [HAn.out]; rfl, HBd.out⟩⟩
            case measure => simp [intOf]; omega
          | false =>
            obtain ⟨z, hz⟩ : ∃ z, z = cmpT2 x y := ⟨_, rfl⟩
            rw [← hz] at HAn
            have HZz := Lib.hid hz
            clear hz
            by_cases hz0 : z = 0
            · subst hz0
              go_wp2_with fail
              go_region_held3 (fun X => X.cell? ⟨bA, oA + n * 2, none⟩ = some (.int .i8 x.1) ∧ X.cell? ⟨bA, oA + n * 2 + 1, none⟩ = some (.int .i64 x.2) ∧ X.cell? ⟨bB, oB + m * 2, none⟩ = some (.int .i8 y.1) ∧ X.cell? ⟨bB, oB + m * 2 + 1, none⟩ = some (.int .i64 y.2)) (first | exact HF.out | exact HF4.out)
                ((go_at_call 22; refine (cmp_any x y _).mono ?_; rintro e w4 ⟨rfl, hb4⟩; rw [← HZz.out]; have HB4 := Lib.hid (HBd.out.trans (hb4.mono HBd.out.size)); have HF4 := Lib.hid (HF.out.below ((Below.refl _ _).drew.trans hb4)); clear hb4))
              go_wp2_with fail
              go_roundw
              case rel => exact ⟨m + 1, true, hml, rfl, by simp, Lib.hid ⟨by rw [HAn.out]; rfl, HB4.out⟩⟩
              case measure => simp [intOf]; omega
            · have hz2 : (z == 0) = false := by simpa using hz0
              have HZ2 := Lib.hid hz2
              go_wp2_with fail
              go_region_held3 (fun X => X.cell? ⟨bA, oA + n * 2, none⟩ = some (.int .i8 x.1) ∧ X.cell? ⟨bA, oA + n * 2 + 1, none⟩ = some (.int .i64 x.2) ∧ X.cell? ⟨bB, oB + m * 2, none⟩ = some (.int .i8 y.1) ∧ X.cell? ⟨bB, oB + m * 2 + 1, none⟩ = some (.int .i64 y.2)) (first | exact HF.out | exact HF4.out)
                ((go_at_call 22; refine (cmp_any x y _).mono ?_; rintro e w4 ⟨rfl, hb4⟩; rw [← HZz.out]; have HB4 := Lib.hid (HBd.out.trans (hb4.mono HBd.out.size)); have HF4 := Lib.hid (HF.out.below ((Below.refl _ _).drew.trans hb4)); clear hb4))
              go_wp2_with fail
              go_roundw
              case rel => exact ⟨m + 1, false, hml, rfl, by simp, Lib.hid ⟨by rw [HAn.out, HZ2.out]; rfl, HB4.out⟩⟩
              case measure => simp [intOf]; omega
        · obtain rfl : m = B.length := by omega
          have htb : tb = hasB B x := by
            have := HR.out.1
            rw [List.take_length] at this
            exact this
          have HJ1 := Lib.hid (HJ.out.below HR.out.2)
          obtain ⟨hta, -, htx, htz⟩ := HAll.out wr HJ1.out.2.2
          obtain ⟨xa0, xa1⟩ := HAc.out wr HR.out.2
          have q := eqTh_run x
          cases tb with
          | true =>
            obtain ⟨hXi, hJn⟩ := HJ1.out.hit hlt HXx.out htb.symm
            rw [← HX.out] at hXi
            obtain ⟨bX, oX, cX', eX, -, xx0, xx1⟩ := htx.cell_at hXi
            injection eX with eX _ eC
            subst eX eC
            have hil : ci < X.length := (List.getElem?_eq_some_iff.1 hXi).1
            have hil' : (ci : Int) < (X.length : Int) := by omega
            have hi63 : (ci : Int) + 1 ≤ 1000 := by have := HXl.out; omega
            have HJn := Lib.hid (hJn.below ((Below.refl _ _).drew))
            clear hta htx htz hXi hJn htb
            go_wp2_with fail
            go_region
            go_wp2_with fail
            go_roundw
            case rel => exact ⟨n + 1, ci + 1, ck, hlt, by simp, rfl, by simp, HJn⟩
            case measure => simp [intOf]; omega
          | false =>
            obtain ⟨hXi, hJn⟩ := HJ1.out.miss hlt HXx.out htb.symm
            rw [← HZ.out] at hXi
            obtain ⟨bX, oX, cX', eX, -, xx0, xx1⟩ := htz.cell_at hXi
            injection eX with eX _ eC
            subst eX eC
            have hil : ck < Z.length := (List.getElem?_eq_some_iff.1 hXi).1
            have hil' : (ck : Int) < (Z.length : Int) := by omega
            have hi63 : (ck : Int) + 1 ≤ 1000 := by have := HZl.out; omega
            have HJn := Lib.hid (hJn.below ((Below.refl _ _).drew.drew))
            clear hta htx htz hXi hJn htb
            go_wp2_with fail
            go_region
            go_wp2_with fail
            go_region
            go_wp2_with fail
            go_roundw
            case rel => exact ⟨n + 1, ci, ck + 1, hlt, rfl, by simp, by simp, HJn⟩
            case measure => simp [intOf]; omega
    · obtain rfl : n = A.length := by omega
      have hci : ci = X.length := by rw [HJ.out.1, List.take_length, ← HX.out]
      have hck : ck = Z.length := by rw [HJ.out.2.1, List.take_length, ← HZ.out]
      subst hci hck
      have HBw := Lib.hid HJ.out.2.2
      go_wp2_with fail
      refine (alive_true _).mono ?_
      rintro e w15 ⟨rfl, hb15⟩
      have B15 := Lib.hid (B14.out.trans ((HBw.out.trans (hb15.mono HBw.out.size)).mono B14.out.size))
      clear hb15
      go_wp2_with fail
      go_ret
      exact ⟨rfl, B15.out⟩
end Go.Proofs.Ytlccleafjpeccaa

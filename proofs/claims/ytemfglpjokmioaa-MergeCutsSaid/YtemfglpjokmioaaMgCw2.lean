/-
  MergeCuts: the walk, case 2 of n.
-/
import Derived.Test.YtemfglpjokmioaaMgCu
namespace Go.Proofs.Ytemfglpjokmioaa
open Go Go.RowKit Go.Shelf

set_option maxRecDepth 100000 in
set_option maxHeartbeats 60000000 in
theorem lcuts2 (va : Value) (A0 : List Th) (n least : Int) (w : World) (ha : ThIn (fun b => b < w.heap.size) w va A0) (hn : -9223372036854775808 ≤ n ∧ n ≤ 9223372036854775807) (HG : Hid (0 ≤ n ∧ n ≤ ((A0.take 30).length : Int))) :
    Calls Try.prog 6 #[va, .int .i64 n, .int .i8 least] w fun e w' => e = .returned (.bool true) ∧ Below w.heap.size w w' := by
  have hmf : ∀ (fn : Fn) (first cap : Array Value) (w : World), (Instr.makeFunc fn first cap).run Try.prog w = .ok (.func fn first cap) w := fun _ _ _ _ => rfl
  have hb0 : Below w.heap.size w (w.alloc (.cells #[.int .i8 least] 26)) := (Below.refl _ _).alloc (Nat.le_refl _) _
  have HS := Lib.hid (short_any (ThIn.up ha hb0))
  clear ha
  go_enter Try.func6, Try.ntmps6
  go_wp2_with fail
  refine HS.out.mono ?_
  rintro e W1 ⟨v1, rfl, hv1, hW1⟩
  have hz1 : W1.heap[w.heap.size]? = some (.cells #[.int .i8 least] 26 (0, 0)) := by rw [← hW1]; exact heap_alloc_new w _
  have hs1 : W1.heap.size = w.heap.size + 1 := by rw [← hW1]; simp
  rw [hW1] at hb0 hv1
  obtain ⟨A, hA⟩ : ∃ A, A = A0.take 30 := ⟨_, rfl⟩
  have hAl : A.length ≤ 30 := by rw [hA, List.length_take]; omega
  rw [← hA] at hv1 HG
  have hv : ThIn (fun b => b < w.heap.size + 1) W1 v1 A := hv1.keep (Nat.le_refl _) (fun k e _ => ⟨by omega, rfl⟩)
  have HT := Lib.hid (show ∀ W, Below W1.heap.size W1 W → ThIn (fun b => b < w.heap.size + 1) W v1 A from fun W hb => hv.keep hb.size (fun k e _ => ⟨e, hb.block k (by omega)⟩))
  have HZ := Lib.hid (show ∀ W, Below W1.heap.size W1 W → W.heap[w.heap.size]? = some (.cells #[.int .i8 least] 26 (0, 0)) from fun W hb => (hb.block _ (by omega)).trans hz1)
  obtain ⟨p1, c1, e1, hcA, hcm, -⟩ := hv1
  subst e1
  have HL := Lib.hid hAl
  have HW1 := Lib.hid (And.intro hb0 (And.intro hs1 (And.intro hcA hcm)))
  clear hA hAl hv hz1 hs1 hb0 hW1 HS hcA hcm
  have B1 := Lib.hid (Below.refl W1.heap.size W1)
  go_wp2_with fail
  refine (of_any (HT.out W1 B1.out) (by have := HL.out; omega)).mono ?_
  rintro e w2 ⟨b2, Y2, rfl, hm2, hy2, hb2⟩
  have B2 := Lib.hid (B1.out.trans (hb2.mono B1.out.size))
  have HOn := Lib.hid (only_gen (P := fun w' => w'.heap[w.heap.size]? = some (.cells #[.int .i8 least] 26 (0, 0))) (fun _ _ _ h => h.2.2) (le_holds w.heap.size least) (c := (some b2, A)) (F := Y2) (Yh := fun k => k = w.heap.size) (s := ()) (w := w2) hm2 ⟨fun k e => by have := HW1.out.2.1; have := hb2.size; have e' : k = w.heap.size := e; omega, rfl, HZ.out w2 B2.out⟩ (fun k e e' => by have := hy2 k e; have := HW1.out.2.1; have e'' : k = w.heap.size := e'; omega))
  have HY2 := Lib.hid hy2
  clear hm2 hy2 hb2
  go_wp2_with fail
  refine HOn.out.mono ?_
  rintro e w3 ⟨b3, Y3, rfl, hm3, hy3, hb3⟩
  have B3 := Lib.hid (B2.out.trans (hb3.mono B2.out.size))
  have HM3 := Lib.hid (And.intro hm3 (show ∀ k, Y3 k → k = w.heap.size ∨ W1.heap.size ≤ k from fun k e => by
    rcases hy3 k e with (e | e) | e
    · exact .inr (HY2.out k e)
    · exact .inl e
    · exact .inr (Nat.le_trans B2.out.size e)))
  clear hm3 hy3 hb3 HOn HY2
  obtain ⟨a, ha⟩ : ∃ a, a = onlyL (leStep least) () A := ⟨_, rfl⟩
  have hal : a.length ≤ 30 := by rw [ha]; exact Nat.le_trans (only_len _ _ _) HL.out
  have haf := ha.trans (only_le least A)
  rw [← ha] at HM3
  have HAf := Lib.hid (And.intro hal haf)
  clear ha hal haf
  go_wp2_with fail
  refine (rest_any HM3.out.1 (by have := HAf.out.1; omega)).mono ?_
  rintro e w4 ⟨v4, rfl, ho4, hu4, Y4, -, hm4, -⟩
  have hP4 : w4.heap[w.heap.size]? = some (.cells #[.int .i8 least] 26 (0, 0)) := by obtain ⟨-, -, h⟩ := hm4.ghost; exact h
  have B4 := Lib.hid (show Below W1.heap.size W1 w4 from ⟨hu4.os.trans B3.out.os, hu4.tape.trans B3.out.tape, hu4.output.trans B3.out.output, Nat.le_trans B3.out.size hu4.size, fun k hk => by
    by_cases e : k = w.heap.size
    · subst e; rw [hP4, HZ.out W1 B1.out]
    · refine (hu4.block k (Nat.lt_of_lt_of_le hk B3.out.size) (fun _ e' => ?_)).trans (B3.out.block k hk)
      rcases HM3.out.2 k e' with e'' | e''
      · exact e e''
      · omega⟩)
  have HO4 := Lib.hid (ho4.mono (B3.out.size))
  clear ho4 hu4 hm4 hP4 HM3
  go_wp2_with fail
  go_loopw [10, 11] (fun v i wr => ∃ k : Nat, k ≤ A.length ∧ i = .int .i64 k ∧ Hid (OwnTh w4.heap.size wr v ((A.take k).filter fun x => decide (least ≤ x.1)) ∧ Below w4.heap.size w4 wr)) (fun v i _ => A.length - (intOf i).toNat)
  case atStart => exact ⟨0, Nat.zero_le _, rfl, Lib.hid ⟨OwnTh.nil _ _, Below.refl _ _⟩⟩
  case round =>
    obtain ⟨k, hk, rfl, HR⟩ := hrel
    have Br := Lib.hid (B4.out.trans (HR.out.2.mono B4.out.size))
    by_cases hlt : k < A.length
    · obtain ⟨bl, off, rfl, hbl, hc⟩ := (HT.out wr Br.out).row (by rintro rfl; simp at hlt)
      obtain ⟨x, hx⟩ : ∃ x, x = A[k] := ⟨_, rfl⟩
      obtain ⟨x0, x1⟩ := hc k hlt
      rw [← hx] at x0 x1
      have zc := cell_of_row _ _ 0 _ _ (0, 0) (HZ.out wr Br.out)
      have hlt' : (k : Int) < (A.length : Int) := by omega
      have hk63 : (k : Int) + 1 ≤ 1000 := by have := HL.out; omega
      have HF := Lib.hid (filter_take (p := fun x => decide (least ≤ x.1)) hlt)
      rw [← hx] at HF
      have HKt := Lib.hid (show ((A.take k).filter fun x => decide (least ≤ x.1)).length ≤ 1000000 from by
        have := List.length_filter_le (fun x : Th => decide (least ≤ x.1)) (A.take k)
        rw [List.length_take] at this
        have := HL.out
        omega)
      clear hc hx
      by_cases hle : least ≤ x.1
      · have HF1 := Lib.hid (show (A.take (k + 1)).filter (fun x => decide (least ≤ x.1)) = (A.take k).filter (fun x => decide (least ≤ x.1)) ++ [x] by rw [HF.out, if_pos (decide_eq_true hle)])
        go_wp2_with fail
        go_region
        obtain ⟨W, hW⟩ : ∃ W, W = wr.drew := ⟨_, rfl⟩
        have x0w : W.cell? ⟨bl, off + k * 2, none⟩ = some (.int .i8 x.1) := by rw [hW]; exact x0
        have x1w : W.cell? ⟨bl, off + k * 2 + 1, none⟩ = some (.int .i64 x.2) := by rw [hW]; exact x1
        have HOw := Lib.hid (show OwnTh w4.heap.size W _ _ ∧ Below w4.heap.size w4 W ∧ Below W1.heap.size W1 W by rw [hW]; exact ⟨HR.out.1, HR.out.2.drew, Br.out.drew⟩)
        rw [← hW]
        clear hW x0 x1 zc
        go_wp2_with (at_builtin; refine wpList_appTh rfl (.tmp 45) (.tmp 50) rfl w4.heap.size _ _ _ _ [x] rfl rfl (HOw.out.1.alloc _) (litTh_in W x.1 x.2) HKt.out (by simp) (HOw.out.2.1.alloc HOw.out.2.1.size _).size ?_; rintro v9 w9 ho9 hg9 -; have HN9 := Lib.hid (And.intro ho9 ((HOw.out.2.1.alloc HOw.out.2.1.size _).grown hg9 (HOw.out.2.1.alloc HOw.out.2.1.size _).size (fun k e => (HOw.out.1.lt k e).1))); clear ho9 hg9)
        go_roundw
        case rel => exact ⟨k + 1, hlt, by simp, Lib.hid ⟨by rw [HF1.out]; exact HN9.out.1, HN9.out.2⟩⟩
        case measure => simp [intOf]; omega
      · have HF1 := Lib.hid (show (A.take (k + 1)).filter (fun x => decide (least ≤ x.1)) = (A.take k).filter (fun x => decide (least ≤ x.1)) by rw [HF.out, if_neg (by rw [decide_eq_false hle]; simp)])
        go_wp2_with fail
        go_region
        go_wp2_with fail
        go_roundw
        case rel => exact ⟨k + 1, hlt, by simp, Lib.hid ⟨by rw [HF1.out]; exact HR.out.1, HR.out.2.drew⟩⟩
        case measure => simp [intOf]; omega
    · obtain rfl : k = A.length := by omega
      have HFa := Lib.hid (show OwnTh w4.heap.size wr _ a from by have h := HR.out.1; rw [List.take_length, ← HAf.out.2] at h; exact h)
      have HO5 := Lib.hid (HO4.out.below HR.out.2)
      obtain ⟨w5, hw5⟩ : ∃ w5, w5 = wr := ⟨_, rfl⟩
      rw [← hw5] at HFa HO5 Br ⊢
      have HTr := Lib.hid (HT.out w5 Br.out)
      clear hw5 HR HO4
      go_wp2_with fail
      refine (of_any HTr.out (by have := HL.out; omega)).mono ?_
      rintro e w6 ⟨b6, Y6, rfl, hm6, hy6, hb6⟩
      have B6 := Lib.hid (Br.out.trans (hb6.mono Br.out.size))
      have HFa6 := Lib.hid (HFa.out.below hb6)
      have HO6 := Lib.hid (HO5.out.below hb6)
      have HM6 := Lib.hid (And.intro hm6 (And.intro hy6 hb6))
      have HFi := Lib.hid (first_any n hn hm6)
      have HV6 := Lib.hid (show (∀ k, v4.ownBlock = some k → k < w5.heap.size) ∧ (∀ k, Value.ownBlock u10 = some k → k < w5.heap.size) from ⟨fun k e => (HO5.out.lt k e).2, fun k e => (HFa.out.lt k e).2⟩)
      clear hm6 hy6 hb6 HFa HO5 HTr
      go_wp2_with fail
      refine HFi.out.mono ?_
      rintro e w7 ⟨b7, Y7, rfl, hm7, hy7, hb7⟩
      have B7 := Lib.hid (B6.out.trans (hb7.mono B6.out.size))
      have HFa7 := Lib.hid (HFa6.out.below hb7)
      have HO7 := Lib.hid (HO6.out.below hb7)
      have HM7 := Lib.hid (And.intro hm7 hy7)
      clear hm7 hy7 hb7 HFa6 HO6 HFi
      go_wp2_with fail
      refine (rest_any HM7.out.1 (by rw [List.length_take]; have := HL.out; omega)).mono ?_
      rintro e w8 ⟨v8, rfl, ho8, hu8, Y8, hs8, hm8, hv8⟩
      obtain ⟨Yg, hg1, hg2⟩ := hm8.ghost
      obtain ⟨Z, hz1, hz2, hz3⟩ := hg2 rfl
      have hY7 : ∀ k, Y7 k → w5.heap.size ≤ k := fun k e => by
        rcases HM7.out.2 k e with e | e
        · exact HM6.out.2.1 k e
        · exact Nat.le_trans HM6.out.2.2.size e
      have B8 := Lib.hid (B7.out.trans (hu8.below B7.out.size (fun k _ e => Nat.le_trans Br.out.size (hY7 k e))))
      have HFa8 := Lib.hid (HFa7.out.off hu8 (fun k e e' => by have := HV6.out.2 k e; have := hY7 k e'; omega))
      have HO8 := Lib.hid (HO7.out.off hu8 (fun k e e' => by have := HV6.out.1 k e; have := hY7 k e'; omega))
      have HP8 := Lib.hid ho8
      have hZ : ∀ k, Z k → w5.heap.size ≤ k := fun k e => Nat.le_of_not_lt fun hlt => hz2 k (Nat.lt_of_lt_of_le hlt HM6.out.2.2.size) (fun e' => by have := HM6.out.2.1 k e'; omega) e
      have HZz := Lib.hid (And.intro hz1 (And.intro hZ (fun k (e : v8.ownBlock = some k) (e' : Z k) => hv8 k e (hg1 k (hz3 k e')))))
      clear hu8 hs8 hm8 hv8 hg1 hg2 hz1 hz2 hz3 hY7 hZ ho8 HM6 HM7 HFa7 HO7
      obtain ⟨kk, hkk⟩ : ∃ kk : Nat, kk = min n.toNat A.length := ⟨_, rfl⟩
      have hkA : A.take n.toNat = A.take kk ∧ A.drop n.toNat = A.drop kk := by
        by_cases h : n.toNat ≤ A.length
        · rw [hkk, Nat.min_eq_left h]; exact ⟨rfl, rfl⟩
        · rw [hkk, Nat.min_eq_right (by omega), List.take_of_length_le (by omega), List.drop_of_length_le (by omega)]
          simp
      rw [hkA.1] at HP8
      rw [hkA.2] at HZz
      have hkl : kk ≤ A.length := by rw [hkk]; omega
      have HKl := Lib.hid hkl
      have HKe := Lib.hid (show (n < 0 → (0 : Int) = (kk : Int)) ∧ (0 ≤ n ∧ n ≤ (A.length : Int) → n = (kk : Int)) ∧ ((A.length : Int) < n → (A.length : Int) = (kk : Int)) from ⟨fun h => by omega, fun h => by omega, fun h => by omega⟩)
      clear hkA hkk hkl
      have g1 := HG.out.1
      have g2 := HG.out.2
      go_wp2_with fail
      all_goals (first | rw [show Value.int IntKind.i64 0 = Value.int IntKind.i64 ((kk : Nat) : Int) by rw [show (0 : Int) = ((kk : Nat) : Int) by have := HKe.out.2.1 ⟨g1, g2⟩; omega]] | rw [show Value.int IntKind.i64 n = Value.int IntKind.i64 ((kk : Nat) : Int) by rw [← HKe.out.2.1 ⟨g1, g2⟩]])
      all_goals clear g1 g2
      all_goals
        clear HKe
        refine (rest_any HZz.out.1 (by rw [List.length_drop]; have := HL.out; omega)).mono ?_
        rintro e w9 ⟨v9, rfl, ho9, hu9, -⟩
        have B9 := Lib.hid (B8.out.trans (hu9.below B8.out.size (fun k _ e => Nat.le_trans Br.out.size (HZz.out.2.1 k e))))
        have HFa9 := Lib.hid (HFa8.out.off hu9 (fun k e e' => by have := HV6.out.2 k e; have := HZz.out.2.1 k e'; omega))
        have HO9 := Lib.hid (HO8.out.off hu9 (fun k e e' => by have := HV6.out.1 k e; have := HZz.out.2.1 k e'; omega))
        have HP9 := Lib.hid (HP8.out.off hu9 (fun k e e' => HZz.out.2.2 k e e'))
        have HR9 := Lib.hid ho9
        have HT9 := Lib.hid (HT.out w9 B9.out)
        clear ho9 hu9 HZz HFa8 HO8 HP8
        go_wp2_with fail
        refine (of_any HT9.out (by have := HL.out; omega)).mono ?_
        rintro e w10 ⟨b10, Y10, rfl, hm10, hy10, hb10⟩
        have B10 := Lib.hid (B9.out.trans (hb10.mono B9.out.size))
        have HTu := Lib.hid (turn_any hm10)
        have HY10 := Lib.hid (And.intro hy10 hb10)
        clear hm10 hy10 hb10 HT9
        go_wp2_with fail
        refine HTu.out.mono ?_
        rintro e w11 ⟨b11, r11, cf11, Y11, rfl, hm11, hy11, hb11⟩
        have B11 := Lib.hid (B10.out.trans (hb11.mono B10.out.size))
        have hY11 : ∀ k, Y11 k → w9.heap.size ≤ k := fun k e => by
          rcases hy11 k e with e | e
          · exact HY10.out.1 k e
          · exact Nat.le_trans HY10.out.2.size e
        have HM11 := Lib.hid (And.intro hm11 (And.intro hY11 (HY10.out.2.trans (hb11.mono HY10.out.2.size))))
        clear hm11 hy11 hb11 hY11 HTu HY10
        go_wp2_with fail
        refine (restI_any HM11.out.1 (by have := HL.out; omega)).mono ?_
        rintro e w12 ⟨v12, rfl, ho12, hu12⟩
        have hb12 : Below w9.heap.size w9 w12 := HM11.out.2.2.trans (hu12.below HM11.out.2.2.size (fun k _ e => HM11.out.2.1 k e))
        have B12 := Lib.hid (B9.out.trans (hb12.mono B9.out.size))
        have HFa12 := Lib.hid (HFa9.out.below hb12)
        have HO12 := Lib.hid (HO9.out.below hb12)
        have HP12 := Lib.hid (HP9.out.below hb12)
        have HR12 := Lib.hid (HR9.out.below hb12)
        have HI12 := Lib.hid ho12
        obtain ⟨p12, c12, e12⟩ := OwnI.form ho12
        clear ho12 hu12 hb12 HM11 HFa9 HO9 HP9 HR9
        subst e12
        go_wp2_with fail
        refine (same_any (HO12.out.in_ (fun _ => True) (fun _ _ => trivial)) (HFa12.out.in_ (fun _ => True) (fun _ _ => trivial)) (by have := HAf.out.1; omega) (by have := HAf.out.1; omega)).mono ?_
        rintro e w13 ⟨rfl, hb13⟩
        rw [decide_eq_true rfl]
        have B13 := Lib.hid (B12.out.trans (hb13.mono B12.out.size))
        have HP13 := Lib.hid (HP12.out.below hb13)
        have HR13 := Lib.hid (HR12.out.below hb13)
        have HI13 := Lib.hid (HI12.out.keep (fun k e => hb13.block k (HI12.out.lt k e).2))
        have HT13 := Lib.hid (HT.out w13 B13.out)
        obtain ⟨-, -, hcA, hcm⟩ := HW1.out
        unfold maxLen at hcm
        have hkc : (kk : Int) ≤ (c1 : Int) := by have := HKl.out; omega
        have hkl1 : (kk : Int) ≤ (A.length : Int) := by have := HKl.out; omega
        have hlc : (A.length : Int) ≤ (c1 : Int) := by omega
        have hl30 : (A.length : Int) ≤ 30 := by have := HL.out; omega
        clear hb13 HO12 HFa12 HP12 HR12 HI12 hcA hcm
        go_wp2_with fail
        refine (same_any (HP13.out.in_ (fun _ => True) (fun _ _ => trivial)) (HT13.out.take HKl.out) (by rw [List.length_take]; have := HL.out; omega) (by rw [List.length_take]; have := HL.out; omega)).mono ?_
        rintro e w14 ⟨rfl, hb14⟩
        rw [decide_eq_true rfl]
        have B14 := Lib.hid (B13.out.trans (hb14.mono B13.out.size))
        have HR14 := Lib.hid (HR13.out.below hb14)
        have HI14 := Lib.hid (HI13.out.keep (fun k e => hb14.block k (HI13.out.lt k e).2))
        have HT14 := Lib.hid (HT.out w14 B14.out)
        clear hb14 HP13 HR13 HI13 HT13
        by_cases hcn1 : c1 = kk
        · have hnl0 : kk = A.length := by omega
          go_wp2_with fail
          refine (same_any (S' := fun b => b < w.heap.size + 1) (M := A.drop kk) (HR14.out.in_ (fun _ => True) (fun _ _ => trivial)) ?hth (by rw [List.length_drop]; have := HL.out; omega) (by rw [List.length_drop]; have := HL.out; omega)).mono ?_
          case hth => first | exact ThIn.drop2 hnl0 | (rw [show A.length - kk = 0 by omega]; exact ThIn.drop2 hnl0) | (rw [show c1 - kk = 0 by omega, show A.length - kk = 0 by omega]; exact ThIn.drop2 hnl0)
          rintro e w15 ⟨rfl, hb15⟩
          rw [decide_eq_true rfl]
          have B15 := Lib.hid (B14.out.trans (hb15.mono B14.out.size))
          have HI15 := Lib.hid (HI14.out.keep (fun k e => hb15.block k (HI14.out.lt k e).2))
          clear hb15 HR14 HI14 HT14
          go_wp2_with fail
          go_loopw [20] (fun i wr => ∃ j : Nat, j ≤ A.length ∧ i = .int .i64 j ∧ Hid (Below w15.heap.size w15 wr)) (fun i _ => A.length - (intOf i).toNat)
          case atStart => exact ⟨0, Nat.zero_le _, rfl, Lib.hid (Below.refl _ _)⟩
          case round =>
            obtain ⟨j, hj, rfl, HJ⟩ := hrel
            have Bq := Lib.hid (B15.out.trans (HJ.out.mono B15.out.size))
            by_cases hlt : j < A.length
            · obtain ⟨bl, off, rfl, hbl, hc⟩ := (HT.out wr Bq.out).row (by rintro rfl; simp at hlt)
              obtain ⟨x, hx⟩ : ∃ x, x = A[j] := ⟨_, rfl⟩
              have x1 := (hc j hlt).2
              rw [← hx] at x1
              obtain ⟨g, cap, hgf, -, hgl⟩ := World.ownsRow.form HI15.out (by omega)
              have hmc := World.ownsRow.cells HI15.out (g := g) (by rw [hgf]; rfl) j (.int .i64 x.2) (by unfold marks; rw [List.getElem?_map, List.getElem?_eq_getElem hlt, hx]; rfl)
              rw [addr_add] at hmc
              injection hgf with hg1 hg2 hg3
              subst hg1
              have m1 := (HJ.out.cell (p := ⟨g, 0 + j, none⟩) hgl).trans hmc
              rw [Nat.zero_add] at m1
              have hj63 : (j : Int) + 1 ≤ 1000 := by have := HL.out; omega
              have hlt' : (j : Int) < (A.length : Int) := by omega
              clear hc hx hmc hg3
              go_wp2_with fail
              go_region
              go_wp2_with fail
              go_roundw
              case rel => exact ⟨j + 1, hlt, by simp, Lib.hid HJ.out.drew⟩
              case measure => simp [intOf]; omega
            · obtain rfl : j = A.length := by omega
              go_wp2_with fail
              refine (alive_true _).mono ?_
              rintro e w16 ⟨rfl, hb16⟩
              have B16 := Lib.hid (Bq.out.trans (hb16.mono Bq.out.size))
              have HWb := Lib.hid HW1.out.1
              clear hb16
              go_wp2_with fail
              go_ret
              exact ⟨rfl, HWb.out.trans (B16.out.mono HWb.out.size)⟩
        · have hcn2 : ¬ (c1 : Int) = (kk : Int) := by omega
          go_wp2_with fail
          have HD := Lib.hid (ThIn.drop1 HT14.out HKl.out)
          generalize Value.slice (Option.map (fun x => x.add (kk * 2)) p1) (A.length - kk) (c1 - kk) = sv at HD ⊢
          refine (same_any (S' := fun b => b < w.heap.size + 1) (M := A.drop kk) (HR14.out.in_ (fun _ => True) (fun _ _ => trivial)) ?hth (by rw [List.length_drop]; have := HL.out; omega) (by rw [List.length_drop]; have := HL.out; omega)).mono ?_
          case hth => exact HD.out
          rintro e w15 ⟨rfl, hb15⟩
          rw [decide_eq_true rfl]
          have B15 := Lib.hid (B14.out.trans (hb15.mono B14.out.size))
          have HI15 := Lib.hid (HI14.out.keep (fun k e => hb15.block k (HI14.out.lt k e).2))
          clear hb15 HR14 HI14 HT14
          go_wp2_with fail
          go_loopw [20] (fun i wr => ∃ j : Nat, j ≤ A.length ∧ i = .int .i64 j ∧ Hid (Below w15.heap.size w15 wr)) (fun i _ => A.length - (intOf i).toNat)
          case atStart => exact ⟨0, Nat.zero_le _, rfl, Lib.hid (Below.refl _ _)⟩
          case round =>
            obtain ⟨j, hj, rfl, HJ⟩ := hrel
            have Bq := Lib.hid (B15.out.trans (HJ.out.mono B15.out.size))
            by_cases hlt : j < A.length
            · obtain ⟨bl, off, rfl, hbl, hc⟩ := (HT.out wr Bq.out).row (by rintro rfl; simp at hlt)
              obtain ⟨x, hx⟩ : ∃ x, x = A[j] := ⟨_, rfl⟩
              have x1 := (hc j hlt).2
              rw [← hx] at x1
              obtain ⟨g, cap, hgf, -, hgl⟩ := World.ownsRow.form HI15.out (by omega)
              have hmc := World.ownsRow.cells HI15.out (g := g) (by rw [hgf]; rfl) j (.int .i64 x.2) (by unfold marks; rw [List.getElem?_map, List.getElem?_eq_getElem hlt, hx]; rfl)
              rw [addr_add] at hmc
              injection hgf with hg1 hg2 hg3
              subst hg1
              have m1 := (HJ.out.cell (p := ⟨g, 0 + j, none⟩) hgl).trans hmc
              rw [Nat.zero_add] at m1
              have hj63 : (j : Int) + 1 ≤ 1000 := by have := HL.out; omega
              have hlt' : (j : Int) < (A.length : Int) := by omega
              clear hc hx hmc hg3
              go_wp2_with fail
              go_region
              go_wp2_with fail
              go_roundw
              case rel => exact ⟨j + 1, hlt, by simp, Lib.hid HJ.out.drew⟩
              case measure => simp [intOf]; omega
            · obtain rfl : j = A.length := by omega
              go_wp2_with fail
              refine (alive_true _).mono ?_
              rintro e w16 ⟨rfl, hb16⟩
              have B16 := Lib.hid (Bq.out.trans (hb16.mono Bq.out.size))
              have HWb := Lib.hid HW1.out.1
              clear hb16
              go_wp2_with fail
              go_ret
              exact ⟨rfl, HWb.out.trans (B16.out.mono HWb.out.size)⟩
end Go.Proofs.Ytemfglpjokmioaa

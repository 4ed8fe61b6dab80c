/-
  The law PackTakes' own walk.
-/
import Derived.Test.YthnpiafpkllbpaaPkUc
import Derived.Test.YthnpiafpkllbpaaPkG
import Derived.BigQuiet
namespace Go.Proofs.Ythnpiafpkllbpaa
open Go Go.RowKit

/-- What a number's reading answers: its value, how many bytes, the error. -/
def numR (l : List UInt8) : Nat × Int × Int := match numP l 0 0 with | some (x, r) => (x, (l.length : Int) - (r.length : Int), 0) | none => (0, 0, 30)
def intR (l : List UInt8) : Int × Int × Int := match intQ l with | some (x, r) => (x, (l.length : Int) - (r.length : Int), 0) | none => (0, 0, 30)
def textR (m : Int) (l : List UInt8) : List UInt8 × Int × Int := match textM m l with | some (x, r) => (x, (l.length : Int) - (r.length : Int), 0) | none => ([], 0, 30)
def tupR (l : List UInt8) : List V3 × Int × Int := match tupQ l with | some (x, r) => (x, (l.length : Int) - (r.length : Int), 0) | none => ([], 0, 30)
def cntR (l : List UInt8) : (List V3 × Int) × Int × Int := match cntQ l with | some (x, r) => (x, (l.length : Int) - (r.length : Int), 0) | none => (([], 0), 0, 30)
theorem numR_err (l : List UInt8) : (numR l).2.2 = 0 ∨ ((numR l).1 = 0 ∧ (numR l).2.1 = 0 ∧ (numR l).2.2 = 30) := by
  unfold numR
  cases numP l 0 0 with
  | none => exact .inr ⟨rfl, rfl, rfl⟩
  | some p => exact .inl rfl
theorem takeNum_g (v : Value) (l : List UInt8) (w : World) (h : ArgB w v l) : Calls Try.prog 6 #[v] w fun e w' => e = .returned (.tuple #[.int .u64 ((numR l).1 : Nat), .int .i64 (numR l).2.1, .int .i64 (numR l).2.2]) ∧ Below w.heap.size w w' :=
  (takeNum_any v l w h).mono (by
    unfold numR
    rintro e w' ⟨hb, ⟨x, r, ho, rfl⟩ | ⟨ho, rfl⟩⟩ <;> rw [ho] <;> exact ⟨rfl, hb⟩)
theorem rtakeNum_g (v : Value) (l : List UInt8) (n₀ : Nat) (w : World) (h : BytIn n₀ w v l) (hl : l.length ≤ 3000) : Calls Try.prog 7 #[v] w fun e w' => e = .returned (.tuple #[.int .u64 ((numR l).1 : Nat), .int .i64 (numR l).2.1, .int .i64 (numR l).2.2]) ∧ w = w' :=
  (rtakeNum_any v l n₀ w h hl).mono (by
    unfold numR
    rintro e w' ⟨hb, ⟨x, r, ho, rfl⟩ | ⟨ho, rfl⟩⟩ <;> rw [ho] <;> exact ⟨rfl, hb⟩)
theorem takeInt_g (v : Value) (l : List UInt8) (w : World) (h : ArgB w v l) : Calls Try.prog 8 #[v] w fun e w' => e = .returned (.tuple #[.int .i64 (intR l).1, .int .i64 (intR l).2.1, .int .i64 (intR l).2.2]) ∧ Below w.heap.size w w' :=
  (takeInt_any v l w h).mono (by
    unfold intR
    rintro e w' ⟨hb, ⟨x, r, ho, rfl⟩ | ⟨ho, rfl⟩⟩ <;> rw [ho] <;> exact ⟨rfl, hb⟩)
theorem rtakeInt_g (v : Value) (l : List UInt8) (n₀ : Nat) (w : World) (h : BytIn n₀ w v l) (hl : l.length ≤ 3000) : Calls Try.prog 9 #[v] w fun e w' => e = .returned (.tuple #[.int .i64 (intR l).1, .int .i64 (intR l).2.1, .int .i64 (intR l).2.2]) ∧ w = w' :=
  (rtakeInt_any v l n₀ w h hl).mono (by
    unfold intR
    rintro e w' ⟨hb, ⟨x, r, ho, rfl⟩ | ⟨ho, rfl⟩⟩ <;> rw [ho] <;> exact ⟨rfl, hb⟩)
/-- What both readings of a byte string answer. -/
def TextG (m : Int) (l : List UInt8) (w : World) (e : Ending) (w' : World) : Prop := (∃ vd, e = .returned (.tuple #[vd, .int .i64 (textR m l).2.1, .int .i64 (textR m l).2.2]) ∧ BytIn w'.heap.size w' vd (textR m l).1) ∧ Below w.heap.size w w'
theorem text_g {m : Int} {l : List UInt8} {w : World} {e : Ending} {w' : World} (h : TakenXEnd l (textM m l) w e w') : TextG m l w e w' := by
  unfold TextG textR
  rcases h with ⟨hb, ⟨x, r, v, ho, rfl, hv⟩ | ⟨ho, rfl⟩⟩
  · rw [ho]; exact ⟨⟨v, rfl, hv.in_⟩, hb⟩
  · rw [ho]; exact ⟨⟨_, rfl, .inl ⟨rfl, rfl⟩⟩, hb⟩
/-- What both readings of a tuple answer. -/
def TupG (l : List UInt8) (w : World) (e : Ending) (w' : World) : Prop := (∃ p cap, e = .returned (.tuple #[.slice p (tupR l).1.length cap, .int .i64 (tupR l).2.1, .int .i64 (tupR l).2.2]) ∧ TupIn w'.heap.size w' (.slice p (tupR l).1.length cap) (tupR l).1) ∧ Below w.heap.size w w'
theorem nil_tup (n₀ : Nat) (w : World) : TupIn n₀ w (.slice none ([] : List V3).length 0) [] := ⟨none, 0, rfl, by simp, .inl rfl⟩
theorem tup_g {l : List UInt8} {w : World} {e : Ending} {w' : World} (h : TakenTEnd l (tupQ l) w e w') : TupG l w e w' := by
  unfold TupG tupR
  rcases h with ⟨hb, ⟨x, r, v, ho, rfl, hv⟩ | ⟨ho, rfl⟩⟩
  · rw [ho]
    have hi := hv.in_
    obtain ⟨p, cap, rfl, -, -⟩ := hv.in_
    exact ⟨⟨p, cap, rfl, hi⟩, hb⟩
  · rw [ho]; exact ⟨⟨none, 0, rfl, nil_tup _ _⟩, hb⟩
theorem rtup_g {l : List UInt8} {w : World} {e : Ending} {w' : World} (h : RTupEnd l w e w') : TupG l w e w' := by
  unfold TupG tupR
  rcases h with ⟨hb, ⟨T, K, v, ho, hK, rfl, hv⟩ | ⟨ho, rfl⟩⟩
  · have h8 := tup_len ho
    rw [ho]
    have hi := hv.in_ (Nat.le_trans h8 (by decide))
    obtain ⟨p, cap, rfl, -, -⟩ := hv.in_ (Nat.le_trans h8 (by decide))
    refine ⟨⟨p, cap, ?_, hi⟩, hb⟩
    have : (l.length : Int) - ((l.drop K).length : Int) = (K : Int) := by rw [List.length_drop]; omega
    simp only [this]
  · rw [ho]; exact ⟨⟨none, 0, rfl, nil_tup _ _⟩, hb⟩
/-- What both readings of a counted tuple answer. -/
def CntG (l : List UInt8) (w : World) (e : Ending) (w' : World) : Prop := (∃ p cap, e = .returned (.tuple #[.agg #[.slice p (cntR l).1.1.length cap, .int .i64 (cntR l).1.2], .int .i64 (cntR l).2.1, .int .i64 (cntR l).2.2]) ∧ TupIn w'.heap.size w' (.slice p (cntR l).1.1.length cap) (cntR l).1.1) ∧ Below w.heap.size w w'
theorem cnt_g {l : List UInt8} {w : World} {e : Ending} {w' : World} (h : TakenCEnd l (cntQ l) w e w') : CntG l w e w' := by
  unfold CntG cntR
  rcases h with ⟨hb, ⟨x, r, v, ho, rfl, ⟨g, -, rfl, hr, h8⟩⟩ | ⟨ho, rfl⟩⟩
  · rw [ho]; exact ⟨⟨_, _, rfl, hr.in_ h8⟩, hb⟩
  · rw [ho]; exact ⟨⟨none, 0, rfl, nil_tup _ _⟩, hb⟩
theorem rcnt_g {l : List UInt8} {w : World} {e : Ending} {w' : World} (h : RCntEnd l w e w') : CntG l w e w' := by
  unfold CntG cntR
  rcases h with ⟨hb, ⟨T, n, r, p, cap, ho, rfl, hv⟩ | ⟨ho, rfl⟩⟩
  · rw [ho]; exact ⟨⟨p, cap, rfl, hv⟩, hb⟩
  · rw [ho]; exact ⟨⟨none, 0, rfl, nil_tup _ _⟩, hb⟩
/-- The bytes of the argument, in a later world. -/
theorem ArgB.on {w W : World} {v : Value} {l : List UInt8} (h : ArgB w v l) (hb : Below w.heap.size w W) : ArgB W v l := h.below hb
theorem box2_on {W W' : World} {cs : Array Value} {t : TypeId} {k : Nat} (h : W.heap[k]? = some (.cells cs t (0, 0))) (hb : Below W.heap.size W W') : W'.heap[k]? = some (.cells cs t (0, 0)) :=
  (hb.block k (Array.getElem?_eq_some_iff.1 h).1).trans h
theorem new_below' (w : World) (o : Obj) : Below w.heap.size w (w.alloc o) := (Below.refl _ _).alloc (Nat.le_refl _) _

set_option maxHeartbeats 4000000 in
set_option maxRecDepth 100000 in
theorem takes_any (v : Value) (l : List UInt8) (m : Int) (w : World) (h : ArgB w v l) (hm : -9223372036854775808 ≤ m ∧ m ≤ 9223372036854775807) : Calls Try.prog 3 #[v, .int .i64 m] w fun e w' => e = .returned (.bool true) ∧ Below w.heap.size w w' := by
  have H := Lib.hid h
  have HM := Lib.hid hm
  clear h hm
  go_enter Try.func3, Try.ntmps3
  go_wp2_with fail
  refine (short_arg v l w H.out).mono ?_
  rintro e w0 ⟨⟨v0, rfl, hv⟩, rfl⟩
  have HV := Lib.hid hv
  have HL := Lib.hid (shortL_len l)
  obtain ⟨b, hb⟩ : ∃ b, b = shortL l := ⟨_, rfl⟩
  rw [← hb] at HV HL
  clear hv hb H
  obtain ⟨⟨x, i, e⟩, hN⟩ : ∃ q, q = numR b := ⟨_, rfl⟩
  have HE := Lib.hid (numR_err b)
  have P1 := Lib.hid (takeNum_g v0 b w HV.out)
  have Q1 := Lib.hid (fun W hb => rtakeNum_g v0 b w.heap.size W (HV.out.1.below hb) HL.out)
  rw [← hN] at HE P1 Q1
  clear hN
  go_wp2_with fail
  refine P1.out.mono ?_
  rintro _ w1 ⟨rfl, b1⟩
  have B1 := Lib.hid b1
  clear b1
  go_wp2_with fail
  refine (Q1.out w1 B1.out).mono ?_
  rintro _ w2 ⟨rfl, rfl⟩
  obtain ⟨⟨p, j, g⟩, hI⟩ : ∃ q, q = intR b := ⟨_, rfl⟩
  have P2 := Lib.hid (takeInt_g v0 b w1 (HV.out.on B1.out))
  have Q2 := Lib.hid (fun W hb => rtakeInt_g v0 b w.heap.size W (HV.out.1.below hb) HL.out)
  rw [← hI] at P2 Q2
  clear hI
  have ce : ((e != 0) = false) ∨ ((e != 0) = true ∧ x = 0 ∧ i = 0 ∧ e = 30) := by
    rcases HE.out with h | ⟨h1, h2, h3⟩
    · exact .inl (by simpa using h)
    · exact .inr ⟨by have h3' : e = 30 := h3
                     rw [h3']; rfl, h1, h2, h3⟩
  rcases ce with ce | ⟨ce, rfl, rfl, rfl⟩
  all_goals
    go_wp2_with fail
    refine P2.out.mono ?_
    rintro _ w3 ⟨rfl, b3⟩
    have B3 := Lib.hid (below_2 B1.out b3)
    clear b3
    go_wp2_with fail
    refine (Q2.out w3 B3.out).mono ?_
    rintro _ w4 ⟨rfl, rfl⟩
    have P3 := Lib.hid (takeText_any v0 b m w3 (HV.out.on B3.out) HM.out)
    have Q3 := Lib.hid (fun W (hb : Below w.heap.size w W) => rtakeText_any v0 b m w.heap.size W (HV.out.1.below hb) hb.size HV.out.2 HL.out HM.out)
    go_wp2_with fail
    refine P3.out.mono ?_
    intro e5 w5 h5
    obtain ⟨⟨vd, rfl, hd⟩, b5⟩ := text_g h5
    have B5 := Lib.hid (below_2 B3.out b5)
    have D5 := Lib.hid hd
    clear h5 hd b5
    go_wp2_with fail
    refine (Q3.out w5 B5.out).mono ?_
    intro e6 w6 h6
    obtain ⟨⟨vt, rfl, ht⟩, b6⟩ := text_g h6
    have B6 := Lib.hid (below_2 B5.out b6)
    have q1 := run_str w6 _ vd _ (D5.out.below b6)
    have q2 := run_str w6 _ vt _ ht
    obtain ⟨p5, c5, rfl⟩ := D5.out.shape
    obtain ⟨p6, c6, rfl⟩ := ht.shape
    clear h6 ht b6
    obtain ⟨⟨s, n, a⟩, hT⟩ : ∃ q, q = textR m b := ⟨_, rfl⟩
    rw [← hT] at q1 q2 ⊢
    clear hT D5
    have P4 := Lib.hid (takeTuple_any v0 b w6 (HV.out.on B6.out))
    go_wp2_with fail
    refine P4.out.mono ?_
    intro e7 w7 h7
    obtain ⟨⟨p7, c7, rfl, hu⟩, b7⟩ := tup_g h7
    have B7 := Lib.hid (below_2 B6.out b7)
    have U7 := Lib.hid hu
    clear h7 hu b7 q1 q2
    have Q4 := Lib.hid (rtakeTuple_any v0 b w7 (HV.out.on B7.out).1 HV.out.2 HL.out)
    go_wp2_with fail
    refine Q4.out.mono ?_
    intro e8 w8 h8
    obtain ⟨⟨p8, c8, rfl, hu⟩, b8⟩ := rtup_g h8
    have B8 := Lib.hid (below_2 B7.out b8)
    have S8 := Lib.hid (same_any _ _ _ _ w8.heap.size w8 ((U7.out.below b8).mono b8.size) hu (Nat.le_refl _))
    rw [show (cmpT (tupR b).1 (tupR b).1 == 0) = true by rw [cmpT_self]; rfl] at S8
    clear h8 hu b8
    obtain ⟨⟨T, r, d⟩, hT⟩ : ∃ q, q = tupR b := ⟨_, rfl⟩
    rw [← hT] at S8 ⊢
    clear hT U7
    go_wp2_with fail
    refine S8.out.mono ?_
    rintro _ w9 ⟨rfl, g9⟩
    have B9 := Lib.hid (below_2 B8.out g9.below)
    clear g9
    have P5 := Lib.hid (takeCounted_any v0 b w9 (HV.out.on B9.out))
    go_wp2_with fail
    obtain ⟨⟨⟨A, k⟩, at', code⟩, hC⟩ : ∃ q, q = cntR b := ⟨_, rfl⟩
    refine P5.out.mono ?_
    intro e10 w10 h10
    obtain ⟨⟨p10, c10, rfl, hz⟩, b10⟩ := cnt_g h10
    rw [← hC] at hz ⊢
    have HC := Lib.hid hC
    have B10 := Lib.hid (below_2 B9.out b10)
    have Z10 := Lib.hid hz
    clear h10 hz b10 hC
    have b11 := new_below' w10 (.cells #[.slice p10 A.length c10, .int .i64 k] 46)
    have B11 := Lib.hid (below_2 B10.out b11)
    have X11 := Lib.hid (heap_alloc_new w10 (.cells #[.slice p10 A.length c10, .int .i64 k] 46))
    have Z11 := Lib.hid ((Z10.out.below b11).mono b11.size)
    have K11 := Lib.hid (show w10.heap.size < (w10.alloc (.cells #[.slice p10 A.length c10, .int .i64 k] 46)).heap.size by simp)
    go_wp2_with fail
    obtain ⟨W11, hW11⟩ : ∃ W11, W11 = w10.alloc (.cells #[.slice p10 A.length c10, .int .i64 k] 46) := ⟨_, rfl⟩
    rw [← hW11] at B11 X11 Z11 K11 ⊢
    clear b11 hW11
    have Q5 := Lib.hid (rtakeCounted_any v0 b W11 (HV.out.on B11.out).1 HV.out.2 HL.out)
    refine Q5.out.mono ?_
    intro e12 w12 h12
    obtain ⟨⟨p12, c12, rfl, hz⟩, b12⟩ := rcnt_g h12
    rw [← HC.out] at hz ⊢
    have B12 := Lib.hid (below_2 B11.out b12)
    have X12 := Lib.hid (box2_on X11.out b12)
    have Z12 := Lib.hid ((Z11.out.below b12).mono b12.size)
    have Y12 := Lib.hid hz
    have K12 := Lib.hid (Nat.lt_of_lt_of_le K11.out b12.size)
    clear h12 hz b12
    have b13 := new_below' w12 (.cells #[.slice p12 A.length c12, .int .i64 k] 46)
    have B13 := Lib.hid (below_2 B12.out b13)
    have X13 := Lib.hid (box2_on X12.out b13)
    have Y13 := Lib.hid (heap_alloc_new w12 (.cells #[.slice p12 A.length c12, .int .i64 k] 46))
    have S13 := Lib.hid (same_any _ _ _ _ _ _ ((Z12.out.below b13).mono b13.size) ((Y12.out.below b13).mono b13.size) (Nat.le_refl _))
    rw [show (cmpT A A == 0) = true by rw [cmpT_self]; rfl] at S13
    have x0 : w12.cell? ⟨w10.heap.size, 0, none⟩ = some (.slice p10 A.length c10) := cell_of_row _ _ 0 _ _ (0, 0) X12.out
    have x1 : w12.cell? ⟨w10.heap.size, 1, none⟩ = some (.int .i64 k) := cell_of_row _ _ 1 _ _ (0, 0) X12.out
    have k12 := K12.out
    go_wp2_with fail
    refine S13.out.mono ?_
    rintro _ w14 ⟨rfl, g14⟩
    have B14 := Lib.hid (below_2 B13.out g14.below)
    have z1 : w14.cell? ⟨w10.heap.size, 1, none⟩ = some (.int .i64 k) := cell_of_row _ _ 1 _ _ (0, 0) (box2_on X13.out g14.below)
    have z2 : w14.cell? ⟨w12.heap.size, 1, none⟩ = some (.int .i64 k) := cell_of_row _ _ 1 _ _ (0, 0) (box2_on Y13.out g14.below)
    clear g14 b13 x0 x1 k12
    go_wp2_with fail
    refine (alive_true w14).mono ?_
    rintro _ w15 ⟨rfl, b15⟩
    have B15 := Lib.hid (below_2 B14.out b15)
    clear b15
    go_wp2_with fail
    go_ret
    exact ⟨rfl, B15.out⟩
end Go.Proofs.Ythnpiafpkllbpaa

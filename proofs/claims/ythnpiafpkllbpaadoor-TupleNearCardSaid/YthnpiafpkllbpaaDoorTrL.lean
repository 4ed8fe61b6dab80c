/-
  The walk of the law TupleRows.
-/
import Derived.Test.YthnpiafpkllbpaaDoorTrO
import Derived.Test.YthnpiafpkllbpaaDoorTlF
namespace Go.Proofs.YthnpiafpkllbpaaDoor
open Go Go.RowKit

theorem arg_in {w : World} {v : Value} {T : List V3} (h : ArgT w v T) (hl : T.length ≤ 20) : TupIn w.heap.size w v T := by
  obtain ⟨pa, cap, rfl, -, -, hc, -⟩ := h
  exact ⟨pa, cap, rfl, by omega, hc⟩
theorem own_rows {n : Nat} {w : World} {v : Value} {P : List (Value × List V3)} (ho : w.ownsRow n 24 1 v P.length (P.map (·.1))) (hl : P.length ≤ 1000000) (ha : AllIn w.heap.size w P) : RowsIn w.heap.size w v P := by
  cases P with
  | nil =>
    rcases ho.2 with ⟨rfl, -⟩ | ⟨g, cap, cur, rfl, -⟩
    · exact ⟨none, 0, rfl, hl, .inl rfl, ha⟩
    · exact ⟨_, cap, rfl, hl, .inl rfl, ha⟩
  | cons x r =>
    obtain ⟨g, c, rfl⟩ := own_form ho (by simp)
    refine ⟨_, c, rfl, hl, .inr ⟨g, 0, rfl, (ho.lt g rfl).2, fun j hj => ?_⟩, ha⟩
    rw [Nat.zero_add, ho.cellAt j (by omega), List.getElem?_map, List.getElem?_eq_getElem hj]
    rfl
theorem few_in {w w1 : World} {v1 : Value} {L P : List (Value × List V3)} {v : Value} (h : ArgR w v L) (ho : w1.ownsRow w.heap.size 24 1 v1 P.length (P.map (·.1))) (h60 : P.length ≤ 60) (hm : ∀ x ∈ P, x ∈ L ∧ x.2.length ≤ 20) (hb : Below w.heap.size w w1) : RowsIn w1.heap.size w1 v1 P := by
  obtain ⟨_, _, -, -, -, ha⟩ := h
  exact own_rows ho (by omega) fun x hx => ((arg_in (ha x (hm x hx).1) (hm x hx).2).below hb).mono hb.size
theorem copg_in {w w' : World} {Ts : List (List V3)} {e : Ending} (h : CopG w Ts e w') (hl : Ts.length ≤ 1000000) : ∃ (v : Value) (Q : List (Value × List V3)), e = .returned v ∧ RowsIn w'.heap.size w' v Q ∧ Q.map (·.2) = Ts ∧ Below w.heap.size w w' := by
  obtain ⟨v, Q, he, h1, h2, h3, h4⟩ := h
  have hq : Q.length ≤ 1000000 := by
    have := congrArg List.length h2
    simp at this
    omega
  exact ⟨v, Q, he, own_rows h1 hq fun y hy => (h3 y hy).1.in_ (h3 y hy).2, h2, h4⟩
set_option maxHeartbeats 1000000 in
set_option maxRecDepth 100000 in
theorem lrows (v : Value) (L : List (Value × List V3)) (tv : Value) (T : List V3) (w : World) (h1 : ArgR w v L) (h2 : ArgT w tv T) (G : Glob w) :
    Calls Tryd.prog 3 #[v, tv] w fun e w' => e = .returned (.bool true) ∧ Below w.heap.size w w' := by
  have H1 := Lib.hid h1
  have H2 := Lib.hid h2
  have HG := Lib.hid G
  clear h1 h2 G
  go_enter Tryd.func3, Tryd.ntmps3
  go_wp2_with fail
  refine (few_any w v L H1.out).mono ?_
  rintro e w1 ⟨v1, P, rfl, hown, h60, hmem, hb1⟩
  have R1 := Lib.hid (few_in H1.out hown h60 hmem hb1)
  have B1 := Lib.hid hb1
  have HL := Lib.hid h60
  clear hown hmem hb1 h60
  go_wp2_with fail
  refine (cut_any tv T w1 (H2.out.below B1.out)).mono ?_
  rintro e w2 ⟨v2, rfl, c2, rfl⟩
  have C2 := Lib.hid c2
  clear c2
  go_wp2_with fail
  refine (place_any v1 v2 P _ w1 R1.out C2.out.1).mono ?_
  rintro e w3 ⟨rfl, b3⟩
  have R3 := Lib.hid (R1.out.step b3)
  have C3 := Lib.hid ((C2.out.1.below b3).mono b3.size)
  have B3 := Lib.hid (B1.out.trans (b3.mono B1.out.size))
  clear b3
  go_wp2_with fail
  refine (rplace_any v1 v2 P _ w3 R3.out C3.out).mono ?_
  rintro e w4 ⟨rfl, b4⟩
  have R4 := Lib.hid (R3.out.step b4)
  have B4 := Lib.hid (B3.out.trans (b4.mono B3.out.size))
  clear b4
  go_wp2_with fail
  refine (tcheckrel_any v1 P w4 R4.out (by have := HL.out; omega)).mono ?_
  rintro e w5 ⟨z, rfl, hz, b5⟩
  have R5 := Lib.hid (R4.out.step b5)
  have B5 := Lib.hid (B4.out.trans (b5.mono B4.out.size))
  have HZ := Lib.hid hz
  clear b5 hz
  go_wp2_with fail
  refine (rcheckrel_any v1 P w5 R5.out (by have := HL.out; omega)).mono ?_
  rintro e w6 ⟨z', rfl, hz', b6⟩
  have R6 := Lib.hid (R5.out.step b6)
  have B6 := Lib.hid (B5.out.trans (b6.mono B5.out.size))
  have e0 : z' = z := ck_uniq hz' HZ.out
  subst e0
  clear b6 hz' HZ
  go_wp2_with fail
  refine (sorted_rows w6 v1 P R6.out).mono ?_
  rintro e w7 ⟨P', hp, hs, hc⟩
  rw [dedup_srt hp hs] at hc
  have hl : (srtL (P.map (·.2))).length ≤ 1000000 := by
    have h1 := fold_len (P.map (·.2)) []
    have := HL.out
    unfold srtL
    simp at h1
    omega
  obtain ⟨v7, Q7, rfl, r7, m7, b7⟩ := copg_in hc hl
  have Q7R := Lib.hid r7
  have M7 := Lib.hid m7
  have R7 := Lib.hid (R6.out.step b7)
  have B7 := Lib.hid (B6.out.trans (b7.mono B6.out.size))
  clear hc hp hs hl r7 m7 b7
  go_wp2_with fail
  refine (rsorted_any v1 P w7 R7.out (by have := HL.out; omega)).mono ?_
  rintro e w8 ⟨v8, Q8, rfl, r8, m8, b8⟩
  have Q8R := Lib.hid r8
  have M8 := Lib.hid m8
  have Q7R' := Lib.hid (Q7R.out.step b8)
  have B8 := Lib.hid (B7.out.trans (b8.mono B7.out.size))
  clear r8 m8 b8
  go_wp2_with fail
  refine (samerel_any v7 v8 Q7 Q8 w8 Q7R'.out Q8R.out (M7.out.trans M8.out.symm)).mono ?_
  rintro e w9 ⟨rfl, b9⟩
  have B9 := Lib.hid (B8.out.trans (b9.mono B8.out.size))
  clear b9
  go_wp2_with (go_at_call 18; refine (awake_true _ (HG.out.below B9.out)).mono ?_; rintro e w10 ⟨rfl, b10⟩; have B10 := Lib.hid (B9.out.trans (b10.mono B9.out.size)); clear b10)
  go_ret
  exact ⟨by simp, B10.out⟩
end Go.Proofs.YthnpiafpkllbpaaDoor

/-
  The document's Has, some, Union, Minus, Both and Apply.
-/
import Derived.Test.YtaogfgohchpnoaaDoorTsV
namespace Go.Proofs.YtaogfgohchpnoaaDoor
open Go Go.RowKit

set_option maxHeartbeats 1000000 in
set_option maxRecDepth 100000 in
theorem rhas_any (v tv : Value) (P : List (Value × List V3)) (T : List V3) (w : World) (h : RowsIn w.heap.size w v P) (ht : TupIn w.heap.size w tv T) :
    Calls Tryd.prog 54 #[v, tv] w fun e w' => e = .returned (.bool (plI (P.map (·.2)) T)) ∧ Below w.heap.size w w' := by
  have HP := Lib.hid (rplace_any v tv P T w h ht)
  clear h ht
  go_enter Tryd.func54, Tryd.ntmps54
  go_wp2_with fail
  refine HP.out.mono ?_
  rintro e w1 ⟨rfl, hb⟩
  go_wp2_with fail
  go_ret
  exact ⟨rfl, hb⟩
/-- An append of a row to a row of one's own. -/
theorem wpList_appRows {ops : Array Oper} {rest : List Oper} {o : Oper} {a : Act} {w : World} {Q : Exit → Act → World → Prop} (hgd : o.guard = none) (s x : Operand)
    (ho : o.op = .call { callee := .builtin .append, args := #[s, x], argTypes := #[22, 22] })
    (B : Nat) (v vx : Value) (xs Y : List Value) (hs : a.eval s = v) (hx : a.eval x = vx) (hown : w.ownsRow B 33 1 v xs.length xs) (hin : RdRow w vx Y) (hl : xs.length + Y.length ≤ 1000000) (hB : B ≤ w.heap.size)
    (h : ∀ v' w', w'.ownsRow B 33 1 v' (xs ++ Y).length (xs ++ Y) → w.grownBy w' v.ownBlock → wpList Tryd.prog ops Q rest (a.put o.dst v') w') : wpList Tryd.prog ops Q (o :: rest) a w := by
  refine wpList_plain hgd fun K hK => ?_
  obtain ⟨v', w', hr, h2, h3, h4⟩ := run_appRows w B o.type v vx xs Y hown hin hl hB
  unfold Oper.wp execOp
  simp only [ho, resolve, invoke, builtin, Sem.run_bind, Sem.run_pure, Result.andThen_ok, List.map_toArray, List.map_cons, List.map_nil, hs, hx, hr]
  exact hK _ _ (h v' w' h2 h3)
theorem rd_rows {w W : World} {v : Value} {P : List (Value × List V3)} (h : RowsIn w.heap.size w v P) (hb : Below w.heap.size w W) : RdRow W v (P.map (·.1)) := by
  obtain ⟨a, cap, rfl, -⟩ := h.form
  have := rd_take h hb (Nat.le_refl _)
  rwa [List.take_length] at this
/-- The rows to one another: what is read, in order. -/
theorem rows_rd {n : Nat} {w : World} {v : Value} {P : List (Value × List V3)} (ho : w.ownsRow n 33 1 v (P.map (·.1)).length (P.map (·.1))) (hl : P.length ≤ 1000000) (ha : AllIn w.heap.size w P) : RowsIn w.heap.size w v P :=
  (rows_own (by rw [List.length_map] at ho; exact ho) hl ha).1
theorem RowsIn.all {n : Nat} {w : World} {v : Value} {P : List (Value × List V3)} (h : RowsIn n w v P) : AllIn n w P := by
  obtain ⟨_, _, -, -, -, ha⟩ := h
  exact ha
set_option maxHeartbeats 2000000 in
set_option maxRecDepth 100000 in
theorem rsome_false (v v2 : Value) (P P2 : List (Value × List V3)) (w : World) (h : RowsIn w.heap.size w v P) (h2 : RowsIn w.heap.size w v2 P2) (hlen : P.length ≤ 900) :
    Calls Tryd.prog 39 #[v, v2, .bool false] w (Ends (St4 (someL (P.map (·.2)) (P2.map (·.2)) false)) w) := by
  have HR := Lib.hid h
  have H2 := Lib.hid h2
  obtain ⟨a, cap, rfl, -⟩ := h.form
  clear h h2
  go_enter Tryd.func39, Tryd.ntmps39
  go_wp2_with fail
  go_loopw [7, 8] (fun o i wr => ∃ k : Nat, k ≤ P.length ∧ i = .int .i64 k ∧ (∃ P' : List (Value × List V3), Hid (RowsCap wr.heap.size wr o P') ∧ Hid (P'.map (·.2) = srtL (((P.take k).map (·.2)).filter fun x => plI (P2.map (·.2)) x == false))) ∧ Hid (Below w.heap.size w wr)) (fun _ i _ => P.length - (intOf i).toNat)
  case atStart => exact ⟨0, Nat.zero_le _, rfl, ⟨[], Lib.hid ⟨⟨none, 0, rfl, by simp, .inl rfl, fun x hx => by cases hx⟩, none, 0, rfl, Nat.le_refl _, by simp⟩, Lib.hid rfl⟩, Lib.hid (Below.refl _ _)⟩
  case round =>
    obtain ⟨k, hk, rfl, ⟨P', hP', hm⟩, hB⟩ := hrel
    have h0 : (0 : Int) ≤ (k : Int) := by omega
    by_cases hlt : k < P.length
    · have hlt' : (k : Int) < (P.length : Int) := by omega
      have hl' : P'.length ≤ 1000 := by
        have h1 := congrArg List.length hm.out
        have h2 := fold_len (((P.take k).map (·.2)).filter fun x => plI (P2.map (·.2)) x == false) []
        have h3 := List.length_filter_le (fun x => plI (P2.map (·.2)) x == false) ((P.take k).map (·.2))
        unfold srtL at h1
        simp only [List.length_map, List.length_take, List.length_nil, Nat.zero_add] at h1 h2 h3
        omega
      obtain ⟨b, off, rfl, hx0, hin⟩ := HR.out.elem hB.out hlt
      have hsz := hB.out.size
      have HIn := Lib.hid hin
      have HH := Lib.hid (rhas_any _ _ P2 _ wr (H2.out.step hB.out) (hin.mono hsz))
      have HM := Lib.hid (map_take hlt)
      have HL' := Lib.hid hl'
      obtain ⟨x, X, hx, hX⟩ : ∃ x X, x = P[k].1 ∧ X = P[k].2 := ⟨_, _, rfl, rfl⟩
      rw [← hx] at hx0 HH HIn
      rw [← hX] at HM HH HIn
      have HX := Lib.hid (show P[k].1 = x from hx.symm)
      clear hx hX hin hl'
      go_wp2_with fail
      refine HH.out.mono ?_
      rintro e w1 ⟨rfl, hb1⟩
      have HB := Lib.hid (hB.out.trans (hb1.mono hsz))
      have HP1 := Lib.hid (hP'.out.step hb1)
      have HI1 := Lib.hid (((HIn.out.mono hsz).below hb1).mono hb1.size)
      obtain ⟨b', off', e', hx1, -⟩ := HR.out.elem HB.out hlt
      rw [HX.out] at hx1
      injection e' with e'
      injection e' with e1 e2
      subst e1 e2
      clear hb1 HX
      cases hI : plI (P2.map (·.2)) X with
      | true =>
        have HM3 := Lib.hid (show P'.map (·.2) = srtL (((P.take (k + 1)).map (·.2)).filter fun x => plI (P2.map (·.2)) x == false) by rw [HM.out, filter_snoc_neg (by simp [hI]), hm.out])
        go_wp2_with fail
        go_roundw
        case rel => exact ⟨k + 1, by omega, by go_num, ⟨P', HP1, HM3⟩, HB⟩
        case measure => simp [intOf]; omega
      | false =>
        have HC := Lib.hid (put_any _ _ P' _ w1 HP1.out HI1.out HL'.out)
        go_wp2_with fail
        refine HC.out.mono ?_
        rintro e w2 ⟨v3, P3, rfl, hp3, hm3, hb3⟩
        have HB3 := Lib.hid (HB.out.trans (hb3.mono HB.out.size))
        have HP3 := Lib.hid hp3
        have HM3 := Lib.hid (show P3.map (·.2) = srtL (((P.take (k + 1)).map (·.2)).filter fun x => plI (P2.map (·.2)) x == false) by rw [hm3, HM.out, filter_snoc_pos (by simp [hI]), hm.out])
        clear hb3 hp3 hm3
        go_wp2_with fail
        go_roundw
        case rel => exact ⟨k + 1, by omega, by go_num, ⟨P3, HP3, HM3⟩, HB3⟩
        case measure => simp [intOf]; omega
    · have hlt' : (P.length : Int) ≤ (k : Int) := by omega
      obtain rfl : k = P.length := by omega
      go_wp2_with fail
      go_ret
      exact ⟨_, rfl, ⟨P', hP'.out.1, by have := hm.out; rwa [List.take_length] at this⟩, hB.out⟩
set_option maxHeartbeats 2000000 in
set_option maxRecDepth 100000 in
theorem rsome_true (v v2 : Value) (P P2 : List (Value × List V3)) (w : World) (h : RowsIn w.heap.size w v P) (h2 : RowsIn w.heap.size w v2 P2) (hlen : P.length ≤ 900) :
    Calls Tryd.prog 39 #[v, v2, .bool true] w (Ends (St4 (someL (P.map (·.2)) (P2.map (·.2)) true)) w) := by
  have HR := Lib.hid h
  have H2 := Lib.hid h2
  obtain ⟨a, cap, rfl, -⟩ := h.form
  clear h h2
  go_enter Tryd.func39, Tryd.ntmps39
  go_wp2_with fail
  go_loopw [7, 8] (fun o i wr => ∃ k : Nat, k ≤ P.length ∧ i = .int .i64 k ∧ (∃ P' : List (Value × List V3), Hid (RowsCap wr.heap.size wr o P') ∧ Hid (P'.map (·.2) = srtL (((P.take k).map (·.2)).filter fun x => plI (P2.map (·.2)) x == true))) ∧ Hid (Below w.heap.size w wr)) (fun _ i _ => P.length - (intOf i).toNat)
  case atStart => exact ⟨0, Nat.zero_le _, rfl, ⟨[], Lib.hid ⟨⟨none, 0, rfl, by simp, .inl rfl, fun x hx => by cases hx⟩, none, 0, rfl, Nat.le_refl _, by simp⟩, Lib.hid rfl⟩, Lib.hid (Below.refl _ _)⟩
  case round =>
    obtain ⟨k, hk, rfl, ⟨P', hP', hm⟩, hB⟩ := hrel
    have h0 : (0 : Int) ≤ (k : Int) := by omega
    by_cases hlt : k < P.length
    · have hlt' : (k : Int) < (P.length : Int) := by omega
      have hl' : P'.length ≤ 1000 := by
        have h1 := congrArg List.length hm.out
        have h2 := fold_len (((P.take k).map (·.2)).filter fun x => plI (P2.map (·.2)) x == true) []
        have h3 := List.length_filter_le (fun x => plI (P2.map (·.2)) x == true) ((P.take k).map (·.2))
        unfold srtL at h1
        simp only [List.length_map, List.length_take, List.length_nil, Nat.zero_add] at h1 h2 h3
        omega
      obtain ⟨b, off, rfl, hx0, hin⟩ := HR.out.elem hB.out hlt
      have hsz := hB.out.size
      have HIn := Lib.hid hin
      have HH := Lib.hid (rhas_any _ _ P2 _ wr (H2.out.step hB.out) (hin.mono hsz))
      have HM := Lib.hid (map_take hlt)
      have HL' := Lib.hid hl'
      obtain ⟨x, X, hx, hX⟩ : ∃ x X, x = P[k].1 ∧ X = P[k].2 := ⟨_, _, rfl, rfl⟩
      rw [← hx] at hx0 HH HIn
      rw [← hX] at HM HH HIn
      have HX := Lib.hid (show P[k].1 = x from hx.symm)
      clear hx hX hin hl'
      go_wp2_with fail
      refine HH.out.mono ?_
      rintro e w1 ⟨rfl, hb1⟩
      have HB := Lib.hid (hB.out.trans (hb1.mono hsz))
      have HP1 := Lib.hid (hP'.out.step hb1)
      have HI1 := Lib.hid (((HIn.out.mono hsz).below hb1).mono hb1.size)
      obtain ⟨b', off', e', hx1, -⟩ := HR.out.elem HB.out hlt
      rw [HX.out] at hx1
      injection e' with e'
      injection e' with e1 e2
      subst e1 e2
      clear hb1 HX
      cases hI : plI (P2.map (·.2)) X with
      | true =>
        have HC := Lib.hid (put_any _ _ P' _ w1 HP1.out HI1.out HL'.out)
        go_wp2_with fail
        refine HC.out.mono ?_
        rintro e w2 ⟨v3, P3, rfl, hp3, hm3, hb3⟩
        have HB3 := Lib.hid (HB.out.trans (hb3.mono HB.out.size))
        have HP3 := Lib.hid hp3
        have HM3 := Lib.hid (show P3.map (·.2) = srtL (((P.take (k + 1)).map (·.2)).filter fun x => plI (P2.map (·.2)) x == true) by rw [hm3, HM.out, filter_snoc_pos (by simp [hI]), hm.out])
        clear hb3 hp3 hm3
        go_wp2_with fail
        go_roundw
        case rel => exact ⟨k + 1, by omega, by go_num, ⟨P3, HP3, HM3⟩, HB3⟩
        case measure => simp [intOf]; omega
      | false =>
        have HM3 := Lib.hid (show P'.map (·.2) = srtL (((P.take (k + 1)).map (·.2)).filter fun x => plI (P2.map (·.2)) x == true) by rw [HM.out, filter_snoc_neg (by simp [hI]), hm.out])
        go_wp2_with fail
        go_roundw
        case rel => exact ⟨k + 1, by omega, by go_num, ⟨P', HP1, HM3⟩, HB⟩
        case measure => simp [intOf]; omega
    · have hlt' : (P.length : Int) ≤ (k : Int) := by omega
      obtain rfl : k = P.length := by omega
      go_wp2_with fail
      go_ret
      exact ⟨_, rfl, ⟨P', hP'.out.1, by have := hm.out; rwa [List.take_length] at this⟩, hB.out⟩
set_option maxHeartbeats 1000000 in
set_option maxRecDepth 100000 in
theorem rminus_any {v v2 : Value} {L L2 : List (List V3)} {w : World} (h : St4 L v w) (h2 : St4 L2 v2 w) (hlen : L.length ≤ 900) :
    Calls Tryd.prog 13 #[v, v2] w (Ends (St4 (someL L L2 false)) w) := by
  obtain ⟨P, h, rfl⟩ := h
  obtain ⟨P2, h2, rfl⟩ := h2
  have HS := Lib.hid (rsome_false v v2 P P2 w h h2 (by simpa using hlen))
  clear h h2
  go_enter Tryd.func13, Tryd.ntmps13
  go_wp2_with fail
  refine HS.out.mono ?_
  rintro e w1 ⟨x1, rfl, s1, b1⟩
  have S1 := Lib.hid s1
  clear s1
  go_wp2_with fail
  go_ret
  exact ⟨_, rfl, S1.out, b1⟩
set_option maxHeartbeats 1000000 in
set_option maxRecDepth 100000 in
theorem rboth_any {v v2 : Value} {L L2 : List (List V3)} {w : World} (h : St4 L v w) (h2 : St4 L2 v2 w) (hlen : L.length ≤ 900) :
    Calls Tryd.prog 15 #[v, v2] w (Ends (St4 (someL L L2 true)) w) := by
  obtain ⟨P, h, rfl⟩ := h
  obtain ⟨P2, h2, rfl⟩ := h2
  have HS := Lib.hid (rsome_true v v2 P P2 w h h2 (by simpa using hlen))
  clear h h2
  go_enter Tryd.func15, Tryd.ntmps15
  go_wp2_with fail
  refine HS.out.mono ?_
  rintro e w1 ⟨x1, rfl, s1, b1⟩
  have S1 := Lib.hid s1
  clear s1
  go_wp2_with fail
  go_ret
  exact ⟨_, rfl, S1.out, b1⟩
set_option maxHeartbeats 1000000 in
set_option maxRecDepth 100000 in
theorem runion_any {v v2 : Value} {L L2 : List (List V3)} {w : World} (h : St4 L v w) (h2 : St4 L2 v2 w) (hlen : L.length + L2.length ≤ 900) :
    Calls Tryd.prog 11 #[v, v2] w (Ends (St4 (srtL (L ++ L2))) w) := by
  obtain ⟨P, h, rfl⟩ := h
  obtain ⟨P2, h2, rfl⟩ := h2
  have H1 := Lib.hid h
  have H2 := Lib.hid h2
  have HL := Lib.hid (show P.length + P2.length ≤ 900 by simpa using hlen)
  obtain ⟨a1, c1, rfl, -⟩ := h.form
  obtain ⟨a2, c2, rfl, -⟩ := h2.form
  clear h h2 hlen
  have HB1 := Lib.hid (below_new w (.cells #[] 33))
  have HO1 : Hid ((w.alloc (.cells #[] 33)).ownsRow w.heap.size 33 1 (.slice (some ⟨w.heap.size, 0, none⟩) 0 0) ([] : List Value).length []) := Lib.hid (World.ownsRow_lit (base := w.heap.size) (e := 33) (size := 1) w #[] 0 (Nat.le_refl _) (by decide) rfl)
  go_enter Tryd.func11, Tryd.ntmps11
  go_wp2_with (at_builtin; first
    | (refine wpList_appRows rfl (.tmp 5) (.tmp 6) rfl w.heap.size (.slice (some ⟨w.heap.size, 0, none⟩) 0 0) (.slice a1 P.length c1) ([] : List Value) (P.map (·.1)) rfl rfl HO1.out (rd_rows H1.out HB1.out) (by have := HL.out; simp; omega) HB1.out.size ?_; intro v3 w3 r1 r2; have HB3 := Lib.hid (HB1.out.grown r2 HB1.out.size (fun k hk => (HO1.out.lt k hk).1)); have HO3 := Lib.hid r1; clear r1 r2)
    | (refine wpList_appRows rfl (.tmp 7) (.tmp 8) rfl w.heap.size v3 (.slice a2 P2.length c2) (([] : List Value) ++ P.map (·.1)) (P2.map (·.1)) rfl rfl HO3.out (rd_rows H2.out HB3.out) (by have := HL.out; simp; omega) HB3.out.size ?_; intro v4 w4 r1 r2; have HB4 := Lib.hid (HB3.out.grown r2 HB3.out.size (fun k hk => (HO3.out.lt k hk).1)); have HO4 := Lib.hid r1; clear r1 r2))
  have hrow : RowsIn w4.heap.size w4 v4 (P ++ P2) := rows_rd (n := w.heap.size) (by have := HO4.out; simpa using this) (by have := HL.out; simp; omega) (fun x hx => by
    rcases List.mem_append.1 hx with hx | hx
    · exact ((H1.out.all x hx).below HB4.out).mono HB4.out.size
    · exact ((H2.out.all x hx).below HB4.out).mono HB4.out.size)
  refine (rsorted_any v4 (P ++ P2) w4 hrow (by have := HL.out; simp; omega)).mono ?_
  rintro e w5 ⟨v5, P5, rfl, h5, m5, b5⟩
  have H5 := Lib.hid (And.intro h5 m5)
  have HB5 := Lib.hid (HB4.out.trans (b5.mono HB4.out.size))
  clear h5 m5 b5 hrow
  go_wp2_with fail
  go_ret
  exact ⟨_, rfl, ⟨P5, H5.out.1, by rw [H5.out.2, List.map_append]⟩, HB5.out⟩
theorem some_len (a b : List (List V3)) (z : Bool) : (someL a b z).length ≤ a.length := by
  unfold someL
  have h1 := fold_len (a.filter fun x => plI b x == z) []
  have h2 := List.length_filter_le (fun x => plI b x == z) a
  simp only [srtL, List.length_nil, Nat.zero_add] at h1 ⊢
  omega
set_option maxHeartbeats 1000000 in
set_option maxRecDepth 100000 in
theorem rapply_any {v1 v2 v3 : Value} {L1 L2 L3 : List (List V3)} {w : World} (h1 : St4 L1 v1 w) (h2 : St4 L2 v2 w) (h3 : St4 L3 v3 w) (hlen : L1.length + L2.length ≤ 900) :
    Calls Tryd.prog 17 #[v1, v2, v3] w (Ends (St4 (srtL (L2 ++ someL L1 L3 false))) w) := by
  have H1 := Lib.hid h1
  have H2 := Lib.hid h2
  have H3 := Lib.hid h3
  have HL := Lib.hid hlen
  have HL2 := Lib.hid (show L2.length + (someL L1 L3 false).length ≤ 900 by have := some_len L1 L3 false; omega)
  clear h1 h2 h3 hlen
  go_enter Tryd.func17, Tryd.ntmps17
  go_wp2_with fail
  refine (rminus_any H1.out H3.out (by have := HL.out; omega)).mono ?_
  rintro e w1 ⟨x1, rfl, s1, b1⟩
  have S1 := Lib.hid s1
  have S2 := Lib.hid (H2.out.on b1)
  have B1 := Lib.hid b1
  clear s1 b1
  go_wp2_with fail
  refine (runion_any S2.out S1.out HL2.out).mono ?_
  rintro e w2 ⟨x2, rfl, s2, b2⟩
  have S3 := Lib.hid s2
  have B2 := Lib.hid (B1.out.trans (b2.mono B1.out.size))
  clear s2 b2
  go_wp2_with fail
  go_ret
  exact ⟨_, rfl, S3.out, B2.out⟩
end Go.Proofs.YtaogfgohchpnoaaDoor

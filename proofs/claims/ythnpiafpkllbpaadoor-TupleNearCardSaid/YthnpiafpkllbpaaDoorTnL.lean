/-
  The walk of the law TupleNear.
-/
import Derived.Test.YthnpiafpkllbpaaDoorTnW
namespace Go.Proofs.YthnpiafpkllbpaaDoor
open Go Go.RowKit

theorem win_between {Lo Hi a b c : List V3} (hab : cmpT a b < 0) (hbc : cmpT b c < 0) (ha : winT Lo a Hi = true) (hc : winT Lo c Hi = true) : winT Lo b Hi = true := by
  unfold winT at *
  simp only [Bool.and_eq_true, decide_eq_true_eq] at *
  exact between Lo Hi a b c (by omega) (by omega) ha.1 hc.2
theorem ris_at {Ts : List (List V3)} (h : Ris Ts) {i j : Nat} (hij : i < j) (hj : j < Ts.length) : cmpT (Ts[i]'(by omega)) Ts[j] < 0 := List.pairwise_iff_getElem.1 h i j (by omega) hj hij
/-- How the turns stand. -/
def TurnS (Ts : List (List V3)) (Lo Hi : List V3) (k t : Nat) (was : Bool) : Prop :=
  (t = 0 ∧ was = false) ∨ (t = 1 ∧ was = true ∧ ∃ j, j + 1 = k ∧ ∃ hj : j < Ts.length, winT Lo Ts[j] Hi = true) ∨ (t = 1 ∧ was = false ∧ ∀ j, k ≤ j → ∀ hj : j < Ts.length, winT Lo Ts[j] Hi = false)
theorem turn_in {Ts : List (List V3)} {Lo Hi : List V3} {k t : Nat} {was : Bool} (h : TurnS Ts Lo Hi k t was) (hk : k < Ts.length) (hw : winT Lo Ts[k] Hi = true) : (was = false → t = 0) ∧ TurnS Ts Lo Hi (k + 1) 1 true ∧ (was = true → t = 1) := by
  refine ⟨fun e => ?_, .inr (.inl ⟨rfl, rfl, k, rfl, hk, hw⟩), fun e => ?_⟩
  · rcases h with h | h | h
    · exact h.1
    · rw [h.2.1] at e; cases e
    · have := h.2.2 k (Nat.le_refl _) hk; rw [hw] at this; cases this
  · rcases h with h | h | h
    · rw [h.2] at e; cases e
    · exact h.1
    · exact h.1
theorem turn_out {Ts : List (List V3)} {Lo Hi : List V3} {k t : Nat} {was : Bool} (hr : Ris Ts) (h : TurnS Ts Lo Hi k t was) (hk : k < Ts.length) (hw : winT Lo Ts[k] Hi = false) : TurnS Ts Lo Hi (k + 1) t false := by
  rcases h with ⟨rfl, -⟩ | ⟨rfl, -, j, rfl, hj, hwj⟩ | ⟨rfl, -, h⟩
  · exact .inl ⟨rfl, rfl⟩
  · refine .inr (.inr ⟨rfl, rfl, fun i hi hil => ?_⟩)
    cases hwi : winT Lo Ts[i] Hi with
    | false => rfl
    | true =>
      rw [win_between (ris_at hr (Nat.lt_succ_self j) hk) (ris_at hr (by omega : j + 1 < i) hil) hwj hwi] at hw
      cases hw
  · exact .inr (.inr ⟨rfl, rfl, fun i hi hil => h i (by omega) hil⟩)
theorem turn_le {Ts : List (List V3)} {Lo Hi : List V3} {k t : Nat} {was : Bool} (h : TurnS Ts Lo Hi k t was) : t ≤ 1 := by
  rcases h with h | h | h <;> omega
theorem copg_cap {w w' : World} {Ts : List (List V3)} {e : Ending} (h : CopG w Ts e w') (hl : Ts.length ≤ 1000000) : ∃ (v : Value) (Q : List (Value × List V3)), e = .returned v ∧ RowsIn w'.heap.size w' v Q ∧ Q.map (·.2) = Ts ∧ Below w.heap.size w w' ∧ ∀ y ∈ Q, TupCap w'.heap.size w' y.1 y.2 := by
  obtain ⟨v, Q, he, h1, h2, h3, h4⟩ := h
  have hq : Q.length ≤ 1000000 := by
    have := congrArg List.length h2
    simp at this
    omega
  refine ⟨v, Q, he, own_rows h1 hq fun y hy => (h3 y hy).1.in_ (h3 y hy).2, h2, h4, fun y hy => ⟨(h3 y hy).1.in_ (h3 y hy).2, ?_⟩⟩
  rcases (h3 y hy).1.2 with ⟨e, -⟩ | ⟨g, cap, cur, e, -, -, h1, -⟩
  · exact ⟨none, 0, 0, e, Nat.le_refl _⟩
  · exact ⟨_, _, cap, e, h1⟩
set_option maxHeartbeats 2000000 in
set_option maxRecDepth 100000 in
theorem lnear (v : Value) (L : List (Value × List V3)) (lv : Value) (A : List V3) (hv : Value) (H : List V3) (w : World) (h1 : ArgR w v L) (h2 : ArgT w lv A) (h3 : ArgT w hv H) (G : Glob w) :
    Calls Tryd.prog 8 #[v, lv, hv] w fun e w' => e = .returned (.bool true) ∧ Below w.heap.size w w' := by
  have H1 := Lib.hid h1
  have H2 := Lib.hid h2
  have H3 := Lib.hid h3
  have HG := Lib.hid G
  clear h1 h2 h3 G
  go_enter Tryd.func8, Tryd.ntmps8
  go_wp2_with fail
  refine (awake_true w HG.out).mono ?_
  rintro e w0 ⟨rfl, b0⟩
  have B0 := Lib.hid b0
  clear b0
  go_wp2_with fail
  refine (few_any w0 v L (H1.out.below B0.out)).mono ?_
  rintro e w1 ⟨v1, P, rfl, hown, h60, hmem, hb1⟩
  have R1 := Lib.hid (few_in (H1.out.below B0.out) hown h60 hmem hb1)
  have B1 := Lib.hid (B0.out.trans (hb1.mono B0.out.size))
  have HL := Lib.hid h60
  clear hown hmem hb1 h60
  go_wp2_with fail
  refine (sorted_rows w1 v1 P R1.out).mono ?_
  rintro e w2 ⟨P', hp, hs, hc⟩
  rw [dedup_srt hp hs] at hc
  have hl0 : (srtL (P.map (·.2))).length ≤ 60 := by
    have h1 := fold_len (P.map (·.2)) []
    have := HL.out
    unfold srtL
    simp at h1
    omega
  obtain ⟨v2, Q, rfl, r2, m2, b2, hcap⟩ := copg_cap hc (by omega)
  have RQ := Lib.hid r2
  have HRis := Lib.hid (show Ris (Q.map (·.2)) by rw [m2]; exact srt_ris _)
  have HCap := Lib.hid hcap
  have hql : Q.length ≤ 60 := by
    have := congrArg List.length m2
    simp at this
    omega
  have B2 := Lib.hid (B1.out.trans (b2.mono B1.out.size))
  clear hc hp hs hl0 r2 m2 b2 hcap
  go_wp2_with fail
  refine (cut_any lv A w2 (H2.out.below B2.out)).mono ?_
  rintro e w3 ⟨v3, rfl, c3, rfl⟩
  have C3 := Lib.hid c3.1
  clear c3
  go_wp2_with fail
  refine (cut_any hv H w2 (H3.out.below B2.out)).mono ?_
  rintro e w4 ⟨v4, rfl, c4, rfl⟩
  have C4 := Lib.hid c4.1
  clear c4
  obtain ⟨Lo, hLo⟩ : ∃ Lo, Lo = A.take 20 := ⟨_, rfl⟩
  obtain ⟨Hi, hHi⟩ : ∃ Hi, Hi = H.take 20 := ⟨_, rfl⟩
  rw [← hLo] at C3
  rw [← hHi] at C4
  clear hLo hHi
  obtain ⟨p3, c3, rfl, -⟩ := id C3.out
  obtain ⟨p4, c4, rfl, -⟩ := id C4.out
  obtain ⟨a2, k2, rfl, -⟩ := RQ.out.form
  by_cases h0 : 0 < Q.length
  · have h0' : (0 : Int) < (Q.length : Int) := by omega
    obtain ⟨b, off, rfl, hx0, hin⟩ := RQ.out.elem (Below.refl _ _) h0
    rw [Nat.add_zero] at hx0
    obtain ⟨q0, k0, e0, hn6, -⟩ := hin
    rw [e0] at hx0
    generalize Q[0].2.length = n at hx0 hn6
    clear e0
    go_wp2_with fail
    refine (width_any w2 _ Q n RQ.out (by omega)).mono ?_
    rintro e w5 ⟨v5, rfl, ho5, b5⟩
    obtain ⟨F, hF⟩ : ∃ F, F = (Q : List (Value × List V3)).filter fun x => x.2.length == n := ⟨_, rfl⟩
    rw [← hF] at ho5
    have hsub : ∀ x ∈ F, x ∈ Q := fun x hx => by rw [hF] at hx; exact (List.mem_filter.1 hx).1
    have HFc := Lib.hid (show ∀ x ∈ F, TupCap w5.heap.size w5 x.1 x.2 from fun x hx => (TupCap.below (HCap.out x (hsub x hx)) b5).imp (fun h => h.mono b5.size) id)
    have hfl : F.length ≤ 60 := by rw [hF]; exact Nat.le_trans (List.length_filter_le _ _) hql
    have HFr := Lib.hid (show Ris (F.map (·.2)) by rw [hF]; exact List.Pairwise.sublist (List.Sublist.map _ List.filter_sublist) HRis.out)
    have HR5 := Lib.hid (own_rows ho5 (by omega) fun x hx => (HFc.out x hx).1)
    have B5 := Lib.hid (B2.out.trans (b5.mono B2.out.size))
    have D3 := Lib.hid ((C3.out.below b5).mono b5.size)
    have D4 := Lib.hid ((C4.out.below b5).mono b5.size)
    obtain ⟨a5, k5, rfl, -⟩ := HR5.out.form
    clear ho5 b5 hF hsub
    by_cases hlo : n < Lo.length
    · have hlo' : (n : Int) < (Lo.length : Int) := by omega
      go_wp2_with fail
      go_ret
      exact ⟨rfl, B5.out⟩
    have hlo' : (Lo.length : Int) ≤ (n : Int) := by omega
    by_cases hhi : n < Hi.length
    · have hhi' : (n : Int) < (Hi.length : Int) := by omega
      go_wp2_with fail
      go_ret
      exact ⟨rfl, B5.out⟩
    have hhi' : (Hi.length : Int) ≤ (n : Int) := by omega
    go_wp2_with fail
    go_loopw [8, 9, 10] (fun t z i wr => ∃ (k q : Nat) (was : Bool), k ≤ F.length ∧ i = .int .i64 k ∧ t = .int .i64 q ∧ z = .bool was ∧ q ≤ 1 ∧ Hid (TurnS (F.map (·.2)) Lo Hi k q was) ∧ Hid (Below w5.heap.size w5 wr)) (fun _ _ i _ => F.length - (intOf i).toNat)
    case atStart => exact ⟨0, 0, false, Nat.zero_le _, rfl, rfl, rfl, by omega, Lib.hid (.inl ⟨rfl, rfl⟩), Lib.hid (Below.refl _ _)⟩
    case round =>
      obtain ⟨k, q, was, hk, rfl, rfl, rfl, hq1, hT, hB⟩ := hrel
      have h0 : (0 : Int) ≤ (k : Int) := by omega
      by_cases hlt : k < F.length
      · have hlt' : (k : Int) < (F.length : Int) := by omega
        obtain ⟨b5, o5, rfl, hx5, -⟩ := HR5.out.elem hB.out hlt
        have hsz := hB.out.size
        have hkm : k < (F.map (·.2)).length := by simpa using hlt
        have HC := Lib.hid (within_any _ F[k].1 _ Lo F[k].2 Hi w5.heap.size wr (D3.out.below hB.out) (TupCap.below (HFc.out _ (List.getElem_mem hlt)) hB.out) (D4.out.below hB.out) hsz)
        have HI := Lib.hid (fun h => turn_in hT.out hkm h)
        have HO := Lib.hid (fun h => turn_out HFr.out hT.out hkm h)
        rw [List.getElem_map] at HI HO
        generalize F[k].1 = x at hx5 HC
        generalize F[k].2 = X at HC HI HO
        generalize winT Lo X Hi = z at HC HI HO
        clear hT hkm
        cases z with
        | true =>
          obtain ⟨i1, i2, i3⟩ := HI.out rfl
          have I2 := Lib.hid i2
          clear i2 HI HO
          cases was with
          | false =>
            obtain rfl := i1 rfl
            clear i1 i3
            go_wp2_with fail
            refine HC.out.mono ?_
            rintro e w7 ⟨rfl, g7⟩
            have B7 := Lib.hid (hB.out.trans (g7.below.mono hsz))
            clear g7
            go_wp2_with fail
            go_roundw
            case rel => exact ⟨k + 1, 1, true, by omega, by go_num, by go_num, rfl, by omega, I2, B7⟩
            case measure => simp [intOf]; omega
          | true =>
            obtain rfl := i3 rfl
            clear i1 i3
            go_wp2_with fail
            refine HC.out.mono ?_
            rintro e w7 ⟨rfl, g7⟩
            have B7 := Lib.hid (hB.out.trans (g7.below.mono hsz))
            clear g7
            go_wp2_with fail
            go_roundw
            case rel => exact ⟨k + 1, 1, true, by omega, by go_num, rfl, rfl, by omega, I2, B7⟩
            case measure => simp [intOf]; omega
        | false =>
          have I2 := Lib.hid (HO.out rfl)
          clear HI HO
          go_wp2_with fail
          refine HC.out.mono ?_
          rintro e w7 ⟨rfl, g7⟩
          have B7 := Lib.hid (hB.out.trans (g7.below.mono hsz))
          clear g7
          go_wp2_with fail
          go_roundw
          case rel => exact ⟨k + 1, q, false, by omega, by go_num, rfl, rfl, hq1, I2, B7⟩
          case measure => simp [intOf]; omega
      · have hlt' : (F.length : Int) ≤ (k : Int) := by omega
        have hq2 : (q : Int) ≤ 1 := by omega
        have HZ : cmpV 0 0 ⟨#[]⟩ 0 0 ⟨#[]⟩ = 0 := by decide +kernel
        have HC := Lib.hid (ref_compare_grown 0 0 ⟨#[]⟩ 0 0 ⟨#[]⟩ wr)
        rw [HZ] at HC
        clear HZ
        go_wp2_with fail
        refine HC.out.mono ?_
        rintro e w8 ⟨rfl, g8⟩
        have B8 := Lib.hid (B5.out.trans ((hB.out.trans (g8.below.mono hB.out.size)).mono B5.out.size))
        clear g8
        go_wp2_with fail
        go_ret
        exact ⟨rfl, B8.out⟩
  · obtain rfl : Q = [] := List.eq_nil_of_length_eq_zero (by omega)
    obtain ⟨n, hn⟩ : ∃ n : Nat, (n : Int) = 0 := ⟨0, rfl⟩
    go_wp2_with fail
    refine (width_any w2 _ [] 0 RQ.out (by simp)).mono ?_
    rintro e w5 ⟨v5, rfl, ho5, b5⟩
    obtain ⟨F, hF⟩ : ∃ F, F = ([] : List (Value × List V3)).filter fun x => x.2.length == 0 := ⟨_, rfl⟩
    rw [← hF] at ho5
    have hsub : ∀ x ∈ F, x ∈ ([] : List (Value × List V3)) := fun x hx => by rw [hF] at hx; exact (List.mem_filter.1 hx).1
    have HFc := Lib.hid (show ∀ x ∈ F, TupCap w5.heap.size w5 x.1 x.2 from fun x hx => (TupCap.below (HCap.out x (hsub x hx)) b5).imp (fun h => h.mono b5.size) id)
    have hfl : F.length ≤ 60 := by rw [hF]; exact Nat.le_trans (List.length_filter_le _ _) hql
    have HFr := Lib.hid (show Ris (F.map (·.2)) by rw [hF]; exact List.Pairwise.sublist (List.Sublist.map _ List.filter_sublist) HRis.out)
    have HR5 := Lib.hid (own_rows ho5 (by omega) fun x hx => (HFc.out x hx).1)
    have B5 := Lib.hid (B2.out.trans (b5.mono B2.out.size))
    have D3 := Lib.hid ((C3.out.below b5).mono b5.size)
    have D4 := Lib.hid ((C4.out.below b5).mono b5.size)
    obtain ⟨a5, k5, rfl, -⟩ := HR5.out.form
    clear ho5 b5 hF hsub
    by_cases hlo : 0 < Lo.length
    · have hlo' : (0 : Int) < (Lo.length : Int) := by omega
      go_wp2_with fail
      go_ret
      exact ⟨rfl, B5.out⟩
    have hlo' : (Lo.length : Int) ≤ (0 : Int) := by omega
    by_cases hhi : 0 < Hi.length
    · have hhi' : (0 : Int) < (Hi.length : Int) := by omega
      go_wp2_with fail
      go_ret
      exact ⟨rfl, B5.out⟩
    have hhi' : (Hi.length : Int) ≤ (0 : Int) := by omega
    go_wp2_with fail
    go_loopw [8, 9, 10] (fun t z i wr => ∃ (k q : Nat) (was : Bool), k ≤ F.length ∧ i = .int .i64 k ∧ t = .int .i64 q ∧ z = .bool was ∧ q ≤ 1 ∧ Hid (TurnS (F.map (·.2)) Lo Hi k q was) ∧ Hid (Below w5.heap.size w5 wr)) (fun _ _ i _ => F.length - (intOf i).toNat)
    case atStart => exact ⟨0, 0, false, Nat.zero_le _, rfl, rfl, rfl, by omega, Lib.hid (.inl ⟨rfl, rfl⟩), Lib.hid (Below.refl _ _)⟩
    case round =>
      obtain ⟨k, q, was, hk, rfl, rfl, rfl, hq1, hT, hB⟩ := hrel
      have h0 : (0 : Int) ≤ (k : Int) := by omega
      by_cases hlt : k < F.length
      · have hlt' : (k : Int) < (F.length : Int) := by omega
        obtain ⟨b5, o5, rfl, hx5, -⟩ := HR5.out.elem hB.out hlt
        have hsz := hB.out.size
        have hkm : k < (F.map (·.2)).length := by simpa using hlt
        have HC := Lib.hid (within_any _ F[k].1 _ Lo F[k].2 Hi w5.heap.size wr (D3.out.below hB.out) (TupCap.below (HFc.out _ (List.getElem_mem hlt)) hB.out) (D4.out.below hB.out) hsz)
        have HI := Lib.hid (fun h => turn_in hT.out hkm h)
        have HO := Lib.hid (fun h => turn_out HFr.out hT.out hkm h)
        rw [List.getElem_map] at HI HO
        generalize F[k].1 = x at hx5 HC
        generalize F[k].2 = X at HC HI HO
        generalize winT Lo X Hi = z at HC HI HO
        clear hT hkm
        cases z with
        | true =>
          obtain ⟨i1, i2, i3⟩ := HI.out rfl
          have I2 := Lib.hid i2
          clear i2 HI HO
          cases was with
          | false =>
            obtain rfl := i1 rfl
            clear i1 i3
            go_wp2_with fail
            refine HC.out.mono ?_
            rintro e w7 ⟨rfl, g7⟩
            have B7 := Lib.hid (hB.out.trans (g7.below.mono hsz))
            clear g7
            go_wp2_with fail
            go_roundw
            case rel => exact ⟨k + 1, 1, true, by omega, by go_num, by go_num, rfl, by omega, I2, B7⟩
            case measure => simp [intOf]; omega
          | true =>
            obtain rfl := i3 rfl
            clear i1 i3
            go_wp2_with fail
            refine HC.out.mono ?_
            rintro e w7 ⟨rfl, g7⟩
            have B7 := Lib.hid (hB.out.trans (g7.below.mono hsz))
            clear g7
            go_wp2_with fail
            go_roundw
            case rel => exact ⟨k + 1, 1, true, by omega, by go_num, rfl, rfl, by omega, I2, B7⟩
            case measure => simp [intOf]; omega
        | false =>
          have I2 := Lib.hid (HO.out rfl)
          clear HI HO
          go_wp2_with fail
          refine HC.out.mono ?_
          rintro e w7 ⟨rfl, g7⟩
          have B7 := Lib.hid (hB.out.trans (g7.below.mono hsz))
          clear g7
          go_wp2_with fail
          go_roundw
          case rel => exact ⟨k + 1, q, false, by omega, by go_num, rfl, rfl, hq1, I2, B7⟩
          case measure => simp [intOf]; omega
      · have hlt' : (F.length : Int) ≤ (k : Int) := by omega
        have hq2 : (q : Int) ≤ 1 := by omega
        have HZ : cmpV 0 0 ⟨#[]⟩ 0 0 ⟨#[]⟩ = 0 := by decide +kernel
        have HC := Lib.hid (ref_compare_grown 0 0 ⟨#[]⟩ 0 0 ⟨#[]⟩ wr)
        rw [HZ] at HC
        clear HZ
        go_wp2_with fail
        refine HC.out.mono ?_
        rintro e w8 ⟨rfl, g8⟩
        have B8 := Lib.hid (B5.out.trans ((hB.out.trans (g8.below.mono hB.out.size)).mono B5.out.size))
        clear g8
        go_wp2_with fail
        go_ret
        exact ⟨rfl, B8.out⟩
end Go.Proofs.YthnpiafpkllbpaaDoor

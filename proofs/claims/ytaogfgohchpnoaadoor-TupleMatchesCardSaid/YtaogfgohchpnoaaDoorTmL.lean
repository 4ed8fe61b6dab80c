/-
  The walk of the law TupleMatches.
-/
import Derived.Test.YtaogfgohchpnoaaDoorTmD
namespace Go.Proofs.YtaogfgohchpnoaaDoor
open Go Go.RowKit

theorem matchT_len : ∀ (p : List Tm) (T : List V3) (L L' : List Bd), matchT p T L = some L' → L'.length ≤ L.length + p.length
  | [], T, L, L', h => by
    rw [matchT_nil_left] at h
    cases h
    simp
  | x :: p, [], L, L', h => by
    have : matchT (x :: p) [] L = some L := rfl
    rw [this] at h
    cases h
    omega
  | x :: p, t :: T, L, L', h => by
    rw [matchT] at h
    have ih := fun M h => matchT_len p T M L' h
    rw [List.length_cons]
    split at h
    · split at h
      · have := ih L h; omega
      · cases h
    · split at h
      · split at h
        · split at h
          · have := ih L h; omega
          · cases h
        · have := ih _ h
          rw [List.length_append, List.length_singleton] at this
          omega
      · have := ih L h; omega
theorem matO_len {p : List Tm} {T : List V3} {L : List Bd} (h : matO p T = some L) : L.length ≤ 8 := by
  unfold matO at h
  split at h
  · rename_i hp
    have := matchT_len p T [] L h
    have := hp.1.1
    simp at *
    omega
  · cases h
/-- What Match answers, in one form. -/
theorem mat_st {o : Option (List Bd)} {w : World} {e : Ending} {w' : World} (h : MatchEnd o w e w') : ∃ v, e = .returned (.tuple #[v, .bool o.isSome]) ∧ KIn w'.heap.size w' v (o.getD []) ∧ Below w.heap.size w w' := by
  obtain ⟨hb, ⟨L, v, rfl, rfl, ho⟩ | ⟨rfl, rfl⟩⟩ := h
  · exact ⟨v, rfl, OwnK.in_ ho, hb⟩
  · exact ⟨_, rfl, .inl ⟨rfl, none, 0, rfl⟩, hb⟩
theorem pat_take {n₀ : Nat} {w : World} {q : Option Addr} {l cap : Nat} {p : List Tm} (h : PatIn n₀ w (.slice q l cap) p) (hl : 20 < p.length) : PatIn n₀ w (.slice q 20 cap) (p.take 20) := by
  obtain ⟨q', cap', e, h1, h2, h3⟩ := h
  injection e with e1 e2 e3
  subst e1 e3
  have hlen : (p.take 20).length = 20 := by rw [List.length_take]; omega
  refine ⟨q, cap, by rw [hlen], by rw [hlen]; decide, fun x hx => h2 x (List.mem_of_mem_take hx), ?_⟩
  rcases h3 with h3 | ⟨b, off, rfl, hb, hc⟩
  · rw [h3] at hl; simp at hl
  · refine .inr ⟨b, off, rfl, hb, fun j hj => ?_⟩
    have hj' : j < p.length := by rw [List.length_take] at hj; omega
    have := hc j hj'
    simpa using this
/-- What both CheckPattern tell. -/
def CkPat (p : List Tm) (z : Int) : Prop := (OkP p ∧ z = 0) ∨ (¬ OkP p ∧ z = 22)
theorem ckpat_eq {p : List Tm} {z z' : Int} (h : CkPat p z) (h' : CkPat p z') : z' = z := by
  rcases h with ⟨a, rfl⟩ | ⟨a, rfl⟩ <;> rcases h' with ⟨b, rfl⟩ | ⟨b, rfl⟩ <;> first | rfl | exact absurd a b | exact absurd b a
theorem ckpat_of {p : List Tm} {e : Ending} (h : (OkP p ∧ e = .returned (.int .i64 0)) ∨ (¬ OkP p ∧ e = .returned (.int .i64 22))) : ∃ z, e = .returned (.int .i64 z) ∧ CkPat p z := by
  rcases h with ⟨a, rfl⟩ | ⟨a, rfl⟩
  · exact ⟨0, rfl, .inl ⟨a, rfl⟩⟩
  · exact ⟨22, rfl, .inr ⟨a, rfl⟩⟩
theorem PatIn.step {w w' : World} {v : Value} {p : List Tm} (h : PatIn w.heap.size w v p) (hb : Below w.heap.size w w') : PatIn w'.heap.size w' v p := (h.below hb).mono hb.size
theorem TupIn.step {w w' : World} {v : Value} {T : List V3} (h : TupIn w.heap.size w v T) (hb : Below w.heap.size w w') : TupIn w'.heap.size w' v T := (h.below hb).mono hb.size
theorem KIn.step {w w' : World} {v : Value} {L : List Bd} (h : KIn w.heap.size w v L) (hb : Below w.heap.size w w') : KIn w'.heap.size w' v L := (h.below hb).mono hb.size
set_option maxHeartbeats 4000000 in
set_option maxRecDepth 100000 in
theorem lmatches (v1 : Value) (p : List Tm) (v2 : Value) (T₀ : List V3) (v3 : Value) (LC : List (Value × List V3)) (w : World) (h1 : PatIn w.heap.size w v1 p ∧ ∃ q l cap, v1 = .slice q l cap ∧ l ≤ cap ∧ cap ≤ maxLen) (h2 : ArgT w v2 T₀) (h3 : ArgR w v3 LC) (G : Glob w) :
    Calls Tryd.prog 4 #[v1, v2, v3] w fun e w' => e = .returned (.bool true) ∧ Below w.heap.size w w' := by
  have HG := Lib.hid G
  have H1 := Lib.hid h1.1
  have H2 := Lib.hid h2
  have H3 := Lib.hid h3
  obtain ⟨hp, q, l, cap, rfl, hlc, hcm⟩ := h1
  obtain ⟨q', cap', e', lp, -, -⟩ := hp
  injection e' with e1 e2 e3
  subst e1 e2 e3
  unfold maxLen at hcm
  have hcap : (p.length : Int) ≤ (cap : Int) := by omega
  have hcm' : (cap : Int) ≤ 9223372036854775807 := by omega
  have B0 := Lib.hid (Below.refl w.heap.size w)
  clear h2 h3 G lp
  go_enter Tryd.func4, Tryd.ntmps4
  go_wp2_with fail
  refine (cut_any v2 T₀ w H2.out).mono ?_
  rintro e w1 ⟨x2, rfl, c2, rfl⟩
  obtain ⟨T, hT⟩ : ∃ T, T = T₀.take 20 := ⟨_, rfl⟩
  rw [← hT] at c2
  have HT := Lib.hid c2.1
  clear c2 hT
  go_wp2_with fail
  refine (fewM H3.out).mono ?_
  rintro e w1 ⟨x3, LL, rfl, s1, l1, b1⟩
  have HP := Lib.hid (H1.out.step b1)
  replace HT := Lib.hid (HT.out.step b1)
  have SL := Lib.hid s1
  have B1 := Lib.hid (B0.out.trans b1)
  have Hl1 := Lib.hid l1
  clear b1 s1 l1
  by_cases h20 : p.length ≤ 20
  · have h20' : (p.length : Int) ≤ 20 := by omega
    clear h20
    go_wp2_with fail
    refine (tmatch_any (.slice q p.length cap) x2 p T w1.heap.size w1 HP.out HT.out (Nat.le_refl _)).mono ?_
    rintro e w2 hm2
    obtain ⟨y2, rfl, k2, b2⟩ := mat_st hm2
    replace HP := Lib.hid (HP.out.step b2)
    replace HT := Lib.hid (HT.out.step b2)
    replace SL := Lib.hid (SL.out.on b2)
    have B2 := Lib.hid (B1.out.trans (b2.mono B1.out.size))
    have KA := Lib.hid k2
    clear b2 k2 hm2
    go_wp2_with fail
    refine (rmatch_any (.slice q p.length cap) x2 p T w2.heap.size w2 HP.out HT.out (Nat.le_refl _)).mono ?_
    rintro e w3 hm3
    obtain ⟨y3, rfl, k3, b3⟩ := mat_st hm3
    replace HP := Lib.hid (HP.out.step b3)
    replace HT := Lib.hid (HT.out.step b3)
    replace SL := Lib.hid (SL.out.on b3)
    replace KA := Lib.hid (KA.out.step b3)
    have B3 := Lib.hid (B2.out.trans (b3.mono B2.out.size))
    have KB := Lib.hid k3
    clear b3 k3 hm3
    go_wp2_with fail
    refine (checkPat_any (.slice q p.length cap) p w3.heap.size w3 HP.out (Nat.le_refl _)).mono ?_
    rintro e w4 ⟨hz4, b4⟩
    obtain ⟨z, rfl, hz⟩ := ckpat_of hz4
    have HZ := Lib.hid hz
    replace HP := Lib.hid (HP.out.step b4)
    replace HT := Lib.hid (HT.out.step b4)
    replace SL := Lib.hid (SL.out.on b4)
    replace KA := Lib.hid (KA.out.step b4)
    replace KB := Lib.hid (KB.out.step b4)
    have B4 := Lib.hid (B3.out.trans (b4.mono B3.out.size))
    clear b4 hz4 hz
    go_wp2_with fail
    refine (rcheckPat_any (.slice q p.length cap) p w4.heap.size w4 HP.out (Nat.le_refl _)).mono ?_
    rintro e w5 ⟨hz5, b5⟩
    obtain ⟨z', rfl, hz'⟩ := ckpat_of hz5
    obtain rfl := ckpat_eq HZ.out hz'
    replace HP := Lib.hid (HP.out.step b5)
    replace HT := Lib.hid (HT.out.step b5)
    replace SL := Lib.hid (SL.out.on b5)
    replace KA := Lib.hid (KA.out.step b5)
    replace KB := Lib.hid (KB.out.step b5)
    have B5 := Lib.hid (B4.out.trans (b5.mono B4.out.size))
    clear b5 hz5 hz' HZ
    go_wp2_with fail
    refine (samebounds_any y2 y3 ((matO p T).getD []) w5 KA.out KB.out (by cases ho : matO p T with
      | none => exact Nat.zero_le _
      | some L => exact Nat.le_trans (matO_len ho) (by decide))).mono ?_
    rintro e w6 ⟨rfl, b6⟩
    replace HP := Lib.hid (HP.out.step b6)
    replace HT := Lib.hid (HT.out.step b6)
    replace SL := Lib.hid (SL.out.on b6)
    replace KA := Lib.hid (KA.out.step b6)
    replace KB := Lib.hid (KB.out.step b6)
    have B6 := Lib.hid (B5.out.trans (b6.mono B5.out.size))
    clear b6 KA KB
    go_wp2_with fail
    refine (tselect_any x3 (.slice q p.length cap) LL p w6 SL.out HP.out).mono ?_
    rintro e w7 ⟨x7, rfl, s7, b7⟩
    replace HP := Lib.hid (HP.out.step b7)
    replace HT := Lib.hid (HT.out.step b7)
    replace SL := Lib.hid (SL.out.on b7)
    have B7 := Lib.hid (B6.out.trans (b7.mono B6.out.size))
    have SL7 := Lib.hid s7
    clear b7 s7
    go_wp2_with fail
    refine (rselect_any x3 (.slice q p.length cap) LL p w7 SL.out HP.out (by have := Hl1.out; omega)).mono ?_
    rintro e w8 ⟨x8, rfl, s8, b8⟩
    replace HP := Lib.hid (HP.out.step b8)
    replace HT := Lib.hid (HT.out.step b8)
    replace SL := Lib.hid (SL.out.on b8)
    replace SL7 := Lib.hid (SL7.out.on b8)
    have B8 := Lib.hid (B7.out.trans (b8.mono B7.out.size))
    have SL8 := Lib.hid s8
    clear b8 s8
    go_wp2_with fail
    refine (samerelM SL7.out SL8.out).mono ?_
    rintro e w9 ⟨rfl, b9⟩
    replace HP := Lib.hid (HP.out.step b9)
    replace HT := Lib.hid (HT.out.step b9)
    replace SL := Lib.hid (SL.out.on b9)
    replace SL7 := Lib.hid (SL7.out.on b9)
    replace SL8 := Lib.hid (SL8.out.on b9)
    have B9 := Lib.hid (B8.out.trans (b9.mono B8.out.size))
    clear b9
    go_wp2_with (go_at_call 18; refine (awake_true _ (HG.out.below B9.out)).mono ?_; rintro e wz ⟨rfl, bz⟩; have BZ := Lib.hid (B9.out.trans (bz.mono B9.out.size)); clear bz)
    go_ret
    exact ⟨by simp, BZ.out⟩
  · have h20' : (20 : Int) < (p.length : Int) := by omega
    have hc20 : (20 : Int) ≤ (cap : Int) := by omega
    replace HP := Lib.hid (pat_take HP.out (by omega))
    generalize p.take 20 = p' at HP
    clear h20
    go_wp2_with fail
    refine (tmatch_any (.slice q 20 cap) x2 p' T w1.heap.size w1 HP.out HT.out (Nat.le_refl _)).mono ?_
    rintro e w2 hm2
    obtain ⟨y2, rfl, k2, b2⟩ := mat_st hm2
    replace HP := Lib.hid (HP.out.step b2)
    replace HT := Lib.hid (HT.out.step b2)
    replace SL := Lib.hid (SL.out.on b2)
    have B2 := Lib.hid (B1.out.trans (b2.mono B1.out.size))
    have KA := Lib.hid k2
    clear b2 k2 hm2
    go_wp2_with fail
    refine (rmatch_any (.slice q 20 cap) x2 p' T w2.heap.size w2 HP.out HT.out (Nat.le_refl _)).mono ?_
    rintro e w3 hm3
    obtain ⟨y3, rfl, k3, b3⟩ := mat_st hm3
    replace HP := Lib.hid (HP.out.step b3)
    replace HT := Lib.hid (HT.out.step b3)
    replace SL := Lib.hid (SL.out.on b3)
    replace KA := Lib.hid (KA.out.step b3)
    have B3 := Lib.hid (B2.out.trans (b3.mono B2.out.size))
    have KB := Lib.hid k3
    clear b3 k3 hm3
    go_wp2_with fail
    refine (checkPat_any (.slice q 20 cap) p' w3.heap.size w3 HP.out (Nat.le_refl _)).mono ?_
    rintro e w4 ⟨hz4, b4⟩
    obtain ⟨z, rfl, hz⟩ := ckpat_of hz4
    have HZ := Lib.hid hz
    replace HP := Lib.hid (HP.out.step b4)
    replace HT := Lib.hid (HT.out.step b4)
    replace SL := Lib.hid (SL.out.on b4)
    replace KA := Lib.hid (KA.out.step b4)
    replace KB := Lib.hid (KB.out.step b4)
    have B4 := Lib.hid (B3.out.trans (b4.mono B3.out.size))
    clear b4 hz4 hz
    go_wp2_with fail
    refine (rcheckPat_any (.slice q 20 cap) p' w4.heap.size w4 HP.out (Nat.le_refl _)).mono ?_
    rintro e w5 ⟨hz5, b5⟩
    obtain ⟨z', rfl, hz'⟩ := ckpat_of hz5
    obtain rfl := ckpat_eq HZ.out hz'
    replace HP := Lib.hid (HP.out.step b5)
    replace HT := Lib.hid (HT.out.step b5)
    replace SL := Lib.hid (SL.out.on b5)
    replace KA := Lib.hid (KA.out.step b5)
    replace KB := Lib.hid (KB.out.step b5)
    have B5 := Lib.hid (B4.out.trans (b5.mono B4.out.size))
    clear b5 hz5 hz' HZ
    go_wp2_with fail
    refine (samebounds_any y2 y3 ((matO p' T).getD []) w5 KA.out KB.out (by cases ho : matO p' T with
      | none => exact Nat.zero_le _
      | some L => exact Nat.le_trans (matO_len ho) (by decide))).mono ?_
    rintro e w6 ⟨rfl, b6⟩
    replace HP := Lib.hid (HP.out.step b6)
    replace HT := Lib.hid (HT.out.step b6)
    replace SL := Lib.hid (SL.out.on b6)
    replace KA := Lib.hid (KA.out.step b6)
    replace KB := Lib.hid (KB.out.step b6)
    have B6 := Lib.hid (B5.out.trans (b6.mono B5.out.size))
    clear b6 KA KB
    go_wp2_with fail
    refine (tselect_any x3 (.slice q 20 cap) LL p' w6 SL.out HP.out).mono ?_
    rintro e w7 ⟨x7, rfl, s7, b7⟩
    replace HP := Lib.hid (HP.out.step b7)
    replace HT := Lib.hid (HT.out.step b7)
    replace SL := Lib.hid (SL.out.on b7)
    have B7 := Lib.hid (B6.out.trans (b7.mono B6.out.size))
    have SL7 := Lib.hid s7
    clear b7 s7
    go_wp2_with fail
    refine (rselect_any x3 (.slice q 20 cap) LL p' w7 SL.out HP.out (by have := Hl1.out; omega)).mono ?_
    rintro e w8 ⟨x8, rfl, s8, b8⟩
    replace HP := Lib.hid (HP.out.step b8)
    replace HT := Lib.hid (HT.out.step b8)
    replace SL := Lib.hid (SL.out.on b8)
    replace SL7 := Lib.hid (SL7.out.on b8)
    have B8 := Lib.hid (B7.out.trans (b8.mono B7.out.size))
    have SL8 := Lib.hid s8
    clear b8 s8
    go_wp2_with fail
    refine (samerelM SL7.out SL8.out).mono ?_
    rintro e w9 ⟨rfl, b9⟩
    replace HP := Lib.hid (HP.out.step b9)
    replace HT := Lib.hid (HT.out.step b9)
    replace SL := Lib.hid (SL.out.on b9)
    replace SL7 := Lib.hid (SL7.out.on b9)
    replace SL8 := Lib.hid (SL8.out.on b9)
    have B9 := Lib.hid (B8.out.trans (b9.mono B8.out.size))
    clear b9
    go_wp2_with (go_at_call 18; refine (awake_true _ (HG.out.below B9.out)).mono ?_; rintro e wz ⟨rfl, bz⟩; have BZ := Lib.hid (B9.out.trans (bz.mono B9.out.size)); clear bz)
    go_ret
    exact ⟨by simp, BZ.out⟩
end Go.Proofs.YtaogfgohchpnoaaDoor

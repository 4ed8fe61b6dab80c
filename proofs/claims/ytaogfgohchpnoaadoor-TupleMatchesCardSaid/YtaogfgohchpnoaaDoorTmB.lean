/-
  The document's Match.
-/
import Derived.Test.YtaogfgohchpnoaaDoorTmA
import Derived.Deep.RegionHeld3
import Derived.Test.YtaogfgohchpnoaaDoorTrT
namespace Go.Proofs.YtaogfgohchpnoaaDoor
open Go Go.RowKit

/-- An append of one binding at a step of a region that draws its order. -/
theorem step_appK {w : World} {ops : Array Oper} {o : Oper} {a : Act} {K : Act → World → Prop} {Q : Exit → Act → World → Prop} {E : Prop} (hgd : o.guard = none) (s x : Operand)
    (ho : o.op = .call { callee := .builtin .append, args := #[s, x], argTypes := #[35, 35] })
    (B g : Nat) (v : Value) (T : List Bd) (y : Bd) (hs : a.eval s = v) (hx : a.eval x = .slice (some ⟨g, 0, none⟩) 1 1) (hown : OwnK B w v T) (hin : w.heap[g]? = some (.cells #[.string y.nm, .int .i64 y.v.k, .int .i64 y.v.n, .string y.v.s] 72 (0, 0))) (hlen : T.length ≤ 1000000) (hB : B ≤ w.heap.size)
    (h : ∀ v' w', OwnK B w' v' (T ++ [y]) → w.grownBy w' v.ownBlock → K (a.put o.dst v') w') : if Region.wanted o (yielded ops a.tmps) = true then Oper.wp Tryd.prog o a w K Q else E := by
  have hw : Region.wanted o (yielded ops a.tmps) = true := by simp [Region.wanted, hgd]
  rw [if_pos hw]
  obtain ⟨v', w', hr, h2, h3⟩ := run_appK w B g o.type v T y hown hin hlen hB
  unfold Oper.wp execOp
  simp only [ho, resolve, invoke, builtin, Sem.run_bind, Sem.run_pure, Result.andThen_ok, List.map_toArray, List.map_cons, List.map_nil, hs, hx, hr]
  exact h v' w' h2 h3
theorem pat_at {n₀ : Nat} {w w' : World} {q : Option Addr} {m c : Nat} {p : List Tm} (h : PatIn n₀ w (.slice q m c) p) (hb : Below n₀ w w') {k : Nat} (hk : k < p.length) : ∃ b off, q = some ⟨b, off, none⟩ ∧ b < n₀ ∧ w'.cell? ⟨b, off + k * 5, none⟩ = some (.int .i64 p[k].k) ∧ w'.cell? ⟨b, off + k * 5 + 1, none⟩ = some (.string p[k].nm) ∧ w'.cell? ⟨b, off + k * 5 + 2, none⟩ = some (.int .i64 p[k].v.k) ∧ w'.cell? ⟨b, off + k * 5 + 3, none⟩ = some (.int .i64 p[k].v.n) ∧ w'.cell? ⟨b, off + k * 5 + 4, none⟩ = some (.string p[k].v.s) := by
  obtain ⟨b, off, c', e, hlt, hc⟩ := h.some hk
  injection e with e1 _ _
  exact ⟨b, off, e1, hlt, (hc.below hb hlt) k hk⟩
theorem tup_at {n₀ : Nat} {w w' : World} {q : Option Addr} {m c : Nat} {T : List V3} (h : TupIn n₀ w (.slice q m c) T) (hb : Below n₀ w w') {k : Nat} (hk : k < T.length) : ∃ b off, q = some ⟨b, off, none⟩ ∧ b < n₀ ∧ w'.cell? ⟨b, off + k * 3, none⟩ = some (.int .i64 T[k].k) ∧ w'.cell? ⟨b, off + k * 3 + 1, none⟩ = some (.int .i64 T[k].n) ∧ w'.cell? ⟨b, off + k * 3 + 2, none⟩ = some (.string T[k].s) := by
  obtain ⟨b, off, c', e, hlt, hc⟩ := h.some hk
  injection e with e1 _ _
  exact ⟨b, off, e1, hlt, (hc.below hb hlt) k hk⟩
/-- What a round of Match begins with. -/
structure MaR (w : World) (p : List Tm) (T : List V3) (k : Nat) (L : List Bd) (v : Value) (wr : World) : Prop where
  own : OwnK w.heap.size wr v L
  below : Below w.heap.size w wr
  eq : matchT p T [] = matchT (p.drop k) (T.drop k) L
  len : L.length ≤ k
set_option maxHeartbeats 8000000 in
set_option maxRecDepth 100000 in
theorem rmatch_any (v1 v2 : Value) (p : List Tm) (T : List V3) (n₀ : Nat) (w : World) (hp : PatIn n₀ w v1 p) (hT : TupIn n₀ w v2 T) (hn : n₀ ≤ w.heap.size) :
    Calls Tryd.prog 21 #[v1, v2] w (MatchEnd (matO p T) w) := by
  have HP := Lib.hid hp
  have HT := Lib.hid hT
  have HC := Lib.hid (rcheckPat_any v1 p n₀ w hp hn)
  obtain ⟨q1, cap1, rfl, lp, -, -⟩ := hp
  obtain ⟨q2, cap2, rfl, lT, -⟩ := hT
  unfold maxLen at lp
  go_enter Tryd.func21, Tryd.ntmps21
  go_wp2_with fail
  refine HC.out.mono ?_
  rintro e w1 ⟨⟨hk, rfl⟩ | ⟨hk, rfl⟩, hb⟩
  case inr =>
    have HE : Hid (matO p T = none) := Lib.hid (if_neg fun h => hk h.1)
    have HB := Lib.hid hb
    clear hk hb
    go_wp2_with fail
    go_ret2
    exact ⟨HB.out, .inr ⟨HE.out, rfl⟩⟩
  by_cases hl : p.length = T.length
  case neg =>
    have HE : Hid (matO p T = none) := Lib.hid (if_neg fun h => hl h.2)
    have HB := Lib.hid hb
    have hne : ((p.length : Int) != (T.length : Int)) = true := by rw [bne_iff_ne]; omega
    have hne2 : ((p.length : Nat) != (T.length : Nat)) = true := by rw [bne_iff_ne]; omega
    clear hk hb hl
    go_wp2_with fail
    go_ret2
    exact ⟨HB.out, .inr ⟨HE.out, rfl⟩⟩
  have HE : Hid (matO p T = matchT p T []) := Lib.hid (if_pos ⟨hk, hl⟩)
  have HP1 := Lib.hid (HP.out.below (hb.mono hn))
  have HT1 := Lib.hid (HT.out.below (hb.mono hn))
  have HN1 := Lib.hid (Nat.le_trans hn hb.size)
  have HB := Lib.hid hb
  have h8 : (p.length : Int) ≤ 8 := by have := hk.1; omega
  have HL := Lib.hid hl
  have hne : ((p.length : Int) != (T.length : Int)) = false := by rw [hl]; simp
  have hne2 : ((p.length : Nat) != (T.length : Nat)) = false := by rw [hl]; simp
  clear hk hb hl hn HC HP HT
  go_wp2_with fail
  go_loopw [6, 7] (fun s6 i wr => ∃ k : Nat, k ≤ p.length ∧ i = .int .i64 k ∧ ∃ (v6 : Value) (L : List Bd), v6 = s6 ∧ Hid (MaR w1 p T k L v6 wr)) (fun _ i _ => p.length - (intOf i).toNat)
  case atStart => exact ⟨0, Nat.zero_le _, rfl, _, [], rfl, Lib.hid ⟨OwnK.nil _ _, Below.refl _ _, rfl, Nat.le_refl _⟩⟩
  case round =>
    obtain ⟨k, hk, rfl, s6, L, rfl, HI⟩ := hrel
    have h0 : (0 : Int) ≤ (k : Int) := by omega
    by_cases hlt : k < p.length
    case neg =>
      obtain rfl : k = p.length := by omega
      have hge : (p.length : Int) ≤ (p.length : Int) := by omega
      have HF : Hid (matchT p T [] = some L) := Lib.hid (HI.out.eq.trans (by rw [List.drop_of_length_le (Nat.le_refl _)]; exact matchT_nil_left _ _))
      go_wp2_with fail
      go_ret2
      exact ⟨HB.out.trans (HI.out.below.mono HB.out.size), .inl ⟨L, _, HE.out.trans HF.out, rfl, HI.out.own.mono HB.out.size⟩⟩
    have hltT : k < T.length := by have := HL.out; omega
    have hlt' : (k : Int) < (p.length : Int) := by omega
    have hltT' : (k : Int) < (T.length : Int) := by omega
    obtain ⟨b, off, rfl, hb, c0, c1, c2, c3, c4⟩ := pat_at HP1.out (HI.out.below.mono HN1.out) hlt
    have HFd := Lib.hid (rfind_any s6 L p[k].nm wr.heap.size wr (OwnK.in_ HI.out.own) (Nat.le_refl _) (by have := HI.out.len; omega))
    go_wp2_with fail
    clear c0 c1 c2 c3 c4
    refine HFd.out.mono ?_
    rintro e w2 ⟨hb2, hfind⟩
    have HB2 := Lib.hid (HI.out.below.trans (hb2.mono HI.out.below.size))
    have HO2 := Lib.hid (HI.out.own.below hb2)
    clear hb2 HFd
    have hzE1 : ∃ z1, z1 = sameV p[k].v T[k] := ⟨_, rfl⟩
    obtain ⟨z1, HZ1⟩ : ∃ z1, Hid (z1 = sameV p[k].v T[k]) := ⟨_, Lib.hid rfl⟩
    have hN1 : ∀ W : World, (binOp .neq 49 (.agg #[.int .i64 p[k].v.k, .int .i64 p[k].v.n, .string p[k].v.s]) (.agg #[.int .i64 T[k].k, .int .i64 T[k].n, .string T[k].s])).run Tryd.prog W = .ok (.bool (!z1)) W := fun W => by rw [HZ1.out]; exact neqV_run _ _ W
    clear hzE1
    rcases hfind with ⟨u, hu, rfl⟩ | ⟨hu, rfl⟩
    · skip
      have HU := Lib.hid hu
      clear hu
      go_wp2_with fail
      have HB3 := Lib.hid (show Below w1.heap.size w1 (w2.alloc (.cells #[.int .i64 u.k, .int .i64 u.n, .string u.s] 49)) from HB2.out.alloc HB2.out.size _)
      have HO3 := Lib.hid (HO2.out.alloc (.cells #[.int .i64 u.k, .int .i64 u.n, .string u.s] 49))
      have hbx := heap_alloc_new w2 (.cells #[.int .i64 u.k, .int .i64 u.n, .string u.s] 49)
      have e0 := cell_of_row _ _ 0 _ _ (0, 0) hbx
      have e1 := cell_of_row _ _ 1 _ _ (0, 0) hbx
      have e2 := cell_of_row _ _ 2 _ _ (0, 0) hbx
      obtain ⟨w3, hw3⟩ : ∃ w3, w3 = w2.alloc (.cells #[.int .i64 u.k, .int .i64 u.n, .string u.s] 49) := ⟨_, rfl⟩
      rw [← hw3] at HB3 HO3 e0 e1 e2 ⊢
      clear hw3 hbx
      obtain ⟨b', off', e1, -, c0, c1, c2, c3, c4⟩ := pat_at HP1.out (HB3.out.mono HN1.out) hlt
      injection e1 with e1; injection e1 with e1 e2; subst e1 e2
      obtain ⟨bt, ot, rfl, hbt, d0, d1, d2⟩ := tup_at HT1.out (HB3.out.mono HN1.out) hltT
      obtain ⟨z2, HZ2⟩ : ∃ z2, Hid (z2 = sameV u T[k]) := ⟨_, Lib.hid rfl⟩
      have hN2 : ∀ W : World, (binOp .neq 49 (.agg #[.int .i64 u.k, .int .i64 u.n, .string u.s]) (.agg #[.int .i64 T[k].k, .int .i64 T[k].n, .string T[k].s])).run Tryd.prog W = .ok (.bool (!z2)) W := fun W => by rw [HZ2.out]; exact neqV_run _ _ W
      cases hk2 : (p[k].k == 2) with
      | true =>
        have hk1 : (p[k].k == 1) = false := by simp [show p[k].k = 2 by simpa using hk2]
        have HK := Lib.hid (show p[k].k = 2 by simpa using hk2)
        cases z1 with
        | true =>
          have HS := Lib.hid (HI.out.eq.trans (step_const hlt hltT L HK.out (sameV_iff.1 HZ1.out.symm)))
          go_wp2_with fail
          go_quiet (fail)
          go_wp2_with fail
          go_roundw
          case rel => exact ⟨k + 1, by omega, by go_num, _, L, rfl, Lib.hid ⟨own_drewN HO3.out _, below_drewN HB3.out _, HS.out, by have := HI.out.len; first | omega | (rw [List.length_append, List.length_singleton]; omega)⟩⟩
          case measure => simp [intOf]; omega
        | false =>
          have HS := Lib.hid (HI.out.eq.trans (step_const_no hlt hltT L HK.out (fun h => by have := HZ1.out; rw [sameV_iff.2 h] at this; cases this)))
          go_wp2_with fail
          go_quiet (fail)
          go_wp2_with fail
          go_ret2
          exact ⟨HB.out.trans ((below_drewN HB3.out _).mono HB.out.size), .inr ⟨HE.out.trans HS.out, rfl⟩⟩
      | false =>
        have HK := Lib.hid (show ¬ p[k].k = 2 by simpa using hk2)
        cases hk1 : (p[k].k == 1) with
        | false =>
          have HS := Lib.hid (HI.out.eq.trans (step_any hlt hltT L HK.out (by simpa using hk1)))
          go_wp2_with fail
          go_quiet (fail)
          go_wp2_with fail
          go_roundw
          case rel => exact ⟨k + 1, by omega, by go_num, _, L, rfl, Lib.hid ⟨own_drewN HO3.out _, below_drewN HB3.out _, HS.out, by have := HI.out.len; first | omega | (rw [List.length_append, List.length_singleton]; omega)⟩⟩
          case measure => simp [intOf]; omega
        | true =>
          have HK1 := Lib.hid (show p[k].k = 1 by simpa using hk1)
          cases z2 with
          | true =>
            have HS := Lib.hid (HI.out.eq.trans (step_old hlt hltT L HK1.out HU.out (sameV_iff.1 HZ2.out.symm)))
            go_wp2_with fail
            go_quiet (fail)
            go_wp2_with fail
            go_roundw
            case rel => exact ⟨k + 1, by omega, by go_num, _, L, rfl, Lib.hid ⟨own_drewN HO3.out _, below_drewN HB3.out _, HS.out, by have := HI.out.len; first | omega | (rw [List.length_append, List.length_singleton]; omega)⟩⟩
            case measure => simp [intOf]; omega
          | false =>
            have HS := Lib.hid (HI.out.eq.trans (step_old_no hlt hltT L HK1.out HU.out (fun h => by have := HZ2.out; rw [sameV_iff.2 h] at this; cases this)))
            go_wp2_with fail
            go_quiet (fail)
            go_wp2_with fail
            go_ret2
            exact ⟨HB.out.trans ((below_drewN HB3.out _).mono HB.out.size), .inr ⟨HE.out.trans HS.out, rfl⟩⟩
    · skip
      have HU := Lib.hid hu
      clear hu
      go_wp2_with fail
      have HB3 := Lib.hid (show Below w1.heap.size w1 (w2.alloc (.cells #[.int .i64 0, .int .i64 0, .string ⟨#[]⟩] 49)) from HB2.out.alloc HB2.out.size _)
      have HO3 := Lib.hid (HO2.out.alloc (.cells #[.int .i64 0, .int .i64 0, .string ⟨#[]⟩] 49))
      have hbx := heap_alloc_new w2 (.cells #[.int .i64 0, .int .i64 0, .string ⟨#[]⟩] 49)
      have e0 := cell_of_row _ _ 0 _ _ (0, 0) hbx
      have e1 := cell_of_row _ _ 1 _ _ (0, 0) hbx
      have e2 := cell_of_row _ _ 2 _ _ (0, 0) hbx
      obtain ⟨w3, hw3⟩ : ∃ w3, w3 = w2.alloc (.cells #[.int .i64 0, .int .i64 0, .string ⟨#[]⟩] 49) := ⟨_, rfl⟩
      rw [← hw3] at HB3 HO3 e0 e1 e2 ⊢
      clear hw3 hbx
      obtain ⟨b', off', e1, -, c0, c1, c2, c3, c4⟩ := pat_at HP1.out (HB3.out.mono HN1.out) hlt
      injection e1 with e1; injection e1 with e1 e2; subst e1 e2
      obtain ⟨bt, ot, rfl, hbt, d0, d1, d2⟩ := tup_at HT1.out (HB3.out.mono HN1.out) hltT
      cases hk2 : (p[k].k == 2) with
      | true =>
        have hk1 : (p[k].k == 1) = false := by simp [show p[k].k = 2 by simpa using hk2]
        have HK := Lib.hid (show p[k].k = 2 by simpa using hk2)
        cases z1 with
        | true =>
          have HS := Lib.hid (HI.out.eq.trans (step_const hlt hltT L HK.out (sameV_iff.1 HZ1.out.symm)))
          go_wp2_with fail
          go_quiet (fail)
          go_wp2_with fail
          go_roundw
          case rel => exact ⟨k + 1, by omega, by go_num, _, L, rfl, Lib.hid ⟨own_drewN HO3.out _, below_drewN HB3.out _, HS.out, by have := HI.out.len; first | omega | (rw [List.length_append, List.length_singleton]; omega)⟩⟩
          case measure => simp [intOf]; omega
        | false =>
          have HS := Lib.hid (HI.out.eq.trans (step_const_no hlt hltT L HK.out (fun h => by have := HZ1.out; rw [sameV_iff.2 h] at this; cases this)))
          go_wp2_with fail
          go_quiet (fail)
          go_wp2_with fail
          go_ret2
          exact ⟨HB.out.trans ((below_drewN HB3.out _).mono HB.out.size), .inr ⟨HE.out.trans HS.out, rfl⟩⟩
      | false =>
        have HK := Lib.hid (show ¬ p[k].k = 2 by simpa using hk2)
        cases hk1 : (p[k].k == 1) with
        | false =>
          have HS := Lib.hid (HI.out.eq.trans (step_any hlt hltT L HK.out (by simpa using hk1)))
          go_wp2_with fail
          go_quiet (fail)
          go_wp2_with fail
          go_roundw
          case rel => exact ⟨k + 1, by omega, by go_num, _, L, rfl, Lib.hid ⟨own_drewN HO3.out _, below_drewN HB3.out _, HS.out, by have := HI.out.len; first | omega | (rw [List.length_append, List.length_singleton]; omega)⟩⟩
          case measure => simp [intOf]; omega
        | true =>
          have HK1 := Lib.hid (show p[k].k = 1 by simpa using hk1)
          have HS := Lib.hid (HI.out.eq.trans (step_new hlt hltT L HK1.out HU.out))
          go_wp2_with fail
          go_quiet (fail)
          have HB4 := Lib.hid (below_drewN HB3.out nq)
          have HO4 := Lib.hid (own_drewN HO3.out nq)
          obtain ⟨w4, hw4⟩ : ∃ w4, w4 = w3.drewN nq := ⟨_, rfl⟩
          rw [← hw4] at HB4 HO4 ⊢
          clear hw4 c0 c1 c2 c3 c4 d0 d1 d2 e0 e1 e2
          obtain ⟨b', off', e1, -, c0, c1, c2, c3, c4⟩ := pat_at HP1.out (HB4.out.mono HN1.out) hlt
          injection e1 with e1; injection e1 with e1 e2; subst e1 e2
          obtain ⟨b', off', e1, -, d0, d1, d2⟩ := tup_at HT1.out (HB4.out.mono HN1.out) hltT
          injection e1 with e1; injection e1 with e1 e2; subst e1 e2
          go_wp2_with fail
          have hSd : (w4.drew).cell? ⟨b, off + k * 5 + 1, none⟩ = some (.string p[k].nm) ∧ (w4.drew).cell? ⟨bt, ot + k * 3, none⟩ = some (.int .i64 T[k].k) ∧ (w4.drew).cell? ⟨bt, ot + k * 3 + 1, none⟩ = some (.int .i64 T[k].n) ∧ (w4.drew).cell? ⟨bt, ot + k * 3 + 2, none⟩ = some (.string T[k].s) := ⟨by rw [World.cell?_drew]; exact c1, by rw [World.cell?_drew]; exact d0, by rw [World.cell?_drew]; exact d1, by rw [World.cell?_drew]; exact d2⟩
          refine wp_region_held_drew (S := fun W => W.cell? ⟨b, off + k * 5 + 1, none⟩ = some (.string p[k].nm) ∧ W.cell? ⟨bt, ot + k * 3, none⟩ = some (.int .i64 T[k].k) ∧ W.cell? ⟨bt, ot + k * 3 + 1, none⟩ = some (.int .i64 T[k].n) ∧ W.cell? ⟨bt, ot + k * 3 + 2, none⟩ = some (.string T[k].s)) (by kernel_rfl) hSd (fun _ => ?_)
          have HB5 := Lib.hid (HB4.out.drew)
          have HO5 := Lib.hid (own_drew HO4.out)
          obtain ⟨w5, hw5⟩ : ∃ w5, w5 = w4.drew := ⟨_, rfl⟩
          rw [← hw5] at HB5 HO5 hSd ⊢
          clear hw5 c0 c1 c2 c3 c4 d0 d1 d2
          iterate 1
            refine take1T 0 85 (v := ?_) rfl rfl (by kernel_rfl) (by kernel_rfl) (by kernel_rfl) (fun _ _ _ h => h) (by kernel_rfl) ?_ hSd (by first | (simp only [put_normT]; exact rfl) | exact rfl) ?_
            rotate_left
            · rintro W ⟨c1, d0, d1, d2⟩; go_simp; try (with_reducible rfl)
            refine take1T 1 86 (v := ?_) rfl rfl (by kernel_rfl) (by kernel_rfl) (by kernel_rfl) (fun _ _ _ h => h) (by kernel_rfl) ?_ hSd (by first | (simp only [put_normT]; exact rfl) | exact rfl) ?_
            rotate_left
            · rintro W ⟨c1, d0, d1, d2⟩; go_simp; try (with_reducible rfl)
            refine take1T 2 87 (v := ?_) rfl rfl (by kernel_rfl) (by kernel_rfl) (by kernel_rfl) (fun _ _ _ h => h) (by kernel_rfl) ?_ hSd (by first | (simp only [put_normT]; exact rfl) | exact rfl) ?_
            rotate_left
            · rintro W ⟨c1, d0, d1, d2⟩; go_simp; try (with_reducible rfl)
            refine take1T 6 91 (v := ?_) rfl rfl (by kernel_rfl) (by kernel_rfl) (by kernel_rfl) (fun _ _ _ h => h) (by kernel_rfl) ?_ hSd (by first | (simp only [put_normT]; exact rfl) | exact rfl) ?_
            rotate_left
            · rintro W ⟨c1, d0, d1, d2⟩; go_simp; try (with_reducible rfl)
            refine take1T 7 92 (v := ?_) rfl rfl (by kernel_rfl) (by kernel_rfl) (by kernel_rfl) (fun _ _ _ h => h) (by kernel_rfl) ?_ hSd (by first | (simp only [put_normT]; exact rfl) | exact rfl) ?_
            rotate_left
            · rintro W ⟨c1, d0, d1, d2⟩; go_simp; try (with_reducible rfl)
            refine take1T 3 88 (v := ?_) rfl rfl (by kernel_rfl) (by kernel_rfl) (by kernel_rfl) (fun _ _ _ h => h) (by kernel_rfl) ?_ hSd (by first | (simp only [put_normT]; exact rfl) | exact rfl) ?_
            rotate_left
            · rintro W ⟨c1, d0, d1, d2⟩; go_simp; try (with_reducible rfl)
            refine take1T 8 93 (v := ?_) rfl rfl (by kernel_rfl) (by kernel_rfl) (by kernel_rfl) (fun _ _ _ h => h) (by kernel_rfl) ?_ hSd (by first | (simp only [put_normT]; exact rfl) | exact rfl) ?_
            rotate_left
            · rintro W ⟨c1, d0, d1, d2⟩; go_simp; try (with_reducible rfl)
            refine take1T 4 89 (v := ?_) rfl rfl (by kernel_rfl) (by kernel_rfl) (by kernel_rfl) (fun _ _ _ h => h) (by kernel_rfl) ?_ hSd (by first | (simp only [put_normT]; exact rfl) | exact rfl) ?_
            rotate_left
            · rintro W ⟨c1, d0, d1, d2⟩; go_simp; try (with_reducible rfl)
            refine take1T 5 90 (v := ?_) rfl rfl (by kernel_rfl) (by kernel_rfl) (by kernel_rfl) (fun _ _ _ h => h) (by kernel_rfl) ?_ hSd (by first | (simp only [put_normT]; exact rfl) | exact rfl) ?_
            rotate_left
            · rintro W ⟨c1, d0, d1, d2⟩; go_simp; try (with_reducible rfl)
            refine take1T 9 94 (v := ?_) rfl rfl (by kernel_rfl) (by kernel_rfl) (by kernel_rfl) (fun _ _ _ h => h) (by kernel_rfl) ?_ hSd (by first | (simp only [put_normT]; exact rfl) | exact rfl) ?_
            rotate_left
            · rintro W ⟨c1, d0, d1, d2⟩; go_simp; try (with_reducible rfl)
            refine take1T 10 95 (v := ?_) rfl rfl (by kernel_rfl) (by kernel_rfl) (by kernel_rfl) (fun _ _ _ h => h) (by kernel_rfl) ?_ hSd (by first | (simp only [put_normT]; exact rfl) | exact rfl) ?_
            rotate_left
            · rintro W ⟨c1, d0, d1, d2⟩; go_simp; try (with_reducible rfl)
          refine wpAnyH_ready (rs := [11]) (by kernel_rfl) (by simp) ?_
          refine AllReadyH.cons rfl (fun K hK => ?_) AllReadyH.nil
          go_simp
          have hbn := below_new w5 (.cells #[.string p[k].nm, .int .i64 T[k].k, .int .i64 T[k].n, .string T[k].s] 72)
          have hx6 := heap_alloc_new w5 (.cells #[.string p[k].nm, .int .i64 T[k].k, .int .i64 T[k].n, .string T[k].s] 72)
          have HO6 := Lib.hid (HO5.out.alloc (.cells #[.string p[k].nm, .int .i64 T[k].k, .int .i64 T[k].n, .string T[k].s] 72))
          have HB6 := Lib.hid (HB5.out.alloc HB5.out.size (.cells #[.string p[k].nm, .int .i64 T[k].k, .int .i64 T[k].n, .string T[k].s] 72))
          have lts : b < w5.heap.size ∧ bt < w5.heap.size := ⟨World.block_lt_of_cell? w5 _ hSd.1, World.block_lt_of_cell? w5 _ hSd.2.1⟩
          have hS6 : (w5.alloc (.cells #[.string p[k].nm, .int .i64 T[k].k, .int .i64 T[k].n, .string T[k].s] 72)).cell? ⟨b, off + k * 5 + 1, none⟩ = some (.string p[k].nm) ∧ (w5.alloc (.cells #[.string p[k].nm, .int .i64 T[k].k, .int .i64 T[k].n, .string T[k].s] 72)).cell? ⟨bt, ot + k * 3, none⟩ = some (.int .i64 T[k].k) ∧ (w5.alloc (.cells #[.string p[k].nm, .int .i64 T[k].k, .int .i64 T[k].n, .string T[k].s] 72)).cell? ⟨bt, ot + k * 3 + 1, none⟩ = some (.int .i64 T[k].n) ∧ (w5.alloc (.cells #[.string p[k].nm, .int .i64 T[k].k, .int .i64 T[k].n, .string T[k].s] 72)).cell? ⟨bt, ot + k * 3 + 2, none⟩ = some (.string T[k].s) := ⟨(hbn.cell (p := ⟨b, off + k * 5 + 1, none⟩) lts.1).trans hSd.1, (hbn.cell (p := ⟨bt, ot + k * 3, none⟩) lts.2).trans hSd.2.1, (hbn.cell (p := ⟨bt, ot + k * 3 + 1, none⟩) lts.2).trans hSd.2.2.1, (hbn.cell (p := ⟨bt, ot + k * 3 + 2, none⟩) lts.2).trans hSd.2.2.2⟩
          refine hK.out _ _ hS6 (fun _ => ?_)
          clear hK K
          have HX6 := Lib.hid hx6
          have HS6 := Lib.hid hS6
          have HW5 := Lib.hid (show w5.heap.size < (w5.alloc (.cells #[.string p[k].nm, .int .i64 T[k].k, .int .i64 T[k].n, .string T[k].s] 72)).heap.size by simp)
          obtain ⟨w6, hw6⟩ : ∃ w6, w6 = w5.alloc (.cells #[.string p[k].nm, .int .i64 T[k].k, .int .i64 T[k].n, .string T[k].s] 72) := ⟨_, rfl⟩
          rw [← hw6] at HO6 HB6 HX6 HS6 HW5 ⊢
          clear hw6 hbn hx6 hS6 hSd lts
          refine wpAnyH_ready (rs := [12]) (by kernel_rfl) (by simp) ?_
          refine AllReadyH.cons rfl (fun K hK => ?_) AllReadyH.nil
          refine step_appK rfl (.tmp 85) (.tmp 96) rfl w1.heap.size w5.heap.size s6 L ⟨p[k].nm, T[k]⟩ rfl rfl HO6.out HX6.out (by have := HI.out.len; omega) HB6.out.size ?_
          intro v7 w7 o7 g7
          have HO7 := Lib.hid o7
          have HB7 := Lib.hid (HB6.out.grown g7 HB6.out.size (fun k hk => (World.ownsRow.lt HO6.out k hk).1))
          obtain ⟨b', off', e1, -, -, c1, -⟩ := pat_at HP1.out (HB7.out.mono HN1.out) hlt
          injection e1 with e1; injection e1 with e1 e2; subst e1 e2
          obtain ⟨b', off', e1, -, d0, d1, d2⟩ := tup_at HT1.out (HB7.out.mono HN1.out) hltT
          injection e1 with e1; injection e1 with e1 e2; subst e1 e2
          refine hK.out _ _ ⟨c1, d0, d1, d2⟩ (fun _ => ?_)
          clear hK K o7 g7
          refine take1T 13 6 (v := ?_) rfl rfl (by kernel_rfl) (by kernel_rfl) (by kernel_rfl) (fun _ _ _ h => h) (by kernel_rfl) ?_ ⟨c1, d0, d1, d2⟩ (by first | (simp only [put_normT]; exact rfl) | exact rfl) ?_
          rotate_left
          · rintro W _; go_simp; try (with_reducible rfl)
          refine wpAnyH_done (by kernel_rfl) ?_ _
          go_wp2_with fail
          go_roundw
          case rel => exact ⟨k + 1, by omega, by go_num, _, (L ++ [⟨p[k].nm, T[k]⟩]), rfl, Lib.hid ⟨HO7.out, HB7.out, HS.out, by have := HI.out.len; first | omega | (rw [List.length_append, List.length_singleton]; omega)⟩⟩
          case measure => simp [intOf]; omega
end Go.Proofs.YtaogfgohchpnoaaDoor

/-
  Contracts of tuple.match and tuple.Match.
-/
import Derived.Test.YtaogfgohchpnoaaDoorTbB
namespace Go.Proofs.YtaogfgohchpnoaaDoor
open Go Go.RowKit

theorem step_const {p : List Tm} {T : List V3} {k : Nat} (h : k < p.length) (h' : k < T.length) (L : List Bd) (hk : p[k].k = 2) (hv : p[k].v = T[k]) : matchT (p.drop k) (T.drop k) L = matchT (p.drop (k + 1)) (T.drop (k + 1)) L := by
  rw [List.drop_eq_getElem_cons h, List.drop_eq_getElem_cons h', matchT, if_pos hk, if_pos hv]
theorem step_const_no {p : List Tm} {T : List V3} {k : Nat} (h : k < p.length) (h' : k < T.length) (L : List Bd) (hk : p[k].k = 2) (hv : ¬ p[k].v = T[k]) : matchT (p.drop k) (T.drop k) L = none := by
  rw [List.drop_eq_getElem_cons h, List.drop_eq_getElem_cons h', matchT, if_pos hk, if_neg hv]
theorem step_any {p : List Tm} {T : List V3} {k : Nat} (h : k < p.length) (h' : k < T.length) (L : List Bd) (hk : ¬ p[k].k = 2) (hk1 : ¬ p[k].k = 1) : matchT (p.drop k) (T.drop k) L = matchT (p.drop (k + 1)) (T.drop (k + 1)) L := by
  rw [List.drop_eq_getElem_cons h, List.drop_eq_getElem_cons h', matchT, if_neg hk, if_neg hk1]
theorem step_new {p : List Tm} {T : List V3} {k : Nat} (h : k < p.length) (h' : k < T.length) (L : List Bd) (hk : p[k].k = 1) (hf : findB L p[k].nm = none) : matchT (p.drop k) (T.drop k) L = matchT (p.drop (k + 1)) (T.drop (k + 1)) (L ++ [⟨p[k].nm, T[k]⟩]) := by
  rw [List.drop_eq_getElem_cons h, List.drop_eq_getElem_cons h', matchT, if_neg (by omega), if_pos hk, hf]
theorem step_old {p : List Tm} {T : List V3} {k : Nat} (h : k < p.length) (h' : k < T.length) (L : List Bd) (hk : p[k].k = 1) {u : V3} (hf : findB L p[k].nm = some u) (hu : u = T[k]) : matchT (p.drop k) (T.drop k) L = matchT (p.drop (k + 1)) (T.drop (k + 1)) L := by
  rw [List.drop_eq_getElem_cons h, List.drop_eq_getElem_cons h', matchT, if_neg (by omega), if_pos hk, hf]
  exact if_pos hu
theorem step_old_no {p : List Tm} {T : List V3} {k : Nat} (h : k < p.length) (h' : k < T.length) (L : List Bd) (hk : p[k].k = 1) {u : V3} (hf : findB L p[k].nm = some u) (hu : ¬ u = T[k]) : matchT (p.drop k) (T.drop k) L = none := by
  rw [List.drop_eq_getElem_cons h, List.drop_eq_getElem_cons h', matchT, if_neg (by omega), if_pos hk, hf]
  exact if_neg hu
/-- What bind's answer makes of the match. -/
def BindM (B : Nat) (p : List Tm) (T : List V3) (k : Nat) (L : List Bd) (v : Value) (w : World) (e : Ending) (w' : World) : Prop :=
  ∃ v' ok L', e = .returned (.tuple #[v', .bool ok]) ∧ OwnK B w' v' L' ∧ L'.length ≤ L.length + 1 ∧ Below B w w' ∧ (∀ b, b < w.heap.size → some b ≠ v.ownBlock → w'.heap[b]? = w.heap[b]?) ∧
    ((ok = true ∧ matchT (p.drop k) (T.drop k) L = matchT (p.drop (k + 1)) (T.drop (k + 1)) L') ∨ (ok = false ∧ matchT (p.drop k) (T.drop k) L = none))
theorem bind_m {B : Nat} {p : List Tm} {T : List V3} {k : Nat} (h : k < p.length) (h' : k < T.length) (hk : p[k].k = 1) (v : Value) (L : List Bd) (w : World) (ho : OwnK B w v L) (hB : B ≤ w.heap.size) (hL : L.length ≤ 1000) :
    Calls Tryd.prog 58 #[v, .string p[k].nm, .agg #[.int .i64 T[k].k, .int .i64 T[k].n, .string T[k].s]] w (BindM B p T k L v w) :=
  (bind_any B v L p[k].nm T[k] w ho hB hL).mono (by
    rintro e w' ⟨hb, hkp, ⟨hf, v', rfl, ho'⟩ | ⟨u, hf, rfl, ho'⟩⟩
    · exact ⟨v', true, _, rfl, ho', by simp, hb, hkp, .inl ⟨rfl, step_new h h' L hk hf⟩⟩
    · cases hs : sameV u T[k] with
      | true => exact ⟨v, true, L, rfl, ho', by omega, hb, hkp, .inl ⟨rfl, step_old h h' L hk hf (sameV_iff.1 hs)⟩⟩
      | false => exact ⟨v, false, L, rfl, ho', by omega, hb, hkp, .inr ⟨rfl, step_old_no h h' L hk hf (fun e => by rw [sameV_iff.2 e] at hs; cases hs)⟩⟩)
theorem own_drew {B : Nat} {w : World} {v : Value} {L : List Bd} (h : OwnK B w v L) : OwnK B w.drew v L := h
/-- What match answers. -/
def MatchEnd (o : Option (List Bd)) (w : World) (e : Ending) (w' : World) : Prop :=
  Below w.heap.size w w' ∧ ((∃ L v, o = some L ∧ e = .returned (.tuple #[v, .bool true]) ∧ OwnK w.heap.size w' v L) ∨ (o = none ∧ e = .returned (.tuple #[.slice none 0 0, .bool false])))
theorem box5 (w : World) (x : Tm) : (w.alloc (.cells #[.int .i64 x.k, .string x.nm, .int .i64 x.v.k, .int .i64 x.v.n, .string x.v.s] 51)).heap[w.heap.size]? = some (.cells #[.int .i64 x.k, .string x.nm, .int .i64 x.v.k, .int .i64 x.v.n, .string x.v.s] 51 (0, 0)) := heap_alloc_new w _
set_option maxHeartbeats 4000000 in
set_option maxRecDepth 100000 in
theorem match_any (v1 v2 : Value) (p : List Tm) (T : List V3) (n₀ : Nat) (w : World) (hp : PatIn n₀ w v1 p) (hT : TupIn n₀ w v2 T) (hn : n₀ ≤ w.heap.size) (h8 : p.length ≤ 8) (hl : p.length = T.length) :
    Calls Tryd.prog 43 #[v1, v2] w (MatchEnd (matchT p T []) w) := by
  have HP := Lib.hid hp
  have HT := Lib.hid hT
  obtain ⟨q1, cap1, rfl, -, -, -⟩ := hp
  obtain ⟨q2, cap2, rfl, -, -⟩ := hT
  have HL := Lib.hid hl
  have hp8 : (p.length : Int) ≤ 8 := by omega
  have hT8 : (T.length : Int) ≤ 8 := by omega
  have hne : ((p.length : Int) != (T.length : Int)) = false := by rw [hl]; simp
  have hne2 : ((p.length : Nat) != (T.length : Nat)) = false := by rw [hl]; simp
  clear hl
  go_enter Tryd.func43, Tryd.ntmps43
  go_wp2_with fail
  go_loopw [6, 17] (fun s6 i wr => ∃ k : Nat, k ≤ p.length ∧ i = .int .i64 k ∧ ∃ L, Hid (OwnK w.heap.size wr s6 L ∧ Below w.heap.size w wr ∧ matchT p T [] = matchT (p.drop k) (T.drop k) L ∧ L.length ≤ k)) (fun _ i _ => p.length - (intOf i).toNat)
  case atStart => exact ⟨0, Nat.zero_le _, rfl, [], Lib.hid ⟨OwnK.nil _ _, Below.refl _ _, rfl, Nat.le_refl _⟩⟩
  case round =>
    obtain ⟨k, hk, rfl, L, HI⟩ := hrel
    have h0 : (0 : Int) ≤ (k : Int) := by omega
    by_cases hlt : k < p.length
    · have hltT : k < T.length := by have := HL.out; omega
      have hlt' : (k : Int) < (p.length : Int) := by omega
      have hltT' : (k : Int) < (T.length : Int) := by omega
      obtain ⟨b, off, cc1, hv1, hb, hc⟩ := HP.out.some hlt
      obtain ⟨b2, off2, cc2, hv2, hb2, hc2⟩ := HT.out.some hltT
      injection hv1 with e1 _ e3
      injection hv2 with e4 _ e6
      subst e1 e3 e4 e6
      have hz := HI.out.2.1.size
      have hbw : b < w.heap.size := by omega
      have hb2w : b2 < w.heap.size := by omega
      have hb' : b < wr.heap.size := by omega
      have hb2' : b2 < wr.heap.size := by omega
      obtain ⟨c0, c1, c2, c3, c4⟩ := (hc.below HI.out.2.1 hbw) k hlt
      obtain ⟨d0, d1, d2⟩ := (hc2.below HI.out.2.1 hb2w) k hltT
      have HB1 : Hid (Below w.heap.size w (wr.alloc (.cells #[.int .i64 p[k].k, .string p[k].nm, .int .i64 p[k].v.k, .int .i64 p[k].v.n, .string p[k].v.s] 51))) := Lib.hid (HI.out.2.1.alloc hz _)
      have HO1 := Lib.hid (HI.out.1.alloc (.cells #[.int .i64 p[k].k, .string p[k].nm, .int .i64 p[k].v.k, .int .i64 p[k].v.n, .string p[k].v.s] 51))
      clear hc hc2
      cases hk2 : (p[k].k == 2) with
      | true =>
        have hk2' : p[k].k = 2 := by simpa using hk2
        have HK2 := Lib.hid hk2'
        clear hk2'
        obtain ⟨z, hz1⟩ : ∃ z, z = sameV p[k].v T[k] := ⟨_, rfl⟩
        have hE : ∀ W : World, (binOp .eql 49 (.agg #[.int .i64 p[k].v.k, .int .i64 p[k].v.n, .string p[k].v.s]) (.agg #[.int .i64 T[k].k, .int .i64 T[k].n, .string T[k].s])).run Tryd.prog W = .ok (.bool z) W := fun W => by rw [hz1]; exact eqV_run _ _ W
        cases z with
        | true =>
          have HS3 := Lib.hid (HI.out.2.2.1.trans (step_const hlt hltT L HK2.out (sameV_iff.1 hz1.symm)))
          clear hz1
          go_wp2_with fail
          go_quiet (fail)
          go_wp2_with fail
          go_roundw
          case rel => exact ⟨k + 1, by omega, by go_num, L, Lib.hid ⟨own_drewN HO1.out _, below_drewN HB1.out _, HS3.out, by have := HI.out.2.2.2; omega⟩⟩
          case measure => simp [intOf]; omega
        | false =>
          have HS3 := Lib.hid (HI.out.2.2.1.trans (step_const_no hlt hltT L HK2.out (fun h => by rw [sameV_iff.2 h] at hz1; cases hz1)))
          clear hz1
          go_wp2_with fail
          go_quiet (fail)
          go_wp2_with fail
          go_ret2
          exact ⟨below_drewN HB1.out _, .inr ⟨HS3.out, rfl⟩⟩
      | false =>
        have hk2' : ¬ p[k].k = 2 := by simpa using hk2
        have HK2 := Lib.hid hk2'
        clear hk2'
        cases hk1 : (p[k].k == 1) with
        | false =>
          have hk1' : ¬ p[k].k = 1 := by simpa using hk1
          have HS3 := Lib.hid (HI.out.2.2.1.trans (step_any hlt hltT L HK2.out hk1'))
          clear hk1'
          go_wp2_with fail
          go_roundw
          case rel => exact ⟨k + 1, by omega, by go_num, L, Lib.hid ⟨HO1.out, HB1.out, HS3.out, by have := HI.out.2.2.2; omega⟩⟩
          case measure => simp [intOf]; omega
        | true =>
          have hk1' : p[k].k = 1 := by simpa using hk1
          have HK1 := Lib.hid hk1'
          have HBD := Lib.hid (fun (v : Value) (W : World) ho hB => bind_m (B := w.heap.size) hlt hltT hk1' v L W ho hB (by have := HI.out.2.2.2; omega))
          clear hk1'
          have e0 := ((below_box wr (.cells #[.int .i64 p[k].k, .string p[k].nm, .int .i64 p[k].v.k, .int .i64 p[k].v.n, .string p[k].v.s] 51)).cell (p := ⟨b2, off2 + k * 3, none⟩) hb2').trans d0
          have e1 := ((below_box wr (.cells #[.int .i64 p[k].k, .string p[k].nm, .int .i64 p[k].v.k, .int .i64 p[k].v.n, .string p[k].v.s] 51)).cell (p := ⟨b2, off2 + k * 3 + 1, none⟩) hb2').trans d1
          have e2 := ((below_box wr (.cells #[.int .i64 p[k].k, .string p[k].nm, .int .i64 p[k].v.k, .int .i64 p[k].v.n, .string p[k].v.s] 51)).cell (p := ⟨b2, off2 + k * 3 + 2, none⟩) hb2').trans d2
          have HE := Lib.hid (And.intro e0 (And.intro e1 e2))
          clear e0 e1 e2
          have HOWN := Lib.hid (World.ownsRow.lt HI.out.1)
          have HZ := Lib.hid (show w.heap.size ≤ (wr.alloc (.cells #[.int .i64 p[k].k, .string p[k].nm, .int .i64 p[k].v.k, .int .i64 p[k].v.n, .string p[k].v.s] 51)).heap.size by simp; omega)
          go_wp2_with fail
          go_region_held3 (fun w' => w'.cell? ⟨wr.heap.size, 1, none⟩ = some (.string p[k].nm) ∧ w'.cell? ⟨b2, off2 + k * 3, none⟩ = some (.int .i64 T[k].k) ∧ w'.cell? ⟨b2, off2 + k * 3 + 1, none⟩ = some (.int .i64 T[k].n) ∧ w'.cell? ⟨b2, off2 + k * 3 + 2, none⟩ = some (.string T[k].s))
            (first
              | go_keep
              | (go_split_ands
                 refine ⟨?_, ?_, ?_, ?_⟩
                 · exact cell_of_row w3 _ 1 _ _ (0, 0) ((hk3 wr.heap.size (by simp) (fun e => by have := (HOWN.out _ e.symm).2; omega)).trans (heap_alloc_new wr _))
                 · exact (hb3.cell (p := ⟨b2, off2 + k * 3, none⟩) hb2w).trans HE.out.1
                 · exact (hb3.cell (p := ⟨b2, off2 + k * 3 + 1, none⟩) hb2w).trans HE.out.2.1
                 · exact (hb3.cell (p := ⟨b2, off2 + k * 3 + 2, none⟩) hb2w).trans HE.out.2.2))
            ((go_at_call 58; refine (HBD.out _ _ (own_drew HO1.out) HZ.out).mono ?_; rintro e w3 ⟨v', ok, L', rfl, ho3, hl3, hb3, hk3, hs3⟩))
          rcases hs3 with ⟨rfl, hs3⟩ | ⟨rfl, hs3⟩
          · have HS3 := Lib.hid (HI.out.2.2.1.trans hs3)
            have HB3 : Hid (Below w.heap.size w w3) := Lib.hid (by first | exact HB1.out.drew.trans hb3 | exact HB1.out.trans hb3)
            have HO3 := Lib.hid ho3
            have HL3 : Hid (L'.length ≤ k + 1) := Lib.hid (by have := HI.out.2.2.2; omega)
            clear hs3 hb3 hk3 ho3 hl3
            go_wp2_with fail
            go_roundw
            case rel => exact ⟨k + 1, by omega, by go_num, L', Lib.hid ⟨HO3.out, HB3.out, HS3.out, HL3.out⟩⟩
            case measure => simp [intOf]; omega
          · have HS3 := Lib.hid (HI.out.2.2.1.trans hs3)
            have HB3 : Hid (Below w.heap.size w w3) := Lib.hid (by first | exact HB1.out.drew.trans hb3 | exact HB1.out.trans hb3)
            clear hs3 hb3 hk3 ho3 hl3
            go_wp2_with fail
            go_ret2
            exact ⟨HB3.out, .inr ⟨HS3.out, rfl⟩⟩
    · obtain rfl : k = p.length := by omega
      have hge : (p.length : Int) ≤ (p.length : Int) := by omega
      have HE : Hid (matchT p T [] = some L) := Lib.hid (HI.out.2.2.1.trans (by rw [List.drop_of_length_le (Nat.le_refl _)]; exact matchT_nil_left _ _))
      go_wp2_with fail
      go_ret2
      exact ⟨HI.out.2.1, .inl ⟨L, _, HE.out, rfl, HI.out.1⟩⟩
open Classical in
/-- The bindings that a pattern makes of a tuple: none, if it may not be, or has another length. -/
noncomputable def matO (p : List Tm) (T : List V3) : Option (List Bd) := if OkP p ∧ p.length = T.length then matchT p T [] else none
set_option maxHeartbeats 1000000 in
set_option maxRecDepth 100000 in
theorem tmatch_any (v1 v2 : Value) (p : List Tm) (T : List V3) (n₀ : Nat) (w : World) (hp : PatIn n₀ w v1 p) (hT : TupIn n₀ w v2 T) (hn : n₀ ≤ w.heap.size) :
    Calls Tryd.prog 20 #[v1, v2] w (MatchEnd (matO p T) w) := by
  have HP := Lib.hid hp
  have HT := Lib.hid hT
  clear hp hT
  go_enter Tryd.func20, Tryd.ntmps20
  go_wp2_with fail
  refine (checkPat_any v1 p n₀ w HP.out hn).mono ?_
  rintro e w1 ⟨⟨hk, rfl⟩ | ⟨hk, rfl⟩, hb⟩
  · have HB := Lib.hid hb
    have HP1 := Lib.hid (HP.out.below (hb.mono hn))
    have HT1 := Lib.hid (HT.out.below (hb.mono hn))
    have HZ := Lib.hid (Nat.le_trans hn hb.size)
    by_cases hl : p.length = T.length
    · have HM := Lib.hid (match_any v1 v2 p T n₀ w1 HP1.out HT1.out HZ.out hk.1 hl)
      have HE : Hid (matO p T = matchT p T []) := Lib.hid (if_pos ⟨hk, hl⟩)
      clear hl hk hb
      go_wp2_with fail
      refine HM.out.mono ?_
      rintro e w2 ⟨hb2, ⟨L, v, ho, rfl, hv⟩ | ⟨ho, rfl⟩⟩
      · have HO := Lib.hid (HE.out.trans ho)
        have HB2 := Lib.hid (HB.out.trans (hb2.mono HB.out.size))
        have HV := Lib.hid (hv.mono HB.out.size)
        clear ho hb2 hv
        go_wp2_with fail
        go_ret2
        exact ⟨HB2.out, .inl ⟨L, v, HO.out, rfl, HV.out⟩⟩
      · have HO := Lib.hid (HE.out.trans ho)
        have HB2 := Lib.hid (HB.out.trans (hb2.mono HB.out.size))
        clear ho hb2
        go_wp2_with fail
        go_ret2
        exact ⟨HB2.out, .inr ⟨HO.out, rfl⟩⟩
    · have HE : Hid (matO p T = none) := Lib.hid (if_neg fun h => hl h.2)
      obtain ⟨q1, cap1, rfl, l1, -, -⟩ := HP1.out
      obtain ⟨q2, cap2, rfl, l2, -⟩ := HT1.out
      have HM : Hid (Calls Tryd.prog 43 #[.slice q1 p.length cap1, .slice q2 T.length cap2] w1 fun e w' => e = .returned (.tuple #[.slice none 0 0, .bool false]) ∧ w1 = w') := Lib.hid (by
        have hne : ((p.length : Int) != (T.length : Int)) = true := by rw [bne_iff_ne]; omega
        have hne2 : ((p.length : Nat) != (T.length : Nat)) = true := by rw [bne_iff_ne]; omega
        clear hl hk hb
        go_enter Tryd.func43, Tryd.ntmps43
        go_wp2_with fail
        go_ret2
        exact ⟨rfl, rfl⟩)
      clear hl hk hb
      go_wp2_with fail
      refine HM.out.mono ?_
      rintro e w2 ⟨rfl, rfl⟩
      go_wp2_with fail
      go_ret2
      exact ⟨HB.out, .inr ⟨HE.out, rfl⟩⟩
  · have HB := Lib.hid hb
    have HE : Hid (matO p T = none) := Lib.hid (if_neg fun h => hk h.1)
    clear hk hb
    go_wp2_with fail
    go_ret2
    exact ⟨HB.out, .inr ⟨HE.out, rfl⟩⟩
end Go.Proofs.YtaogfgohchpnoaaDoor

/-
  Rows of bindings against each other; Select, by the code and by the document.
-/
import Derived.Test.YtaogfgohchpnoaaDoorTmB
import Derived.Test.YtaogfgohchpnoaaDoorTrO
namespace Go.Proofs.YtaogfgohchpnoaaDoor
open Go Go.RowKit Go.Shelf

attribute [local go_sem] Oper.semAt_some

set_option maxHeartbeats 1000000 in
theorem neqB_run (b : Bd) (W : World) : (binOp .neq 72 (.agg #[.string b.nm, .int .i64 b.v.k, .int .i64 b.v.n, .string b.v.s]) (.agg #[.string b.nm, .int .i64 b.v.k, .int .i64 b.v.n, .string b.v.s])).run Tryd.prog W = .ok (.bool false) W := by
  rw [run_neq_struct]
  simp [go_sem]
theorem KIn.cellsOf {n₀ : Nat} {w w' : World} {p : Option Addr} {m cap : Nat} {L : List Bd} (h : KIn n₀ w (.slice p m cap) L) (hm : m = L.length) (hb : Below n₀ w w') {k : Nat} (hk : k < L.length) : ∃ g, p = Option.some ⟨g, 0, none⟩ ∧ g < n₀ ∧ w'.cell? ⟨g, k * 4, Option.none⟩ = Option.some (Value.string L[k].nm) ∧ w'.cell? ⟨g, k * 4 + 1, Option.none⟩ = Option.some (Value.int .i64 L[k].v.k) ∧ w'.cell? ⟨g, k * 4 + 2, Option.none⟩ = Option.some (Value.int .i64 L[k].v.n) ∧ w'.cell? ⟨g, k * 4 + 3, Option.none⟩ = Option.some (Value.string L[k].v.s) := by
  subst hm
  obtain ⟨g, e, h1, -, -, h2⟩ := h.some hk
  have h3 := (h2.below hb h1) k hk
  simp only [Nat.zero_add] at h3
  exact ⟨g, e, h1, h3⟩
set_option maxHeartbeats 1000000 in
set_option maxRecDepth 100000 in
theorem samebounds_any (v1 v2 : Value) (L : List Bd) (w : World) (h1 : KIn w.heap.size w v1 L) (h2 : KIn w.heap.size w v2 L) (hl : L.length ≤ 1000) :
    Calls Tryd.prog 24 #[v1, v2] w fun e w' => e = .returned (.bool true) ∧ Below w.heap.size w w' := by
  have H1 := Lib.hid h1
  have H2 := Lib.hid h2
  obtain ⟨p1, c1, rfl⟩ := h1.form
  obtain ⟨p2, c2, rfl⟩ := h2.form
  clear h1 h2
  go_enter Tryd.func24, Tryd.ntmps24
  go_wp2_with fail
  go_loopw [5] (fun i wr => ∃ k : Nat, k ≤ L.length ∧ i = .int .i64 k ∧ Hid (Below w.heap.size w wr)) (fun i _ => L.length - (intOf i).toNat)
  case atStart => exact ⟨0, Nat.zero_le _, rfl, Lib.hid (Below.refl _ _)⟩
  case round =>
    obtain ⟨k, hk, rfl, hB⟩ := hrel
    have h0 : (0 : Int) ≤ (k : Int) := by omega
    by_cases hlt : k < L.length
    · have hlt' : (k : Int) < (L.length : Int) := by omega
      obtain ⟨g1, rfl, -, a0, a1, a2, a3⟩ := H1.out.cellsOf rfl hB.out hlt
      obtain ⟨g2, rfl, -, b0, b1, b2, b3⟩ := H2.out.cellsOf rfl hB.out hlt
      have hN := neqB_run L[k]
      go_wp2_with fail
      go_quiet (fail)
      go_wp2_with fail
      go_roundw
      case rel => exact ⟨k + 1, by omega, by go_num, Lib.hid ⟨hB.out.os, hB.out.tape, hB.out.output, hB.out.size, hB.out.block⟩⟩
      case measure => simp [intOf]; omega
    · have hge : (L.length : Int) ≤ (k : Int) := by omega
      obtain rfl : k = L.length := by omega
      go_wp2_with fail
      go_ret
      exact ⟨rfl, hB.out⟩
set_option maxHeartbeats 1000000 in
set_option maxRecDepth 100000 in
/-- match of a pattern that may be. -/
theorem match2_any (v1 v2 : Value) (p : List Tm) (T : List V3) (n₀ : Nat) (w : World) (hp : PatIn n₀ w v1 p) (hT : TupIn n₀ w v2 T) (hn : n₀ ≤ w.heap.size) (hok : OkP p) :
    Calls Tryd.prog 43 #[v1, v2] w (MatchEnd (matO p T) w) := by
  by_cases hl : p.length = T.length
  · have HE : matO p T = matchT p T [] := if_pos ⟨hok, hl⟩
    rw [HE]
    exact match_any v1 v2 p T n₀ w hp hT hn hok.1 hl
  · have HE : Hid (matO p T = none) := Lib.hid (if_neg fun h => hl h.2)
    obtain ⟨q1, cap1, rfl, l1, -, -⟩ := hp
    obtain ⟨q2, cap2, rfl, l2, -⟩ := hT
    have hne : ((p.length : Int) != (T.length : Int)) = true := by rw [bne_iff_ne]; omega
    have hne2 : ((p.length : Nat) != (T.length : Nat)) = true := by rw [bne_iff_ne]; omega
    clear hl
    go_enter Tryd.func43, Tryd.ntmps43
    go_wp2_with fail
    go_ret2
    exact ⟨Below.refl _ _, .inr ⟨HE.out, rfl⟩⟩
/-- Those of a row that a pattern matches. -/
noncomputable def selL (p : List Tm) (L : List (List V3)) : List (List V3) := L.filter fun T => (matO p T).isSome
theorem selL_yes {p : List Tm} {L : List (List V3)} {T : List V3} {b : List Bd} (h : matO p T = some b) : selL p (L ++ [T]) = selL p L ++ [T] := by
  unfold selL
  rw [List.filter_append, List.filter_cons, if_pos (by rw [h]; rfl)]
  rfl
theorem selL_no {p : List Tm} {L : List (List V3)} {T : List V3} (h : matO p T = none) : selL p (L ++ [T]) = selL p L := by
  unfold selL
  rw [List.filter_append, List.filter_cons, if_neg (by rw [h]; decide), List.filter_nil, List.append_nil]
theorem selL_bad {p : List Tm} (h : ¬ OkP p) (L : List (List V3)) : selL p L = [] := by
  unfold selL
  rw [List.filter_eq_nil_iff]
  intro T _
  rw [show matO p T = none from if_neg fun h' => h h'.1]
  decide
theorem selL_len (p : List Tm) (L : List (List V3)) : (selL p L).length ≤ L.length := List.length_filter_le _ _
set_option maxRecDepth 100000 in
set_option maxHeartbeats 2000000 in
theorem matching_in (w : World) (B1 B2 : Nat) (v pv : Value) (L : List (Value × List V3)) (p : List Tm) (hR : RowsIn w.heap.size w v L) (hp : PatIn w.heap.size w pv p) (hok : OkP p) (hB1 : w.cell? ⟨B1, 0, none⟩ = some v) (hB2 : w.cell? ⟨B2, 0, none⟩ = some pv) :
    SeqT w 59 #[.pointer (some ⟨B1, 0, none⟩), .pointer (some ⟨B2, 0, none⟩)] (selL p (L.map (·.2))) := by
  intro l W hW J hkeep hround h0
  have lt1 : B1 < w.heap.size := World.block_lt_of_cell? w _ hB1
  have lt2 : B2 < w.heap.size := World.block_lt_of_cell? w _ hB2
  have HR := Lib.hid hR
  have HP := Lib.hid hp
  have HOk := Lib.hid hok
  have HY := Lib.hid hround
  have HK := Lib.hid hkeep
  have HW := Lib.hid hW
  obtain ⟨a, cap, rfl, hlen⟩ := hR.form
  obtain ⟨qp, cp, rfl, -, -, -⟩ := id hp
  have hc1 : W.cell? ⟨B1, 0, none⟩ = some (.slice a L.length cap) := (hW.cell (p := ⟨B1, 0, none⟩) lt1).trans hB1
  have HC2 := Lib.hid (fun (W' : World) (h : Below w.heap.size w W') => (h.cell (p := ⟨B2, 0, none⟩) lt2).trans hB2)
  clear hround hkeep hR hp hok hW hB1 hB2
  refine callsIn_of_wp Tryd.func59 rfl trivial ?_ rfl
  simp only [Tryd.ntmps59, List.size_toArray, List.length_cons, List.length_nil, Nat.reduceAdd, Nat.reduceSub, Array.replicate_succ, Array.replicate_zero, List.push_toArray, List.append_toArray, List.nil_append, List.cons_append]
  gi_wp2
  gi_loopw [10] (fun i wr => ∃ k : Nat, k ≤ L.length ∧ i = .int .i64 k ∧ Hid (J (selL p ((L.take k).map (·.2))) wr ∧ Below w.heap.size w wr)) (fun i _ => L.length - (intOf i).toNat)
  case atStart => exact ⟨0, Nat.zero_le _, rfl, Lib.hid ⟨h0, HW.out⟩⟩
  case round =>
    obtain ⟨k, hk, rfl, hJ⟩ := hrel
    by_cases hlt : k < L.length
    · have hlt' : (k : Int) < (L.length : Int) := by omega
      obtain ⟨b, off, rfl, hx0, hin⟩ := HR.out.elem hJ.out.2 hlt
      have hc2 := HC2.out wr hJ.out.2
      have HM := Lib.hid (match2_any _ _ p _ w.heap.size wr (HP.out.below hJ.out.2) hin hJ.out.2.size HOk.out)
      have HT := Lib.hid (map_take hlt)
      have HI := Lib.hid hin
      obtain ⟨x, T, hx, hT⟩ : ∃ x T, x = L[k].1 ∧ T = L[k].2 := ⟨_, _, rfl, rfl⟩
      rw [← hx] at hx0 HI HM
      rw [← hT] at HT HI HM
      clear hx hT hin
      gi_wp2_with fail
      refine ⟨trivial, (callsIn_wide.2 HM.out).mono ?_⟩
      rintro e w1 ⟨hb1, ⟨Lb, vb, ho, rfl, -⟩ | ⟨ho, rfl⟩⟩
      · have HB1 := Lib.hid (hJ.out.2.trans (hb1.mono hJ.out.2.size))
        have HJ1 := Lib.hid (HK.out _ _ _ hJ.out.1 hb1)
        have HS := Lib.hid (show selL p ((L.take (k + 1)).map (·.2)) = selL p ((L.take k).map (·.2)) ++ [T] by rw [HT.out, selL_yes ho])
        have hls : (selL p ((L.take k).map (·.2))).length < 1000000 := by
          have := selL_len p ((L.take k).map (·.2))
          simp only [List.length_map, List.length_take] at this
          omega
        obtain ⟨fn, tmps, assign, body, hy, hRd⟩ := HY.out _ T x w1 HJ1.out ((HI.out.below (hb1.mono hJ.out.2.size)).mono (Nat.le_trans hJ.out.2.size hb1.size)) hls HB1.out
        clear hb1 ho
        gi_wp2_with fail
        refine hRd.mono ?_
        rintro e W3 ⟨rfl, hJ3, hk3⟩
        have HN := Lib.hid (And.intro hJ3 (HB1.out.trans hk3))
        clear hJ3 hk3
        gi_wp2_with fail
        go_roundw
        case rel => exact ⟨k + 1, by omega, by go_num, Lib.hid ⟨by rw [HS.out]; exact HN.out.1, HN.out.2⟩⟩
        case measure => simp [intOf]; omega
      · have HB1 := Lib.hid (hJ.out.2.trans (hb1.mono hJ.out.2.size))
        have HJ1 := Lib.hid (HK.out _ _ _ hJ.out.1 hb1)
        have HS := Lib.hid (show selL p ((L.take (k + 1)).map (·.2)) = selL p ((L.take k).map (·.2)) by rw [HT.out, selL_no ho])
        clear hb1 ho
        gi_wp2_with fail
        refine ⟨fun _ h => (by cases h), ?_⟩
        gi_wp2_with fail
        go_roundw
        case rel => exact ⟨k + 1, by omega, by go_num, Lib.hid ⟨by rw [HS.out]; exact HJ1.out, HB1.out⟩⟩
        case measure => simp [intOf]; omega
    · have hge : (L.length : Int) ≤ (k : Int) := by omega
      obtain rfl : k = L.length := by omega
      have HT := Lib.hid (List.take_length (l := L))
      gi_wp2_with fail
      go_end0
      exact ⟨⟨_, rfl⟩, by have := hJ.out.1; rwa [HT.out] at this⟩
end Go.Proofs.YtaogfgohchpnoaaDoor

/-
  The walk of the law CacheRuns.
-/
import Derived.Test.YtdjebcfpodfhhaaChSd
namespace Go.Proofs.Ytdjebcfpodfhhaa
open Go Go.RowKit Go.Maps Go.WideMaps

theorem stats_ne (h m g : Int) (W : World) : (binOp .neq 42 (.agg #[.int .i64 h, .int .i64 m, .int .i64 g]) (.agg #[.int .i64 h, .int .i64 m, .int .i64 g])).run Try.prog W = .ok (.bool false) W := by
  rw [run_neq_struct]
  simp [go_sem]
set_option maxRecDepth 100000 in
theorem new_bad (w : World) (room : Int) (h : ¬ (0 ≤ room ∧ room ≤ 1024)) : Calls Try.prog 8 #[.int .i64 room] w fun e w' => e = .returned (.tuple #[.pointer none, .int .i64 80]) ∧ w' = w := by
  by_cases h1 : room < 0
  · clear h
    go_enter Try.func8, Try.ntmps8
    go_wp2_with fail
    go_ret2
    exact ⟨rfl, rfl⟩
  · have h2 : 1024 < room := by omega
    clear h
    go_enter Try.func8, Try.ntmps8
    go_wp2_with fail
    go_ret2
    exact ⟨rfl, rfl⟩
set_option maxRecDepth 100000 in
theorem rnew_bad (w : World) (room : Int) (h : ¬ (0 ≤ room ∧ room ≤ 1024)) : Calls Try.prog 9 #[.int .i64 room] w fun e w' => e = .returned (.tuple #[.pointer none, .int .i64 80]) ∧ w' = w := by
  by_cases h1 : room < 0
  · clear h
    go_enter Try.func9, Try.ntmps9
    go_wp2_with fail
    go_ret2
    exact ⟨rfl, rfl⟩
  · have h2 : 1024 < room := by omega
    clear h
    go_enter Try.func9, Try.ntmps9
    go_wp2_with fail
    go_ret2
    exact ⟨rfl, rfl⟩
theorem StS.keep {lo : Nat} {w W : World} {c b n : Nat} {room : Int} (H : StS lo w c b n room) (hb : Below w.heap.size w W) : StS lo W c b n room := by
  obtain ⟨Z, Y, cnt, h, m, g, L, H⟩ := H
  exact ⟨Z, Y, cnt, h, m, g, L, H.keep hb⟩
theorem StS.up {lo : Nat} {w : World} {c b n : Nat} {room : Int} (H : StS lo w c b n room) : StS lo w c b (n + 1) room := by
  obtain ⟨Z, Y, cnt, h, m, g, L, H⟩ := H
  exact H.up
theorem StS.lo {lo : Nat} {w : World} {c b n : Nat} {room : Int} (H : StS lo w c b n room) : lo ≤ w.heap.size := by
  obtain ⟨Z, Y, cnt, h, m, g, L, H⟩ := H
  exact H.ll
theorem st_start {w w1 w2 w3 : World} {room : Int} {c b : Nat} (hb1 : Below w.heap.size w w1) (hca : CaY (fun k => w1.heap.size ≤ k ∧ k < w2.heap.size) 0 w2 c room 0 0 0 []) (hb2 : Below w1.heap.size w1 w2) (hrf : RfA (fun k => k = w2.heap.size) w3 b room 0 0 0 []) (hb3 : Below w2.heap.size w2 w3) : StS w.heap.size w3 c b 0 room :=
  have s1 := hb1.size
  have s2 := hb2.size
  have s3 := hb3.size
  ⟨_, _, 0, 0, 0, 0, [], hca.below hb3, hrf, fun k hk e => by omega, fun k hk => by omega, fun k hk => by omega, by omega, Nat.le_refl _, by simp, by simp, by simp, by simp⟩
theorem keys_in {W : World} {B : Nat} {v : Value} {L : List Pg} (h : W.ownsRow B 33 2 v L.length (rowK (keysL L))) (hl : L.length ≤ 2000) : KeyIn W v (keysL L) := by
  have e : (keysL L).length = L.length := by simp [keysL]
  rw [← e] at h hl
  exact KeyIn.own h hl
theorem OpsA.lt {w : World} {bb bo cp1 k : Nat} {L : List OpV} (h : OpsA w (.slice (some ⟨bb, bo, none⟩) L.length cp1) L) (hk : k < L.length) : bb < w.heap.size := by
  obtain ⟨p, cap, e, -, h2, -⟩ := h
  injection e with e1 _ _
  subst e1
  rcases h2 with h | ⟨b, off, e, hlt, -⟩
  · rw [h] at hk
    simp at hk
  · injection e with e
    injection e with e
    rw [e]
    exact hlt
theorem step_S {lo : Nat} {w : World} {c b n : Nat} {room : Int} (H : StS lo w c b n room) (hn : n ≤ 60) (kd : Int) (r : ByteArray) (pg : Int) (hk : KeyOk r pg) (pt : Option Addr) (lt ct : Nat) (E : List (List V3 × Int)) (hE : EntS (fun k => k < lo) w (.slice pt lt ct) E) :
    Calls Try.prog 11 #[ptr c, ptr b, .agg #[.int .i64 kd, .string r, .int .i64 pg, .slice pt lt ct]] w (StepE lo w c b n room) := by
  obtain ⟨Z, Y, cnt, h, m, g, L, H⟩ := H
  exact step_any H hn kd r pg hk pt lt ct E hE
/-- The cells of an op of the argument. -/
def OpC (bb o : Nat) (kd : Int) (r : ByteArray) (pg : Int) (pv : Value) (W : World) : Prop := W.cell? ⟨bb, o, none⟩ = some (.int .i64 kd) ∧ W.cell? ⟨bb, o + 1, none⟩ = some (.string r) ∧ W.cell? ⟨bb, o + 2, none⟩ = some (.int .i64 pg) ∧ W.cell? ⟨bb, o + 3, none⟩ = some pv
theorem OpC.below {bb o : Nat} {kd : Int} {r : ByteArray} {pg : Int} {pv : Value} {n : Nat} {W W' : World} (h : OpC bb o kd r pg pv W) (hb : Below n W W') (hn : bb < n) : OpC bb o kd r pg pv W' :=
  ⟨(hb.cell (p := ⟨bb, _, none⟩) hn).trans h.1, (hb.cell (p := ⟨bb, _, none⟩) hn).trans h.2.1, (hb.cell (p := ⟨bb, _, none⟩) hn).trans h.2.2.1, (hb.cell (p := ⟨bb, _, none⟩) hn).trans h.2.2.2⟩
theorem StJ.rowed {lo : Nat} {w w' : World} {Z Y : Nat → Prop} {cnt c b n : Nat} {room h m g : Int} {L : List Pg} (H : StJ lo w Z Y cnt c b n room h m g L) (hb : Below w.heap.size w w') : StJ lo w' Z Y cnt c b n room h m g L ∧ Below lo w w' := ⟨H.keep hb, hb.mono H.ll⟩
set_option maxRecDepth 100000 in
set_option maxHeartbeats 8000000 in
theorem lruns (room : Int) (v1 : Value) (L : List OpV) (w : World) (hl : OpsA w v1 L) :
    Calls Try.prog 3 #[.int .i64 room, v1] w fun e w' => e = .returned (.bool true) ∧ Below w.heap.size w w' := by
  obtain ⟨p1, cp1, rfl, hll⟩ : ∃ p cap, v1 = .slice p L.length cap ∧ L.length ≤ maxLen := by
    obtain ⟨p, cap, e, h, -⟩ := hl
    exact ⟨p, cap, e, h⟩
  have HL := Lib.hid hl
  clear hl
  unfold maxLen at hll
  go_enter Try.func3, Try.ntmps3
  go_wp2_with fail
  refine (awake_true w).mono ?_
  rintro e w1 ⟨rfl, hb1⟩
  have HB1 := Lib.hid hb1
  clear hb1
  go_wp2_with fail
  by_cases hok : 0 ≤ room ∧ room ≤ 1024
  case neg =>
    refine (new_bad w1 room hok).mono ?_
    rintro e w2 ⟨rfl, rfl⟩
    go_wp2_with fail
    refine (rnew_bad w2 room hok).mono ?_
    rintro e w3 ⟨rfl, rfl⟩
    clear hok
    go_wp2_with fail
    go_loopw [9] (fun i wr => i = .int .i64 0 ∧ Hid (wr = w3)) (fun _ _ => 0)
    case atStart => exact ⟨rfl, Lib.hid rfl⟩
    case round =>
      obtain ⟨rfl, hw⟩ := hrel
      obtain rfl := hw.out
      by_cases h0 : 0 < L.length
      · have h0' : (0 : Int) < (L.length : Int) := by omega
        go_wp2_with fail
        go_ret
        exact ⟨rfl, HB1.out⟩
      · have h0' : (L.length : Int) ≤ 0 := by omega
        go_wp2_with fail
        go_ret
        exact ⟨rfl, HB1.out⟩
  refine (newY w1 room hok.1 hok.2).mono ?_
  rintro e w2 ⟨rfl, hca, hb2⟩
  go_wp2_with fail
  refine (rnew_any w2 room hok.1 hok.2).mono ?_
  rintro e w3 ⟨rfl, hrf, hb3⟩
  have HJ0 := Lib.hid (And.intro (st_start HB1.out hca hb2 hrf hb3) (HB1.out.trans ((hb2.trans (hb3.mono hb2.size)).mono HB1.out.size)))
  generalize w1.heap.size + 3 = c at *
  generalize w2.heap.size = b at *
  clear hca hb2 hrf hb3 hok
  go_wp2_with fail
  go_loopw [9] (fun i wr => ∃ k : Nat, k ≤ 60 ∧ k ≤ L.length ∧ i = .int .i64 k ∧ Hid (StS w.heap.size wr c b k room ∧ Below w.heap.size w wr)) (fun i _ => 60 - (intOf i).toNat)
  case atStart => exact ⟨0, by omega, by omega, rfl, HJ0⟩
  case round =>
    obtain ⟨k, hk60, hkl, rfl, hJ⟩ := hrel
    clear HJ0
    have h0 : (0 : Int) ≤ (k : Int) := by omega
    have hk60' : (k : Int) ≤ 60 := by omega
    by_cases hlt : k < L.length ∧ k < 60
    · have hlt1 : (k : Int) < (L.length : Int) := by omega
      have hlt2 : (k : Int) < 60 := by omega
      obtain ⟨bb, bo, kd, r, pg, pt, lt, ct, rfl, c0, c1, c2, c3, hwf, hE, hr, hlm⟩ := HL.out.row hJ.out.2 hlt.1
      have HK := Lib.hid (And.intro hlt hwf)
      have HE := Lib.hid hE
      have HC := Lib.hid (And.intro c0 (And.intro c1 (And.intro c2 c3)))
      clear hlt hk60 hkl hwf hE
      go_wp2_with fail
      by_cases hli : r.size ≤ 100 ∧ lt ≤ 20
      case neg =>
        refine (light_no kd pg r pt lt ct _ hli).mono ?_
        rintro e w5 ⟨rfl, hb5⟩
        have HJ5 := Lib.hid (And.intro (hJ.out.1.keep hb5).up (hJ.out.2.trans (hb5.mono hJ.out.2.size)))
        clear hb5 hli
        go_wp2_with fail
        go_roundw
        case rel => exact ⟨k + 1, by have := HK.out.1.2; omega, by have := HK.out.1.1; omega, by go_num, HJ5⟩
        case measure => simp [intOf]; omega
      refine (light_yes kd pg r pt lt ct _ hli.1 hli.2).mono ?_
      rintro e w5 ⟨rfl, hb5⟩
      obtain ⟨E, hE⟩ := HE.out hli.2
      have HJ5 := Lib.hid (And.intro (hJ.out.1.keep hb5) (hJ.out.2.trans (hb5.mono hJ.out.2.size)))
      have HJd := Lib.hid (show StS w.heap.size w5.drew c b k room from HJ5.out.1.keep (Below.refl _ _).drew)
      have HEd := Lib.hid (show EntS (fun k => k < w.heap.size) w5.drew (.slice pt lt ct) E from hE.same (fun _ h => h) (fun x o hx => HJ5.out.2.cell (p := ⟨x, o, none⟩) hx))
      have HOk := Lib.hid (show KeyOk r pg from ⟨hli.1, HK.out.2⟩)
      have d0 := (hb5.cell (p := ⟨bb, _, none⟩) (lt_of_cell c0)).trans c0
      have d1 := (hb5.cell (p := ⟨bb, _, none⟩) (lt_of_cell c1)).trans c1
      have d2 := (hb5.cell (p := ⟨bb, _, none⟩) (lt_of_cell c2)).trans c2
      have d3 := (hb5.cell (p := ⟨bb, _, none⟩) (lt_of_cell c3)).trans c3
      clear hb5 hE hli c0 c1 c2 c3
      go_wp2_with fail
      have HbL := Lib.hid (HL.out.lt HK.out.1.1)
      have S5 := Lib.hid (show OpC bb (bo + k * 4) kd r pg (.slice pt lt ct) w5.drew from ⟨d0, d1, d2, d3⟩)
      have B5 := Lib.hid (show Below w.heap.size w w5.drew from HJ5.out.2.drew)
      clear d0 d1 d2 d3
      obtain ⟨d0, d1, d2, d3⟩ := S5.out
      go_region_with
        ((first
          | (go_at_call 11; refine (step_S HJd.out (by have := HK.out.1.2; omega) kd r pg HOk.out pt lt ct E HEd.out).mono ?_; rintro e w6 ⟨rfl, ⟨Z, Y, cnt, h, m, g, L', H6'⟩, hb6⟩; have H6 := Lib.hid H6'; have S6 := Lib.hid (S5.out.below hb6 HbL.out); have B6 := Lib.hid (B5.out.trans hb6); have qs := stats_ne h m g; clear H6' hb6)
          | (go_at_call 13; refine (keysY H6.out.ca).mono ?_; rintro e w7 ⟨kv, rfl, hr7, hb7⟩; have H7 := Lib.hid (H6.out.rowed hb7); have S7 := Lib.hid (S6.out.below H7.out.2 HbL.out); have K7 := Lib.hid (keys_in hr7 (by have := H6.out.ln; have := HK.out.1.2; omega)); have B7 := Lib.hid (B6.out.trans H7.out.2); clear hr7 hb7)
          | (go_at_call 14; refine (rkeys_any H7.out.1.rf (by have := H6.out.ln; have := HK.out.1.2; omega)).mono ?_; rintro e w8 ⟨kv2, rfl, hr8, hb8⟩; have H8 := Lib.hid (H7.out.1.rowed hb8); have S8 := Lib.hid (S7.out.below H8.out.2 HbL.out); have K8 := Lib.hid (And.intro (K7.out.below hb8) (keys_in hr8 (by have := H6.out.ln; have := HK.out.1.2; omega))); have B8 := Lib.hid (B7.out.trans H8.out.2); clear hr8 hb8)
          | (go_at_call 12; refine (samekeys_same kv kv2 (keysL L') w8 K8.out.1 K8.out.2).mono ?_; rintro e w9 ⟨rfl, hb9⟩; have H9 := Lib.hid (H8.out.1.rowed hb9); have S9 := Lib.hid (S8.out.below H9.out.2 HbL.out); have B9 := Lib.hid (B8.out.trans H9.out.2); have t2 := H9.out.1.rf.c2; have t3 := H9.out.1.rf.c3; have t4 := H9.out.1.rf.c4; clear hb9)
          | (go_at_call 15; refine (statsY H9.out.1.ca).mono ?_; rintro e w10 ⟨rfl, hb10⟩; have H10 := Lib.hid (H9.out.1.rowed hb10); have S10 := Lib.hid (S9.out.below H10.out.2 HbL.out); have B10 := Lib.hid (B9.out.trans H10.out.2); have t2 := H10.out.1.rf.c2; have t3 := H10.out.1.rf.c3; have t4 := H10.out.1.rf.c4; clear hb10)
          | (go_at_call 16; refine (roomY H10.out.1.ca).mono ?_; rintro e w11 ⟨rfl, rfl⟩)))
      all_goals
        go_wp2_with fail
        go_roundw
        case rel => exact ⟨k + 1, by have := HK.out.1.2; omega, by have := HK.out.1.1; omega, by go_num, Lib.hid ⟨⟨Z, Y, cnt, h, m, g, L', H10.out.1⟩, B10.out⟩⟩
        case measure => simp [intOf]; omega
    · have hex : (L.length : Int) ≤ (k : Int) ∨ ((k : Int) < (L.length : Int) ∧ (60 : Int) ≤ (k : Int)) := by omega
      rcases hex with hex | ⟨hex1, hex2⟩
      all_goals
        go_wp2_with fail
        go_ret
        exact ⟨rfl, hJ.out.2⟩
end Go.Proofs.Ytdjebcfpodfhhaa

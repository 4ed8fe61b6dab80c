/-
  The walk of the law CacheRoom.
-/
import Derived.Test.YtdjebcfpodfhhaaChUp
namespace Go.Proofs.Ytdjebcfpodfhhaa
open Go Go.RowKit Go.Maps Go.WideMaps

set_option maxRecDepth 100000 in
set_option maxHeartbeats 8000000 in
theorem lroom (x : Nat) (hx : x ≤ 255) (v1 : Value) (L : List OpV) (w : World) (hl : OpsA w v1 L) :
    Calls Try.prog 4 #[.int .u8 (x : Int), v1] w fun e w' => e = .returned (.bool true) ∧ Below w.heap.size w w' := by
  obtain ⟨p1, cp1, rfl, hll⟩ : ∃ p cap, v1 = .slice p L.length cap ∧ L.length ≤ maxLen := by
    obtain ⟨p, cap, e, h, -⟩ := hl
    exact ⟨p, cap, e, h⟩
  have HL := Lib.hid hl
  clear hl
  unfold maxLen at hll
  have hx0 : (0 : Int) ≤ (x : Int) := by omega
  have hx1 : (x : Int) ≤ 255 := by omega
  go_enter Try.func4, Try.ntmps4
  go_wp2_with fail
  refine (awake_true w).mono ?_
  rintro e w1 ⟨rfl, hb1⟩
  have HB1 := Lib.hid hb1
  clear hb1
  go_wp2_with fail
  obtain ⟨n, hn, hn7⟩ : ∃ n : Nat, (x : Int) % 8 = (n : Int) ∧ n ≤ 7 := ⟨x % 8, by omega, by omega⟩
  rw [hn]
  have hn7' : (n : Int) ≤ 7 := by omega
  have hn0 : (0 : Int) ≤ (n : Int) := by omega
  clear hn hx hx0 hx1
  refine (newY w1 (n : Int) hn0 (by omega)).mono ?_
  rintro e w2 ⟨rfl, hca, hb2⟩
  have HJ0 := Lib.hid (show RoS w w2 (w1.heap.size + 3) n 0 (.slice none 0 0) from ⟨_, 0, [], [], 0, 0, 0, ⟨hca, ⟨none, 0, [], rfl, rfl, by simp, by simp, .inl rfl⟩, fun b hb => Nat.le_trans HB1.out.size hb.1, HB1.out.trans (hb2.mono HB1.out.size), by simp, by simp, by simp, by simp, by simp, by simp⟩⟩)
  generalize w1.heap.size + 3 = c at *
  clear hca hb2 HB1
  go_wp2_with fail
  go_loopw [8, 9] (fun lv i wr => ∃ k : Nat, k ≤ 60 ∧ k ≤ L.length ∧ i = .int .i64 k ∧ Hid (RoS w wr c n k lv)) (fun _ i _ => 60 - (intOf i).toNat)
  case atStart => exact ⟨0, by omega, by omega, rfl, HJ0⟩
  case round =>
    obtain ⟨k, hk60, hkl, rfl, hJ⟩ := hrel
    clear HJ0
    have h0 : (0 : Int) ≤ (k : Int) := by omega
    have hk60' : (k : Int) ≤ 60 := by omega
    by_cases hlt : k < L.length ∧ k < 60
    · have hlt1 : (k : Int) < (L.length : Int) := by omega
      have hlt2 : (k : Int) < 60 := by omega
      obtain ⟨bb, bo, kd, r, pg, pt, lt, ct, rfl, c0, c1, c2, c3, hwf, hE, hr, hlm⟩ := HL.out.row hJ.out.below hlt.1
      have HK := Lib.hid (And.intro hlt hwf)
      have HE := Lib.hid hE
      obtain ⟨Z, cnt, Hs, Lc, h, m, g, HR⟩ := hJ.out
      have HbZ := Lib.hid (show ¬ Z wr.heap.size from fun e => by have := HR.ca.ltZ _ e; omega)
      have HR4 := Lib.hid (HR.keep (below_new wr (.cells #[.int .i64 kd, .string r, .int .i64 pg, .slice pt lt ct] 36)))
      have HB4 := Lib.hid (opBox_mk wr kd r pg (.slice pt lt ct))
      clear hlt hk60 hkl hwf hE hJ HR
      obtain ⟨q0, q1, q2, q3⟩ := HB4.out
      go_wp2_with fail
      by_cases hli : r.size ≤ 100 ∧ lt ≤ 20
      case neg =>
        refine (light_no kd pg r pt lt ct _ hli).mono ?_
        rintro e w5 ⟨rfl, hb5⟩
        have HJ5 := Lib.hid (HR4.out.keep hb5).roS
        clear hb5 hli
        go_wp2_with fail
        go_roundw
        case rel => exact ⟨k + 1, by have := HK.out.1.2; omega, by have := HK.out.1.1; omega, by go_num, Lib.hid (HJ5.out.up (Nat.le_succ k))⟩
        case measure => simp [intOf]; omega
      refine (light_yes kd pg r pt lt ct _ hli.1 hli.2).mono ?_
      rintro e w5 ⟨rfl, hb5⟩
      obtain ⟨E, hE⟩ := HE.out hli.2
      have HR := HR4.out.keep hb5
      have HB5 := Lib.hid (HB4.out.below hb5)
      have HOk := Lib.hid (show KeyOk r pg from ⟨hli.1, HK.out.2⟩)
      have HE5 := Lib.hid (show EntS (fun k => k < w5.heap.size ∧ ¬ Z k) w5 (.slice pt lt ct) E from hE.same (fun b hb => ⟨Nat.lt_of_lt_of_le hb HR.below.size, fun e => by have := HR.lo b e; omega⟩) (fun b o hb => HR.below.cell (p := ⟨b, o, none⟩) hb))
      have HR5 := Lib.hid HR
      clear hb5 hE HR HR4 HB4 HE hli q0 q1 q2 q3 c0 c1 c2 c3
      obtain ⟨q0, q1, q2, q3⟩ := HB5.out
      generalize wr.heap.size = ob at *
      have hkind : kd = 2 ∨ kd = 3 ∨ (kd ≠ 2 ∧ kd ≠ 3) := by omega
      rcases hkind with rfl | rfl | ⟨n2, n3⟩
      case' inl =>
        obtain ⟨ph, ch, Q, hQ, hu8, hQe, hQs, hQc⟩ := HR5.out.held.opened
        subst hu8
        have HQ := Lib.hid (And.intro hQ (And.intro hQe (And.intro hQs hQc)))
        have HQl := Lib.hid (show Q.length ≤ 1000 from by
          have h1 := HR5.out.hl
          have h2 := HK.out.1.2
          have e : Q.length = Hs.length := by rw [← hQ]; simp
          omega)
        clear hQ hQe hQs hQc
        go_wp2_with fail
        refine (putY HR5.out.ca r pg HOk.out _ E HE5.out (by have := HR5.out.cl; have := HK.out.1.2; omega) (by have := HR5.out.gk1; have := HK.out.1.2; omega)).mono ?_
        intro e w6 hp
        have HP6 := Lib.hid hp
        obtain ⟨rfl, hu6, -⟩ := hp
        have HBd := Lib.hid (show OpBox ob 2 r pg (.slice pt lt ct) w6.drew from (show OpBox ob 2 r pg (.slice pt lt ct) w6 from HB5.out.upd hu6 HbZ.out))
        have HEd := Lib.hid (show EntS (fun k => k < w6.drew.heap.size) w6.drew (.slice pt lt ct) E from HE5.out.same (fun b hb => Nat.lt_of_lt_of_le hb.1 hu6.size) (fun b o hb => hu6.cell b o hb.1 hb.2))
        clear hu6 q0 q1 q2 q3
        go_wp2_with fail
        go_region_held3 (fun X => X.cell? ⟨ob, 1, none⟩ = some (.string r) ∧ X.cell? ⟨ob, 2, none⟩ = some (.int .i64 pg) ∧ X.cell? ⟨ob, 3, none⟩ = some (.slice pt lt ct))
          (first | exact HBd.out.2 | exact HB7.out.2 | exact HA7.out.2 | exact HA8.out.2)
          ((first
            | (go_at_call 18; refine (rcopy_any w6.drew (.slice pt lt ct) E HEd.out).mono ?_; rintro e w7 ⟨v7, rfl, he7, hb7, -⟩; obtain ⟨p7, l7, c7, hv7⟩ := he7.slice3; subst hv7; have HB7 := Lib.hid (HBd.out.below hb7); have HC7 := Lib.hid (And.intro he7 (show Below w6.heap.size w6 w7 from ((Below.refl _ w6).drew).trans hb7)); have HO7 := Lib.hid (show (w7.alloc (.cells #[.string r, .int .i64 pg, .slice p7 l7 c7] 52)).ownsRow w7.heap.size 52 3 (.slice (some ⟨w7.heap.size, 0, none⟩) 1 1) 1 (rowH [(.slice p7 l7 c7, r, pg, E)]) from World.ownsRow_lit w7 #[.string r, .int .i64 pg, .slice p7 l7 c7] 1 (Nat.le_refl _) (by decide) rfl); have HN7 := Lib.hid (below_new w7 (.cells #[.string r, .int .i64 pg, .slice p7 l7 c7] 52)); have HA7 := Lib.hid (HB7.out.below HN7.out); clear he7 hb7)
            | (refine step_appH rfl (.tmp 71) (.tmp 72) rfl w7.heap.size _ (.slice p7 l7 c7, r, pg, E) ph ch Q rfl rfl HO7.out HQl.out (by simp) (held_rows HQ.out.2.2.2 (fun b hb => hb.2) HP6.out.2.1 (HC7.out.2.trans (HN7.out.mono HC7.out.2.size))) HQ.out.2.2.1 ?_; intro p' c' w8 ho8 hg8; have HJ6 := Lib.hid (HR5.out.put HP6.out HC7.out.1 HC7.out.2 HN7.out HQ.out.1 HQ.out.2.1 ho8 ((Below.refl _ _).grown hg8 (by simp) (fun k hk => (World.ownsRow.lt HO7.out k hk).1)) (by have := HK.out.1.2; omega)); have HA8 := Lib.hid (HB7.out.below (HN7.out.trans ((Below.refl _ _).grown hg8 (by simp) (fun k hk => (World.ownsRow.lt HO7.out k hk).1)))); clear ho8 hg8)))
      case' inr.inl =>
        go_wp2_with fail
        refine (dropY HR5.out.ca r).mono ?_
        intro e w6 hd
        have HJ6 := Lib.hid (HR5.out.drop hd).1
        obtain ⟨rfl, -⟩ := hd
      case' inr.inr =>
        go_wp2_with fail
        refine (getY HR5.out.ca r pg HOk.out (by have := HR5.out.hk1; have := HK.out.1.2; omega) (by have := HR5.out.mk1; have := HK.out.1.2; omega)).mono ?_
        intro e w6 hd
        have HJ6 := Lib.hid (HR5.out.get hd).1
        obtain ⟨v, rfl⟩ : ∃ v, e = .returned v := by
          rcases hd.2 with ⟨-, e, -⟩ | ⟨_, _, -, e, -⟩
          · exact ⟨_, e⟩
          · exact ⟨_, e⟩
        clear hd
      all_goals
        obtain ⟨Z6, cnt6, Hs6, Lc6, h6, m6, g6, HR⟩ := HJ6.out
        have HR6 := Lib.hid HR
        clear HR HJ6 HR5
        go_wp2_with fail
        refine (keysY HR6.out.ca).mono ?_
        rintro e w9 ⟨kv, rfl, hr9, hb9⟩
        have hKl : (Lc6.length : Int) ≤ (n : Int) := HR6.out.ca.len.1
        have HR9 := Lib.hid (HR6.out.keep hb9).roS
        have HNe := Lib.hid (fun (a b : Nat) (x y : Ky) => keys_ne HR6.out.ca (a := a) (b := b) (x := x) (y := y))
        obtain ⟨K, hK⟩ : ∃ K, K = keysL Lc6 := ⟨_, rfl⟩
        have e0 : K.length = Lc6.length := by rw [hK]; simp [keysL]
        rw [← hK, ← e0] at hr9
        rw [← e0] at hKl
        rw [← hK] at HNe
        have hKI := KeyIn.own hr9 (by omega)
        obtain ⟨pk, ck, hkv⟩ : ∃ p cap, kv = .slice p K.length cap := by
          obtain ⟨p, cap, e, -⟩ := hKI
          exact ⟨p, cap, e⟩
        subst hkv
        have HKI := Lib.hid hKI
        clear hKI hr9 hb9 hK e0 HR6
        go_wp2_with fail
        rw [show decide (n < K.length) = false from decide_eq_false (by omega)]
        go_loopw [12] (fun a wr2 => ∃ j : Nat, j ≤ K.length ∧ a = .int .i64 j ∧ Hid (Below w9.heap.size w9 wr2)) (fun a _ => K.length - (intOf a).toNat)
        case atStart => exact ⟨0, Nat.zero_le _, rfl, Lib.hid (Below.refl _ _)⟩
        case round =>
          obtain ⟨j, hj, rfl, hB⟩ := hrel
          have h0j : (0 : Int) ≤ (j : Int) := by omega
          by_cases hjl : j < K.length
          · have hjl' : (j : Int) < (K.length : Int) := by omega
            go_wp2_with fail
            go_loopw [13] (fun b wr3 => ∃ i : Nat, i ≤ j ∧ b = .int .i64 i ∧ Hid (Below w9.heap.size w9 wr3)) (fun b _ => j - (intOf b).toNat)
            case atStart => exact ⟨0, Nat.zero_le _, rfl, hB⟩
            case round =>
              obtain ⟨i, hi, rfl, hB3⟩ := hrel
              have h0i : (0 : Int) ≤ (i : Int) := by omega
              by_cases hil : i < j
              · have hil' : (i : Int) < (j : Int) := by omega
                have hil2 : (i : Int) < (K.length : Int) := by omega
                obtain ⟨b2, o2, cc2, hv2, hb2, hc2⟩ := (HKI.out.below hB3.out).some hjl
                injection hv2 with hp2 _ hcap2
                subst hp2 hcap2
                obtain ⟨z, hz⟩ : ∃ z, K[j]? = some z := ⟨_, List.getElem?_eq_getElem hjl⟩
                obtain ⟨y, hy⟩ : ∃ y, K[i]? = some y := ⟨_, List.getElem?_eq_getElem (Nat.lt_trans hil hjl)⟩
                have hne := HNe.out j i z y hil hz hy
                obtain ⟨x0, x1⟩ := hc2 j z hz
                obtain ⟨y0, y1⟩ := hc2 i y hy
                obtain ⟨zn, zi⟩ := z
                obtain ⟨yn, yi⟩ := y
                have q := eqK_run zn yn zi yi
                rw [hne] at q
                clear hz hy hc2 hne
                go_wp2_with fail
                go_region
                go_wp2_with fail
                go_roundw
                case rel => exact ⟨i + 1, by omega, by go_num, Lib.hid hB3.out.drew⟩
                case measure => simp [intOf]; omega
              · obtain rfl : i = j := by omega
                have hge : (i : Int) ≤ (i : Int) := by omega
                go_wp2_with fail
                refine ⟨⟨i + 1, by omega, by go_num, hB3⟩, ?_⟩
                simp [intOf]
                omega
          · obtain rfl : j = K.length := by omega
            have hge : (K.length : Int) ≤ (K.length : Int) := by omega
            go_wp2_with fail
            refine ⟨⟨k + 1, by have := HK.out.1.2; omega, by have := HK.out.1.1; omega, by go_num, Lib.hid (HR9.out.keep hB.out)⟩, ?_⟩
            have := HK.out.1.2
            simp [intOf]
            omega
    · have hex : (L.length : Int) ≤ (k : Int) ∨ ((k : Int) < (L.length : Int) ∧ (60 : Int) ≤ (k : Int)) := by omega
      obtain ⟨Z, cnt, Hs, Lc, h, m, g, HR⟩ := hJ.out
      have HRr := Lib.hid HR
      have HK := Lib.hid hk60
      clear hk60 HR hJ
      rcases hex with hex | ⟨hex1, hex2⟩
      all_goals
        go_wp2_with fail
        refine (keysY HRr.out.ca).mono ?_
        rintro e w9 ⟨kv, rfl, hr9, hb9⟩
        have hKl : (Lc.length : Int) ≤ (n : Int) := HRr.out.ca.len.1
        have hLa := LaJ.start HRr.out hb9 hr9 hn7
        have e0 : (keysL Lc).length = Lc.length := by simp [keysL]
        rw [← e0] at hKl
        generalize keysL Lc = K at *
        obtain ⟨pk, ck, hkv⟩ : ∃ p cap, kv = .slice p K.length cap := by
          obtain ⟨p, cap, e, -⟩ := hLa.kb
          exact ⟨p, cap, e⟩
        subst hkv
        have HLa := Lib.hid hLa
        clear hLa hr9 hb9 e0 HRr
        generalize wr.heap.size = B at *
        go_wp2_with fail
        go_loopw [15] (fun a wr2 => ∃ j : Nat, j ≤ K.length ∧ a = .int .i64 j ∧ Hid (LaS w wr2 Z cnt c n B (k + j) u8 (.slice pk K.length ck) K Hs)) (fun a _ => K.length - (intOf a).toNat)
        case atStart => exact ⟨0, Nat.zero_le _, rfl, HLa⟩
        case round =>
          obtain ⟨j, hj, rfl, hLa⟩ := hrel
          clear HLa
          have h0j : (0 : Int) ≤ (j : Int) := by omega
          by_cases hjl : j < K.length
          · have hjl' : (j : Int) < (K.length : Int) := by omega
            obtain ⟨b2, o2, cc2, hv2, hb2, hc2⟩ := hLa.out.kb.some hjl
            injection hv2 with hp2 _ hcap2
            subst hp2 hcap2
            obtain ⟨z, hz⟩ : ∃ z, K[j]? = some z := ⟨_, List.getElem?_eq_getElem hjl⟩
            obtain ⟨x0, x1⟩ := hc2 j z hz
            have HM := Lib.hid (List.mem_of_getElem? hz)
            have HZ := Lib.hid hz
            obtain ⟨zn, zi⟩ := z
            clear hc2 hz
            go_wp2_with fail
            refine (la_get hLa.out zn zi HM.out (by have := HK.out; omega)).mono ?_
            rintro e w10 ⟨x, p, l, cp, rfl, hf, he, hh, hla⟩
            have HG := Lib.hid (And.intro hf (And.intro he (And.intro hh hla)))
            obtain ⟨b3, o3, cc3, hv3, hb3, hc3⟩ := hla.kb.some hjl
            injection hv3 with hp3 _ hcap3
            injection hp3 with hp3
            injection hp3 with hp3 hp4
            subst hp3 hp4 hcap3
            clear x0 x1
            obtain ⟨x0, x1⟩ := hc3 j _ HZ.out
            clear hf he hh hla hc3
            go_wp2_with fail
            refine (newest_hit u8 (.slice p l cp) Hs zn zi x w10 HG.out.2.2.1 HG.out.2.1 HG.out.1).mono ?_
            rintro e w11 ⟨rfl, hb11⟩
            have HLb := Lib.hid (HG.out.2.2.2.keep hb11)
            clear hb11
            go_wp2_with fail
            go_roundw
            case rel => exact ⟨j + 1, by omega, by go_num, HLb⟩
            case measure => simp [intOf]; omega
          · obtain rfl : j = K.length := by omega
            have hge : (K.length : Int) ≤ (K.length : Int) := by omega
            go_wp2_with fail
            go_ret
            exact ⟨rfl, hLa.out.below⟩
end Go.Proofs.Ytdjebcfpodfhhaa

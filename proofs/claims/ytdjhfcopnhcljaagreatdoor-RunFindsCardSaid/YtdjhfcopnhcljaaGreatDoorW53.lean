/-
  RunFinds: the walk of the law.
-/
import Derived.Test.YtdjhfcopnhcljaaGreatDoorW48
import Derived.Test.YtdjhfcopnhcljaaGreatDoorW50
import Derived.Test.YtdjhfcopnhcljaaGreatDoorW51
import Derived.Test.YtdjhfcopnhcljaaGreatDoorW52
import Derived.Deep.RegionHeld3
namespace Go.Proofs.YtdjhfcopnhcljaaGreatDoor
section
open Go Go.RowKit

set_option maxRecDepth 100000 in
set_option maxHeartbeats 8000000 in
theorem lfinds_any (v : Value) (E0 : List Ct) (kk : Int) (w : World) (h : EnS w v E0) (hF : ∀ x ∈ E0, (∀ y ∈ x.1, FitV y) ∧ -9223372036854775808 ≤ x.2 ∧ x.2 ≤ 9223372036854775807) (G : Glob w) :
    Calls Tryz.prog 6 #[v, .int .i64 kk] w fun e w' => e = .returned (.bool true) ∧ Below w.heap.size w w' := by
  have HFew := Lib.hid (rfew_any v E0 w h)
  have HK := Lib.hid (fewC_kin hF)
  have HL := Lib.hid (fewC_len E0)
  have HG := Lib.hid G
  obtain ⟨p0, c0, rfl, -⟩ := h
  obtain ⟨n0, hn0⟩ : ∃ n, n = E0.length := ⟨_, rfl⟩
  rw [← hn0] at HFew ⊢
  generalize fewC E0 = E at *
  have q1 := fun (W : World) (p : Addr) => run_eql_nil_pointer W 43 _ (some p) Tryz.underlying43
  have q2 := fun (W : World) (p : Addr) => run_eql_nil_pointer W 53 _ (some p) Tryz.underlying53
  clear hF G hn0
  go_enter Tryz.func6, Tryz.ntmps6
  go_wp2_with fail
  refine HFew.out.mono ?_
  rintro e w1 ⟨v1, R1, rfl, ho1, hm1, hb1⟩
  have hin := ho1.in_
  rw [hm1] at hin
  obtain ⟨p1, c1, rfl, -⟩ := id hin
  obtain ⟨n, hn⟩ : ∃ n, n = E.length := ⟨_, rfl⟩
  rw [← hn] at hin ⊢
  have HIn := Lib.hid hin
  have HB1 := Lib.hid hb1
  have HN := Lib.hid hn
  have hn60 : n ≤ 60 := by rw [hn]; exact HL.out
  have HIs := Lib.hid (refIs_any _ E w1 hin (by omega))
  clear ho1 hm1 hb1 hin hn HFew
  go_wp2_with fail
  refine HIs.out.mono ?_
  rintro e w2 ⟨⟨hR, rfl⟩ | ⟨-, rfl⟩, hb2⟩
  rotate_left
  · have HB2 := Lib.hid (HB1.out.trans (hb2.mono HB1.out.size))
    have HAl := Lib.hid (alive_any w2 (HG.out.below HB2.out))
    clear hb2 HIs
    go_wp2_with fail
    refine HAl.out.mono ?_
    rintro e w3 ⟨rfl, hb3⟩
    have HB3 := Lib.hid (HB2.out.trans (hb3.mono HB2.out.size))
    clear hb3 HAl
    go_wp2_with fail
    go_ret
    exact ⟨rfl, HB3.out⟩
  have HR := Lib.hid hR
  have HB2 := Lib.hid (HB1.out.trans (hb2.mono HB1.out.size))
  have HIn2 := Lib.hid ((HIn.out.below hb2).mono hb2.size)
  clear hb2 hR HIs HIn
  by_cases hk0 : kk < 0
  · have HAl := Lib.hid (alive_any w2 (HG.out.below HB2.out))
    go_wp2_with fail
    refine HAl.out.mono ?_
    rintro e w3 ⟨rfl, hb3⟩
    have HB3 := Lib.hid (HB2.out.trans (hb3.mono HB2.out.size))
    clear hb3 HAl
    go_wp2_with fail
    go_ret
    exact ⟨rfl, HB3.out⟩
  by_cases hkn : (n : Int) ≤ kk
  · have HAl := Lib.hid (alive_any w2 (HG.out.below HB2.out))
    have hk0d : decide (kk < 0) = false := by simpa using hk0
    go_wp2_with fail
    refine HAl.out.mono ?_
    rintro e w3 ⟨rfl, hb3⟩
    have HB3 := Lib.hid (HB2.out.trans (hb3.mono HB2.out.size))
    clear hb3 HAl
    go_wp2_with fail
    go_ret
    exact ⟨rfl, HB3.out⟩
  obtain ⟨k, rfl⟩ := Int.eq_ofNat_of_zero_le (show 0 ≤ kk by omega)
  have hkd1 : decide ((k : Int) < 0) = false := by simp
  have hkd2 : decide ((n : Int) ≤ (k : Int)) = false := by simpa using hkn
  have hkl : (k : Int) < (n : Int) := by omega
  have hkz : (0 : Int) ≤ (k : Int) := by omega
  go_wp2_with fail
  refine (new_any w2 40000 (by decide) (by decide)).mono ?_
  rintro e w3 ⟨rfl, hnew⟩
  have HD := Lib.hid (newDk_R hnew)
  have HD2 := Lib.hid hnew.below
  have HB3 := Lib.hid (HB2.out.trans (hnew.below.mono HB2.out.size))
  have HIn3 := Lib.hid ((HIn2.out.below hnew.below).mono hnew.below.size)
  have hrl := runL_few HL.out HR.out HK.out
  have HWr := Lib.hid (rwrite_any _ E ⟨#[114]⟩ HD.out (by omega) HIn3.out (by have := HL.out; omega) HK.out HR.out hrl ⟨by decide, by decide⟩ (HG.out.below HB3.out))
  have HRl := Lib.hid hrl
  clear hnew hrl
  go_wp2_with fail
  refine HWr.out.mono ?_
  rintro e w5 ⟨rfl, Y, hfl, hY, hb5⟩
  have hwb : Below w2.heap.size w3 w5 := hb5
  have HB5 := Lib.hid (HB3.out.trans (hb5.mono HB2.out.size))
  have HIn5 := Lib.hid (show EnIn w5.heap.size w5 (.slice p1 n c1) E from ((HIn2.out.below (HD2.out.trans hb5)).mono (by have := HD2.out.size; have := hb5.size; omega)))
  have HFl := Lib.hid hfl
  have HOp := Lib.hid (runOpen_any w5 ⟨#[114]⟩ E hfl (by decide) (by have := HL.out; omega) HK.out HR.out HRl.out (HG.out.below HB5.out))
  clear hfl hY hb5 hwb HWr
  go_wp2_with fail
  refine HOp.out.mono ?_
  rintro e w6 ⟨r, rfl, hr6, hb6⟩
  have HB6 := Lib.hid (HB5.out.trans (hb6.mono HB5.out.size))
  have HFl6 := Lib.hid (HFl.out.below hb6)
  have HR6 := Lib.hid hr6
  have HIn6 := Lib.hid ((HIn5.out.below hb6).mono hb6.size)
  have hkE : k < E.length := by rw [← HN.out]; omega
  obtain ⟨b, off, pu, cu, rfl, hbl, hd0, hd1, ht⟩ := HIn6.out.at_ hkE
  obtain ⟨x, hx⟩ : ∃ x, x = E[k] := ⟨_, rfl⟩
  rw [← hx] at hd0 hd1 ht
  have HMem := Lib.hid (show x ∈ E by rw [hx]; exact List.getElem_mem hkE)
  obtain ⟨T, N⟩ := x
  simp only at hd0 hd1 ht
  have HFind := Lib.hid (rfind_yes hr6 _ T ht HR.out (by have := HL.out; omega))
  obtain ⟨tl, htl⟩ : ∃ n, n = T.length := ⟨_, rfl⟩
  rw [← htl] at hd0 HFind
  have HTu := Lib.hid ht
  rw [← htl] at HTu
  have HHd := Lib.hid (And.intro hd0 (And.intro hd1 hbl))
  clear hr6 hb6 hx htl ht hkE HOp hd1
  go_wp2_with fail
  refine HFind.out.mono ?_
  rintro e w7 ⟨i, hi, rfl, hlo, hup, hb7⟩
  obtain ⟨j, hj, rfl, hmem⟩ := find_page HR.out HMem.out hi hlo hup
  have hj1 : ((j + 1 : Nat) : Int) - 1 = (j : Int) := by omega
  rw [hj1]
  have HB7 := Lib.hid (HB6.out.trans (hb7.mono HB6.out.size))
  have HPage := Lib.hid (rpage_yes w7 ⟨#[114]⟩ E j (HR6.out.below hb7) (HFl6.out.below hb7) (by decide) (by have := HL.out; omega) HK.out HR.out HRl.out hj (HG.out.below HB7.out))
  obtain ⟨P, hP⟩ : ∃ P, P = (pagesL E)[j] := ⟨_, rfl⟩
  rw [← hP] at HPage hmem
  have HPl := Lib.hid (show P.length ≤ 60 by rw [hP]; have h1 := page_len hj; have h2 := HL.out; omega)
  have HMm := Lib.hid hmem
  have HTu7 := Lib.hid (HTu.out.below hb7)
  have HH7 := Lib.hid (show w7.cell? ⟨b, off + k * 2, none⟩ = some (.slice pu tl cu) ∧ w7.cell? ⟨b, off + k * 2 + 1, none⟩ = some (.int .i64 N) ∧ b < w7.heap.size from ⟨(hb7.cell (p := ⟨b, _, none⟩) HHd.out.2.2).trans HHd.out.1, (hb7.cell (p := ⟨b, _, none⟩) HHd.out.2.2).trans HHd.out.2.1, Nat.lt_of_lt_of_le HHd.out.2.2 hb7.size⟩)
  have HS67 := Lib.hid hb7.size
  clear hi hlo hup hb7 hP hmem hj hj1 HFind hd0 hbl
  go_wp2_with fail
  refine HPage.out.mono ?_
  rintro e w8 ⟨v8, R8, rfl, ho8, hm8, hb8⟩
  have hin8 := ho8.in_
  rw [hm8] at hin8
  obtain ⟨p8, c8, rfl, -⟩ := id hin8
  obtain ⟨m, hm⟩ : ∃ m, m = P.length := ⟨_, rfl⟩
  rw [← hm] at hin8 ⊢
  have HIn8 := Lib.hid hin8
  have HM := Lib.hid hm
  have HB8 := Lib.hid (HB7.out.trans (hb8.mono HB7.out.size))
  have HT8 := Lib.hid ((HTu7.out.below (hb8.mono HS67.out)).mono (Nat.le_trans HS67.out hb8.size))
  have HH8 := Lib.hid (show w8.cell? ⟨b, off + k * 2, none⟩ = some (.slice pu tl cu) ∧ w8.cell? ⟨b, off + k * 2 + 1, none⟩ = some (.int .i64 N) ∧ b < w8.heap.size from ⟨(hb8.cell (p := ⟨b, _, none⟩) HH7.out.2.2).trans HH7.out.1, (hb8.cell (p := ⟨b, _, none⟩) HH7.out.2.2).trans HH7.out.2.1, Nat.lt_of_lt_of_le HH7.out.2.2 hb8.size⟩)
  clear ho8 hm8 hb8 hin8 hm HPage
  go_wp2_with fail
  have hm60 : m ≤ 60 := by rw [HM.out]; exact HPl.out
  clear hk0 hkn
  go_loopw [11, 12] (fun th i wr => ∃ (q : Nat) (fb : Bool), q ≤ m ∧ i = .int .i64 q ∧ th = .bool fb ∧ Hid (((T, N) ∈ P.take q → fb = true) ∧ Below w8.heap.size w8 wr)) (fun _ i _ => m - (intOf i).toNat)
  case atStart => exact ⟨0, false, Nat.zero_le _, rfl, rfl, Lib.hid ⟨fun h => by simp at h, Below.refl _ _⟩⟩
  case round =>
    obtain ⟨q, fb, hqm', rfl, rfl, HJ⟩ := hrel
    have hq0 : (0 : Int) ≤ (q : Int) := by omega
    by_cases hqm : q < m
    · have hqmi : (q : Int) < (m : Int) := by omega
      have hqP : q < P.length := by rw [← HM.out]; exact hqm
      have HBw := Lib.hid HJ.out.2
      have HFo := Lib.hid HJ.out.1
      have hsz := HJ.out.2.size
      obtain ⟨b8, o8, pq, cq, rfl, hb8, hc0, hc1, htq⟩ := HIn8.out.at_ hqP
      obtain ⟨y, hy⟩ : ∃ y, y = P[q] := ⟨_, rfl⟩
      rw [← hy] at hc0 hc1 htq
      have HSn := Lib.hid (show P.take (q + 1) = P.take q ++ [y] by rw [hy, List.take_succ_eq_append_getElem hqP])
      obtain ⟨Tq, Nq⟩ := y
      simp only at hc0 hc1 htq
      obtain ⟨lq, hlq⟩ : ∃ n, n = Tq.length := ⟨_, rfl⟩
      rw [← hlq] at hc0
      have HTq := Lib.hid htq
      rw [← hlq] at HTq
      have HDr := Lib.hid (Below.refl wr.heap.size wr).drew
      have HC := Lib.hid (show ∀ X, Below wr.heap.size wr X → X.cell? ⟨b8, o8 + q * 2, none⟩ = some (.slice pq lq cq) ∧ X.cell? ⟨b8, o8 + q * 2 + 1, none⟩ = some (.int .i64 Nq) ∧ X.cell? ⟨b, off + k * 2, none⟩ = some (.slice pu tl cu) ∧ X.cell? ⟨b, off + k * 2 + 1, none⟩ = some (.int .i64 N) from fun X hX => by
        have hX8 := HBw.out.trans (hX.mono hsz)
        exact ⟨(hX8.cell (p := ⟨b8, _, none⟩) hb8).trans hc0, (hX8.cell (p := ⟨b8, _, none⟩) hb8).trans hc1, (hX8.cell (p := ⟨b, _, none⟩) HH8.out.2.2).trans HH8.out.1, (hX8.cell (p := ⟨b, _, none⟩) HH8.out.2.2).trans HH8.out.2.1⟩)
      have HCm0 := Lib.hid (show ∀ X, Below wr.heap.size wr X → Calls Tryz.prog 31 #[.slice pq lq cq, .slice pu tl cu] X fun e w' => e = .returned (.int .i64 (cmpT Tq T)) ∧ Below wr.heap.size wr w' from fun X hX => by
        have hX8 := HBw.out.trans (hX.mono hsz)
        refine (rcompareS_any _ _ Tq T X ((HTq.out.below hX8).mono hX8.size).wide ((HT8.out.below hX8).mono hX8.size).wide).mono ?_
        rintro e w' ⟨he, hg⟩
        exact ⟨he, hX.trans (hg.below.mono hX.size)⟩)
      clear HJ hqP hy hlq hc0 hc1 htq hqm' hsz hb8
      cases fb with
      | true =>
        go_wp2_with fail
        have HSd := Lib.hid (HC.out _ HDr.out)
        refine wp_region_held_drew (S := fun X => X.cell? ⟨b8, o8 + q * 2, none⟩ = some (.slice pq lq cq) ∧ X.cell? ⟨b8, o8 + q * 2 + 1, none⟩ = some (.int .i64 Nq) ∧ X.cell? ⟨b, off + k * 2, none⟩ = some (.slice pu tl cu) ∧ X.cell? ⟨b, off + k * 2 + 1, none⟩ = some (.int .i64 N)) (by kernel_rfl) HSd.out (fun _ => ?_)
        refine take1 0 70 (v := ?_) rfl rfl (by kernel_rfl) (by kernel_rfl) (by kernel_rfl) (fun _ _ _ h => h) (by kernel_rfl) ?_ HSd.out (by simp only [put_norm]; exact rfl) ?_
        rotate_left
        · rintro W ⟨k0, k1, k2, k3⟩; go_simp; try (with_reducible rfl)
        refine take1 1 71 (v := ?_) rfl rfl (by kernel_rfl) (by kernel_rfl) (by kernel_rfl) (fun _ _ _ h => h) (by kernel_rfl) ?_ HSd.out (by simp only [put_norm]; exact rfl) ?_
        rotate_left
        · rintro W ⟨k0, k1, k2, k3⟩; go_simp; try (with_reducible rfl)
        refine take0 2 72 rfl rfl (by kernel_rfl) (by kernel_rfl) (by kernel_rfl) (fun _ _ _ h => h) (by kernel_rfl) HSd.out (by simp only [put_norm]; exact rfl) ?_
        refine take0 3 73 rfl rfl (by kernel_rfl) (by kernel_rfl) (by kernel_rfl) (fun _ _ _ h => h) (by kernel_rfl) HSd.out (by simp only [put_norm]; exact rfl) ?_
        refine take0 4 74 rfl rfl (by kernel_rfl) (by kernel_rfl) (by kernel_rfl) (fun _ _ _ h => h) (by kernel_rfl) HSd.out (by simp only [put_norm]; exact rfl) ?_
        refine take0 5 75 rfl rfl (by kernel_rfl) (by kernel_rfl) (by kernel_rfl) (fun _ _ _ h => h) (by kernel_rfl) HSd.out (by simp only [put_norm]; exact rfl) ?_
        refine take0 6 76 rfl rfl (by kernel_rfl) (by kernel_rfl) (by kernel_rfl) (fun _ _ _ h => h) (by kernel_rfl) HSd.out (by simp only [put_norm]; exact rfl) ?_
        refine take0 7 77 rfl rfl (by kernel_rfl) (by kernel_rfl) (by kernel_rfl) (fun _ _ _ h => h) (by kernel_rfl) HSd.out (by simp only [put_norm]; exact rfl) ?_
        refine take0 8 78 rfl rfl (by kernel_rfl) (by kernel_rfl) (by kernel_rfl) (fun _ _ _ h => h) (by kernel_rfl) HSd.out (by simp only [put_norm]; exact rfl) ?_
        refine take0 9 79 rfl rfl (by kernel_rfl) (by kernel_rfl) (by kernel_rfl) (fun _ _ _ h => h) (by kernel_rfl) HSd.out (by simp only [put_norm]; exact rfl) ?_
        refine take0 10 80 rfl rfl (by kernel_rfl) (by kernel_rfl) (by kernel_rfl) (fun _ _ _ h => h) (by kernel_rfl) HSd.out (by simp only [put_norm]; exact rfl) ?_
        refine take0 11 81 rfl rfl (by kernel_rfl) (by kernel_rfl) (by kernel_rfl) (fun _ _ _ h => h) (by kernel_rfl) HSd.out (by simp only [put_norm]; exact rfl) ?_
        refine take0 12 82 rfl rfl (by kernel_rfl) (by kernel_rfl) (by kernel_rfl) (fun _ _ _ h => h) (by kernel_rfl) HSd.out (by simp only [put_norm]; exact rfl) ?_
        refine take0 13 83 rfl rfl (by kernel_rfl) (by kernel_rfl) (by kernel_rfl) (fun _ _ _ h => h) (by kernel_rfl) HSd.out (by simp only [put_norm]; exact rfl) ?_
        refine take0 14 84 rfl rfl (by kernel_rfl) (by kernel_rfl) (by kernel_rfl) (fun _ _ _ h => h) (by kernel_rfl) HSd.out (by simp only [put_norm]; exact rfl) ?_
        refine take0 15 85 rfl rfl (by kernel_rfl) (by kernel_rfl) (by kernel_rfl) (fun _ _ _ h => h) (by kernel_rfl) HSd.out (by simp only [put_norm]; exact rfl) ?_
        refine take0 16 86 rfl rfl (by kernel_rfl) (by kernel_rfl) (by kernel_rfl) (fun _ _ _ h => h) (by kernel_rfl) HSd.out (by simp only [put_norm]; exact rfl) ?_
        refine take0 17 87 rfl rfl (by kernel_rfl) (by kernel_rfl) (by kernel_rfl) (fun _ _ _ h => h) (by kernel_rfl) HSd.out (by simp only [put_norm]; exact rfl) ?_
        refine take0 18 88 rfl rfl (by kernel_rfl) (by kernel_rfl) (by kernel_rfl) (fun _ _ _ h => h) (by kernel_rfl) HSd.out (by simp only [put_norm]; exact rfl) ?_
        refine take0 19 89 rfl rfl (by kernel_rfl) (by kernel_rfl) (by kernel_rfl) (fun _ _ _ h => h) (by kernel_rfl) HSd.out (by simp only [put_norm]; exact rfl) ?_
        refine take0 20 90 rfl rfl (by kernel_rfl) (by kernel_rfl) (by kernel_rfl) (fun _ _ _ h => h) (by kernel_rfl) HSd.out (by simp only [put_norm]; exact rfl) ?_
        refine take0 21 91 rfl rfl (by kernel_rfl) (by kernel_rfl) (by kernel_rfl) (fun _ _ _ h => h) (by kernel_rfl) HSd.out (by simp only [put_norm]; exact rfl) ?_
        refine take0 22 92 rfl rfl (by kernel_rfl) (by kernel_rfl) (by kernel_rfl) (fun _ _ _ h => h) (by kernel_rfl) HSd.out (by simp only [put_norm]; exact rfl) ?_
        refine take0 23 93 rfl rfl (by kernel_rfl) (by kernel_rfl) (by kernel_rfl) (fun _ _ _ h => h) (by kernel_rfl) HSd.out (by simp only [put_norm]; exact rfl) ?_
        refine take0 24 94 rfl rfl (by kernel_rfl) (by kernel_rfl) (by kernel_rfl) (fun _ _ _ h => h) (by kernel_rfl) HSd.out (by simp only [put_norm]; exact rfl) ?_
        refine take0 25 95 rfl rfl (by kernel_rfl) (by kernel_rfl) (by kernel_rfl) (fun _ _ _ h => h) (by kernel_rfl) HSd.out (by simp only [put_norm]; exact rfl) ?_
        refine take0 26 96 rfl rfl (by kernel_rfl) (by kernel_rfl) (by kernel_rfl) (fun _ _ _ h => h) (by kernel_rfl) HSd.out (by simp only [put_norm]; exact rfl) ?_
        refine take1 27 97 (v := ?_) rfl rfl (by kernel_rfl) (by kernel_rfl) (by kernel_rfl) (fun _ _ _ h => h) (by kernel_rfl) ?_ HSd.out (by simp only [put_norm]; exact rfl) ?_
        rotate_left
        · rintro W ⟨k0, k1, k2, k3⟩; go_simp; try (with_reducible rfl)
        refine take1 28 11 (v := ?_) rfl rfl (by kernel_rfl) (by kernel_rfl) (by kernel_rfl) (fun _ _ _ h => h) (by kernel_rfl) ?_ HSd.out (by simp only [put_norm]; exact rfl) ?_
        rotate_left
        · rintro W ⟨k0, k1, k2, k3⟩; go_simp; try (with_reducible rfl)
        refine wpAnyH_done (by kernel_rfl) ?_ _
        go_wp2
        go_roundw
        case rel => exact ⟨q + 1, _, hqm, by simp, rfl, Lib.hid ⟨fun _ => rfl, HBw.out.trans (HDr.out.mono HBw.out.size)⟩⟩
        case measure => simp [intOf]; omega
      | false =>
        by_cases hz : cmpT Tq T = 0
        · have HCm := HCm0
          rw [hz] at HCm
          have HEq := Lib.hid ((cmpT_zero _ _).1 hz)
          have HFact := Lib.hid (show (T, N) ∈ P.take (q + 1) → decide (Nq = N) = true from fun hmem => by
            rw [HSn.out] at hmem
            rcases List.mem_append.1 hmem with hmem | hmem
            · exact absurd (HFo.out hmem) (by decide)
            · have h1 := List.mem_singleton.1 hmem
              injection h1 with _ h2
              exact decide_eq_true h2.symm)
          clear hz HCm0
          go_wp2_with fail
          have HSd := Lib.hid (HC.out _ HDr.out)
          refine wp_region_held_drew (S := fun X => X.cell? ⟨b8, o8 + q * 2, none⟩ = some (.slice pq lq cq) ∧ X.cell? ⟨b8, o8 + q * 2 + 1, none⟩ = some (.int .i64 Nq) ∧ X.cell? ⟨b, off + k * 2, none⟩ = some (.slice pu tl cu) ∧ X.cell? ⟨b, off + k * 2 + 1, none⟩ = some (.int .i64 N)) (by kernel_rfl) HSd.out (fun _ => ?_)
          refine take1 0 70 (v := ?_) rfl rfl (by kernel_rfl) (by kernel_rfl) (by kernel_rfl) (fun _ _ _ h => h) (by kernel_rfl) ?_ HSd.out (by simp only [put_norm]; exact rfl) ?_
          rotate_left
          · rintro W ⟨k0, k1, k2, k3⟩; go_simp; try (with_reducible rfl)
          refine take1 1 71 (v := ?_) rfl rfl (by kernel_rfl) (by kernel_rfl) (by kernel_rfl) (fun _ _ _ h => h) (by kernel_rfl) ?_ HSd.out (by simp only [put_norm]; exact rfl) ?_
          rotate_left
          · rintro W ⟨k0, k1, k2, k3⟩; go_simp; try (with_reducible rfl)
          refine take1 2 72 (v := ?_) rfl rfl (by kernel_rfl) (by kernel_rfl) (by kernel_rfl) (fun _ _ _ h => h) (by kernel_rfl) ?_ HSd.out (by simp only [put_norm]; exact rfl) ?_
          rotate_left
          · rintro W ⟨k0, k1, k2, k3⟩; go_simp; try (with_reducible rfl)
          refine take1 3 73 (v := ?_) rfl rfl (by kernel_rfl) (by kernel_rfl) (by kernel_rfl) (fun _ _ _ h => h) (by kernel_rfl) ?_ HSd.out (by simp only [put_norm]; exact rfl) ?_
          rotate_left
          · rintro W ⟨k0, k1, k2, k3⟩; go_simp; try (with_reducible rfl)
          refine take1 4 74 (v := ?_) rfl rfl (by kernel_rfl) (by kernel_rfl) (by kernel_rfl) (fun _ _ _ h => h) (by kernel_rfl) ?_ HSd.out (by simp only [put_norm]; exact rfl) ?_
          rotate_left
          · rintro W ⟨k0, k1, k2, k3⟩; go_simp; try (with_reducible rfl)
          refine take1 5 75 (v := ?_) rfl rfl (by kernel_rfl) (by kernel_rfl) (by kernel_rfl) (fun _ _ _ h => h) (by kernel_rfl) ?_ HSd.out (by simp only [put_norm]; exact rfl) ?_
          rotate_left
          · rintro W ⟨k0, k1, k2, k3⟩; go_simp; try (with_reducible rfl)
          refine take1 6 76 (v := ?_) rfl rfl (by kernel_rfl) (by kernel_rfl) (by kernel_rfl) (fun _ _ _ h => h) (by kernel_rfl) ?_ HSd.out (by simp only [put_norm]; exact rfl) ?_
          rotate_left
          · rintro W ⟨k0, k1, k2, k3⟩; go_simp; try (with_reducible rfl)
          refine take1 7 77 (v := ?_) rfl rfl (by kernel_rfl) (by kernel_rfl) (by kernel_rfl) (fun _ _ _ h => h) (by kernel_rfl) ?_ HSd.out (by simp only [put_norm]; exact rfl) ?_
          rotate_left
          · rintro W ⟨k0, k1, k2, k3⟩; go_simp; try (with_reducible rfl)
          refine take1 8 78 (v := ?_) rfl rfl (by kernel_rfl) (by kernel_rfl) (by kernel_rfl) (fun _ _ _ h => h) (by kernel_rfl) ?_ HSd.out (by simp only [put_norm]; exact rfl) ?_
          rotate_left
          · rintro W ⟨k0, k1, k2, k3⟩; go_simp; try (with_reducible rfl)
          refine take1 9 79 (v := ?_) rfl rfl (by kernel_rfl) (by kernel_rfl) (by kernel_rfl) (fun _ _ _ h => h) (by kernel_rfl) ?_ HSd.out (by simp only [put_norm]; exact rfl) ?_
          rotate_left
          · rintro W ⟨k0, k1, k2, k3⟩; go_simp; try (with_reducible rfl)
          refine take1 10 80 (v := ?_) rfl rfl (by kernel_rfl) (by kernel_rfl) (by kernel_rfl) (fun _ _ _ h => h) (by kernel_rfl) ?_ HSd.out (by simp only [put_norm]; exact rfl) ?_
          rotate_left
          · rintro W ⟨k0, k1, k2, k3⟩; go_simp; try (with_reducible rfl)
          refine take1 11 81 (v := ?_) rfl rfl (by kernel_rfl) (by kernel_rfl) (by kernel_rfl) (fun _ _ _ h => h) (by kernel_rfl) ?_ HSd.out (by simp only [put_norm]; exact rfl) ?_
          rotate_left
          · rintro W ⟨k0, k1, k2, k3⟩; go_simp; try (with_reducible rfl)
          refine wpAnyH_ready (rs := [12]) (by kernel_rfl) (by simp) ?_
          refine AllReadyH.cons rfl (fun K hK => ?_) AllReadyH.nil
          go_simp
          refine (HCm.out _ HDr.out).mono ?_
          rintro e w4 ⟨rfl, hb4⟩
          have HB4 := Lib.hid hb4
          have HS1 := Lib.hid (HC.out _ hb4)
          clear hb4
          go_wp2_with fail
          refine hK.out _ _ HS1.out (fun _ => ?_)
          clear hK K
          refine take1 13 83 (v := ?_) rfl rfl (by kernel_rfl) (by kernel_rfl) (by kernel_rfl) (fun _ _ _ h => h) (by kernel_rfl) ?_ HS1.out (by simp only [put_norm]; exact rfl) ?_
          rotate_left
          · rintro W ⟨k0, k1, k2, k3⟩; go_simp; try (with_reducible rfl)
          refine take1 14 84 (v := ?_) rfl rfl (by kernel_rfl) (by kernel_rfl) (by kernel_rfl) (fun _ _ _ h => h) (by kernel_rfl) ?_ HS1.out (by simp only [put_norm]; exact rfl) ?_
          rotate_left
          · rintro W ⟨k0, k1, k2, k3⟩; go_simp; try (with_reducible rfl)
          refine take1 15 85 (v := ?_) rfl rfl (by kernel_rfl) (by kernel_rfl) (by kernel_rfl) (fun _ _ _ h => h) (by kernel_rfl) ?_ HS1.out (by simp only [put_norm]; exact rfl) ?_
          rotate_left
          · rintro W ⟨k0, k1, k2, k3⟩; go_simp; try (with_reducible rfl)
          refine take1 16 86 (v := ?_) rfl rfl (by kernel_rfl) (by kernel_rfl) (by kernel_rfl) (fun _ _ _ h => h) (by kernel_rfl) ?_ HS1.out (by simp only [put_norm]; exact rfl) ?_
          rotate_left
          · rintro W ⟨k0, k1, k2, k3⟩; go_simp; try (with_reducible rfl)
          refine take1 17 87 (v := ?_) rfl rfl (by kernel_rfl) (by kernel_rfl) (by kernel_rfl) (fun _ _ _ h => h) (by kernel_rfl) ?_ HS1.out (by simp only [put_norm]; exact rfl) ?_
          rotate_left
          · rintro W ⟨k0, k1, k2, k3⟩; go_simp; try (with_reducible rfl)
          refine take1 18 88 (v := ?_) rfl rfl (by kernel_rfl) (by kernel_rfl) (by kernel_rfl) (fun _ _ _ h => h) (by kernel_rfl) ?_ HS1.out (by simp only [put_norm]; exact rfl) ?_
          rotate_left
          · rintro W ⟨k0, k1, k2, k3⟩; go_simp; try (with_reducible rfl)
          refine take1 19 89 (v := ?_) rfl rfl (by kernel_rfl) (by kernel_rfl) (by kernel_rfl) (fun _ _ _ h => h) (by kernel_rfl) ?_ HS1.out (by simp only [put_norm]; exact rfl) ?_
          rotate_left
          · rintro W ⟨k0, k1, k2, k3⟩; go_simp; try (with_reducible rfl)
          refine take1 20 90 (v := ?_) rfl rfl (by kernel_rfl) (by kernel_rfl) (by kernel_rfl) (fun _ _ _ h => h) (by kernel_rfl) ?_ HS1.out (by simp only [put_norm]; exact rfl) ?_
          rotate_left
          · rintro W ⟨k0, k1, k2, k3⟩; go_simp; try (with_reducible rfl)
          refine take1 21 91 (v := ?_) rfl rfl (by kernel_rfl) (by kernel_rfl) (by kernel_rfl) (fun _ _ _ h => h) (by kernel_rfl) ?_ HS1.out (by simp only [put_norm]; exact rfl) ?_
          rotate_left
          · rintro W ⟨k0, k1, k2, k3⟩; go_simp; try (with_reducible rfl)
          refine take1 22 92 (v := ?_) rfl rfl (by kernel_rfl) (by kernel_rfl) (by kernel_rfl) (fun _ _ _ h => h) (by kernel_rfl) ?_ HS1.out (by simp only [put_norm]; exact rfl) ?_
          rotate_left
          · rintro W ⟨k0, k1, k2, k3⟩; go_simp; try (with_reducible rfl)
          refine take1 23 93 (v := ?_) rfl rfl (by kernel_rfl) (by kernel_rfl) (by kernel_rfl) (fun _ _ _ h => h) (by kernel_rfl) ?_ HS1.out (by simp only [put_norm]; exact rfl) ?_
          rotate_left
          · rintro W ⟨k0, k1, k2, k3⟩; go_simp; try (with_reducible rfl)
          refine take1 24 94 (v := ?_) rfl rfl (by kernel_rfl) (by kernel_rfl) (by kernel_rfl) (fun _ _ _ h => h) (by kernel_rfl) ?_ HS1.out (by simp only [put_norm]; exact rfl) ?_
          rotate_left
          · rintro W ⟨k0, k1, k2, k3⟩; go_simp; try (with_reducible rfl)
          refine take1 25 95 (v := ?_) rfl rfl (by kernel_rfl) (by kernel_rfl) (by kernel_rfl) (fun _ _ _ h => h) (by kernel_rfl) ?_ HS1.out (by simp only [put_norm]; exact rfl) ?_
          rotate_left
          · rintro W ⟨k0, k1, k2, k3⟩; go_simp; try (with_reducible rfl)
          refine take1 26 96 (v := ?_) rfl rfl (by kernel_rfl) (by kernel_rfl) (by kernel_rfl) (fun _ _ _ h => h) (by kernel_rfl) ?_ HS1.out (by simp only [put_norm]; exact rfl) ?_
          rotate_left
          · rintro W ⟨k0, k1, k2, k3⟩; go_simp; try (with_reducible rfl)
          refine take1 27 97 (v := ?_) rfl rfl (by kernel_rfl) (by kernel_rfl) (by kernel_rfl) (fun _ _ _ h => h) (by kernel_rfl) ?_ HS1.out (by simp only [put_norm]; exact rfl) ?_
          rotate_left
          · rintro W ⟨k0, k1, k2, k3⟩; go_simp; try (with_reducible rfl)
          refine take1 28 11 (v := ?_) rfl rfl (by kernel_rfl) (by kernel_rfl) (by kernel_rfl) (fun _ _ _ h => h) (by kernel_rfl) ?_ HS1.out (by simp only [put_norm]; exact rfl) ?_
          rotate_left
          · rintro W ⟨k0, k1, k2, k3⟩; go_simp; try (with_reducible rfl)
          refine wpAnyH_done (by kernel_rfl) ?_ _
          go_wp2
          go_roundw
          case rel => exact ⟨q + 1, _, hqm, by simp, rfl, Lib.hid ⟨HFact.out, HBw.out.trans (HB4.out.mono HBw.out.size)⟩⟩
          case measure => simp [intOf]; omega
        · obtain ⟨z, hzz⟩ : ∃ z, z = cmpT Tq T := ⟨_, rfl⟩
          have HCm := HCm0
          rw [← hzz] at HCm hz
          have hzb : (z == 0) = false := by simpa using hz
          have hzd : decide (z = 0) = false := by simpa using hz
          have HNe := Lib.hid hz
          have HZz := Lib.hid hzz
          have HFact := Lib.hid (show (T, N) ∈ P.take (q + 1) → false = true from fun hmem => by
            rw [HSn.out] at hmem
            rcases List.mem_append.1 hmem with hmem | hmem
            · exact HFo.out hmem
            · have h1 := List.mem_singleton.1 hmem
              injection h1 with h2 _
              rw [h2] at HZz
              exact absurd (HZz.out.trans (cmpT_self _)) HNe.out)
          clear hz hzz HCm0
          go_wp2_with fail
          have HSd := Lib.hid (HC.out _ HDr.out)
          refine wp_region_held_drew (S := fun X => X.cell? ⟨b8, o8 + q * 2, none⟩ = some (.slice pq lq cq) ∧ X.cell? ⟨b8, o8 + q * 2 + 1, none⟩ = some (.int .i64 Nq) ∧ X.cell? ⟨b, off + k * 2, none⟩ = some (.slice pu tl cu) ∧ X.cell? ⟨b, off + k * 2 + 1, none⟩ = some (.int .i64 N)) (by kernel_rfl) HSd.out (fun _ => ?_)
          refine take1 0 70 (v := ?_) rfl rfl (by kernel_rfl) (by kernel_rfl) (by kernel_rfl) (fun _ _ _ h => h) (by kernel_rfl) ?_ HSd.out (by simp only [put_norm]; exact rfl) ?_
          rotate_left
          · rintro W ⟨k0, k1, k2, k3⟩; go_simp; try (with_reducible rfl)
          refine take1 1 71 (v := ?_) rfl rfl (by kernel_rfl) (by kernel_rfl) (by kernel_rfl) (fun _ _ _ h => h) (by kernel_rfl) ?_ HSd.out (by simp only [put_norm]; exact rfl) ?_
          rotate_left
          · rintro W ⟨k0, k1, k2, k3⟩; go_simp; try (with_reducible rfl)
          refine take1 2 72 (v := ?_) rfl rfl (by kernel_rfl) (by kernel_rfl) (by kernel_rfl) (fun _ _ _ h => h) (by kernel_rfl) ?_ HSd.out (by simp only [put_norm]; exact rfl) ?_
          rotate_left
          · rintro W ⟨k0, k1, k2, k3⟩; go_simp; try (with_reducible rfl)
          refine take1 3 73 (v := ?_) rfl rfl (by kernel_rfl) (by kernel_rfl) (by kernel_rfl) (fun _ _ _ h => h) (by kernel_rfl) ?_ HSd.out (by simp only [put_norm]; exact rfl) ?_
          rotate_left
          · rintro W ⟨k0, k1, k2, k3⟩; go_simp; try (with_reducible rfl)
          refine take1 4 74 (v := ?_) rfl rfl (by kernel_rfl) (by kernel_rfl) (by kernel_rfl) (fun _ _ _ h => h) (by kernel_rfl) ?_ HSd.out (by simp only [put_norm]; exact rfl) ?_
          rotate_left
          · rintro W ⟨k0, k1, k2, k3⟩; go_simp; try (with_reducible rfl)
          refine take1 5 75 (v := ?_) rfl rfl (by kernel_rfl) (by kernel_rfl) (by kernel_rfl) (fun _ _ _ h => h) (by kernel_rfl) ?_ HSd.out (by simp only [put_norm]; exact rfl) ?_
          rotate_left
          · rintro W ⟨k0, k1, k2, k3⟩; go_simp; try (with_reducible rfl)
          refine take1 6 76 (v := ?_) rfl rfl (by kernel_rfl) (by kernel_rfl) (by kernel_rfl) (fun _ _ _ h => h) (by kernel_rfl) ?_ HSd.out (by simp only [put_norm]; exact rfl) ?_
          rotate_left
          · rintro W ⟨k0, k1, k2, k3⟩; go_simp; try (with_reducible rfl)
          refine take1 7 77 (v := ?_) rfl rfl (by kernel_rfl) (by kernel_rfl) (by kernel_rfl) (fun _ _ _ h => h) (by kernel_rfl) ?_ HSd.out (by simp only [put_norm]; exact rfl) ?_
          rotate_left
          · rintro W ⟨k0, k1, k2, k3⟩; go_simp; try (with_reducible rfl)
          refine take1 8 78 (v := ?_) rfl rfl (by kernel_rfl) (by kernel_rfl) (by kernel_rfl) (fun _ _ _ h => h) (by kernel_rfl) ?_ HSd.out (by simp only [put_norm]; exact rfl) ?_
          rotate_left
          · rintro W ⟨k0, k1, k2, k3⟩; go_simp; try (with_reducible rfl)
          refine take1 9 79 (v := ?_) rfl rfl (by kernel_rfl) (by kernel_rfl) (by kernel_rfl) (fun _ _ _ h => h) (by kernel_rfl) ?_ HSd.out (by simp only [put_norm]; exact rfl) ?_
          rotate_left
          · rintro W ⟨k0, k1, k2, k3⟩; go_simp; try (with_reducible rfl)
          refine take1 10 80 (v := ?_) rfl rfl (by kernel_rfl) (by kernel_rfl) (by kernel_rfl) (fun _ _ _ h => h) (by kernel_rfl) ?_ HSd.out (by simp only [put_norm]; exact rfl) ?_
          rotate_left
          · rintro W ⟨k0, k1, k2, k3⟩; go_simp; try (with_reducible rfl)
          refine take1 11 81 (v := ?_) rfl rfl (by kernel_rfl) (by kernel_rfl) (by kernel_rfl) (fun _ _ _ h => h) (by kernel_rfl) ?_ HSd.out (by simp only [put_norm]; exact rfl) ?_
          rotate_left
          · rintro W ⟨k0, k1, k2, k3⟩; go_simp; try (with_reducible rfl)
          refine wpAnyH_ready (rs := [12]) (by kernel_rfl) (by simp) ?_
          refine AllReadyH.cons rfl (fun K hK => ?_) AllReadyH.nil
          go_simp
          refine (HCm.out _ HDr.out).mono ?_
          rintro e w4 ⟨rfl, hb4⟩
          have HB4 := Lib.hid hb4
          have HS1 := Lib.hid (HC.out _ hb4)
          clear hb4
          go_wp2_with fail
          refine hK.out _ _ HS1.out (fun _ => ?_)
          clear hK K
          refine take1 13 83 (v := ?_) rfl rfl (by kernel_rfl) (by kernel_rfl) (by kernel_rfl) (fun _ _ _ h => h) (by kernel_rfl) ?_ HS1.out (by simp only [put_norm]; exact rfl) ?_
          rotate_left
          · rintro W ⟨k0, k1, k2, k3⟩; go_simp; try (with_reducible rfl)
          refine take1 14 84 (v := ?_) rfl rfl (by kernel_rfl) (by kernel_rfl) (by kernel_rfl) (fun _ _ _ h => h) (by kernel_rfl) ?_ HS1.out (by simp only [put_norm]; exact rfl) ?_
          rotate_left
          · rintro W ⟨k0, k1, k2, k3⟩; go_simp; try (with_reducible rfl)
          refine take0 15 85 rfl rfl (by kernel_rfl) (by kernel_rfl) (by kernel_rfl) (fun _ _ _ h => h) (by kernel_rfl) HS1.out (by simp only [put_norm]; exact rfl) ?_
          refine take0 16 86 rfl rfl (by kernel_rfl) (by kernel_rfl) (by kernel_rfl) (fun _ _ _ h => h) (by kernel_rfl) HS1.out (by simp only [put_norm]; exact rfl) ?_
          refine take0 17 87 rfl rfl (by kernel_rfl) (by kernel_rfl) (by kernel_rfl) (fun _ _ _ h => h) (by kernel_rfl) HS1.out (by simp only [put_norm]; exact rfl) ?_
          refine take0 18 88 rfl rfl (by kernel_rfl) (by kernel_rfl) (by kernel_rfl) (fun _ _ _ h => h) (by kernel_rfl) HS1.out (by simp only [put_norm]; exact rfl) ?_
          refine take0 19 89 rfl rfl (by kernel_rfl) (by kernel_rfl) (by kernel_rfl) (fun _ _ _ h => h) (by kernel_rfl) HS1.out (by simp only [put_norm]; exact rfl) ?_
          refine take0 20 90 rfl rfl (by kernel_rfl) (by kernel_rfl) (by kernel_rfl) (fun _ _ _ h => h) (by kernel_rfl) HS1.out (by simp only [put_norm]; exact rfl) ?_
          refine take0 21 91 rfl rfl (by kernel_rfl) (by kernel_rfl) (by kernel_rfl) (fun _ _ _ h => h) (by kernel_rfl) HS1.out (by simp only [put_norm]; exact rfl) ?_
          refine take0 22 92 rfl rfl (by kernel_rfl) (by kernel_rfl) (by kernel_rfl) (fun _ _ _ h => h) (by kernel_rfl) HS1.out (by simp only [put_norm]; exact rfl) ?_
          refine take0 23 93 rfl rfl (by kernel_rfl) (by kernel_rfl) (by kernel_rfl) (fun _ _ _ h => h) (by kernel_rfl) HS1.out (by simp only [put_norm]; exact rfl) ?_
          refine take0 24 94 rfl rfl (by kernel_rfl) (by kernel_rfl) (by kernel_rfl) (fun _ _ _ h => h) (by kernel_rfl) HS1.out (by simp only [put_norm]; exact rfl) ?_
          refine take0 25 95 rfl rfl (by kernel_rfl) (by kernel_rfl) (by kernel_rfl) (fun _ _ _ h => h) (by kernel_rfl) HS1.out (by simp only [put_norm]; exact rfl) ?_
          refine take1 26 96 (v := ?_) rfl rfl (by kernel_rfl) (by kernel_rfl) (by kernel_rfl) (fun _ _ _ h => h) (by kernel_rfl) ?_ HS1.out (by simp only [put_norm]; exact rfl) ?_
          rotate_left
          · rintro W ⟨k0, k1, k2, k3⟩; go_simp; try (with_reducible rfl)
          refine take1 27 97 (v := ?_) rfl rfl (by kernel_rfl) (by kernel_rfl) (by kernel_rfl) (fun _ _ _ h => h) (by kernel_rfl) ?_ HS1.out (by simp only [put_norm]; exact rfl) ?_
          rotate_left
          · rintro W ⟨k0, k1, k2, k3⟩; go_simp; try (with_reducible rfl)
          refine take1 28 11 (v := ?_) rfl rfl (by kernel_rfl) (by kernel_rfl) (by kernel_rfl) (fun _ _ _ h => h) (by kernel_rfl) ?_ HS1.out (by simp only [put_norm]; exact rfl) ?_
          rotate_left
          · rintro W ⟨k0, k1, k2, k3⟩; go_simp; try (with_reducible rfl)
          refine wpAnyH_done (by kernel_rfl) ?_ _
          go_wp2
          go_roundw
          case rel => exact ⟨q + 1, _, hqm, by simp, rfl, Lib.hid ⟨HFact.out, HBw.out.trans (HB4.out.mono HBw.out.size)⟩⟩
          case measure => simp [intOf]; omega
    · obtain rfl : q = m := by omega
      have hfb : fb = true := HJ.out.1 (by rw [HM.out, List.take_length]; exact HMm.out)
      subst hfb
      have HB9 := Lib.hid (HB8.out.trans (HJ.out.2.mono HB8.out.size))
      have HAl := Lib.hid (alive_any wr (HG.out.below HB9.out))
      clear HJ
      go_wp2_with fail
      refine HAl.out.mono ?_
      rintro e w9 ⟨rfl, hb9⟩
      have HB10 := Lib.hid (HB9.out.trans (hb9.mono HB9.out.size))
      clear hb9 HAl
      go_wp2_with fail
      go_ret
      exact ⟨rfl, HB10.out⟩
end
end Go.Proofs.YtdjhfcopnhcljaaGreatDoor

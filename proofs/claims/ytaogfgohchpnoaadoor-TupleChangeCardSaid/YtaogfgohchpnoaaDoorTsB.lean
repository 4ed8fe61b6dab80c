/-
  Contracts of tuple.Union, Minus, Both and Apply.
-/
import Derived.Test.YtaogfgohchpnoaaDoorTsV
namespace Go.Proofs.YtaogfgohchpnoaaDoor
section
open Go Go.RowKit

theorem srt_len (L : List (List V3)) : (srtL L).length ≤ L.length := by
  have := fold_len L []
  simpa [srtL] using this
set_option maxHeartbeats 1000000 in
set_option maxRecDepth 100000 in
theorem tunion_any {v1 v2 : Value} {L1 L2 : List (List V3)} {w : World} (h1 : St4 L1 v1 w) (h2 : St4 L2 v2 w) (hl : L1.length + L2.length ≤ 900000) :
    Calls Tryd.prog 10 #[v1, v2] w (Ends (St4 (pickL [-1, 0, 1] (srtL L1) (srtL L2))) w) := by
  have Sa := Lib.hid h1
  have Sb := Lib.hid h2
  have HL := Lib.hid (show (srtL L1).length + (srtL L2).length ≤ 900000 by have := srt_len L1; have := srt_len L2; omega)
  have B0 := Lib.hid (Below.refl w.heap.size w)
  clear h1 h2 hl
  go_enter Tryd.func10, Tryd.ntmps10
  go_wp2_with fail
  refine (rising_st Sa.out).mono ?_
  rintro e w1 ⟨x1, rfl, s1, b1⟩
  have S1 := Lib.hid s1
  replace Sb := Lib.hid (Sb.out.on b1)
  have B1 := Lib.hid (B0.out.trans (b1.mono B0.out.size))
  clear s1 b1
  go_wp2_with fail
  refine (rising_st Sb.out).mono ?_
  rintro e w2 ⟨x2, rfl, s2, b2⟩
  have S2 := Lib.hid s2
  replace S1 := Lib.hid (S1.out.on b2)
  have B2 := Lib.hid (B1.out.trans (b2.mono B1.out.size))
  clear s2 b2
  have b3 := below_new w2 (.cells #[.int .i64 (-1), .int .i64 0, .int .i64 1] 64)
  have S3 := Lib.hid (show St1 [-1, 0, 1] (.slice (some ⟨w2.heap.size, 0, none⟩) 3 3) (w2.alloc (.cells #[.int .i64 (-1), .int .i64 0, .int .i64 1] 64)) from sides3 w2 [-1, 0, 1] (by decide))
  replace S1 := Lib.hid (S1.out.on b3)
  replace S2 := Lib.hid (S2.out.on b3)
  have B3 := Lib.hid (B2.out.trans (b3.mono B2.out.size))
  clear b3
  go_wp2_with fail
  refine (pick_st S1.out S2.out S3.out HL.out).mono ?_
  rintro e w4 ⟨x4, rfl, s4, b4⟩
  have S4 := Lib.hid s4
  have B4 := Lib.hid (B3.out.trans (b4.mono B3.out.size))
  clear s4 b4
  go_wp2_with fail
  refine (all_st S4.out).mono ?_
  rintro e w5 ⟨x5, rfl, s5, b5⟩
  have S5 := Lib.hid s5
  have B5 := Lib.hid (B4.out.trans (b5.mono B4.out.size))
  clear s5 b5
  go_wp2_with fail
  refine (copies_st S5.out).mono ?_
  rintro e w6 ⟨x6, rfl, s6, b6⟩
  have S6 := Lib.hid s6
  have B6 := Lib.hid (B5.out.trans (b6.mono B5.out.size))
  clear s6 b6
  go_wp2_with fail
  go_ret
  exact ⟨_, rfl, S6.out, B6.out⟩
set_option maxHeartbeats 1000000 in
set_option maxRecDepth 100000 in
theorem tminus_any {v1 v2 : Value} {L1 L2 : List (List V3)} {w : World} (h1 : St4 L1 v1 w) (h2 : St4 L2 v2 w) (hl : L1.length + L2.length ≤ 900000) :
    Calls Tryd.prog 12 #[v1, v2] w (Ends (St4 (pickL [-1] (srtL L1) (srtL L2))) w) := by
  have Sa := Lib.hid h1
  have Sb := Lib.hid h2
  have HL := Lib.hid (show (srtL L1).length + (srtL L2).length ≤ 900000 by have := srt_len L1; have := srt_len L2; omega)
  have B0 := Lib.hid (Below.refl w.heap.size w)
  clear h1 h2 hl
  go_enter Tryd.func12, Tryd.ntmps12
  go_wp2_with fail
  refine (rising_st Sa.out).mono ?_
  rintro e w1 ⟨x1, rfl, s1, b1⟩
  have S1 := Lib.hid s1
  replace Sb := Lib.hid (Sb.out.on b1)
  have B1 := Lib.hid (B0.out.trans (b1.mono B0.out.size))
  clear s1 b1
  go_wp2_with fail
  refine (rising_st Sb.out).mono ?_
  rintro e w2 ⟨x2, rfl, s2, b2⟩
  have S2 := Lib.hid s2
  replace S1 := Lib.hid (S1.out.on b2)
  have B2 := Lib.hid (B1.out.trans (b2.mono B1.out.size))
  clear s2 b2
  have b3 := below_new w2 (.cells #[.int .i64 (-1)] 64)
  have S3 := Lib.hid (show St1 [-1] (.slice (some ⟨w2.heap.size, 0, none⟩) 1 1) (w2.alloc (.cells #[.int .i64 (-1)] 64)) from sides3 w2 [-1] (by decide))
  replace S1 := Lib.hid (S1.out.on b3)
  replace S2 := Lib.hid (S2.out.on b3)
  have B3 := Lib.hid (B2.out.trans (b3.mono B2.out.size))
  clear b3
  go_wp2_with fail
  refine (pick_st S1.out S2.out S3.out HL.out).mono ?_
  rintro e w4 ⟨x4, rfl, s4, b4⟩
  have S4 := Lib.hid s4
  have B4 := Lib.hid (B3.out.trans (b4.mono B3.out.size))
  clear s4 b4
  go_wp2_with fail
  refine (all_st S4.out).mono ?_
  rintro e w5 ⟨x5, rfl, s5, b5⟩
  have S5 := Lib.hid s5
  have B5 := Lib.hid (B4.out.trans (b5.mono B4.out.size))
  clear s5 b5
  go_wp2_with fail
  refine (copies_st S5.out).mono ?_
  rintro e w6 ⟨x6, rfl, s6, b6⟩
  have S6 := Lib.hid s6
  have B6 := Lib.hid (B5.out.trans (b6.mono B5.out.size))
  clear s6 b6
  go_wp2_with fail
  go_ret
  exact ⟨_, rfl, S6.out, B6.out⟩
set_option maxHeartbeats 1000000 in
set_option maxRecDepth 100000 in
theorem tboth_any {v1 v2 : Value} {L1 L2 : List (List V3)} {w : World} (h1 : St4 L1 v1 w) (h2 : St4 L2 v2 w) (hl : L1.length + L2.length ≤ 900000) :
    Calls Tryd.prog 14 #[v1, v2] w (Ends (St4 (pickL [0] (srtL L1) (srtL L2))) w) := by
  have Sa := Lib.hid h1
  have Sb := Lib.hid h2
  have HL := Lib.hid (show (srtL L1).length + (srtL L2).length ≤ 900000 by have := srt_len L1; have := srt_len L2; omega)
  have B0 := Lib.hid (Below.refl w.heap.size w)
  clear h1 h2 hl
  go_enter Tryd.func14, Tryd.ntmps14
  go_wp2_with fail
  refine (rising_st Sa.out).mono ?_
  rintro e w1 ⟨x1, rfl, s1, b1⟩
  have S1 := Lib.hid s1
  replace Sb := Lib.hid (Sb.out.on b1)
  have B1 := Lib.hid (B0.out.trans (b1.mono B0.out.size))
  clear s1 b1
  go_wp2_with fail
  refine (rising_st Sb.out).mono ?_
  rintro e w2 ⟨x2, rfl, s2, b2⟩
  have S2 := Lib.hid s2
  replace S1 := Lib.hid (S1.out.on b2)
  have B2 := Lib.hid (B1.out.trans (b2.mono B1.out.size))
  clear s2 b2
  have b3 := below_new w2 (.cells #[.int .i64 0] 64)
  have S3 := Lib.hid (show St1 [0] (.slice (some ⟨w2.heap.size, 0, none⟩) 1 1) (w2.alloc (.cells #[.int .i64 0] 64)) from sides3 w2 [0] (by decide))
  replace S1 := Lib.hid (S1.out.on b3)
  replace S2 := Lib.hid (S2.out.on b3)
  have B3 := Lib.hid (B2.out.trans (b3.mono B2.out.size))
  clear b3
  go_wp2_with fail
  refine (pick_st S1.out S2.out S3.out HL.out).mono ?_
  rintro e w4 ⟨x4, rfl, s4, b4⟩
  have S4 := Lib.hid s4
  have B4 := Lib.hid (B3.out.trans (b4.mono B3.out.size))
  clear s4 b4
  go_wp2_with fail
  refine (all_st S4.out).mono ?_
  rintro e w5 ⟨x5, rfl, s5, b5⟩
  have S5 := Lib.hid s5
  have B5 := Lib.hid (B4.out.trans (b5.mono B4.out.size))
  clear s5 b5
  go_wp2_with fail
  refine (copies_st S5.out).mono ?_
  rintro e w6 ⟨x6, rfl, s6, b6⟩
  have S6 := Lib.hid s6
  have B6 := Lib.hid (B5.out.trans (b6.mono B5.out.size))
  clear s6 b6
  go_wp2_with fail
  go_ret
  exact ⟨_, rfl, S6.out, B6.out⟩
end
section
open Go Go.RowKit

/-- A box of a list, in every world that has grown from here. -/
def BoxS (B : Nat) (l : Value) (W : World) : Prop := W.cell? ⟨B, 0, none⟩ = some (.func (.func 48) #[] #[]) ∧ W.cell? ⟨B, 1, none⟩ = some l
theorem BoxS.on {B : Nat} {l : Value} {W W' : World} (h : BoxS B l W) (hb : Below W.heap.size W W') : BoxS B l W' :=
  ⟨(hb.cell (p := ⟨B, 0, none⟩) (World.block_lt_of_cell? W _ h.1)).trans h.1, (hb.cell (p := ⟨B, 1, none⟩) (World.block_lt_of_cell? W _ h.2)).trans h.2⟩
set_option maxHeartbeats 2000000 in
set_option maxRecDepth 100000 in
theorem tapply_any {v1 v2 v3 : Value} {L1 L2 L3 : List (List V3)} {w : World} (h1 : St4 L1 v1 w) (h2 : St4 L2 v2 w) (h3 : St4 L3 v3 w) (hl : L1.length + L2.length + L3.length ≤ 900000) :
    Calls Tryd.prog 16 #[v1, v2, v3] w (Ends (St4 (pickL [-1, 0, 1] (srtL L2) (pickL [-1] (srtL L1) (srtL L3)))) w) := by
  have Sa := Lib.hid h1
  have Sb := Lib.hid h2
  have Sc := Lib.hid h3
  have HL := Lib.hid (show (srtL L1).length + (srtL L3).length ≤ 900000 by have := srt_len L1; have := srt_len L3; omega)
  have HL2 := Lib.hid (show (srtL L2).length + (pickL [-1] (srtL L1) (srtL L3)).length ≤ 900000 by have := srt_len L1; have := srt_len L2; have := srt_len L3; have := pick_len [-1] (srtL L1) (srtL L3); omega)
  have B0 := Lib.hid (Below.refl w.heap.size w)
  clear h1 h2 h3 hl
  go_enter Tryd.func16, Tryd.ntmps16
  go_wp2_with fail
  refine (rising_st Sa.out).mono ?_
  rintro e w1 ⟨x1, rfl, s1, b1⟩
  have S1 := Lib.hid s1
  replace Sc := Lib.hid (Sc.out.on b1)
  replace Sb := Lib.hid (Sb.out.on b1)
  have B1 := Lib.hid (B0.out.trans (b1.mono B0.out.size))
  clear s1 b1
  go_wp2_with fail
  refine (rising_st Sc.out).mono ?_
  rintro e w2 ⟨x2, rfl, s2, b2⟩
  have S2 := Lib.hid s2
  replace S1 := Lib.hid (S1.out.on b2)
  replace Sb := Lib.hid (Sb.out.on b2)
  have B2 := Lib.hid (B1.out.trans (b2.mono B1.out.size))
  clear s2 b2
  have b3 := below_new w2 (.cells #[.int .i64 (-1)] 64)
  have S3 := Lib.hid (show St1 [-1] (.slice (some ⟨w2.heap.size, 0, none⟩) 1 1) (w2.alloc (.cells #[.int .i64 (-1)] 64)) from sides3 w2 [-1] (by decide))
  replace S1 := Lib.hid (S1.out.on b3)
  replace S2 := Lib.hid (S2.out.on b3)
  replace Sb := Lib.hid (Sb.out.on b3)
  have B3 := Lib.hid (B2.out.trans (b3.mono B2.out.size))
  clear b3
  go_wp2_with fail
  refine (pick_st S1.out S2.out S3.out HL.out).mono ?_
  rintro e w4 ⟨x4, rfl, s4, b4⟩
  have S4 := Lib.hid s4
  replace Sb := Lib.hid (Sb.out.on b4)
  have B4 := Lib.hid (B3.out.trans (b4.mono B3.out.size))
  clear s4 b4
  obtain ⟨l4, Q4, e4, hQ4, hm4⟩ := id S4.out
  obtain ⟨a4, c4, e5, -⟩ := hQ4.form
  subst e4 e5
  clear hQ4 hm4
  go_wp2_with fail
  have b5 := (below_new w4 (.cells #[.func (.func 48) #[] #[], .slice a4 Q4.length c4] 58)).drew
  obtain ⟨w5, hw5⟩ : ∃ w5, w5 = (w4.alloc (.cells #[.func (.func 48) #[] #[], .slice a4 Q4.length c4] 58)).drew := ⟨_, rfl⟩
  have hbx : BoxS w4.heap.size (.slice a4 Q4.length c4) w5 := by
    rw [hw5]
    have hx := heap_alloc_new w4 (.cells #[.func (.func 48) #[] #[], .slice a4 Q4.length c4] 58)
    exact ⟨by rw [World.cell?_drew, cell_of_row _ w4.heap.size 0 _ _ (0, 0) hx]; rfl, by rw [World.cell?_drew, cell_of_row _ w4.heap.size 1 _ _ (0, 0) hx]; rfl⟩
  refine wp_region_held_drew (S := BoxS w4.heap.size (.slice a4 Q4.length c4)) (by kernel_rfl) (by rw [hw5] at hbx; exact hbx) (fun _ => ?_)
  rw [← hw5] at b5 ⊢
  clear hw5
  replace S4 := Lib.hid (S4.out.on b5)
  replace Sb := Lib.hid (Sb.out.on b5)
  have B5 := Lib.hid (B4.out.trans (b5.mono B4.out.size))
  have Sx := Lib.hid hbx
  clear b5 hbx
  iterate 1
    refine take1T 0 14 (v := ?_) rfl rfl (by kernel_rfl) (by kernel_rfl) (by kernel_rfl) (fun _ _ _ h => h) (by kernel_rfl) ?_ Sx.out (by first | (simp only [put_normT]; exact rfl) | exact rfl) ?_
    rotate_left
    · intro W _; go_simp; try (with_reducible rfl)
    refine take1T 2 16 (v := ?_) rfl rfl (by kernel_rfl) (by kernel_rfl) (by kernel_rfl) (fun _ _ _ h => h) (by kernel_rfl) ?_ Sx.out (by first | (simp only [put_normT]; exact rfl) | exact rfl) ?_
    rotate_left
    · rintro W ⟨hc0, hc1⟩; go_simp; try (with_reducible rfl)
  refine wpAnyH_ready (rs := [1, 3]) (by kernel_rfl) (by simp) ?_
  refine AllReadyH.cons rfl (fun K hK => ?_) (AllReadyH.cons rfl (fun K hK => ?_) AllReadyH.nil)
  · skip
    go_simp
    go_wp2_with (go_at_call 33; refine (rising_st Sb.out).mono ?_; rintro e w6 ⟨x6, rfl, s6, b6⟩)
    have Sr := Lib.hid s6
    replace S4 := Lib.hid (S4.out.on b6)
    replace Sx := Lib.hid (Sx.out.on b6)
    have B6 := Lib.hid (B5.out.trans (b6.mono B5.out.size))
    clear s6 b6
    refine hK.out _ _ Sx.out (fun _ => ?_)
    clear hK K
    refine wpAnyH_ready (rs := [3]) (by kernel_rfl) (by simp) ?_
    refine AllReadyH.cons rfl (fun K hK => ?_) AllReadyH.nil
    go_simp
    have b7 := below_new w6 (.cells #[.int .i64 (-1), .int .i64 0, .int .i64 1] 64)
    have Sl := Lib.hid (show St1 [-1, 0, 1] (.slice (some ⟨w6.heap.size, 0, none⟩) 3 3) (w6.alloc (.cells #[.int .i64 (-1), .int .i64 0, .int .i64 1] 64)) from sides3 w6 [-1, 0, 1] (by decide))
    replace S4 := Lib.hid (S4.out.on b7)
    replace Sx := Lib.hid (Sx.out.on b7)
    replace Sr := Lib.hid (Sr.out.on b7)
    have B7 := Lib.hid (B6.out.trans (b7.mono B6.out.size))
    clear b7
    obtain ⟨w7, hw7⟩ : ∃ w7, w7 = w6.alloc (.cells #[.int .i64 (-1), .int .i64 0, .int .i64 1] 64) := ⟨_, rfl⟩
    rw [← hw7] at S4 Sx Sr Sl B7 ⊢
    clear hw7
    refine hK.out _ _ Sx.out (fun _ => ?_)
    clear hK K
    refine wpAnyH_ready (rs := [4]) (by kernel_rfl) (by simp) ?_
    refine AllReadyH.cons rfl (fun K hK => ?_) AllReadyH.nil
    go_simp
    go_wp2_with (go_at_call 35; refine (pick_st Sr.out S4.out Sl.out HL2.out).mono ?_; rintro e w8 ⟨x8, rfl, s8, b8⟩)
    have S8 := Lib.hid s8
    replace Sx := Lib.hid (Sx.out.on b8)
    have B8 := Lib.hid (B7.out.trans (b8.mono B7.out.size))
    clear s8 b8
    refine hK.out _ _ Sx.out (fun _ => ?_)
    clear hK K
    refine wpAnyH_ready (rs := [5]) (by kernel_rfl) (by simp) ?_
    refine AllReadyH.cons rfl (fun K hK => ?_) AllReadyH.nil
    go_simp
    go_wp2_with (go_at_call 36; refine (all_st S8.out).mono ?_; rintro e w9 ⟨x9, rfl, s9, b9⟩)
    have S9 := Lib.hid s9
    replace Sx := Lib.hid (Sx.out.on b9)
    have B9 := Lib.hid (B8.out.trans (b9.mono B8.out.size))
    clear s9 b9
    refine hK.out _ _ Sx.out (fun _ => ?_)
    clear hK K
    refine wpAnyH_ready (rs := [6]) (by kernel_rfl) (by simp) ?_
    refine AllReadyH.cons rfl (fun K hK => ?_) AllReadyH.nil
    go_simp
    go_wp2_with (go_at_call 34; refine (copies_st S9.out).mono ?_; rintro e w10 ⟨x10, rfl, s10, b10⟩)
    have S10 := Lib.hid s10
    replace Sx := Lib.hid (Sx.out.on b10)
    have B10 := Lib.hid (B9.out.trans (b10.mono B9.out.size))
    clear s10 b10
    refine hK.out _ _ Sx.out (fun _ => ?_)
    clear hK K
    refine take1T 7 6 (v := ?_) rfl rfl (by kernel_rfl) (by kernel_rfl) (by kernel_rfl) (fun _ _ _ h => h) (by kernel_rfl) ?_ Sx.out (by first | (simp only [put_normT]; exact rfl) | exact rfl) ?_
    rotate_left
    · intro W _; go_simp; try (with_reducible rfl)
    refine wpAnyH_done (by kernel_rfl) ?_ _
    go_wp2_with fail
    go_ret
    exact ⟨_, rfl, S10.out, B10.out⟩
  · skip
    go_simp
    have b6 := below_new w5 (.cells #[.int .i64 (-1), .int .i64 0, .int .i64 1] 64)
    have Sl := Lib.hid (show St1 [-1, 0, 1] (.slice (some ⟨w5.heap.size, 0, none⟩) 3 3) (w5.alloc (.cells #[.int .i64 (-1), .int .i64 0, .int .i64 1] 64)) from sides3 w5 [-1, 0, 1] (by decide))
    replace S4 := Lib.hid (S4.out.on b6)
    replace Sx := Lib.hid (Sx.out.on b6)
    replace Sb := Lib.hid (Sb.out.on b6)
    have B6 := Lib.hid (B5.out.trans (b6.mono B5.out.size))
    clear b6
    obtain ⟨w6, hw6⟩ : ∃ w6, w6 = w5.alloc (.cells #[.int .i64 (-1), .int .i64 0, .int .i64 1] 64) := ⟨_, rfl⟩
    rw [← hw6] at S4 Sx Sb Sl B6 ⊢
    clear hw6
    refine hK.out _ _ Sx.out (fun _ => ?_)
    clear hK K
    refine wpAnyH_ready (rs := [1]) (by kernel_rfl) (by simp) ?_
    refine AllReadyH.cons rfl (fun K hK => ?_) AllReadyH.nil
    go_simp
    go_wp2_with (go_at_call 33; refine (rising_st Sb.out).mono ?_; rintro e w7 ⟨x7, rfl, s7, b7⟩)
    have Sr := Lib.hid s7
    replace S4 := Lib.hid (S4.out.on b7)
    replace Sx := Lib.hid (Sx.out.on b7)
    replace Sl := Lib.hid (Sl.out.on b7)
    have B7 := Lib.hid (B6.out.trans (b7.mono B6.out.size))
    clear s7 b7
    refine hK.out _ _ Sx.out (fun _ => ?_)
    clear hK K
    refine wpAnyH_ready (rs := [4]) (by kernel_rfl) (by simp) ?_
    refine AllReadyH.cons rfl (fun K hK => ?_) AllReadyH.nil
    go_simp
    go_wp2_with (go_at_call 35; refine (pick_st Sr.out S4.out Sl.out HL2.out).mono ?_; rintro e w8 ⟨x8, rfl, s8, b8⟩)
    have S8 := Lib.hid s8
    replace Sx := Lib.hid (Sx.out.on b8)
    have B8 := Lib.hid (B7.out.trans (b8.mono B7.out.size))
    clear s8 b8
    refine hK.out _ _ Sx.out (fun _ => ?_)
    clear hK K
    refine wpAnyH_ready (rs := [5]) (by kernel_rfl) (by simp) ?_
    refine AllReadyH.cons rfl (fun K hK => ?_) AllReadyH.nil
    go_simp
    go_wp2_with (go_at_call 36; refine (all_st S8.out).mono ?_; rintro e w9 ⟨x9, rfl, s9, b9⟩)
    have S9 := Lib.hid s9
    replace Sx := Lib.hid (Sx.out.on b9)
    have B9 := Lib.hid (B8.out.trans (b9.mono B8.out.size))
    clear s9 b9
    refine hK.out _ _ Sx.out (fun _ => ?_)
    clear hK K
    refine wpAnyH_ready (rs := [6]) (by kernel_rfl) (by simp) ?_
    refine AllReadyH.cons rfl (fun K hK => ?_) AllReadyH.nil
    go_simp
    go_wp2_with (go_at_call 34; refine (copies_st S9.out).mono ?_; rintro e w10 ⟨x10, rfl, s10, b10⟩)
    have S10 := Lib.hid s10
    replace Sx := Lib.hid (Sx.out.on b10)
    have B10 := Lib.hid (B9.out.trans (b10.mono B9.out.size))
    clear s10 b10
    refine hK.out _ _ Sx.out (fun _ => ?_)
    clear hK K
    refine take1T 7 6 (v := ?_) rfl rfl (by kernel_rfl) (by kernel_rfl) (by kernel_rfl) (fun _ _ _ h => h) (by kernel_rfl) ?_ Sx.out (by first | (simp only [put_normT]; exact rfl) | exact rfl) ?_
    rotate_left
    · intro W _; go_simp; try (with_reducible rfl)
    refine wpAnyH_done (by kernel_rfl) ?_ _
    go_wp2_with fail
    go_ret
    exact ⟨_, rfl, S10.out, B10.out⟩
end
section
open Go Go.RowKit Go.Shelf

section
variable {P : Program} {md : Region.Mode} {ops : Array Oper} {Q : Exit → Act → World → Prop} {S : World → Prop}
theorem wpAnyH_cast {fuel : Nat} {l l' : Array Bool} {a : Act} {w : World} (e : l = l') (h : wpAnyH P md ops Q S fuel l' a w) : wpAnyH P md ops Q S fuel l a w := e ▸ h
theorem wpOp_call {i : Nat} {o : Oper} {K : Act → World → Prop} {a : Act} {w : World} {f : Nat} {ar : Array Operand} {ts : Array TypeId} {vals : Array Value} (ho : ops[i]? = some o) (hg : o.guard = none) (hop : o.op = .call { callee := .value (.func f), args := ar, argTypes := ts })
    (eg : Enters P f) (hv : ar.map a.eval = vals) (h : Calls P f vals w fun e w' => ∃ v, e = .returned v ∧ K (a.put o.dst v) w') : wpOp P ops Q i K a w := by
  refine wpOp_step ho fun K' hK => ?_
  have hw : Region.wanted o (yielded ops a.tmps) = true := by simp [Region.wanted, hg]
  rw [if_pos hw]
  unfold Oper.wp execOp
  have hf : a.eval (.func f) = .func (.func f) #[] #[] := rfl
  simp only [hop, resolve, hf, hv, Sem.run_bind, invoke]
  simp [go_sem, eg vals w]
  refine h.mono ?_
  rintro e w' ⟨v, rfl, hk⟩
  exact hK _ _ hk
/-- What may come up is the next of the one chain, or of the other. -/
def chainsOk (md : Region.Mode) (ops : Array Oper) (iA iB : Nat → Nat) (m : Nat) (LS : Nat → Nat → Array Bool) : Bool :=
  (List.range (m + 1)).all fun p => (List.range (m + 1)).all fun q => decide (2 * m ≤ p + q) || (!(Region.ready md ops (LS p q)).isEmpty && (Region.ready md ops (LS p q)).all fun i => (decide (p < m) && i == iA p) || (decide (q < m) && i == iB q))
theorem chainsOk_spec {iA iB : Nat → Nat} {m : Nat} {LS : Nat → Nat → Array Bool} (h : chainsOk md ops iA iB m LS = true) {p q : Nat} (hp : p ≤ m) (hq : q ≤ m) (hpq : p + q < 2 * m) :
    Region.ready md ops (LS p q) ≠ [] ∧ ∀ i ∈ Region.ready md ops (LS p q), (p < m ∧ i = iA p) ∨ (q < m ∧ i = iB q) := by
  unfold chainsOk at h
  have h1 := List.all_eq_true.1 (List.all_eq_true.1 h p (List.mem_range.2 (by omega))) q (List.mem_range.2 (by omega))
  rw [Bool.or_eq_true, Bool.and_eq_true] at h1
  rcases h1 with h1 | ⟨h1, h2⟩
  · have := of_decide_eq_true h1
    omega
  · refine ⟨fun e => (by rw [e] at h1; cases h1), fun i hi => ?_⟩
    have h3 := List.all_eq_true.1 h2 i hi
    simpa using h3
/-- Two chains of m steps each. -/
theorem two_chains (iA iB : Nat → Nat) (m n : Nat) (LS : Nat → Nat → Array Bool) (I : Nat → Nat → Act → World → Prop)
    (hr : chainsOk md ops iA iB m LS = true)
    (hA : ∀ p, p < m → ∀ q, q ≤ m → (LS p q).setIfInBounds (iA p) true = LS (p + 1) q) (hB : ∀ p, p ≤ m → ∀ q, q < m → (LS p q).setIfInBounds (iB q) true = LS p (q + 1))
    (sA : ∀ p, p < m → ∀ q, q ≤ m → ∀ a W, I p q a W → wpOp P ops Q (iA p) (I (p + 1) q) a W) (sB : ∀ p, p ≤ m → ∀ q, q < m → ∀ a W, I p q a W → wpOp P ops Q (iB q) (I p (q + 1)) a W)
    (hS : ∀ p q a W, I p q a W → S W) (hend : ∀ a W, I m m a W → wpAnyH P md ops Q S n (LS m m) a W) :
    ∀ k p q, p ≤ m → q ≤ m → p + q + k = 2 * m → ∀ a W, I p q a W → wpAnyH P md ops Q S (k + n) (LS p q) a W
  | 0, p, q, hp, hq, he, a, W, h => by
    obtain rfl : p = m := by omega
    obtain rfl : q = p := by omega
    rw [Nat.zero_add]
    exact hend a W h
  | k + 1, p, q, hp, hq, he, a, W, h => by
    obtain ⟨h1, h2⟩ := chainsOk_spec hr hp hq (by omega)
    rw [show k + 1 + n = (k + n) + 1 by omega]
    refine wpAnyH_all rfl h1 fun i hi => ?_
    rcases h2 i hi with ⟨hpm, rfl⟩ | ⟨hqm, rfl⟩
    · refine wpOp_mono (fun a' W' h' => ⟨hS _ _ _ _ h', ?_⟩) (sA p hpm q hq a W h)
      rw [hA p hpm q hq]
      exact two_chains iA iB m n LS I hr hA hB sA sB hS hend k (p + 1) q hpm hq (by omega) a' W' h'
    · refine wpOp_mono (fun a' W' h' => ⟨hS _ _ _ _ h', ?_⟩) (sB p hp q hqm a W h)
      rw [hB p hp q hqm]
      exact two_chains iA iB m n LS I hr hA hB sA sB hS hend k p (q + 1) hp hqm (by omega) a' W' h'
end
theorem eval_put_same {a : Act} {d : Nat} {v : Value} (h : d < a.tmps.size) : (a.put (some d) v).eval (.tmp d) = v := by
  show (a.tmps.setIfInBounds d v).getD d undef = v
  simp [h]
theorem eval_put_ne {a : Act} {d e : Nat} {v : Value} (h : d ≠ e) : (a.put (some d) v).eval (.tmp e) = a.eval (.tmp e) := by
  show (a.tmps.setIfInBounds d v).getD e undef = a.tmps.getD e undef
  simp [h]
theorem size_put {a : Act} {d : Nat} {v : Value} : (a.put (some d) v).tmps.size = a.tmps.size := by
  show (a.tmps.setIfInBounds d v).size = _
  simp
/-- What a chain has reached: the row of a side, the list, the iterator, the tuples. -/
def Ch (b s : Nat) (S : List Int) (M : List (List V3)) (a : Act) (W : World) : Prop :=
  (1 ≤ s → St1 S (a.eval (.tmp b)) W) ∧ (2 ≤ s → St2 M (a.eval (.tmp (b + 1))) W) ∧ (3 ≤ s → St3 M (a.eval (.tmp (b + 2))) W) ∧ (4 ≤ s → St4 M (a.eval (.tmp (b + 3))) W)
theorem Ch.on {b s : Nat} {S : List Int} {M : List (List V3)} {a : Act} {W W' : World} (h : Ch b s S M a W) (hb : Below W.heap.size W W') : Ch b s S M a W' :=
  ⟨fun k => (h.1 k).on hb, fun k => (h.2.1 k).on hb, fun k => (h.2.2.1 k).on hb, fun k => (h.2.2.2 k).on hb⟩
theorem Ch.other {b s d : Nat} {S : List Int} {M : List (List V3)} {a : Act} {v : Value} {W : World} (h : Ch b s S M a W) (hd : d < b ∨ b + 3 < d) : Ch b s S M (a.put (some d) v) W := by
  refine ⟨fun k => ?_, fun k => ?_, fun k => ?_, fun k => ?_⟩
  · rw [eval_put_ne (by omega)]; exact h.1 k
  · rw [eval_put_ne (by omega)]; exact h.2.1 k
  · rw [eval_put_ne (by omega)]; exact h.2.2.1 k
  · rw [eval_put_ne (by omega)]; exact h.2.2.2 k
theorem Ch.next {b s : Nat} {S : List Int} {M : List (List V3)} {a : Act} {v : Value} {W : World} (h : Ch b s S M a W) (hsz : b + 3 < a.tmps.size) (hs : s < 4)
    (hv : (s = 0 → St1 S v W) ∧ (s = 1 → St2 M v W) ∧ (s = 2 → St3 M v W) ∧ (s = 3 → St4 M v W)) : Ch b (s + 1) S M (a.put (some (b + s)) v) W := by
  refine ⟨fun k => ?_, fun k => ?_, fun k => ?_, fun k => ?_⟩
  · by_cases e : s = 0
    · subst e; rw [Nat.add_zero, eval_put_same (by omega)]; exact hv.1 rfl
    · rw [eval_put_ne (by omega)]; exact h.1 (by omega)
  · by_cases e : s = 1
    · subst e; rw [eval_put_same (by omega)]; exact hv.2.1 rfl
    · rw [eval_put_ne (by omega)]; exact h.2.1 (by omega)
  · by_cases e : s = 2
    · subst e; rw [eval_put_same (by omega)]; exact hv.2.2.1 rfl
    · rw [eval_put_ne (by omega)]; exact h.2.2.1 (by omega)
  · by_cases e : s = 3
    · subst e; rw [eval_put_same (by omega)]; exact hv.2.2.2 rfl
    · omega
/-- The state of Diff's last region. -/
structure DfI (w0 : World) (S : World → Prop) (Lx Ly : List (List V3)) (x y : Value) (p q : Nat) (a : Act) (W : World) : Prop where
  size : a.tmps.size = 24
  defs : a.defers = []
  e12 : a.eval (.tmp 12) = x
  e13 : a.eval (.tmp 13) = y
  e18 : a.eval (.tmp 18) = x
  e19 : a.eval (.tmp 19) = y
  held : S W
  sx : St2 Lx x W
  sy : St2 Ly y W
  below : Below w0.heap.size w0 W
  ca : Ch 14 p [-1] (pickL [-1] Lx Ly) a W
  cb : Ch 20 q [1] (pickL [1] Lx Ly) a W
theorem DfI.stepA {w0 W W' : World} {S : World → Prop} {Lx Ly : List (List V3)} {x y v : Value} {p q : Nat} {a : Act} (h : DfI w0 S Lx Ly x y p q a W) (hb : Below W.heap.size W W') (hS : S W') (hp : p < 4)
    (hv : (p = 0 → St1 [-1] v W') ∧ (p = 1 → St2 (pickL [-1] Lx Ly) v W') ∧ (p = 2 → St3 (pickL [-1] Lx Ly) v W') ∧ (p = 3 → St4 (pickL [-1] Lx Ly) v W')) : DfI w0 S Lx Ly x y (p + 1) q (a.put (some (14 + p)) v) W' :=
  ⟨size_put.trans h.size, h.defs, (eval_put_ne (by omega)).trans h.e12, (eval_put_ne (by omega)).trans h.e13, (eval_put_ne (by omega)).trans h.e18, (eval_put_ne (by omega)).trans h.e19, hS, h.sx.on hb, h.sy.on hb, h.below.trans (hb.mono h.below.size),
    (h.ca.on hb).next (by rw [h.size]; decide) hp hv, (h.cb.on hb).other (by omega)⟩
theorem DfI.stepB {w0 W W' : World} {S : World → Prop} {Lx Ly : List (List V3)} {x y v : Value} {p q : Nat} {a : Act} (h : DfI w0 S Lx Ly x y p q a W) (hb : Below W.heap.size W W') (hS : S W') (hq : q < 4)
    (hv : (q = 0 → St1 [1] v W') ∧ (q = 1 → St2 (pickL [1] Lx Ly) v W') ∧ (q = 2 → St3 (pickL [1] Lx Ly) v W') ∧ (q = 3 → St4 (pickL [1] Lx Ly) v W')) : DfI w0 S Lx Ly x y p (q + 1) (a.put (some (20 + q)) v) W' :=
  ⟨size_put.trans h.size, h.defs, (eval_put_ne (by omega)).trans h.e12, (eval_put_ne (by omega)).trans h.e13, (eval_put_ne (by omega)).trans h.e18, (eval_put_ne (by omega)).trans h.e19, hS, h.sx.on hb, h.sy.on hb, h.below.trans (hb.mono h.below.size),
    (h.ca.on hb).other (by omega), (h.cb.on hb).next (by rw [h.size]; decide) hq hv⟩
end
section
open Go Go.RowKit Go.Shelf

/-- Which operations of Diff's last region have come up. -/
def lsD (p q : Nat) : Array Bool := #[true, true, decide (0 < p), decide (1 < p), decide (2 < p), decide (3 < p), true, true, decide (0 < q), decide (1 < q), decide (2 < q), decide (3 < q), false, false]
/-- What Diff leaves. -/
def DiffEnd (L1 L2 : List (List V3)) (w : World) (e : Ending) (w' : World) : Prop :=
  ∃ p m, e = .returned (.tuple #[p, m]) ∧ St4 (pickL [-1] (srtL L2) (srtL L1)) p w' ∧ St4 (pickL [1] (srtL L2) (srtL L1)) m w' ∧ Below w.heap.size w w'
set_option maxHeartbeats 4000000 in
set_option maxRecDepth 100000 in
theorem tdiff_any {v1 v2 : Value} {L1 L2 : List (List V3)} {w : World} (h1 : St4 L1 v1 w) (h2 : St4 L2 v2 w) (hl : L1.length + L2.length ≤ 900000) :
    Calls Tryd.prog 8 #[v1, v2] w (DiffEnd L1 L2 w) := by
  have Sa := Lib.hid h1
  have Sb := Lib.hid h2
  have HL := Lib.hid (show (srtL L2).length + (srtL L1).length ≤ 900000 by have := srt_len L1; have := srt_len L2; omega)
  have B0 := Lib.hid (Below.refl w.heap.size w)
  clear h1 h2 hl
  go_enter Tryd.func8, Tryd.ntmps8
  go_wp2_with fail
  refine (rising_st Sb.out).mono ?_
  rintro e w1 ⟨x1, rfl, s1, b1⟩
  have S1 := Lib.hid s1
  replace Sa := Lib.hid (Sa.out.on b1)
  have B1 := Lib.hid b1
  clear s1 b1
  go_wp2_with fail
  refine (rising_st Sa.out).mono ?_
  rintro e w2 ⟨x2, rfl, s2, b2⟩
  have S2 := Lib.hid s2
  replace S1 := Lib.hid (S1.out.on b2)
  have B2 := Lib.hid (B1.out.trans (b2.mono B1.out.size))
  clear s2 b2
  obtain ⟨l1, Q1, e1, hQ1, hm1⟩ := id S1.out
  obtain ⟨a1, c1, e3, -⟩ := hQ1.form
  obtain ⟨l2, Q2, e2, hQ2, hm2⟩ := id S2.out
  obtain ⟨a2, c2, e4, -⟩ := hQ2.form
  subst e1 e2 e3 e4
  clear hQ1 hm1 hQ2 hm2
  go_wp2_with fail
  have hx1 := heap_alloc_new w2 (.cells #[.func (.func 48) #[] #[], .slice a1 Q1.length c1] 58)
  have hx2 := heap_alloc_new (w2.alloc (.cells #[.func (.func 48) #[] #[], .slice a1 Q1.length c1] 58)) (.cells #[.func (.func 48) #[] #[], .slice a2 Q2.length c2] 58)
  have hx1' := (Below.heap_alloc (w2.alloc (.cells #[.func (.func 48) #[] #[], .slice a1 Q1.length c1] 58)) (.cells #[.func (.func 48) #[] #[], .slice a2 Q2.length c2] 58) w2.heap.size (by simp)).trans hx1
  rw [World.size_alloc] at hx2
  have hbx : BoxS w2.heap.size (.slice a1 Q1.length c1) ((w2.alloc (.cells #[.func (.func 48) #[] #[], .slice a1 Q1.length c1] 58)).alloc (.cells #[.func (.func 48) #[] #[], .slice a2 Q2.length c2] 58)).drew := ⟨by rw [World.cell?_drew, cell_of_row _ _ 0 _ _ (0, 0) hx1']; rfl, by rw [World.cell?_drew, cell_of_row _ _ 1 _ _ (0, 0) hx1']; rfl⟩
  have hby : BoxS (w2.heap.size + 1) (.slice a2 Q2.length c2) ((w2.alloc (.cells #[.func (.func 48) #[] #[], .slice a1 Q1.length c1] 58)).alloc (.cells #[.func (.func 48) #[] #[], .slice a2 Q2.length c2] 58)).drew := ⟨by rw [World.cell?_drew, cell_of_row _ _ 0 _ _ (0, 0) hx2]; rfl, by rw [World.cell?_drew, cell_of_row _ _ 1 _ _ (0, 0) hx2]; rfl⟩
  have b3 : Below w2.heap.size w2 ((w2.alloc (.cells #[.func (.func 48) #[] #[], .slice a1 Q1.length c1] 58)).alloc (.cells #[.func (.func 48) #[] #[], .slice a2 Q2.length c2] 58)).drew := ((below_new w2 (.cells #[.func (.func 48) #[] #[], .slice a1 Q1.length c1] 58)).alloc (by simp) (.cells #[.func (.func 48) #[] #[], .slice a2 Q2.length c2] 58)).drew
  clear hx1 hx2 hx1'
  refine wp_region_held_drew (S := fun W => BoxS w2.heap.size (.slice a1 Q1.length c1) W ∧ BoxS (w2.heap.size + 1) (.slice a2 Q2.length c2) W) (by kernel_rfl) ⟨hbx, hby⟩ (fun _ => ?_)
  obtain ⟨w3, hw3⟩ : ∃ w3, w3 = ((w2.alloc (.cells #[.func (.func 48) #[] #[], .slice a1 Q1.length c1] 58)).alloc (.cells #[.func (.func 48) #[] #[], .slice a2 Q2.length c2] 58)).drew := ⟨_, rfl⟩
  rw [← hw3] at hbx hby b3 ⊢
  clear hw3
  replace S1 := Lib.hid (S1.out.on b3)
  replace S2 := Lib.hid (S2.out.on b3)
  have B3 := Lib.hid (B2.out.trans (b3.mono B2.out.size))
  clear b3
  iterate 1
    refine take1T 0 12 (v := ?_) rfl rfl (by kernel_rfl) (by kernel_rfl) (by kernel_rfl) (fun _ _ _ h => h) (by kernel_rfl) ?_ ⟨hbx, hby⟩ (by first | (simp only [put_normT]; exact rfl) | exact rfl) ?_
    rotate_left
    · rintro W ⟨⟨hc0, hc1⟩, ⟨hd0, hd1⟩⟩; go_simp; try (with_reducible rfl)
    refine take1T 1 13 (v := ?_) rfl rfl (by kernel_rfl) (by kernel_rfl) (by kernel_rfl) (fun _ _ _ h => h) (by kernel_rfl) ?_ ⟨hbx, hby⟩ (by first | (simp only [put_normT]; exact rfl) | exact rfl) ?_
    rotate_left
    · rintro W ⟨⟨hc0, hc1⟩, ⟨hd0, hd1⟩⟩; go_simp; try (with_reducible rfl)
    refine take1T 6 18 (v := ?_) rfl rfl (by kernel_rfl) (by kernel_rfl) (by kernel_rfl) (fun _ _ _ h => h) (by kernel_rfl) ?_ ⟨hbx, hby⟩ (by first | (simp only [put_normT]; exact rfl) | exact rfl) ?_
    rotate_left
    · rintro W ⟨⟨hc0, hc1⟩, ⟨hd0, hd1⟩⟩; go_simp; try (with_reducible rfl)
    refine take1T 7 19 (v := ?_) rfl rfl (by kernel_rfl) (by kernel_rfl) (by kernel_rfl) (fun _ _ _ h => h) (by kernel_rfl) ?_ ⟨hbx, hby⟩ (by first | (simp only [put_normT]; exact rfl) | exact rfl) ?_
    rotate_left
    · rintro W ⟨⟨hc0, hc1⟩, ⟨hd0, hd1⟩⟩; go_simp; try (with_reducible rfl)
  refine wpAnyH_cast (l' := lsD 0 0) (by kernel_rfl) ?_
  refine two_chains (fun p => 2 + p) (fun q => 8 + q) 4 2 lsD (DfI w (fun W => BoxS w2.heap.size (.slice a1 Q1.length c1) W ∧ BoxS (w2.heap.size + 1) (.slice a2 Q2.length c2) W) (srtL L2) (srtL L1) (.agg #[.func (.func 48) #[] #[], .slice a1 Q1.length c1]) (.agg #[.func (.func 48) #[] #[], .slice a2 Q2.length c2])) (by kernel_rfl) (of_decide_eq_true (by kernel_rfl)) (of_decide_eq_true (by kernel_rfl)) ?_ ?_ (fun _ _ _ _ h => h.held) ?_ 8 0 0 (by decide) (by decide) rfl _ _ ?_
  · intro p hp q hq a W hI
    match p, hp, hI with
    | 0, _, hI =>
      refine wpOp_step rfl fun K hK => ?_
      go_simp
      have b := below_new W (.cells #[.int .i64 (-1)] 64)
      have s : St1 [-1] (.slice (some ⟨W.heap.size, 0, none⟩) 1 1) (W.alloc (.cells #[.int .i64 (-1)] 64)) := sides3 W [-1] (by decide)
      exact hK _ _ (hI.stepA b ⟨hI.held.1.on b, hI.held.2.on b⟩ (by decide) ⟨fun _ => s, fun e => absurd e (by decide), fun e => absurd e (by decide), fun e => absurd e (by decide)⟩)
    | 1, _, hI =>
      refine wpOp_call rfl rfl rfl (enters_of Tryd.func35 (by kernel_rfl) rfl) (by simp [hI.e12, hI.e13]) ((pick_st hI.sx hI.sy (hI.ca.1 (by decide)) HL.out).mono ?_)
      rintro e W' ⟨v, rfl, s, b⟩
      exact ⟨v, rfl, hI.stepA b ⟨hI.held.1.on b, hI.held.2.on b⟩ (by decide) ⟨fun e => absurd e (by decide), fun _ => s, fun e => absurd e (by decide), fun e => absurd e (by decide)⟩⟩
    | 2, _, hI =>
      refine wpOp_call (vals := #[a.eval (.tmp 15)]) rfl rfl rfl (enters_of Tryd.func36 (by kernel_rfl) rfl) (by simp) ((all_st (hI.ca.2.1 (by decide))).mono ?_)
      rintro e W' ⟨v, rfl, s, b⟩
      exact ⟨v, rfl, hI.stepA b ⟨hI.held.1.on b, hI.held.2.on b⟩ (by decide) ⟨fun e => absurd e (by decide), fun e => absurd e (by decide), fun _ => s, fun e => absurd e (by decide)⟩⟩
    | 3, _, hI =>
      refine wpOp_call (vals := #[a.eval (.tmp 16)]) rfl rfl rfl (enters_of Tryd.func34 (by kernel_rfl) rfl) (by simp) ((copies_st (hI.ca.2.2.1 (by decide))).mono ?_)
      rintro e W' ⟨v, rfl, s, b⟩
      exact ⟨v, rfl, hI.stepA b ⟨hI.held.1.on b, hI.held.2.on b⟩ (by decide) ⟨fun e => absurd e (by decide), fun e => absurd e (by decide), fun e => absurd e (by decide), fun _ => s⟩⟩
  · intro p hp q hq a W hI
    match q, hq, hI with
    | 0, _, hI =>
      refine wpOp_step rfl fun K hK => ?_
      go_simp
      have b := below_new W (.cells #[.int .i64 (1)] 64)
      have s : St1 [1] (.slice (some ⟨W.heap.size, 0, none⟩) 1 1) (W.alloc (.cells #[.int .i64 (1)] 64)) := sides3 W [1] (by decide)
      exact hK _ _ (hI.stepB b ⟨hI.held.1.on b, hI.held.2.on b⟩ (by decide) ⟨fun _ => s, fun e => absurd e (by decide), fun e => absurd e (by decide), fun e => absurd e (by decide)⟩)
    | 1, _, hI =>
      refine wpOp_call rfl rfl rfl (enters_of Tryd.func35 (by kernel_rfl) rfl) (by simp [hI.e18, hI.e19]) ((pick_st hI.sx hI.sy (hI.cb.1 (by decide)) HL.out).mono ?_)
      rintro e W' ⟨v, rfl, s, b⟩
      exact ⟨v, rfl, hI.stepB b ⟨hI.held.1.on b, hI.held.2.on b⟩ (by decide) ⟨fun e => absurd e (by decide), fun _ => s, fun e => absurd e (by decide), fun e => absurd e (by decide)⟩⟩
    | 2, _, hI =>
      refine wpOp_call (vals := #[a.eval (.tmp 21)]) rfl rfl rfl (enters_of Tryd.func36 (by kernel_rfl) rfl) (by simp) ((all_st (hI.cb.2.1 (by decide))).mono ?_)
      rintro e W' ⟨v, rfl, s, b⟩
      exact ⟨v, rfl, hI.stepB b ⟨hI.held.1.on b, hI.held.2.on b⟩ (by decide) ⟨fun e => absurd e (by decide), fun e => absurd e (by decide), fun _ => s, fun e => absurd e (by decide)⟩⟩
    | 3, _, hI =>
      refine wpOp_call (vals := #[a.eval (.tmp 22)]) rfl rfl rfl (enters_of Tryd.func34 (by kernel_rfl) rfl) (by simp) ((copies_st (hI.cb.2.2.1 (by decide))).mono ?_)
      rintro e W' ⟨v, rfl, s, b⟩
      exact ⟨v, rfl, hI.stepB b ⟨hI.held.1.on b, hI.held.2.on b⟩ (by decide) ⟨fun e => absurd e (by decide), fun e => absurd e (by decide), fun e => absurd e (by decide), fun _ => s⟩⟩
  · intro a W hI
    obtain ⟨⟨l⟩, ds⟩ := a
    have hlen : l.length = 24 := by simpa using hI.size
    obtain rfl : ds = [] := hI.defs
    match l, hlen, hI with
    | [t0, t1, t2, t3, t4, t5, t6, t7, t8, t9, t10, t11, t12, t13, t14, t15, t16, t17, t18, t19, t20, t21, t22, t23], _, hI =>
      have s17 : St4 _ t17 W := hI.ca.2.2.2 (by decide)
      have s23 : St4 _ t23 W := hI.cb.2.2.2 (by decide)
      have hS := hI.held
      have hB := hI.below
      clear hI
      iterate 1
        refine take1T 12 4 (v := ?_) rfl rfl (by kernel_rfl) (by kernel_rfl) (by kernel_rfl) (fun _ _ _ h => h) (by kernel_rfl) ?_ hS (by first | (simp only [put_normT]; exact rfl) | exact rfl) ?_
        rotate_left
        · intro W _; go_simp; try (with_reducible rfl)
        refine take1T 13 5 (v := ?_) rfl rfl (by kernel_rfl) (by kernel_rfl) (by kernel_rfl) (fun _ _ _ h => h) (by kernel_rfl) ?_ hS (by first | (simp only [put_normT]; exact rfl) | exact rfl) ?_
        rotate_left
        · intro W _; go_simp; try (with_reducible rfl)
      refine wpAnyH_done (by kernel_rfl) ?_ _
      go_wp2_with fail
      go_ret2
      exact ⟨t17, t23, rfl, s17, s23, hB⟩
  · exact ⟨rfl, rfl, rfl, rfl, rfl, rfl, ⟨hbx, hby⟩, S1.out, S2.out, B3.out, ⟨fun h => absurd h (by decide), fun h => absurd h (by decide), fun h => absurd h (by decide), fun h => absurd h (by decide)⟩, ⟨fun h => absurd h (by decide), fun h => absurd h (by decide), fun h => absurd h (by decide), fun h => absurd h (by decide)⟩⟩
end
end Go.Proofs.YtaogfgohchpnoaaDoor

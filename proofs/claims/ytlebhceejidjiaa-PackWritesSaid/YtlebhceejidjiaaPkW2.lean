/-
  The law PackWrites' own walk.
-/
import Derived.Test.YtlebhceejidjiaaPkWr
import Derived.Test.YtlebhceejidjiaaPkG
namespace Go.Proofs.Ytlebhceejidjiaa
open Go Go.RowKit

open Classical in
/-- The number that tells whether a tuple may be. -/
noncomputable def errT (T : List V3) : Int := if OkT T then 0 else 20
open Classical in
/-- The bytes of a tuple that may be, none of another one. -/
noncomputable def orNil (L : List V3 → List UInt8) (T : List V3) : List UInt8 := if OkT T then L T else []
theorem endT_one {L : List V3 → List UInt8} {T : List V3} {w : World} {e : Ending} {w' : World} (h : EndT L T w e w') : ∃ v, e = .returned (.tuple #[v, .int .i64 (errT T)]) ∧ OwnB w.heap.size w' v (orNil L T) ∧ Below w.heap.size w w' := by
  obtain ⟨hb, ⟨ok, v, rfl, ho⟩ | ⟨no, rfl⟩⟩ := h
  · exact ⟨v, by unfold errT; rw [if_pos ok], by unfold orNil; rw [if_pos ok]; exact ho, hb⟩
  · exact ⟨_, by unfold errT; rw [if_neg no], by unfold orNil; rw [if_neg no]; exact OwnB.nil _ _, hb⟩

set_option maxHeartbeats 1000000 in
set_option maxRecDepth 100000 in
theorem writes_any (x : Nat) (i : Int) (b : Value) (l : List UInt8) (t : Value) (T : List V3) (n : Int) (w : World) (hx : x < 18446744073709551616) (hi : -9223372036854775808 ≤ i ∧ i ≤ 9223372036854775807) (hb : ArgB w b l) (ht : ArgT w t T) (hn : -9223372036854775808 ≤ n ∧ n ≤ 9223372036854775807) :
    Calls Try.prog 3 #[.int .u64 x, .int .i64 i, b, t, .int .i64 n] w fun e w' => e = .returned (.bool true) ∧ Below w.heap.size w w' := by
  have HX := Lib.hid hx
  have HI := Lib.hid hi
  have HAB := Lib.hid hb
  have HAT := Lib.hid ht
  have HN := Lib.hid hn
  have HTI := Lib.hid (fit_I ht)
  clear hx hi hb ht hn
  go_enter Try.func3, Try.ntmps3
  go_wp2_with fail
  refine (cut_arg t T w HAT.out).mono ?_
  rintro e w1 ⟨v1, rfl, ho1, hb1⟩
  have HB1 := Lib.hid hb1
  have HT1 := Lib.hid (ho1.in_ (cutT_small T))
  clear ho1 hb1
  obtain ⟨A, hA⟩ : ∃ A, A = cutT T := ⟨_, rfl⟩
  rw [← hA] at HT1 HTI
  clear hA
  obtain ⟨p1, c1, hv1⟩ : ∃ p c, v1 = .slice p A.length c := by obtain ⟨p, c, e, -⟩ := HT1.out; exact ⟨p, c, e⟩
  subst hv1
  go_wp2_with fail
  refine (short_any b l w1 (HAB.out.below HB1.out)).mono ?_
  rintro e w' ⟨⟨vb, rfl, hbb, -⟩, rfl⟩
  have HL := Lib.hid (shortL_len l)
  obtain ⟨m, hm⟩ : ∃ m, m = shortL l := ⟨_, rfl⟩
  rw [← hm] at hbb HL
  have HBB1 := Lib.hid hbb
  clear hbb hm
  have HG1 : Hid (w1.heap.size ≤ w1.heap.size) := Lib.hid (Nat.le_refl _)
  go_wp2_with fail
  refine (tuple_any _ A _ w1 HT1.out HG1.out HTI.out).mono ?_
  intro e w2 hend
  obtain ⟨z1, rfl, ho, hb⟩ := endT_one hend
  clear hend
  have HB2 := Lib.hid (below_2 HB1.out hb)
  have HO1 := Lib.hid ho
  have HT2 := Lib.hid (HT1.out.below (hb.mono HG1.out))
  have HBB2 := Lib.hid (HBB1.out.below (hb.mono HG1.out))
  have HG2 := Lib.hid (Nat.le_trans HG1.out hb.size)
  clear ho hb
  go_wp2_with fail
  refine (rtuple_any _ A _ w2 HT2.out HG2.out HTI.out).mono ?_
  intro e w3 hend
  obtain ⟨z2, rfl, ho, hb⟩ := endT_one hend
  clear hend
  have HB3 := Lib.hid (below_2 HB2.out hb)
  have HO2 := Lib.hid ho
  have HT3 := Lib.hid (HT2.out.below (hb.mono HG2.out))
  have HBB3 := Lib.hid (HBB2.out.below (hb.mono HG2.out))
  have HG3 := Lib.hid (Nat.le_trans HG2.out hb.size)
  have HO1 := Lib.hid (HO1.out.below hb)
  clear ho hb
  go_wp2_with fail
  refine (counted_any _ A n _ w3 HT3.out HG3.out HTI.out HN.out).mono ?_
  intro e w4 hend
  obtain ⟨z3, rfl, ho, hb⟩ := endT_one hend
  clear hend
  have HB4 := Lib.hid (below_2 HB3.out hb)
  have HO3 := Lib.hid ho
  have HT4 := Lib.hid (HT3.out.below (hb.mono HG3.out))
  have HBB4 := Lib.hid (HBB3.out.below (hb.mono HG3.out))
  have HG4 := Lib.hid (Nat.le_trans HG3.out hb.size)
  have HO1 := Lib.hid (HO1.out.below hb)
  have HO2 := Lib.hid (HO2.out.below hb)
  clear ho hb
  go_wp2_with fail
  refine (rcounted_any _ A n _ w4 HT4.out HG4.out HTI.out HN.out).mono ?_
  intro e w5 hend
  obtain ⟨z4, rfl, ho, hb⟩ := endT_one hend
  clear hend
  have HB5 := Lib.hid (below_2 HB4.out hb)
  have HO4 := Lib.hid ho
  have HT5 := Lib.hid (HT4.out.below (hb.mono HG4.out))
  have HBB5 := Lib.hid (HBB4.out.below (hb.mono HG4.out))
  have HG5 := Lib.hid (Nat.le_trans HG4.out hb.size)
  have HO1 := Lib.hid (HO1.out.below hb)
  have HO2 := Lib.hid (HO2.out.below hb)
  have HO3 := Lib.hid (HO3.out.below hb)
  clear ho hb
  go_wp2_with fail
  refine (key_any _ A _ w5 HT5.out HG5.out HTI.out).mono ?_
  intro e w6 hend
  obtain ⟨z5, rfl, ho, hb⟩ := endT_one hend
  clear hend
  have HB6 := Lib.hid (below_2 HB5.out hb)
  have HO5 := Lib.hid ho
  have HT6 := Lib.hid (HT5.out.below (hb.mono HG5.out))
  have HBB6 := Lib.hid (HBB5.out.below (hb.mono HG5.out))
  have HG6 := Lib.hid (Nat.le_trans HG5.out hb.size)
  have HO1 := Lib.hid (HO1.out.below hb)
  have HO2 := Lib.hid (HO2.out.below hb)
  have HO3 := Lib.hid (HO3.out.below hb)
  have HO4 := Lib.hid (HO4.out.below hb)
  clear ho hb
  go_wp2_with fail
  refine (rkey_any _ A _ w6 HT6.out HG6.out HTI.out).mono ?_
  intro e w7 hend
  obtain ⟨z6, rfl, ho, hb⟩ := endT_one hend
  clear hend
  have HB7 := Lib.hid (below_2 HB6.out hb)
  have HO6 := Lib.hid ho
  have HT7 := Lib.hid (HT6.out.below (hb.mono HG6.out))
  have HBB7 := Lib.hid (HBB6.out.below (hb.mono HG6.out))
  have HG7 := Lib.hid (Nat.le_trans HG6.out hb.size)
  have HO1 := Lib.hid (HO1.out.below hb)
  have HO2 := Lib.hid (HO2.out.below hb)
  have HO3 := Lib.hid (HO3.out.below hb)
  have HO4 := Lib.hid (HO4.out.below hb)
  have HO5 := Lib.hid (HO5.out.below hb)
  clear ho hb
  have G := Lib.hid ((((((((Held.nil w7).put HO1.out.in_).put HO2.out.in_).put HO3.out.in_).put HO4.out.in_).put HO5.out.in_).put HO6.out.in_).drew)
  have HEND := Lib.hid HB7.out
  have HVB := Lib.hid (HBB7.out.mono HG7.out)
  clear HB1 HT1 HBB1 HG1 HB2 HT2 HBB2 HG2 HB3 HT3 HBB3 HG3 HB4 HT4 HBB4 HG4 HB5 HT5 HBB5 HG5 HB6 HT6 HBB6 HG6 HB7 HT7 HBB7 HG7 HO1 HO2 HO3 HO4 HO5 HO6
  obtain ⟨lp, hlp⟩ : ∃ lp, lp = orNil tupL A := ⟨_, rfl⟩
  obtain ⟨lu, hlu⟩ : ∃ lu, lu = orNil (fun T => tupL T ++ intL n) A := ⟨_, rfl⟩
  obtain ⟨lk, hlk⟩ : ∃ lk, lk = orNil keyT A := ⟨_, rfl⟩
  obtain ⟨er, her⟩ : ∃ er, er = errT A := ⟨_, rfl⟩
  rw [← hlp, ← hlu, ← hlk] at G
  rw [← her]
  clear hlp hlu hlk her
  go_wp2_with fail
  dsimp only [List.append]
  refine wp_region_held_drew (S := Held w7 [(z6, lk), (z5, lk), (z4, lu), (z3, lu), (z2, lp), (z1, lp)]) (by kernel_rfl) G.out (fun _ => ?_)
  refine take1 0 61 (v := ?_) rfl rfl (by kernel_rfl) (by kernel_rfl) (by kernel_rfl) (fun _ _ _ h => h) (by kernel_rfl) ?_ G.out (by simp only [put_norm]; exact rfl) ?_
  rotate_left
  · intro W _; go_simp; try (with_reducible rfl)
  refine take1 3 64 (v := ?_) rfl rfl (by kernel_rfl) (by kernel_rfl) (by kernel_rfl) (fun _ _ _ h => h) (by kernel_rfl) ?_ G.out (by simp only [put_norm]; exact rfl) ?_
  rotate_left
  · intro W _; go_simp; try (with_reducible rfl)
  refine wpAnyH_ready (rs := [1]) (by kernel_rfl) (by simp) ?_
  refine AllReadyH.cons rfl (fun K hK => ?_) AllReadyH.nil
  go_simp
  refine (num_any x _ HX.out).mono ?_
  rintro e u1 ⟨y1, rfl, o, b⟩
  have G1 := Lib.hid (G.out.call b o)
  clear o b
  go_wp2_with fail
  refine hK.out _ _ G1.out.tail (fun _ => ?_)
  clear hK K
  refine wpAnyH_more G1.out ?_
  refine take1 2 63 rfl rfl (by kernel_rfl) (by kernel_rfl) (by kernel_rfl) (fun _ _ _ h => h) (by kernel_rfl) (fun W hW => exec_str rfl rfl (hW.at_ 0 rfl)) G1.out (by simp only [put_norm]; exact rfl) ?_
  refine wpAnyH_ready (rs := [4]) (by kernel_rfl) (by simp) ?_
  refine AllReadyH.cons rfl (fun K hK => ?_) AllReadyH.nil
  go_simp
  refine (rnum_any x _ HX.out).mono ?_
  rintro e u2 ⟨y2, rfl, o, b⟩
  have G2 := Lib.hid (G1.out.call b o)
  clear o b
  go_wp2_with fail
  refine hK.out _ _ G2.out.tail (fun _ => ?_)
  clear hK K
  refine wpAnyH_more G2.out ?_
  refine take1 5 66 rfl rfl (by kernel_rfl) (by kernel_rfl) (by kernel_rfl) (fun _ _ _ h => h) (by kernel_rfl) (fun W hW => exec_str rfl rfl (hW.at_ 0 rfl)) G2.out (by simp only [put_norm]; exact rfl) ?_
  refine take1 6 67 (v := ?_) rfl rfl (by kernel_rfl) (by kernel_rfl) (by kernel_rfl) (fun _ _ _ h => h) (by kernel_rfl) ?_ G2.out (by simp only [put_norm]; exact rfl) ?_
  rotate_left
  · intro W _; go_simp; try (with_reducible rfl)
  refine take1 7 68 (v := ?_) rfl rfl (by kernel_rfl) (by kernel_rfl) (by kernel_rfl) (fun _ _ _ h => h) (by kernel_rfl) ?_ G2.out (by simp only [put_norm]; exact rfl) ?_
  rotate_left
  · intro W _; go_simp; try (with_reducible rfl)
  refine take1 8 69 (v := ?_) rfl rfl (by kernel_rfl) (by kernel_rfl) (by kernel_rfl) (fun _ _ _ h => h) (by kernel_rfl) ?_ G2.out (by simp only [put_norm]; exact rfl) ?_
  rotate_left
  · intro W _; go_simp; try (with_reducible rfl)
  refine take1 11 72 (v := ?_) rfl rfl (by kernel_rfl) (by kernel_rfl) (by kernel_rfl) (fun _ _ _ h => h) (by kernel_rfl) ?_ G2.out (by simp only [put_norm]; exact rfl) ?_
  rotate_left
  · intro W _; go_simp; try (with_reducible rfl)
  refine wpAnyH_ready (rs := [9]) (by kernel_rfl) (by simp) ?_
  refine AllReadyH.cons rfl (fun K hK => ?_) AllReadyH.nil
  go_simp
  refine (int_any i _ HI.out).mono ?_
  rintro e u3 ⟨y3, rfl, o, b⟩
  have G3 := Lib.hid (G2.out.call b o)
  clear o b
  go_wp2_with fail
  refine hK.out _ _ G3.out.tail (fun _ => ?_)
  clear hK K
  refine wpAnyH_more G3.out ?_
  refine take1 10 71 rfl rfl (by kernel_rfl) (by kernel_rfl) (by kernel_rfl) (fun _ _ _ h => h) (by kernel_rfl) (fun W hW => exec_str rfl rfl (hW.at_ 0 rfl)) G3.out (by simp only [put_norm]; exact rfl) ?_
  refine wpAnyH_ready (rs := [12]) (by kernel_rfl) (by simp) ?_
  refine AllReadyH.cons rfl (fun K hK => ?_) AllReadyH.nil
  go_simp
  refine (rint_any i _ HI.out).mono ?_
  rintro e u4 ⟨y4, rfl, o, b⟩
  have G4 := Lib.hid (G3.out.call b o)
  clear o b
  go_wp2_with fail
  refine hK.out _ _ G4.out.tail (fun _ => ?_)
  clear hK K
  refine wpAnyH_more G4.out ?_
  refine take1 13 74 rfl rfl (by kernel_rfl) (by kernel_rfl) (by kernel_rfl) (fun _ _ _ h => h) (by kernel_rfl) (fun W hW => exec_str rfl rfl (hW.at_ 0 rfl)) G4.out (by simp only [put_norm]; exact rfl) ?_
  refine take1 14 75 (v := ?_) rfl rfl (by kernel_rfl) (by kernel_rfl) (by kernel_rfl) (fun _ _ _ h => h) (by kernel_rfl) ?_ G4.out (by simp only [put_norm]; exact rfl) ?_
  rotate_left
  · intro W _; go_simp; try (with_reducible rfl)
  refine take1 15 76 (v := ?_) rfl rfl (by kernel_rfl) (by kernel_rfl) (by kernel_rfl) (fun _ _ _ h => h) (by kernel_rfl) ?_ G4.out (by simp only [put_norm]; exact rfl) ?_
  rotate_left
  · intro W _; go_simp; try (with_reducible rfl)
  refine take1 16 77 (v := ?_) rfl rfl (by kernel_rfl) (by kernel_rfl) (by kernel_rfl) (fun _ _ _ h => h) (by kernel_rfl) ?_ G4.out (by simp only [put_norm]; exact rfl) ?_
  rotate_left
  · intro W _; go_simp; try (with_reducible rfl)
  refine take1 17 78 (v := ?_) rfl rfl (by kernel_rfl) (by kernel_rfl) (by kernel_rfl) (fun _ _ _ h => h) (by kernel_rfl) ?_ G4.out (by simp only [put_norm]; exact rfl) ?_
  rotate_left
  · intro W _; go_simp; try (with_reducible rfl)
  refine take1 20 81 (v := ?_) rfl rfl (by kernel_rfl) (by kernel_rfl) (by kernel_rfl) (fun _ _ _ h => h) (by kernel_rfl) ?_ G4.out (by simp only [put_norm]; exact rfl) ?_
  rotate_left
  · intro W _; go_simp; try (with_reducible rfl)
  refine wpAnyH_ready (rs := [18]) (by kernel_rfl) (by simp) ?_
  refine AllReadyH.cons rfl (fun K hK => ?_) AllReadyH.nil
  go_simp
  refine (text_any _ m _ _ (G4.out.old HVB.out (Nat.le_refl _)) G4.out.below.size (Nat.le_trans HL.out (by decide))).mono ?_
  rintro e u5 ⟨y5, rfl, o, b⟩
  have G5 := Lib.hid (G4.out.call b o)
  clear o b
  go_wp2_with fail
  refine hK.out _ _ G5.out.tail (fun _ => ?_)
  clear hK K
  refine wpAnyH_more G5.out ?_
  refine take1 19 80 rfl rfl (by kernel_rfl) (by kernel_rfl) (by kernel_rfl) (fun _ _ _ h => h) (by kernel_rfl) (fun W hW => exec_str rfl rfl (hW.at_ 0 rfl)) G5.out (by simp only [put_norm]; exact rfl) ?_
  refine wpAnyH_ready (rs := [21]) (by kernel_rfl) (by simp) ?_
  refine AllReadyH.cons rfl (fun K hK => ?_) AllReadyH.nil
  go_simp
  refine (rtext_any _ m _ _ (G5.out.old HVB.out (Nat.le_refl _)) G5.out.below.size (Nat.le_trans HL.out (by decide))).mono ?_
  rintro e u6 ⟨y6, rfl, o, b⟩
  have G6 := Lib.hid (G5.out.call b o)
  clear o b
  go_wp2_with fail
  refine hK.out _ _ G6.out.tail (fun _ => ?_)
  clear hK K
  refine wpAnyH_more G6.out ?_
  refine take1 22 83 rfl rfl (by kernel_rfl) (by kernel_rfl) (by kernel_rfl) (fun _ _ _ h => h) (by kernel_rfl) (fun W hW => exec_str rfl rfl (hW.at_ 0 rfl)) G6.out (by simp only [put_norm]; exact rfl) ?_
  refine take1 23 84 (v := ?_) rfl rfl (by kernel_rfl) (by kernel_rfl) (by kernel_rfl) (fun _ _ _ h => h) (by kernel_rfl) ?_ G6.out (by simp only [put_norm]; exact rfl) ?_
  rotate_left
  · intro W _; go_simp; try (with_reducible rfl)
  refine take1 24 85 (v := ?_) rfl rfl (by kernel_rfl) (by kernel_rfl) (by kernel_rfl) (fun _ _ _ h => h) (by kernel_rfl) ?_ G6.out (by simp only [put_norm]; exact rfl) ?_
  rotate_left
  · intro W _; go_simp; try (with_reducible rfl)
  refine take1 25 86 (v := ?_) rfl rfl (by kernel_rfl) (by kernel_rfl) (by kernel_rfl) (fun _ _ _ h => h) (by kernel_rfl) ?_ G6.out (by simp only [put_norm]; exact rfl) ?_
  rotate_left
  · intro W _; go_simp; try (with_reducible rfl)
  refine take1 26 87 (v := ?_) rfl rfl (by kernel_rfl) (by kernel_rfl) (by kernel_rfl) (fun _ _ _ h => h) (by kernel_rfl) ?_ G6.out (by simp only [put_norm]; exact rfl) ?_
  rotate_left
  · intro W _; go_simp; try (with_reducible rfl)
  refine take1 27 88 rfl rfl (by kernel_rfl) (by kernel_rfl) (by kernel_rfl) (fun _ _ _ h => h) (by kernel_rfl) (fun W hW => exec_str rfl rfl (hW.at_ 11 rfl)) G6.out (by simp only [put_norm]; exact rfl) ?_
  refine take1 28 89 (v := ?_) rfl rfl (by kernel_rfl) (by kernel_rfl) (by kernel_rfl) (fun _ _ _ h => h) (by kernel_rfl) ?_ G6.out (by simp only [put_norm]; exact rfl) ?_
  rotate_left
  · intro W _; go_simp; try (with_reducible rfl)
  refine take1 29 90 rfl rfl (by kernel_rfl) (by kernel_rfl) (by kernel_rfl) (fun _ _ _ h => h) (by kernel_rfl) (fun W hW => exec_str rfl rfl (hW.at_ 10 rfl)) G6.out (by simp only [put_norm]; exact rfl) ?_
  refine take1 30 91 (v := ?_) rfl rfl (by kernel_rfl) (by kernel_rfl) (by kernel_rfl) (fun _ _ _ h => h) (by kernel_rfl) ?_ G6.out (by simp only [put_norm]; exact rfl) ?_
  rotate_left
  · intro W _; go_simp; try (with_reducible rfl)
  refine take1 31 92 (v := ?_) rfl rfl (by kernel_rfl) (by kernel_rfl) (by kernel_rfl) (fun _ _ _ h => h) (by kernel_rfl) ?_ G6.out (by simp only [put_norm]; exact rfl) ?_
  rotate_left
  · intro W _; go_simp; try (with_reducible rfl)
  refine take1 32 93 (v := ?_) rfl rfl (by kernel_rfl) (by kernel_rfl) (by kernel_rfl) (fun _ _ _ h => h) (by kernel_rfl) ?_ G6.out (by simp only [put_norm]; exact rfl) ?_
  rotate_left
  · intro W _; go_simp; try (with_reducible rfl)
  refine take1 33 94 (v := ?_) rfl rfl (by kernel_rfl) (by kernel_rfl) (by kernel_rfl) (fun _ _ _ h => h) (by kernel_rfl) ?_ G6.out (by simp only [put_norm]; exact rfl) ?_
  rotate_left
  · intro W _; go_simp; try (with_reducible rfl)
  refine take1 34 95 (v := ?_) rfl rfl (by kernel_rfl) (by kernel_rfl) (by kernel_rfl) (fun _ _ _ h => h) (by kernel_rfl) ?_ G6.out (by simp only [put_norm]; exact rfl) ?_
  rotate_left
  · intro W _; go_simp; try (with_reducible rfl)
  refine take1 35 96 (v := ?_) rfl rfl (by kernel_rfl) (by kernel_rfl) (by kernel_rfl) (fun _ _ _ h => h) (by kernel_rfl) ?_ G6.out (by simp only [put_norm]; exact rfl) ?_
  rotate_left
  · intro W _; go_simp; try (with_reducible rfl)
  refine take1 36 97 (v := ?_) rfl rfl (by kernel_rfl) (by kernel_rfl) (by kernel_rfl) (fun _ _ _ h => h) (by kernel_rfl) ?_ G6.out (by simp only [put_norm]; exact rfl) ?_
  rotate_left
  · intro W _; go_simp; try (with_reducible rfl)
  refine take1 37 98 (v := ?_) rfl rfl (by kernel_rfl) (by kernel_rfl) (by kernel_rfl) (fun _ _ _ h => h) (by kernel_rfl) ?_ G6.out (by simp only [put_norm]; exact rfl) ?_
  rotate_left
  · intro W _; go_simp; try (with_reducible rfl)
  refine take1 38 99 (v := ?_) rfl rfl (by kernel_rfl) (by kernel_rfl) (by kernel_rfl) (fun _ _ _ h => h) (by kernel_rfl) ?_ G6.out (by simp only [put_norm]; exact rfl) ?_
  rotate_left
  · intro W _; go_simp; try (with_reducible rfl)
  refine take1 39 100 rfl rfl (by kernel_rfl) (by kernel_rfl) (by kernel_rfl) (fun _ _ _ h => h) (by kernel_rfl) (fun W hW => exec_str rfl rfl (hW.at_ 9 rfl)) G6.out (by simp only [put_norm]; exact rfl) ?_
  refine take1 40 101 (v := ?_) rfl rfl (by kernel_rfl) (by kernel_rfl) (by kernel_rfl) (fun _ _ _ h => h) (by kernel_rfl) ?_ G6.out (by simp only [put_norm]; exact rfl) ?_
  rotate_left
  · intro W _; go_simp; try (with_reducible rfl)
  refine take1 41 102 rfl rfl (by kernel_rfl) (by kernel_rfl) (by kernel_rfl) (fun _ _ _ h => h) (by kernel_rfl) (fun W hW => exec_str rfl rfl (hW.at_ 8 rfl)) G6.out (by simp only [put_norm]; exact rfl) ?_
  refine take1 42 103 (v := ?_) rfl rfl (by kernel_rfl) (by kernel_rfl) (by kernel_rfl) (fun _ _ _ h => h) (by kernel_rfl) ?_ G6.out (by simp only [put_norm]; exact rfl) ?_
  rotate_left
  · intro W _; go_simp; try (with_reducible rfl)
  refine take1 43 104 (v := ?_) rfl rfl (by kernel_rfl) (by kernel_rfl) (by kernel_rfl) (fun _ _ _ h => h) (by kernel_rfl) ?_ G6.out (by simp only [put_norm]; exact rfl) ?_
  rotate_left
  · intro W _; go_simp; try (with_reducible rfl)
  refine take1 44 105 (v := ?_) rfl rfl (by kernel_rfl) (by kernel_rfl) (by kernel_rfl) (fun _ _ _ h => h) (by kernel_rfl) ?_ G6.out (by simp only [put_norm]; exact rfl) ?_
  rotate_left
  · intro W _; go_simp; try (with_reducible rfl)
  refine take1 45 106 (v := ?_) rfl rfl (by kernel_rfl) (by kernel_rfl) (by kernel_rfl) (fun _ _ _ h => h) (by kernel_rfl) ?_ G6.out (by simp only [put_norm]; exact rfl) ?_
  rotate_left
  · intro W _; go_simp; try (with_reducible rfl)
  refine take1 46 107 (v := ?_) rfl rfl (by kernel_rfl) (by kernel_rfl) (by kernel_rfl) (fun _ _ _ h => h) (by kernel_rfl) ?_ G6.out (by simp only [put_norm]; exact rfl) ?_
  rotate_left
  · intro W _; go_simp; try (with_reducible rfl)
  refine take1 47 108 (v := ?_) rfl rfl (by kernel_rfl) (by kernel_rfl) (by kernel_rfl) (fun _ _ _ h => h) (by kernel_rfl) ?_ G6.out (by simp only [put_norm]; exact rfl) ?_
  rotate_left
  · intro W _; go_simp; try (with_reducible rfl)
  refine take1 48 109 (v := ?_) rfl rfl (by kernel_rfl) (by kernel_rfl) (by kernel_rfl) (fun _ _ _ h => h) (by kernel_rfl) ?_ G6.out (by simp only [put_norm]; exact rfl) ?_
  rotate_left
  · intro W _; go_simp; try (with_reducible rfl)
  refine take1 49 110 (v := ?_) rfl rfl (by kernel_rfl) (by kernel_rfl) (by kernel_rfl) (fun _ _ _ h => h) (by kernel_rfl) ?_ G6.out (by simp only [put_norm]; exact rfl) ?_
  rotate_left
  · intro W _; go_simp; try (with_reducible rfl)
  refine take1 50 111 (v := ?_) rfl rfl (by kernel_rfl) (by kernel_rfl) (by kernel_rfl) (fun _ _ _ h => h) (by kernel_rfl) ?_ G6.out (by simp only [put_norm]; exact rfl) ?_
  rotate_left
  · intro W _; go_simp; try (with_reducible rfl)
  refine take1 51 112 rfl rfl (by kernel_rfl) (by kernel_rfl) (by kernel_rfl) (fun _ _ _ h => h) (by kernel_rfl) (fun W hW => exec_str rfl rfl (hW.at_ 7 rfl)) G6.out (by simp only [put_norm]; exact rfl) ?_
  refine take1 52 113 (v := ?_) rfl rfl (by kernel_rfl) (by kernel_rfl) (by kernel_rfl) (fun _ _ _ h => h) (by kernel_rfl) ?_ G6.out (by simp only [put_norm]; exact rfl) ?_
  rotate_left
  · intro W _; go_simp; try (with_reducible rfl)
  refine take1 53 114 rfl rfl (by kernel_rfl) (by kernel_rfl) (by kernel_rfl) (fun _ _ _ h => h) (by kernel_rfl) (fun W hW => exec_str rfl rfl (hW.at_ 6 rfl)) G6.out (by simp only [put_norm]; exact rfl) ?_
  refine take1 54 115 (v := ?_) rfl rfl (by kernel_rfl) (by kernel_rfl) (by kernel_rfl) (fun _ _ _ h => h) (by kernel_rfl) ?_ G6.out (by simp only [put_norm]; exact rfl) ?_
  rotate_left
  · intro W _; go_simp; try (with_reducible rfl)
  refine take1 55 116 (v := ?_) rfl rfl (by kernel_rfl) (by kernel_rfl) (by kernel_rfl) (fun _ _ _ h => h) (by kernel_rfl) ?_ G6.out (by simp only [put_norm]; exact rfl) ?_
  rotate_left
  · intro W _; go_simp; try (with_reducible rfl)
  refine take1 56 117 (v := ?_) rfl rfl (by kernel_rfl) (by kernel_rfl) (by kernel_rfl) (fun _ _ _ h => h) (by kernel_rfl) ?_ G6.out (by simp only [put_norm]; exact rfl) ?_
  rotate_left
  · intro W _; go_simp; try (with_reducible rfl)
  refine take1 57 118 (v := ?_) rfl rfl (by kernel_rfl) (by kernel_rfl) (by kernel_rfl) (fun _ _ _ h => h) (by kernel_rfl) ?_ G6.out (by simp only [put_norm]; exact rfl) ?_
  rotate_left
  · intro W _; go_simp; try (with_reducible rfl)
  refine take1 58 119 (v := ?_) rfl rfl (by kernel_rfl) (by kernel_rfl) (by kernel_rfl) (fun _ _ _ h => h) (by kernel_rfl) ?_ G6.out (by simp only [put_norm]; exact rfl) ?_
  rotate_left
  · intro W _; go_simp; try (with_reducible rfl)
  refine take1 59 120 (v := ?_) rfl rfl (by kernel_rfl) (by kernel_rfl) (by kernel_rfl) (fun _ _ _ h => h) (by kernel_rfl) ?_ G6.out (by simp only [put_norm]; exact rfl) ?_
  rotate_left
  · intro W _; go_simp; try (with_reducible rfl)
  refine take1 60 121 (v := ?_) rfl rfl (by kernel_rfl) (by kernel_rfl) (by kernel_rfl) (fun _ _ _ h => h) (by kernel_rfl) ?_ G6.out (by simp only [put_norm]; exact rfl) ?_
  rotate_left
  · intro W _; go_simp; try (with_reducible rfl)
  refine take1 61 122 (v := ?_) rfl rfl (by kernel_rfl) (by kernel_rfl) (by kernel_rfl) (fun _ _ _ h => h) (by kernel_rfl) ?_ G6.out (by simp only [put_norm]; exact rfl) ?_
  rotate_left
  · intro W _; go_simp; try (with_reducible rfl)
  refine wpAnyH_ready (rs := [62]) (by kernel_rfl) (by simp) ?_
  refine AllReadyH.cons rfl (fun K hK => ?_) AllReadyH.nil
  go_simp
  refine (alive_true _).mono ?_
  rintro e u7 ⟨rfl, b⟩
  have G7 := Lib.hid (G6.out.on b)
  clear b
  go_wp2_with fail
  refine hK.out _ _ G7.out.self (fun _ => ?_)
  clear hK K
  refine take1 63 124 (v := ?_) rfl rfl (by kernel_rfl) (by kernel_rfl) (by kernel_rfl) (fun _ _ _ h => h) (by kernel_rfl) ?_ G7.out (by simp only [put_norm]; exact rfl) ?_
  rotate_left
  · intro W _; go_simp; try (with_reducible rfl)
  refine take1 64 10 (v := ?_) rfl rfl (by kernel_rfl) (by kernel_rfl) (by kernel_rfl) (fun _ _ _ h => h) (by kernel_rfl) ?_ G7.out (by simp only [put_norm]; exact rfl) ?_
  rotate_left
  · intro W _; go_simp; try (with_reducible rfl)
  refine wpAnyH_done (by kernel_rfl) ?_ _
  go_wp2
  go_ret
  exact ⟨by simp, below_2 HEND.out G7.out.below⟩
end Go.Proofs.Ytlebhceejidjiaa

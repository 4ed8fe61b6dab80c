/-
  The law PackApart's own walk.
-/
import Derived.Test.YtlebhceejidjiaaPkB
import Derived.Test.YtlebhceejidjiaaPkO
namespace Go.Proofs.Ytlebhceejidjiaa
open Go Go.RowKit

theorem begins_val (v1 v2 : Value) (l m : List UInt8) (r : Bool) (w : World) (hr : begB l m = r) (h1 : BytIn w.heap.size w v1 l) (h2 : BytIn w.heap.size w v2 m) (hc : ∃ p c, v2 = .slice p m.length c ∧ m.length ≤ c) (h0 : 0 < l.length) (b1 : l.length ≤ 2000000) (b2 : m.length ≤ 2000000) :
    Calls Try.prog 40 #[v1, v2] w fun e w' => e = .returned (.bool r) ∧ Below w.heap.size w w' := by
  rw [← hr]
  exact begins_any v1 v2 l m w h1 h2 hc h0 b1 b2
theorem num_small {x : Nat} (h : x < 18446744073709551616) : (numL x).length ≤ 2000000 := Nat.le_trans (numL_len10 h) (by decide)
theorem text_pos (l : List UInt8) : 0 < (textL l).length := by unfold textL; rw [List.length_append]; have := numL_pos l.length; omega
theorem text_small {l : List UInt8} (h : l.length ≤ 1000000) : (textL l).length ≤ 2000000 := by
  unfold textL
  rw [List.length_append]
  have := numL_len10 (x := l.length) (by omega)
  omega
theorem tup_small {T : List V3} (h : OkT T) (hI : AllI T) : (tupL T).length ≤ 2000000 := by
  have h1 := flat_len (f := oneL) (T := T) fun x hx => oneL_len (h.2 x hx) (hI x hx)
  have h3 := h.1
  unfold tupL
  rw [List.length_cons]
  omega
theorem isV_one {x : V3} (h : IsV x.k x.n x.s) : OneV x := by
  rcases h with ⟨h1, h2⟩ | ⟨h1, h2, -⟩
  · exact .inl ⟨h1, h2⟩
  · exact .inr ⟨h1, h2⟩
theorem tup_begs {A B : List V3} (ha : OkT A) (hb : OkT B) : begB (tupL A) (tupL B) = (cmpT A B == 0) := by
  rw [tup_beg (fun x hx => isV_one (ha.2 x hx)) (fun x hx => isV_one (hb.2 x hx)) ha.1 hb.1, Bool.eq_iff_iff]
  simp

set_option maxHeartbeats 2000000 in
set_option maxRecDepth 100000 in
theorem apart_any (x y : Nat) (a : Value) (l1 : List UInt8) (b : Value) (l2 : List UInt8) (t : Value) (T1 : List V3) (u : Value) (T2 : List V3) (w : World) (hx : x < 18446744073709551616) (hy : y < 18446744073709551616) (ha : ArgB w a l1) (hb : ArgB w b l2) (ht : ArgT w t T1) (hu : ArgT w u T2) :
    Calls Try.prog 9 #[.int .u64 x, .int .u64 y, a, b, t, u] w fun e w' => e = .returned (.bool true) ∧ Below w.heap.size w w' := by
  have HX := Lib.hid hx
  have HY := Lib.hid hy
  have HA := Lib.hid ha
  have HB := Lib.hid hb
  have HT := Lib.hid ht
  have HU := Lib.hid hu
  have I1 := Lib.hid (fit_I ht)
  have I2 := Lib.hid (fit_I hu)
  clear hx hy ha hb ht hu
  go_enter Try.func9, Try.ntmps9
  go_wp2_with fail
  refine (short_any a l1 w HA.out).mono ?_
  rintro e w' ⟨⟨va, rfl, hva, -⟩, rfl⟩
  have HVA := Lib.hid hva
  have HLA := Lib.hid (Nat.le_trans (shortL_len l1) (by decide : 3000 ≤ 1000000))
  obtain ⟨la, hla⟩ : ∃ la, la = shortL l1 := ⟨_, rfl⟩
  rw [← hla] at HVA HLA
  clear hva hla
  go_wp2_with fail
  refine (short_any b l2 w HB.out).mono ?_
  rintro e w' ⟨⟨vb, rfl, hvb, -⟩, rfl⟩
  have HVB := Lib.hid hvb
  have HLB := Lib.hid (Nat.le_trans (shortL_len l2) (by decide : 3000 ≤ 1000000))
  obtain ⟨lb, hlb⟩ : ∃ lb, lb = shortL l2 := ⟨_, rfl⟩
  rw [← hlb] at HVB HLB
  clear hvb hlb
  go_wp2_with fail
  refine (cut_arg t T1 w HT.out).mono ?_
  rintro e w1 ⟨v1, rfl, ho1, hb1⟩
  have HO1 := Lib.hid ho1
  have HB1 := Lib.hid hb1
  clear ho1 hb1
  go_wp2_with fail
  refine (cut_arg u T2 w1 (HU.out.below HB1.out)).mono ?_
  rintro e w2 ⟨v2, rfl, ho2, hb2⟩
  have H1 := Lib.hid ((HO1.out.below hb2).in_ (cutT_small T1))
  have H2 := Lib.hid (ho2.in_ (cutT_small T2))
  have HB2 := Lib.hid (below_2 HB1.out hb2)
  clear ho2 hb2
  obtain ⟨A, hA⟩ : ∃ A, A = cutT T1 := ⟨_, rfl⟩
  obtain ⟨B, hB⟩ : ∃ B, B = cutT T2 := ⟨_, rfl⟩
  rw [← hA] at H1 I1
  rw [← hB] at H2 I2
  clear hA hB HO1 HB1
  have G := Lib.hid (((Held.nil w2).put ((HVA.out.below HB2.out).mono HB2.out.size)).put ((HVB.out.below HB2.out).mono HB2.out.size)).drew
  obtain ⟨bx, hbx⟩ : ∃ bx : Bool, bx = decide (x = y) := ⟨_, rfl⟩
  obtain ⟨bt, hbt⟩ : ∃ bt : Bool, bt = decide (la = lb) := ⟨_, rfl⟩
  have HNB : Hid (begB (numL x) (numL y) = bx) := Lib.hid (by rw [num_beg, hbx])
  have HTB : Hid (begB (textL la) (textL lb) = bt) := Lib.hid (by rw [text_beg, hbt])
  have e1 : ((x : Int) == (y : Int)) = bx := by rw [hbx, Bool.eq_iff_iff]; simp; omega
  have e2 : decide ((x : Int) = (y : Int)) = bx := by rw [hbx, Bool.eq_iff_iff]; simp; omega
  have e3 : decide (x = y) = bx := hbx.symm
  have e4 : (x == y) = bx := by rw [hbx, Bool.eq_iff_iff]; simp
  have e5 : (la == lb) = bt := by rw [hbt, Bool.eq_iff_iff]; simp
  have e6 : decide (la = lb) = bt := hbt.symm
  clear hbx hbt
  go_wp2_with fail
  refine wp_region_held_drew (S := Held w2 [(vb, lb), (va, la)]) (by kernel_rfl) G.out (fun _ => ?_)
  refine take1 0 25 (v := ?_) rfl rfl (by kernel_rfl) (by kernel_rfl) (by kernel_rfl) (fun _ _ _ h => h) (by kernel_rfl) ?_ G.out (by simp only [put_norm]; exact rfl) ?_
  rotate_left
  · intro W _; go_simp; try (with_reducible rfl)
  refine take1 2 27 (v := ?_) rfl rfl (by kernel_rfl) (by kernel_rfl) (by kernel_rfl) (fun _ _ _ h => h) (by kernel_rfl) ?_ G.out (by simp only [put_norm]; exact rfl) ?_
  rotate_left
  · intro W _; go_simp; try (with_reducible rfl)
  refine take1 5 30 (v := ?_) rfl rfl (by kernel_rfl) (by kernel_rfl) (by kernel_rfl) (fun _ _ _ h => h) (by kernel_rfl) ?_ G.out (by simp only [put_norm]; exact rfl) ?_
  rotate_left
  · intro W _; go_simp; try (with_reducible rfl)
  refine take1 6 31 (v := ?_) rfl rfl (by kernel_rfl) (by kernel_rfl) (by kernel_rfl) (fun _ _ _ h => h) (by kernel_rfl) ?_ G.out (by simp only [put_norm]; exact rfl) ?_
  rotate_left
  · intro W _; go_simp; try (with_reducible rfl)
  refine take1 7 32 (v := ?_) rfl rfl (by kernel_rfl) (by kernel_rfl) (by kernel_rfl) (fun _ _ _ h => h) (by kernel_rfl) ?_ G.out (by simp only [put_norm]; exact rfl) ?_
  rotate_left
  · intro W _; go_simp; try (with_reducible rfl)
  refine wpAnyH_ready (rs := [1]) (by kernel_rfl) (by simp) ?_
  refine AllReadyH.cons rfl (fun K hK => ?_) AllReadyH.nil
  go_simp
  refine (num_any x _ HX.out).mono ?_
  rintro e u1 ⟨y1, rfl, o, b⟩
  have G1 := Lib.hid (G.out.call b o)
  have C1 := Lib.hid o.cap
  clear o b
  go_wp2_with fail
  refine hK.out _ _ G1.out.tail (fun _ => ?_)
  clear hK K
  refine wpAnyH_more G1.out ?_
  refine wpAnyH_ready (rs := [3]) (by kernel_rfl) (by simp) ?_
  refine AllReadyH.cons rfl (fun K hK => ?_) AllReadyH.nil
  go_simp
  refine (num_any y _ HY.out).mono ?_
  rintro e u2 ⟨y2, rfl, o, b⟩
  have G2 := Lib.hid (G1.out.call b o)
  have C2 := Lib.hid o.cap
  clear o b
  go_wp2_with fail
  refine hK.out _ _ G2.out.tail (fun _ => ?_)
  clear hK K
  refine wpAnyH_more G2.out ?_
  refine wpAnyH_ready (rs := [4]) (by kernel_rfl) (by simp) ?_
  refine AllReadyH.cons rfl (fun K hK => ?_) AllReadyH.nil
  go_simp
  refine (begins_val y1 y2 (numL x) (numL y) bx _ HNB.out (G2.out.at_ 1 rfl) (G2.out.at_ 0 rfl) C2.out (numL_pos x) (num_small HX.out) (num_small HY.out)).mono ?_
  rintro e u3 ⟨rfl, b⟩
  have G3 := Lib.hid (G2.out.on b)
  clear b
  go_wp2_with fail
  refine hK.out _ _ G3.out.self (fun _ => ?_)
  clear hK K
  refine take1 8 33 (v := ?_) rfl rfl (by kernel_rfl) (by kernel_rfl) (by kernel_rfl) (fun _ _ _ h => h) (by kernel_rfl) ?_ G3.out (by simp only [put_norm]; exact rfl) ?_
  rotate_left
  · intro W _; go_simp; try (with_reducible rfl)
  refine take1 9 34 (v := ?_) rfl rfl (by kernel_rfl) (by kernel_rfl) (by kernel_rfl) (fun _ _ _ h => h) (by kernel_rfl) ?_ G3.out (by simp only [put_norm]; exact rfl) ?_
  rotate_left
  · intro W _; go_simp; try (with_reducible rfl)
  refine take1 10 35 (v := ?_) rfl rfl (by kernel_rfl) (by kernel_rfl) (by kernel_rfl) (fun _ _ _ h => h) (by kernel_rfl) ?_ G3.out (by simp only [put_norm]; exact rfl) ?_
  rotate_left
  · intro W _; go_simp; try (with_reducible rfl)
  refine take1 12 37 (v := ?_) rfl rfl (by kernel_rfl) (by kernel_rfl) (by kernel_rfl) (fun _ _ _ h => h) (by kernel_rfl) ?_ G3.out (by simp only [put_norm]; exact rfl) ?_
  rotate_left
  · intro W _; go_simp; try (with_reducible rfl)
  refine take1 15 40 (v := ?_) rfl rfl (by kernel_rfl) (by kernel_rfl) (by kernel_rfl) (fun _ _ _ h => h) (by kernel_rfl) ?_ G3.out (by simp only [put_norm]; exact rfl) ?_
  rotate_left
  · intro W _; go_simp; try (with_reducible rfl)
  refine take1 17 42 (v := ?_) rfl rfl (by kernel_rfl) (by kernel_rfl) (by kernel_rfl) (fun _ _ _ h => h) (by kernel_rfl) ?_ G3.out (by simp only [put_norm]; exact rfl) ?_
  rotate_left
  · intro W _; go_simp; try (with_reducible rfl)
  refine take1 16 41 rfl rfl (by kernel_rfl) (by kernel_rfl) (by kernel_rfl) (fun _ _ _ h => h) (by kernel_rfl) (fun W hW => exec_str rfl rfl (hW.at_ 3 rfl)) G3.out (by simp only [put_norm]; exact rfl) ?_
  refine take1 18 43 rfl rfl (by kernel_rfl) (by kernel_rfl) (by kernel_rfl) (fun _ _ _ h => h) (by kernel_rfl) (fun W hW => exec_str rfl rfl (hW.at_ 2 rfl)) G3.out (by simp only [put_norm]; exact rfl) ?_
  refine take1 19 44 (v := ?_) rfl rfl (by kernel_rfl) (by kernel_rfl) (by kernel_rfl) (fun _ _ _ h => h) (by kernel_rfl) ?_ G3.out (by simp only [put_norm]; exact rfl) ?_
  rotate_left
  · intro W _; go_simp; try (with_reducible rfl)
  refine wpAnyH_ready (rs := [11]) (by kernel_rfl) (by simp) ?_
  refine AllReadyH.cons rfl (fun K hK => ?_) AllReadyH.nil
  go_simp
  refine (text_any va la _ _ (G3.out.at_ 3 rfl) (Nat.le_refl _) HLA.out).mono ?_
  rintro e u4 ⟨y4, rfl, o, b⟩
  have G4 := Lib.hid (G3.out.call b o)
  have C4 := Lib.hid o.cap
  clear o b
  go_wp2_with fail
  refine hK.out _ _ G4.out.tail (fun _ => ?_)
  clear hK K
  refine wpAnyH_more G4.out ?_
  refine wpAnyH_ready (rs := [13]) (by kernel_rfl) (by simp) ?_
  refine AllReadyH.cons rfl (fun K hK => ?_) AllReadyH.nil
  go_simp
  refine (text_any vb lb _ _ (G4.out.at_ 3 rfl) (Nat.le_refl _) HLB.out).mono ?_
  rintro e u5 ⟨y5, rfl, o, b⟩
  have G5 := Lib.hid (G4.out.call b o)
  have C5 := Lib.hid o.cap
  clear o b
  go_wp2_with fail
  refine hK.out _ _ G5.out.tail (fun _ => ?_)
  clear hK K
  refine wpAnyH_more G5.out ?_
  refine wpAnyH_ready (rs := [14]) (by kernel_rfl) (by simp) ?_
  refine AllReadyH.cons rfl (fun K hK => ?_) AllReadyH.nil
  go_simp
  refine (begins_val y4 y5 (textL la) (textL lb) bt _ HTB.out (G5.out.at_ 1 rfl) (G5.out.at_ 0 rfl) C5.out (text_pos la) (text_small HLA.out) (text_small HLB.out)).mono ?_
  rintro e u6 ⟨rfl, b⟩
  have G6 := Lib.hid (G5.out.on b)
  clear b
  go_wp2_with fail
  refine hK.out _ _ G6.out.self (fun _ => ?_)
  clear hK K
  refine take1 20 45 (v := ?_) rfl rfl (by kernel_rfl) (by kernel_rfl) (by kernel_rfl) (fun _ _ _ h => h) (by kernel_rfl) ?_ G6.out (by simp only [put_norm]; exact rfl) ?_
  rotate_left
  · intro W _; go_simp; try (with_reducible rfl)
  refine take1 21 46 (v := ?_) rfl rfl (by kernel_rfl) (by kernel_rfl) (by kernel_rfl) (fun _ _ _ h => h) (by kernel_rfl) ?_ G6.out (by simp only [put_norm]; exact rfl) ?_
  rotate_left
  · intro W _; go_simp; try (with_reducible rfl)
  refine wpAnyH_done (by kernel_rfl) ?_ _
  clear e1 e2 e3 e4 e5 e6
  have HB3 := Lib.hid (below_2 HB2.out G6.out.below)
  have H13 := Lib.hid (H1.out.below G6.out.below)
  have H23 := Lib.hid (H2.out.below G6.out.below)
  have HZ3 := Lib.hid G6.out.below.size
  clear G G1 G2 G3 G4 G5 G6 C1 C2 C4 C5
  go_wp2_with fail
  refine (tuple_any v1 A _ u6 H13.out HZ3.out I1.out).mono ?_
  rintro e w4 ⟨hb4, hk1⟩
  have HB4 := Lib.hid (below_2 HB3.out hb4)
  have H14 := Lib.hid (H13.out.below (hb4.mono HZ3.out))
  have H24 := Lib.hid (H23.out.below (hb4.mono HZ3.out))
  have HZ4 := Lib.hid (Nat.le_trans HZ3.out hb4.size)
  clear hb4
  rcases hk1 with ⟨okA, k1, rfl, hk1⟩ | ⟨noA, rfl⟩
  · have OA := Lib.hid okA
    have HK1 := Lib.hid hk1
    clear okA hk1
    go_wp2_with fail
    refine (tuple_any v2 B _ w4 H24.out HZ4.out I2.out).mono ?_
    rintro e w5 ⟨hb5, hk2⟩
    have HB5 := Lib.hid (below_2 HB4.out hb5)
    have H15 := Lib.hid (H14.out.below (hb5.mono HZ4.out))
    have H25 := Lib.hid (H24.out.below (hb5.mono HZ4.out))
    have HZ5 := Lib.hid (Nat.le_trans HZ4.out hb5.size)
    have HK5 := Lib.hid (HK1.out.below hb5)
    clear hb5
    rcases hk2 with ⟨okB, k2, rfl, hk2⟩ | ⟨noB, rfl⟩
    · have OB := Lib.hid okB
      have HK2 := Lib.hid hk2
      clear okB hk2
      obtain ⟨r, hr⟩ : ∃ r : Bool, r = (cmpT A B == 0) := ⟨_, rfl⟩
      have HR := Lib.hid hr
      have HRB : Hid (begB (tupL A) (tupL B) = r) := Lib.hid (by rw [tup_begs OA.out OB.out, hr])
      clear hr
      go_wp2_with (first
        | (go_at_call 40; refine (begins_val k1 k2 (tupL A) (tupL B) r _ HRB.out HK5.out.in_ HK2.out.in_ HK2.out.cap (by unfold tupL; simp) (tup_small OA.out I1.out) (tup_small OB.out I2.out)).mono ?_; rintro e w6 ⟨rfl, b6⟩; have HB6 := Lib.hid (below_2 HB5.out b6); have H16 := Lib.hid (H15.out.below (b6.mono HZ5.out)); have H26 := Lib.hid (H25.out.below (b6.mono HZ5.out)); have HZ6 := Lib.hid (Nat.le_trans HZ5.out b6.size); clear b6)
        | (go_at_call 33; refine (same_any v1 v2 A B _ _ H16.out H26.out HZ6.out).mono ?_; rintro e w7 ⟨rfl, g7⟩; have HB7 := Lib.hid (below_2 HB6.out g7.below); clear g7; rw [← HR.out])
        | (go_at_call 24; refine (alive_true _).mono ?_; rintro e w8 ⟨rfl, b8⟩; have HB8 := Lib.hid (below_2 HB7.out b8); clear b8))
      go_ret
      exact ⟨by simp, HB8.out⟩
    · go_wp2_with (go_at_call 24; refine (alive_true _).mono ?_; rintro e w8 ⟨rfl, b8⟩; have HB8 := Lib.hid (below_2 HB5.out b8); clear b8)
      go_ret
      exact ⟨by simp, HB8.out⟩
  · go_wp2_with fail
    refine (tuple_any v2 B _ w4 H24.out HZ4.out I2.out).mono ?_
    rintro e w5 ⟨hb5, hk2⟩
    have HB5 := Lib.hid (below_2 HB4.out hb5)
    clear hb5
    rcases hk2 with ⟨-, k2, rfl, -⟩ | ⟨-, rfl⟩
    all_goals
      go_wp2_with (go_at_call 24; refine (alive_true _).mono ?_; rintro e w8 ⟨rfl, b8⟩; have HB8 := Lib.hid (below_2 HB5.out b8); clear b8)
      go_ret
      exact ⟨by simp, HB8.out⟩
end Go.Proofs.Ytlebhceejidjiaa

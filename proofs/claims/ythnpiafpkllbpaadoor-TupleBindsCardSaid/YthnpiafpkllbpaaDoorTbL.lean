/-
  The law TupleBinds' own walk.
-/
import Derived.Test.YthnpiafpkllbpaaDoorTbD
import Derived.Test.YthnpiafpkllbpaaDoorTlF
namespace Go.Proofs.YthnpiafpkllbpaaDoor
open Go Go.RowKit

theorem below_2' {w w1 w2 : World} (h : Below w.heap.size w w1) (h2 : Below w1.heap.size w1 w2) : Below w.heap.size w w2 := h.trans (h2.mono h.size)
theorem pat_at {B : Nat} {w : World} {v : Value} {Q : List Tm} (h : OwnQ B w v Q) {i : Nat} (hi : i < Q.length) : ∃ g cap, v = .slice (some ⟨g, 0, none⟩) Q.length cap ∧ g < w.heap.size ∧ Q.length ≤ cap ∧ cap ≤ maxLen ∧ AtQ w g 0 Q := by
  rcases h.shape with ⟨rfl, -⟩ | ⟨g, cap, e, hg, h1, h2, ha⟩
  · simp at hi
  · exact ⟨g, cap, e, hg, h1, h2, ha⟩
theorem OwnQ.form {B : Nat} {w : World} {v : Value} {Q : List Tm} (h : OwnQ B w v Q) : ∃ p cap, v = .slice p Q.length cap := by
  rcases h.shape with ⟨-, h⟩ | ⟨g, cap, e, -⟩
  · exact h
  · exact ⟨_, _, e⟩
theorem puts_take {p : List Tm} {T : List V3} (hl : p.length = T.length) {k : Nat} (hk : k < p.length) (hT : k < T.length) : (putsT p T).take (k + 1) = (putsT p T).take k ++ [putT p[k] T[k]] := by
  have h : k < (putsT p T).length := by rw [putsT_len hl]; exact hk
  rw [List.take_succ_eq_append_getElem h, putsT_at hk hT h]
theorem putT_var {x : Tm} {t : V3} (h : x.k = 1) : putT x t = ⟨2, ⟨#[]⟩, t⟩ := if_pos h
theorem putT_else {x : Tm} {t : V3} (h : ¬ x.k = 1) : putT x t = x := if_neg h
theorem new_at (W : World) (C : Array Value) (t : TypeId) (g : Nat) (h : W.heap.size = g) : (W.alloc (.cells C t)).heap[g]? = some (.cells C t (0, 0)) := by subst h; exact heap_alloc_new W _
theorem matchT_len : ∀ (p : List Tm) (T : List V3) (L L' : List Bd), matchT p T L = some L' → L'.length ≤ L.length + p.length
  | [], T, L, L' => fun h => by
    rw [matchT_nil_left] at h
    injection h with h
    subst h
    simp
  | x :: p, [], L, L' => fun h => by
    have e : matchT (x :: p) [] L = some L := rfl
    rw [e] at h
    injection h with h
    subst h
    omega
  | x :: p, t :: T, L, L' => fun h => by
    rw [List.length_cons]
    rw [matchT] at h
    split at h
    · split at h
      · have := matchT_len p T L L' h; omega
      · cases h
    · split at h
      · split at h
        · split at h
          · have := matchT_len p T L L' h; omega
          · cases h
        · have := matchT_len p T _ L' h
          rw [List.length_append, List.length_singleton] at this
          omega
      · have := matchT_len p T L L' h; omega
theorem matL_len {p : List Tm} {T : List V3} {L : List Bd} (h : matO p T = some L) : L.length ≤ 8 := by
  unfold matO at h
  split at h
  · rename_i hc
    have := matchT_len p T [] L h
    have := hc.1.1
    simp at *
    omega
  · cases h
/-- All terms are constants so far. -/
def ClosedT (Q : List Tm) (c : Bool) : Prop := c = true → ∀ x ∈ Q, x.k = 2
theorem closed_on {Q : List Tm} {c d : Bool} {x : Tm} (h : ClosedT Q c) (hd : d = true → x.k = 2) : ClosedT (Q ++ [x]) (c && d) := by
  intro hc y hy
  rw [Bool.and_eq_true] at hc
  rcases List.mem_append.1 hy with hy | hy
  · exact h hc.1 y hy
  · obtain rfl := List.mem_singleton.1 hy
    exact hd hc.2
theorem closed_no (Q : List Tm) : ClosedT Q false := fun h => by cases h
theorem closed_yes {Q : List Tm} {x : Tm} (h : ClosedT Q true) (hx : x.k = 2) : ClosedT (Q ++ [x]) true := closed_on (c := true) (d := true) h (fun _ => hx)
theorem putsT_all {p : List Tm} {T : List V3} (h : p.length = T.length) : (putsT p T).take p.length = putsT p T := List.take_of_length_le (by rw [putsT_len h]; exact Nat.le_refl _)
theorem puts_names {p : List Tm} {T : List V3} (hl : p.length = T.length) (hz : ∀ x ∈ p, x.nm.size ≤ maxLen) : ∀ x ∈ putsT p T, x.nm.size ≤ maxLen := by
  intro x hx
  obtain ⟨i, hi, hi', rfl⟩ := puts_mem hl hx
  unfold putT
  split
  · exact Nat.zero_le _
  · exact hz _ (List.getElem_mem hi)
set_option maxHeartbeats 4000000 in
set_option maxRecDepth 100000 in
theorem lbinds (v1 : Value) (p : List Tm) (v2 : Value) (T₀ : List V3) (w : World) (h1 : PatIn w.heap.size w v1 p) (h2 : ArgT w v2 T₀) (G : Glob w) :
    Calls Tryd.prog 7 #[v1, v2] w fun e w' => e = .returned (.bool true) ∧ Below w.heap.size w w' := by
  have H1 := Lib.hid h1
  have H2 := Lib.hid h2
  have HG := Lib.hid G
  clear h1 h2 G
  go_enter Tryd.func7, Tryd.ntmps7
  go_wp2_with fail
  refine (awake_true w HG.out).mono ?_
  rintro e w1 ⟨rfl, b1⟩
  have B1 := Lib.hid b1
  have A1 := Lib.hid (H2.out.below b1)
  clear b1
  go_wp2_with fail
  refine (cut_any v2 T₀ w1 A1.out).mono ?_
  rintro e w2 ⟨v3, rfl, c3, rfl⟩
  obtain ⟨T, hT⟩ : ∃ T, T = T₀.take 20 := ⟨_, rfl⟩
  rw [← hT] at c3
  have HTU := Lib.hid c3.1
  clear c3 hT
  have HP1 := Lib.hid (H1.out.below B1.out)
  have HM := Lib.hid (tmatch_any v1 v3 p T w1.heap.size w1 (HP1.out.mono B1.out.size) HTU.out (Nat.le_refl _))
  obtain ⟨q1, cap1, rfl, l1, -, -⟩ := H1.out
  obtain ⟨q2, cap2, rfl, l2, -⟩ := HTU.out
  go_wp2_with fail
  refine HM.out.mono ?_
  rintro e w3 ⟨b3, ⟨L, vl, ho, rfl, hv⟩ | ⟨ho, rfl⟩⟩
  rotate_left
  · have B3 := Lib.hid (below_2' B1.out b3)
    clear b3 ho
    go_wp2_with fail
    go_ret
    exact ⟨rfl, B3.out⟩
  have HMAT := Lib.hid ho
  have HIS := Lib.hid (mat_is ho)
  have B3 := Lib.hid (below_2' B1.out b3)
  have HL := Lib.hid hv
  have HTU3 := Lib.hid ((HTU.out.below b3).mono b3.size)
  have HP3 := Lib.hid (H1.out.below B3.out)
  have hlen := HIS.out.2.1
  have hp8 : (p.length : Int) ≤ 8 := by have := HIS.out.1.1; omega
  have hT8 : (T.length : Int) ≤ 8 := by omega
  have hne : ((p.length : Int) != (T.length : Int)) = false := by rw [hlen]; simp
  have hne2 : ((p.length : Nat) != (T.length : Nat)) = false := by rw [hlen]; simp
  have HLEN := Lib.hid hlen
  have HROOML : Hid (L.length ≤ 1000000) := Lib.hid (by have := matL_len HMAT.out; omega)
  have HZN : Hid (∀ x ∈ p, x.nm.size ≤ maxLen) := Lib.hid (by obtain ⟨_, _, -, -, hz, -⟩ := H1.out; exact hz)
  clear b3 ho hv hlen
  go_wp2_with fail
  go_loopw [7, 8, 9] (fun vq c i wr => ∃ k : Nat, k ≤ p.length ∧ i = .int .i64 k ∧ ∃ cb : Bool, c = .bool cb ∧ Hid (OwnQ w3.heap.size wr vq ((putsT p T).take k) ∧ Below w3.heap.size w3 wr ∧ ClosedT ((putsT p T).take k) cb)) (fun _ _ i _ => p.length - (intOf i).toNat)
  case atStart => exact ⟨0, Nat.zero_le _, rfl, true, rfl, Lib.hid ⟨OwnQ.nil _ _, Below.refl _ _, fun _ x hx => by cases hx⟩⟩
  case round =>
    obtain ⟨k, hk, rfl, cb, rfl, HI⟩ := hrel
    have h0 : (0 : Int) ≤ (k : Int) := by omega
    have HOWN := Lib.hid (fun (W : World) (hb : Below wr.heap.size wr W) => HI.out.1.below hb)
    have HLOW := Lib.hid (fun (W : World) (hb : Below wr.heap.size wr W) => HI.out.2.1.trans (hb.mono HI.out.2.1.size))
    have HROOM : Hid (((putsT p T).take k).length ≤ 1000000) := Lib.hid (by have := List.length_take_le k (putsT p T); omega)
    by_cases hlt : k < p.length
    · have hltT : k < T.length := by have := HLEN.out; omega
      have hlt' : (k : Int) < (p.length : Int) := by omega
      have hltT' : (k : Int) < (T.length : Int) := by omega
      obtain ⟨b, off, cc1, hv1, hb, hc⟩ := HP3.out.some hlt
      obtain ⟨b2, off2, cc2, hv2, hb2, hc2⟩ := HTU3.out.some hltT
      injection hv1 with e1 _ e3
      injection hv2 with e4 _ e6
      subst e1 e3 e4 e6
      have hz := HI.out.2.1.size
      have hz3 := B3.out.size
      have hb' : b < wr.heap.size := by omega
      have hb2' : b2 < wr.heap.size := by omega
      obtain ⟨c0, c1, c2, c3, c4⟩ := (hc.below (HI.out.2.1.mono hz3) hb) k hlt
      have hd := (hc2.below HI.out.2.1 hb2) k hltT
      have HTK := Lib.hid (puts_take HLEN.out hlt hltT)
      clear hc hc2
      cases hk1 : (p[k].k == 1) with
      | true =>
        have hk1' : p[k].k = 1 := by simpa using hk1
        have HTK' := Lib.hid HTK.out
        rw [putT_var hk1'] at HTK'
        have HFS := Lib.hid ((HIS.out.2.2 k hlt hltT).1 hk1')
        have HF := Lib.hid (rfind_any vl L p[k].nm w3.heap.size (wr.alloc (.cells #[.int .i64 p[k].k, .string p[k].nm, .int .i64 p[k].v.k, .int .i64 p[k].v.n, .string p[k].v.s] 54)) (HL.out.in_.below (HI.out.2.1.alloc hz _)) (by simp; omega) HROOML.out)
        have HD := Lib.hid hd
        clear hd hk1'
        go_wp2_with fail
        refine HF.out.mono ?_
        rintro e w4 ⟨hb4, ⟨u, hu, rfl⟩ | ⟨hn, rfl⟩⟩
        rotate_left
        · exfalso
          rw [HFS.out] at hn
          cases hn
        rw [HFS.out] at hu
        injection hu with hu
        subst hu
        have hbw : Below wr.heap.size wr w4 := (below_box wr _).trans (hb4.mono (by simp))
        have HB4 := Lib.hid hbw
        have HZ4 := Lib.hid (show wr.heap.size < w4.heap.size by have := hb4.size; simp at this; omega)
        have hblk := (hb4.block wr.heap.size (by simp)).trans (heap_alloc_new wr _)
        have x0 : w4.cell? ⟨wr.heap.size, 0, none⟩ = some (.int .i64 p[k].k) := cell_of_row w4 _ 0 _ _ (0, 0) hblk
        have x1 : w4.cell? ⟨wr.heap.size, 1, none⟩ = some (.string p[k].nm) := cell_of_row w4 _ 1 _ _ (0, 0) hblk
        have x2 : w4.cell? ⟨wr.heap.size, 2, none⟩ = some (.int .i64 p[k].v.k) := cell_of_row w4 _ 2 _ _ (0, 0) hblk
        have x3 : w4.cell? ⟨wr.heap.size, 3, none⟩ = some (.int .i64 p[k].v.n) := cell_of_row w4 _ 3 _ _ (0, 0) hblk
        have x4 : w4.cell? ⟨wr.heap.size, 4, none⟩ = some (.string p[k].v.s) := cell_of_row w4 _ 4 _ _ (0, 0) hblk
        have f0 : w4.frozen? ⟨wr.heap.size, 0, none⟩ = false := frozen_of_row w4 _ 0 _ _ hblk
        have f1 : w4.frozen? ⟨wr.heap.size, 1, none⟩ = false := frozen_of_row w4 _ 1 _ _ hblk
        have f2 : w4.frozen? ⟨wr.heap.size, 2, none⟩ = false := frozen_of_row w4 _ 2 _ _ hblk
        have f3 : w4.frozen? ⟨wr.heap.size, 3, none⟩ = false := frozen_of_row w4 _ 3 _ _ hblk
        have f4 : w4.frozen? ⟨wr.heap.size, 4, none⟩ = false := frozen_of_row w4 _ 4 _ _ hblk
        have d0 := (hbw.cell (p := ⟨b2, off2 + k * 3, none⟩) hb2').trans HD.out.1
        have d1 := (hbw.cell (p := ⟨b2, off2 + k * 3 + 1, none⟩) hb2').trans HD.out.2.1
        have d2 := (hbw.cell (p := ⟨b2, off2 + k * 3 + 2, none⟩) hb2').trans HD.out.2.2
        have hb2z : b2 < w4.heap.size := by have := HZ4.out; omega
        have hbz : wr.heap.size < w4.heap.size := HZ4.out
        have hE : ∀ W : World, (binOp .neq 52 (.agg #[.int .i64 T[k].k, .int .i64 T[k].n, .string T[k].s]) (.agg #[.int .i64 T[k].k, .int .i64 T[k].n, .string T[k].s])).run Tryd.prog W = .ok (.bool false) W := fun W => by rw [neqV_run, sameV_iff.2 rfl]; rfl
        clear hblk hbw hb4 c0 c1 c2 c3 c4
        cases cb
        all_goals
          go_wp2_with fail
          refine wp_region_quiet_lit (by kernel_rfl) (by kernel_rfl) ?_
          iterate 10 go_big_quiet_step (fail)
          refine wpQuiet_nil ?_; intro _ hw'; obtain ⟨nq, hw''⟩ := hw'; subst hw''
          go_wp2_with (at_builtin; refine wpList_appQ rfl (.tmp 74) (.tmp 76) rfl w3.heap.size (w4.heap.size + 1) w3 _ _ ((putsT p T).take k) ⟨2, ⟨#[]⟩, T[k]⟩ rfl rfl rfl (HOWN.out _ (((((((below_drewN (HB4.out.alloc (Nat.le_of_lt HZ4.out) _) _).setCell (p := ⟨wr.heap.size, 0, none⟩) (Nat.le_refl _) _).setCell (p := ⟨wr.heap.size, 1, none⟩) (Nat.le_refl _) _).setCell (p := ⟨wr.heap.size, 2, none⟩) (Nat.le_refl _) _).setCell (p := ⟨wr.heap.size, 3, none⟩) (Nat.le_refl _) _).setCell (p := ⟨wr.heap.size, 4, none⟩) (Nat.le_refl _) _).alloc (by simp; have := HZ4.out; omega) _)) (new_at _ _ _ _ (by simp)) HROOM.out (HLOW.out _ (((((((below_drewN (HB4.out.alloc (Nat.le_of_lt HZ4.out) _) _).setCell (p := ⟨wr.heap.size, 0, none⟩) (Nat.le_refl _) _).setCell (p := ⟨wr.heap.size, 1, none⟩) (Nat.le_refl _) _).setCell (p := ⟨wr.heap.size, 2, none⟩) (Nat.le_refl _) _).setCell (p := ⟨wr.heap.size, 3, none⟩) (Nat.le_refl _) _).setCell (p := ⟨wr.heap.size, 4, none⟩) (Nat.le_refl _) _).alloc (by simp; have := HZ4.out; omega) _)) (Nat.le_refl _) ?_; intro v' w5 ho5 hb5 _; have HO5 := Lib.hid ho5; have HB5 := Lib.hid hb5; clear ho5 hb5)
          go_roundw
          case rel => first | exact ⟨k + 1, by omega, by go_num, true, rfl, Lib.hid ⟨by rw [HTK'.out]; exact HO5.out, HB5.out, by rw [HTK'.out]; exact closed_yes HI.out.2.2 rfl⟩⟩ | exact ⟨k + 1, by omega, by go_num, false, rfl, Lib.hid ⟨by rw [HTK'.out]; exact HO5.out, HB5.out, closed_no _⟩⟩
          case measure => simp [intOf]; omega
      | false =>
        have hk1' : ¬ p[k].k = 1 := by simpa using hk1
        have HTK' := Lib.hid HTK.out
        rw [putT_else hk1'] at HTK'
        clear hk1' hd
        cases cb with
        | false =>
          go_wp2_with (at_builtin; refine wpList_appQ rfl (.tmp 74) (.tmp 76) rfl w3.heap.size (wr.heap.size + 1) w3 _ _ ((putsT p T).take k) p[k] rfl rfl rfl (HOWN.out _ (((below_box wr _)).alloc (by simp) _)) (new_at _ _ _ _ (by simp)) HROOM.out (HLOW.out _ (((below_box wr _)).alloc (by simp) _)) (Nat.le_refl _) ?_; intro v' w5 ho5 hb5 _; have HO5 := Lib.hid ho5; have HB5 := Lib.hid hb5; clear ho5 hb5)
          go_roundw
          case rel => exact ⟨k + 1, by omega, by go_num, false, rfl, Lib.hid ⟨by rw [HTK'.out]; exact HO5.out, HB5.out, closed_no _⟩⟩
          case measure => simp [intOf]; omega
        | true =>
          cases hk2 : (p[k].k == 2) with
          | true =>
            have HK2 : Hid (p[k].k = 2) := Lib.hid (by simpa using hk2)
            go_wp2_with (at_builtin; refine wpList_appQ rfl (.tmp 74) (.tmp 76) rfl w3.heap.size (wr.heap.size + 1) w3 _ _ ((putsT p T).take k) p[k] rfl rfl rfl (HOWN.out _ (((below_box wr _)).alloc (by simp) _)) (new_at _ _ _ _ (by simp)) HROOM.out (HLOW.out _ (((below_box wr _)).alloc (by simp) _)) (Nat.le_refl _) ?_; intro v' w5 ho5 hb5 _; have HO5 := Lib.hid ho5; have HB5 := Lib.hid hb5; clear ho5 hb5)
            go_roundw
            case rel => exact ⟨k + 1, by omega, by go_num, true, rfl, Lib.hid ⟨by rw [HTK'.out]; exact HO5.out, HB5.out, by rw [HTK'.out]; exact closed_yes HI.out.2.2 HK2.out⟩⟩
            case measure => simp [intOf]; omega
          | false =>
            go_wp2_with (at_builtin; refine wpList_appQ rfl (.tmp 74) (.tmp 76) rfl w3.heap.size (wr.heap.size + 1) w3 _ _ ((putsT p T).take k) p[k] rfl rfl rfl (HOWN.out _ (((below_box wr _)).alloc (by simp) _)) (new_at _ _ _ _ (by simp)) HROOM.out (HLOW.out _ (((below_box wr _)).alloc (by simp) _)) (Nat.le_refl _) ?_; intro v' w5 ho5 hb5 _; have HO5 := Lib.hid ho5; have HB5 := Lib.hid hb5; clear ho5 hb5)
            go_roundw
            case rel => exact ⟨k + 1, by omega, by go_num, false, rfl, Lib.hid ⟨by rw [HTK'.out]; exact HO5.out, HB5.out, closed_no _⟩⟩
            case measure => simp [intOf]; omega
    · obtain rfl : k = p.length := by omega
      have hge : (p.length : Int) ≤ (p.length : Int) := by omega
      have HOQ := HI.out.1
      have HCL := HI.out.2.2
      rw [putsT_all HLEN.out] at HOQ HCL
      obtain ⟨Q, hQ⟩ : ∃ Q, Q = putsT p T := ⟨_, rfl⟩
      have HQL : Hid (Q.length = p.length) := Lib.hid (by rw [hQ]; exact putsT_len HLEN.out)
      have HQZ : Hid (∀ x ∈ Q, x.nm.size ≤ maxLen) := Lib.hid (by rw [hQ]; exact puts_names HLEN.out HZN.out)
      have HQM : Hid (OkT T → matO Q T = some []) := Lib.hid (by rw [hQ]; exact puts_mat HMAT.out)
      rw [← hQ] at HOQ HCL
      have HO := Lib.hid HOQ
      have HC := Lib.hid HCL
      have BW := Lib.hid (B3.out.trans (HI.out.2.1.mono B3.out.size))
      have HTW := Lib.hid ((HTU3.out.below HI.out.2.1).mono HI.out.2.1.size)
      clear HOQ HCL hQ HOWN HLOW HROOM
      have HCK := Lib.hid (rcheck_any _ T wr.heap.size wr HTW.out (Nat.le_refl _))
      obtain ⟨q7, cap7, rfl⟩ := HO.out.form
      go_wp2_with fail
      refine HCK.out.mono ?_
      rintro e w6 ⟨⟨hok, rfl⟩ | ⟨hok, rfl⟩, b6⟩
      rotate_left
      · have B6 := Lib.hid (below_2' BW.out b6)
        clear b6 hok
        go_wp2_with fail
        go_ret
        exact ⟨rfl, B6.out⟩
      have B6 := Lib.hid (below_2' BW.out b6)
      have HO6 := Lib.hid (HO.out.below b6)
      have HT6 := Lib.hid ((HTW.out.below b6).mono b6.size)
      have HMM := Lib.hid (tmatch_any _ _ Q T w6.heap.size w6 (HO6.out.pat (by rw [HQL.out]; have := HIS.out.1.1; omega) HQZ.out) HT6.out (Nat.le_refl _))
      rw [HQM.out hok] at HMM
      have HMQ := Lib.hid (HQM.out hok)
      clear b6 hok
      go_wp2_with fail
      refine HMM.out.mono ?_
      rintro e w7 ⟨b7, ⟨L2, v7, ho, rfl, hv⟩ | ⟨ho, rfl⟩⟩
      rotate_left
      · cases ho
      injection ho with ho
      subst ho
      have B7 := Lib.hid (below_2' B6.out b7)
      have HO7 := Lib.hid (HO6.out.below b7)
      have HT7 := Lib.hid ((HT6.out.below b7).mono b7.size)
      obtain ⟨pm, cm, rfl⟩ := hv.in_.form
      clear b7 hv
      have hQl : Q.length ≤ 8 := by rw [HQL.out]; exact HIS.out.1.1
      have hQi : (Q.length : Int) ≤ 8 := by omega
      have HQT : Hid (Q.length = T.length) := Lib.hid (HQL.out.trans HLEN.out)
      cases cb with
      | false =>
        go_wp2_with fail
        go_loopw [15] (fun i wz => i = .int .i64 0 ∧ Hid (w7 = wz)) (fun _ _ => 0)
        case atStart => exact ⟨rfl, Lib.hid rfl⟩
        case round =>
          obtain ⟨rfl, HW⟩ := hrel
          obtain rfl := HW.out
          by_cases hq : 0 < Q.length
          · have hq' : (0 : Int) < (Q.length : Int) := by omega
            go_wp2_with fail
            go_ret
            exact ⟨rfl, B7.out⟩
          · have hq' : (Q.length : Int) ≤ 0 := by omega
            go_wp2_with fail
            go_ret
            exact ⟨rfl, B7.out⟩
      | true =>
        have HEV : Hid (∀ i (h : i < Q.length) (h' : i < T.length), Q[i].v = T[i]) := Lib.hid fun i h h' => ((mat_is HMQ.out).2.2 i h h').2 (HC.out rfl _ (List.getElem_mem h))
        go_wp2_with fail
        go_loopw [15] (fun i wz => ∃ k : Nat, k ≤ Q.length ∧ i = .int .i64 k ∧ Hid (Below w7.heap.size w7 wz)) (fun i _ => Q.length - (intOf i).toNat)
        case atStart => exact ⟨0, Nat.zero_le _, rfl, Lib.hid (Below.refl _ _)⟩
        case round =>
          obtain ⟨k, hk, rfl, HZ⟩ := hrel
          have h0 : (0 : Int) ≤ (k : Int) := by omega
          by_cases hlt : k < Q.length
          · have hltT : k < T.length := by have := HQT.out; omega
            have hlt' : (k : Int) < (Q.length : Int) := by omega
            have hltT' : (k : Int) < (T.length : Int) := by omega
            obtain ⟨g, cg, hv1, hg, hg2, hg3, hga⟩ := pat_at HO7.out hlt
            obtain ⟨b2, off2, cc2, hv2, hb2, hc2⟩ := HT7.out.some hltT
            injection hv1 with e1 _ e3
            injection hv2 with e4 _ e6
            subst e1 e3 e4 e6
            obtain ⟨-, -, c2, c3, c4⟩ := (hga.below HZ.out hg) k hlt
            rw [Nat.zero_add] at c2 c3 c4
            obtain ⟨d0, d1, d2⟩ := (hc2.below HZ.out hb2) k hltT
            have hE : ∀ W : World, (binOp .neq 52 (.agg #[.int .i64 Q[k].v.k, .int .i64 Q[k].v.n, .string Q[k].v.s]) (.agg #[.int .i64 T[k].k, .int .i64 T[k].n, .string T[k].s])).run Tryd.prog W = .ok (.bool false) W := fun W => by rw [neqV_run, sameV_iff.2 (HEV.out k hlt hltT)]; rfl
            clear hga hc2
            go_wp2_with fail
            refine wp_region_quiet_lit (by kernel_rfl) (by kernel_rfl) ?_
            iterate 10 go_big_quiet_step (fail)
            refine wpQuiet_nil ?_; intro _ hw'; obtain ⟨nq, hw''⟩ := hw'; subst hw''
            go_wp2_with fail
            go_roundw
            case rel => exact ⟨k + 1, by omega, by go_num, Lib.hid (below_drewN HZ.out _)⟩
            case measure => simp [intOf]; omega
          · have hge : (Q.length : Int) ≤ (k : Int) := by omega
            go_wp2_with fail
            go_ret
            exact ⟨rfl, below_2' B7.out HZ.out⟩
end Go.Proofs.YthnpiafpkllbpaaDoor

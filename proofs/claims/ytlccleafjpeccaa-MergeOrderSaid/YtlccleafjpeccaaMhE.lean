/-
  Contract of the document's Merge: the walk.
-/
import Derived.Test.YtlccleafjpeccaaMhD
import Derived.Laws.MakeOwn
import Derived.Laws.OwnMore
namespace Go.Proofs.Ytlccleafjpeccaa
open Go Go.RowKit Go.Shelf

theorem infoInt : (Try.prog.info? 3).map (fun i => (i.zero, i.size, i.bytes)) = some (some (.int .i64 0), 1, 8) := by kernel_rfl
theorem make_ints (n : Nat) (hn : n ≤ 1000000) (w : World) : (Instr.makeSlice 52 (.int .i64 (n : Int)) (.int .i64 (n : Int))).run Try.prog w = .ok (.slice (some ⟨w.heap.size, 0, none⟩) n n) (w.alloc (.cells (headsA (List.replicate n 0)) 3)) := by
  obtain ⟨i, hi, hz, hs, hb⟩ := info_parts infoInt
  have h := run_make (P := Try.prog) w 52 3 i _ Try.underlying52 hi hz .i64 .i64 n n (by omega) (Int.le_refl _) (by rw [hb]; omega) (by omega)
  rw [Int.toNat_natCast, hs, Nat.mul_one] at h
  rw [h]
  have e : madeCells (Value.int .i64 0).cells n = headsA (List.replicate n 0) := by
    unfold headsA
    rw [List.map_replicate]
    exact Array.toList_inj.1 ((toList_madeCells_one _ n).trans rfl)
  rw [e]
def EightS (b off n m hb a a2 b1 o1 b2 o2 : Nat) (pu : Option Addr) (nL cu : Nat) (pm : Option Addr) (nM cm : Nat) (x y : Th) (X : World) : Prop :=
  X.cell? ⟨b, off + n, none⟩ = some (.slice pu nL cu) ∧ X.cell? ⟨b, off + m, none⟩ = some (.slice pm nM cm) ∧ X.cell? ⟨hb, n, none⟩ = some (.int .i64 (a : Int)) ∧ X.cell? ⟨hb, m, none⟩ = some (.int .i64 (a2 : Int)) ∧
  X.cell? ⟨b1, o1 + a * 2, none⟩ = some (.int .i8 x.1) ∧ X.cell? ⟨b1, o1 + a * 2 + 1, none⟩ = some (.int .i64 x.2) ∧ X.cell? ⟨b2, o2 + a2 * 2, none⟩ = some (.int .i8 y.1) ∧ X.cell? ⟨b2, o2 + a2 * 2 + 1, none⟩ = some (.int .i64 y.2)
theorem EightS.below {b off n m hb a a2 b1 o1 b2 o2 : Nat} {pu : Option Addr} {nL cu : Nat} {pm : Option Addr} {nM cm : Nat} {x y : Th} {W W' : World} (hbl : Below W.heap.size W W') (h : EightS b off n m hb a a2 b1 o1 b2 o2 pu nL cu pm nM cm x y W) : EightS b off n m hb a a2 b1 o1 b2 o2 pu nL cu pm nM cm x y W' := by
  obtain ⟨h1, h2, h3, h4, h5, h6, h7, h8⟩ := h
  have g : ∀ {b o v}, W.cell? ⟨b, o, none⟩ = some v → W'.cell? ⟨b, o, none⟩ = some v := fun {b o v} e => (hbl.cell (p := ⟨b, o, none⟩) (World.block_lt_of_cell? W _ e)).trans e
  exact ⟨g h1, g h2, g h3, g h4, g h5, g h6, g h7, g h8⟩
set_option maxRecDepth 100000 in
set_option maxHeartbeats 8000000 in
theorem rmerge_any {S : Nat → Prop} {v : Value} {LL : List (List Th)} {w : World} (h : RowsIn S w v LL) (hl : LL.length ≤ 1000) (ht : tot LL ≤ 1000000) :
    Calls Try.prog 24 #[v] w (RowEnd (mergeL LL) w) := by
  have HV := Lib.hid (show RowsIn (fun k => S k ∧ k < w.heap.size) w v LL from h.keep (Nat.le_refl _) (fun k e hk => ⟨⟨e, hk⟩, rfl⟩))
  obtain ⟨p, c, rfl, hc1, hc2, -⟩ := h
  have HTt := Lib.hid ht
  have hmk := make_ints LL.length (by omega) w
  have H0 := Lib.hid (show RmJ LL w (List.replicate LL.length 0) [] (.slice none 0 0) (w.alloc (.cells (headsA (List.replicate LL.length 0)) 3)) from ⟨List.length_replicate .., by rw [lefts_zero]; rfl, OwnTh.nil _ _, heap_alloc_new w _, below_new' w _⟩)
  obtain ⟨W0, hW0⟩ : ∃ W0, W0 = w.alloc (.cells (headsA (List.replicate LL.length 0)) 3) := ⟨_, rfl⟩
  rw [← hW0] at hmk H0
  clear hW0 ht
  go_enter Try.func24, Try.ntmps24
  go_wp2_with fail
  go_loopw [4] (fun v wr => ∃ H P, Hid (RmJ LL w H P v wr)) (fun v _ => tot LL - lenV v)
  case atStart => exact ⟨_, _, H0⟩
  case round =>
    obtain ⟨H, P, HJ⟩ := hrel
    have HH := Lib.hid HJ.out.1
    go_wp2_with fail
    go_loopw [5, 6] (fun b i wq => ∃ n : Nat, n ≤ LL.length ∧ i = .int .i64 n ∧ b = .int .i64 (bestI (bestN (lefts LL H) n)) ∧ Hid (RmJ LL w H P u4 wq)) (fun _ i _ => LL.length - (intOf i).toNat)
    case atStart => exact ⟨0, Nat.zero_le _, rfl, rfl, HJ⟩
    case round =>
      obtain ⟨n, hn, rfl, hbe, HR⟩ := hrel
      have hb1 : Below w.heap.size w wr := HR.out.2.2.2.2
      by_cases hlt : n < LL.length
      · have hlt' : (n : Int) < (LL.length : Int) := by omega
        have hnH : n < H.length := by have := HH.out; omega
        have hnH' : (n : Int) < (H.length : Int) := by omega
        obtain ⟨b, off, rfl, -, hbl, hrows⟩ := (HV.out.below hb1).rows (by rintro rfl; simp at hlt)
        obtain ⟨pu, cu, hcell, hth⟩ := hrows n hlt
        obtain ⟨L, hL⟩ : ∃ L, L = LL[n] := ⟨_, rfl⟩
        obtain ⟨a, ha⟩ : ∃ a, a = H[n] := ⟨_, rfl⟩
        have hha := heads_at HR.out.2.2.2.1 hnH
        have hleft := lefts_at (LL := LL) hlt hnH
        rw [← hL] at hcell hth hleft
        rw [← ha] at hha hleft
        clear hL ha hb1
        have hHl : (H.length : Int) = (LL.length : Int) := by have := HH.out; omega
        by_cases hge : L.length ≤ a
        · have hge' : (L.length : Int) ≤ (a : Int) := by omega
          have HB := Lib.hid (show bestN (lefts LL H) (n + 1) = bestN (lefts LL H) n from bestN_miss (by rw [hleft, List.drop_of_length_le hge]))
          have HRd := Lib.hid (HR.out.below ((Below.refl _ _).drew))
          have HBe := Lib.hid hbe
          clear hth hleft hrows hbe
          go_wp2_with fail
          go_region
          go_wp2_with fail
          go_roundw
          case rel => exact ⟨n + 1, hlt, by simp, by rw [HB.out]; exact HBe.out, HRd⟩
          case measure => simp [intOf]; omega
        · have hge' : ¬ (L.length : Int) ≤ (a : Int) := by omega
          have hal : a < L.length := by omega
          have hal' : (a : Int) < (L.length : Int) := by omega
          obtain ⟨x, hx⟩ : ∃ x, x = L[a] := ⟨_, rfl⟩
          obtain ⟨b1, o1, rfl, hbl1, hc1'⟩ := hth.row (by rintro rfl; simp at hal)
          have hxc := hc1' a hal
          rw [← hx] at hxc
          obtain ⟨hx0, hx1⟩ := hxc
          have hhit := bestN_hit (Ls := lefts LL H) (n := n) (x := x) (r := L.drop (a + 1)) (by rw [hleft, List.drop_eq_getElem_cons hal, hx])
          clear hth hleft hx hc1'
          rcases hbn : bestN (lefts LL H) n with _ | ⟨m, y⟩
          · rw [hbn] at hhit hbe
            have HB := Lib.hid hhit
            have HRd := Lib.hid (HR.out.below ((Below.refl _ _).drew.drew))
            have hbe' : _ = Value.int .i64 (-1) := hbe
            subst hbe'
            clear hhit hbn hbe hrows
            go_wp2_with fail
            go_region
            go_wp2_with fail
            go_region
            go_wp2_with fail
            go_roundw
            case rel => exact ⟨n + 1, hlt, by simp, by rw [HB.out]; rfl, HRd⟩
            case measure => simp [intOf]; omega
          · obtain ⟨hm1, hm2, hm3, hmn, hy⟩ := lefts_hd HH.out hbn
            obtain ⟨pm, cm, hcm, hthm⟩ := hrows m hm1
            obtain ⟨M, hM⟩ : ∃ M, M = LL[m] := ⟨_, rfl⟩
            obtain ⟨a2, ha2⟩ : ∃ a2, a2 = H[m] := ⟨_, rfl⟩
            have hhm := heads_at HR.out.2.2.2.1 hm2
            have ha2l : a2 < M.length := by rw [ha2, hM]; exact hm3
            have hy' : y = M[a2] := by subst hM ha2; exact hy
            rw [← hM] at hcm hthm
            rw [← ha2] at hhm
            obtain ⟨b2, o2, rfl, hbl2, hc2'⟩ := hthm.row (by rintro rfl; simp at ha2l)
            have hyc := hc2' a2 ha2l
            rw [← hy'] at hyc
            have HE := Lib.hid (show EightS b off n m w.heap.size a a2 b1 o1 b2 o2 _ L.length cu _ M.length cm x y wr from ⟨hcell, hcm, hha, hhm, hx0, hx1, hyc.1, hyc.2⟩)
            rw [hbn] at hhit hbe
            have HB := Lib.hid (show bestN (lefts LL H) (n + 1) = if cmpT2 x y < 0 then some (n, x) else some (m, y) from hhit)
            have hbe' : _ = Value.int .i64 (m : Int) := hbe
            subst hbe'
            have hm1' : (m : Int) < (LL.length : Int) := by omega
            have hm2' : (m : Int) < (H.length : Int) := by omega
            have ha2l' : (a2 : Int) < (M.length : Int) := by omega
            have hmz : ¬ (m : Int) < 0 := by omega
            obtain ⟨z, hz⟩ : ∃ z, z = cmpT2 x y := ⟨_, rfl⟩
            rw [← hz] at HB
            have HZ := Lib.hid hz
            clear hhit hbn hbe hrows hm3 hy hyc hc2' hthm hM ha2 hy' hz hhm hcm hx0 hx1 hm1 hm2
            have HE2 := Lib.hid (HE.out.below ((Below.refl _ _).drew))
            have HRd := Lib.hid (HR.out.below ((Below.refl _ _).drew))
            by_cases hz0 : z < 0
            · go_wp2_with fail
              go_region
              go_wp2_with fail
              go_region_held3 (fun X => X.cell? ⟨b, off + n, none⟩ = some (.slice (some ⟨b1, o1, none⟩) L.length cu) ∧ X.cell? ⟨b, off + m, none⟩ = some (.slice (some ⟨b2, o2, none⟩) M.length cm) ∧ X.cell? ⟨w.heap.size, n, none⟩ = some (.int .i64 (a : Int)) ∧ X.cell? ⟨w.heap.size, m, none⟩ = some (.int .i64 (a2 : Int)) ∧
                  X.cell? ⟨b1, o1 + a * 2, none⟩ = some (.int .i8 x.1) ∧ X.cell? ⟨b1, o1 + a * 2 + 1, none⟩ = some (.int .i64 x.2) ∧ X.cell? ⟨b2, o2 + a2 * 2, none⟩ = some (.int .i8 y.1) ∧ X.cell? ⟨b2, o2 + a2 * 2 + 1, none⟩ = some (.int .i64 y.2)) (first | exact HE2.out | exact HE4.out)
                ((go_at_call 22; refine (cmp_any x y _).mono ?_; rintro e w4 ⟨rfl, hb4⟩; rw [← HZ.out]; have HR4 := Lib.hid (HRd.out.below ((Below.refl _ _).drew.trans hb4)); have HE4 := Lib.hid (HE2.out.below ((Below.refl _ _).drew.trans hb4)); clear hb4))
              go_wp2_with fail
              go_roundw
              case rel => exact ⟨n + 1, hlt, by simp, by rw [HB.out, if_pos hz0]; rfl, HR4⟩
              case measure => simp [intOf]; omega
            · go_wp2_with fail
              go_region
              go_wp2_with fail
              go_region_held3 (fun X => X.cell? ⟨b, off + n, none⟩ = some (.slice (some ⟨b1, o1, none⟩) L.length cu) ∧ X.cell? ⟨b, off + m, none⟩ = some (.slice (some ⟨b2, o2, none⟩) M.length cm) ∧ X.cell? ⟨w.heap.size, n, none⟩ = some (.int .i64 (a : Int)) ∧ X.cell? ⟨w.heap.size, m, none⟩ = some (.int .i64 (a2 : Int)) ∧
                  X.cell? ⟨b1, o1 + a * 2, none⟩ = some (.int .i8 x.1) ∧ X.cell? ⟨b1, o1 + a * 2 + 1, none⟩ = some (.int .i64 x.2) ∧ X.cell? ⟨b2, o2 + a2 * 2, none⟩ = some (.int .i8 y.1) ∧ X.cell? ⟨b2, o2 + a2 * 2 + 1, none⟩ = some (.int .i64 y.2)) (first | exact HE2.out | exact HE4.out)
                ((go_at_call 22; refine (cmp_any x y _).mono ?_; rintro e w4 ⟨rfl, hb4⟩; rw [← HZ.out]; have HR4 := Lib.hid (HRd.out.below ((Below.refl _ _).drew.trans hb4)); have HE4 := Lib.hid (HE2.out.below ((Below.refl _ _).drew.trans hb4)); clear hb4))
              go_wp2_with fail
              go_roundw
              case rel => exact ⟨n + 1, hlt, by simp, by rw [HB.out, if_neg (show ¬ z < 0 by omega)]; rfl, HR4⟩
              case measure => simp [intOf]; omega
      · obtain rfl : n = LL.length := by omega
        rcases hbn : bestN (lefts LL H) LL.length with _ | ⟨m, y⟩
        · have HM := Lib.hid (mergeL_none (Ls := lefts LL H) (by rw [lefts_len HH.out]; exact hbn))
          rw [hbn] at hbe
          have hbe' : _ = Value.int .i64 (-1) := hbe
          subst hbe'
          clear hbe hbn hb1
          go_wp2_with fail
          go_ret
          obtain ⟨-, h2, h3, -, h5⟩ := HR.out
          rw [HM.out, List.append_nil] at h2
          rw [h2]
          exact ⟨_, rfl, h3.mono (Nat.le_succ _), h5⟩
        · obtain ⟨hm1, hm2, hm3, hmn, hy⟩ := lefts_hd HH.out hbn
          obtain ⟨b, off, rfl, -, hbl, hrows⟩ := (HV.out.below hb1).rows (by rintro rfl; simp at hm1)
          obtain ⟨pm, cm, hcm, hthm⟩ := hrows m hm1
          have HBn := Lib.hid hbn
          have HM2 := Lib.hid hm2
          obtain ⟨M, hM⟩ : ∃ M, M = LL[m] := ⟨_, rfl⟩
          obtain ⟨a2, ha2⟩ : ∃ a2, a2 = H[m] := ⟨_, rfl⟩
          have HA2 := Lib.hid ha2
          have hhm : wr.cell? ⟨w.heap.size, m, none⟩ = some (.int .i64 (a2 : Int)) := by rw [ha2]; exact heads_at HR.out.2.2.2.1 hm2
          have ha2l : a2 < M.length := by rw [ha2, hM]; exact hm3
          have hy' : y = M[a2] := by subst hM ha2; exact hy
          rw [← hM] at hcm hthm
          obtain ⟨b2, o2, rfl, hbl2, hc2'⟩ := hthm.row (by rintro rfl; simp at ha2l)
          have hyc := hc2' a2 ha2l
          rw [← hy'] at hyc
          obtain ⟨hy0, hy1⟩ := hyc
          rw [hbn] at hbe
          have hbe' : _ = Value.int .i64 (m : Int) := hbe
          subst hbe'
          have hm1' : (m : Int) < (LL.length : Int) := by omega
          have hm2' : (m : Int) < (H.length : Int) := by omega
          have hHl : (H.length : Int) = (LL.length : Int) := by have := HH.out; omega
          have ha2l' : (a2 : Int) < (M.length : Int) := by omega
          have hmz : ¬ (m : Int) < 0 := by omega
          have ha63 : (a2 : Int) + 1 ≤ 1000000 := by
            have h1 := len_le_tot LL m hm1
            rw [← hM] at h1
            have := HTt.out
            omega
          have HPl := Lib.hid (show P.length + 1 ≤ tot LL from by
            have e := congrArg List.length HR.out.2.1
            obtain ⟨r, hr, he⟩ := mergeL_some (Ls := lefts LL H) (by rw [lefts_len HH.out]; exact hbn)
            rw [mergeL_len, he, List.length_append, List.length_cons] at e
            omega)
          have HRd := Lib.hid (HR.out.below ((Below.refl _ _).drew))
          have HP2 := Lib.hid (show P.length ≤ 1000000 by have := HPl.out; have := HTt.out; omega)
          have hLz : (wr.drew.alloc (.cells #[.int .i8 y.1, .int .i64 y.2] 28)).heap.size = wr.heap.size + 1 := by simp
          have HBz := Lib.hid (show w.heap.size + 1 ≤ (wr.drew.alloc (.cells #[.int .i8 y.1, .int .i64 y.2] 28)).heap.size by rw [hLz]; have := (Array.getElem?_eq_some_iff.1 HR.out.2.2.2.1).1; omega)
          have HLv := Lib.hid (show lenV u4 = P.length from OwnTh.lenV HR.out.2.2.1)
          clear hbe hrows hm3 hy hc2' hthm hM hy' hb1 hbn ha2
          go_wp2_with fail
          go_region_law ((refine step_appTh (by rfl) (.tmp 56) (.tmp 67) (by rfl) (w.heap.size + 1) _ _ _ P [y] (by rfl) (by rfl) (HRd.out.2.2.1.alloc _) (litTh_in wr.drew y.1 y.2) HP2.out (by simp) HBz.out ?_; intro v5 w5 ho5 hg5 hv5; have HN5 := Lib.hid (RmJ.put (m := m) HRd.out HM2.out HA2.out HBn.out ho5 hg5); have h5c := HN5.out.1; have f5 := HN5.out.2.1; clear ho5 hg5 hv5))
          go_wp2_with fail
          go_roundw
          case rel => exact ⟨_, _, Lib.hid HN5.out.2.2.1⟩
          case measure => have := HN5.out.2.2.2; have := HLv.out; have := HPl.out; omega
          exact ⟨⟨_, _, Lib.hid HN5.out.2.2.1⟩, by have := HN5.out.2.2.2; have := HLv.out; have := HPl.out; omega⟩
end Go.Proofs.Ytlccleafjpeccaa

/-
  The document's CheckPattern.
-/
import Derived.Test.YtaogfgohchpnoaaDoorTbD
namespace Go.Proofs.YtaogfgohchpnoaaDoor
open Go Go.RowKit

theorem sizeE {s : ByteArray} (h : s.toList.isEmpty = true) : (s.size : Int) = 0 := by
  rw [Lib.toList_data] at h
  have h2 := congrArg List.length (List.isEmpty_iff.1 h)
  have h3 : s.size = s.data.toList.length := by simp
  rw [h3, h2]
  rfl
theorem sizeN {s : ByteArray} (h : s.toList.isEmpty = false) : (1 : Int) ≤ (s.size : Int) := by
  rw [Lib.toList_data] at h
  have h3 : s.size = s.data.toList.length := by simp
  have : s.data.toList ≠ [] := fun e => by rw [e] at h; cases h
  have := List.length_pos_iff.2 this
  omega
theorem no_pat {p : List Tm} {k : Nat} (h : k < p.length) (g : ¬ FitsT p[k]) : ¬ OkP p := fun h' => g (h'.2 _ (List.getElem_mem h))
set_option maxHeartbeats 4000000 in
set_option maxRecDepth 100000 in
theorem rcheckPat_any (v : Value) (p : List Tm) (n₀ : Nat) (w : World) (h : PatIn n₀ w v p) (hn : n₀ ≤ w.heap.size) :
    Calls Tryd.prog 23 #[v] w fun e w' => ((OkP p ∧ e = .returned (.int .i64 0)) ∨ (¬ OkP p ∧ e = .returned (.int .i64 22))) ∧ Below w.heap.size w w' := by
  have HT := Lib.hid h
  obtain ⟨q, cap, rfl, l1, z1, q1⟩ := h
  have HZ := Lib.hid z1
  unfold maxLen at l1
  clear q1 z1
  by_cases h8 : p.length ≤ 8
  case neg =>
    have h8' : (8 : Int) < (p.length : Int) := by omega
    have h8'' : ¬ (p.length : Int) ≤ 8 := by omega
    have h0' : (0 : Int) < (p.length : Int) := by omega
    have HN : Hid (¬ OkP p) := Lib.hid fun h => h8 h.1
    clear h8
    go_enter Tryd.func23, Tryd.ntmps23
    go_wp2_with fail
    refine wp_loop_rounds 1 ?_
    rw [rounds_succ]
    go_wp2_with fail
    go_ret
    exact ⟨.inr ⟨HN.out, rfl⟩, Below.refl _ _⟩
  have h8' : (p.length : Int) ≤ 8 := by omega
  have H8 := Lib.hid h8
  clear h8
  go_enter Tryd.func23, Tryd.ntmps23
  go_wp2_with fail
  go_loopw [3, 4] (fun ok i wr => ∃ k : Nat, k ≤ p.length ∧ i = .int .i64 k ∧ ∃ z : Bool, ok = .bool z ∧ Hid ((z = true → ∀ x ∈ p.take k, FitsT x) ∧ (z = false → ¬ OkP p)) ∧ Hid (Below w.heap.size w wr)) (fun _ i _ => p.length - (intOf i).toNat)
  case atStart => exact ⟨0, Nat.zero_le _, rfl, true, rfl, Lib.hid ⟨fun _ x hx => (by cases hx), fun h => (by cases h)⟩, Lib.hid (Below.refl _ _)⟩
  case round =>
    obtain ⟨k, hk, rfl, z, rfl, HI, hB⟩ := hrel
    have h0 : (0 : Int) ≤ (k : Int) := by omega
    by_cases hlt : k < p.length
    case neg =>
      have hlt' : (p.length : Int) ≤ (k : Int) := by omega
      obtain rfl : k = p.length := by omega
      cases z with
      | false =>
        have HN := Lib.hid (HI.out.2 rfl)
        go_wp2_with fail
        go_ret
        exact ⟨.inr ⟨HN.out, rfl⟩, hB.out⟩
      | true =>
        have HO : Hid (OkP p) := Lib.hid ⟨H8.out, by have := HI.out.1 rfl; rwa [List.take_length] at this⟩
        go_wp2_with fail
        go_ret
        exact ⟨.inl ⟨HO.out, rfl⟩, hB.out⟩
    have hlt' : (k : Int) < (p.length : Int) := by omega
    cases z with
    | false =>
      have HN := Lib.hid (HI.out.2 rfl)
      go_wp2_with fail
      go_ret
      exact ⟨.inr ⟨HN.out, rfl⟩, hB.out⟩
    | true =>
      obtain ⟨b, off, cap', hv, hb, hc⟩ := HT.out.some hlt
      injection hv with hp _ hcap
      subst hp hcap
      have hbw : b < w.heap.size := by omega
      have hbs := hB.out.size
      obtain ⟨x0, x1, x2, x3, x4⟩ := (hc.below hB.out hbw) k hlt
      have HAll := Lib.hid (HI.out.1 rfl)
      have HBx := Lib.hid (show Below w.heap.size w (wr.alloc (.cells #[.int .i64 p[k].k, .string p[k].nm, .int .i64 p[k].v.k, .int .i64 p[k].v.n, .string p[k].v.s] 51)) from hB.out.alloc hbs _)
      have HZk := HZ.out _ (List.getElem_mem hlt)
      unfold maxLen at HZk
      have hz' : (p[k].nm.size : Int) ≤ 9223372036854775807 := by omega
      obtain ⟨z, hzz⟩ : ∃ z, z = sameV p[k].v zeroV := ⟨_, rfl⟩
      have hE : ∀ W : World, (binOp .eql 49 (.agg #[.int .i64 p[k].v.k, .int .i64 p[k].v.n, .string p[k].v.s]) (.agg #[.int .i64 0, .int .i64 0, .string ⟨#[]⟩])).run Tryd.prog W = .ok (.bool z) W := fun W => by rw [hzz]; exact eqV_run p[k].v zeroV W
      have HZZ := Lib.hid hzz
      have c1 : ∀ W, Below (wr.alloc (.cells #[.int .i64 p[k].k, .string p[k].nm, .int .i64 p[k].v.k, .int .i64 p[k].v.n, .string p[k].v.s] 51)).heap.size (wr.alloc (.cells #[.int .i64 p[k].k, .string p[k].nm, .int .i64 p[k].v.k, .int .i64 p[k].v.n, .string p[k].v.s] 51)) W → W.cell? ⟨wr.heap.size, 1, none⟩ = some (.string p[k].nm) := fun W h => (h.cell (p := ⟨wr.heap.size, 1, none⟩) (by simp)).trans (by rw [cell_of_row _ _ 1 _ _ (0, 0) (heap_alloc_new wr (.cells #[.int .i64 p[k].k, .string p[k].nm, .int .i64 p[k].v.k, .int .i64 p[k].v.n, .string p[k].v.s] 51))]; rfl)
      clear hzz hc HZk hbs hbw HI
      cases h2 : (p[k].k == 2) with
      | true =>
        have HK := Lib.hid (show p[k].k = 2 by simpa using h2)
        by_cases hv : IsV p[k].v.k p[k].v.n p[k].v.s
        case neg =>
          have HV := Lib.hid hv
          clear hv
          go_wp2_with fail
          refine (is_no _ _ _ _ HV.out).mono ?_
          rintro e w1 ⟨rfl, hb1⟩
          have c1' := c1 _ hb1
          have HB1 := Lib.hid (HBx.out.trans (hb1.mono HBx.out.size))
          clear hb1
          have HA := Lib.hid (no_pat hlt (fits_no1 HK.out (.inr HV.out)))
          clear c1
          go_wp2_with fail
          go_roundw
          case rel => exact ⟨k + 1, by omega, by go_num, false, rfl, Lib.hid ⟨fun h => (by cases h), fun _ => HA.out⟩, HB1⟩
          case measure => simp [intOf]; omega
        cases he : p[k].nm.toList.isEmpty with
        | false =>
          have HV := Lib.hid hv
          clear hv
          go_wp2_with fail
          refine (is_yes _ _ _ _ HV.out).mono ?_
          rintro e w1 ⟨rfl, hb1⟩
          have c1' := c1 _ hb1
          have HB1 := Lib.hid (HBx.out.trans (hb1.mono HBx.out.size))
          clear hb1
          have HA := Lib.hid (no_pat hlt (fits_no1 HK.out (.inl he)))
          clear c1
          go_wp2_with fail
          go_roundw
          case rel => exact ⟨k + 1, by omega, by go_num, false, rfl, Lib.hid ⟨fun h => (by cases h), fun _ => HA.out⟩, HB1⟩
          case measure => simp [intOf]; omega
        | true =>
          have HV := Lib.hid hv
          clear hv
          go_wp2_with fail
          refine (is_yes _ _ _ _ HV.out).mono ?_
          rintro e w1 ⟨rfl, hb1⟩
          have c1' := c1 _ hb1
          have HB1 := Lib.hid (HBx.out.trans (hb1.mono HBx.out.size))
          clear hb1
          have HA := Lib.hid (fits_take HAll.out hlt (fits_const HK.out he HV.out))
          clear c1
          go_wp2_with fail
          go_roundw
          case rel => exact ⟨k + 1, by omega, by go_num, true, rfl, Lib.hid ⟨fun _ => HA.out, fun h => (by cases h)⟩, HB1⟩
          case measure => simp [intOf]; omega
      | false =>
        cases h1 : (p[k].k == 1) with
        | true =>
          have HK := Lib.hid (show p[k].k = 1 by simpa using h1)
          cases he : p[k].nm.toList.isEmpty with
          | true =>
            have hsz : (p[k].nm.size : Int) = 0 := sizeE he
            have HA := Lib.hid (no_pat hlt (fits_no2 HK.out (.inl he)))
            clear c1
            go_wp2_with fail
            go_roundw
            case rel => exact ⟨k + 1, by omega, by go_num, false, rfl, Lib.hid ⟨fun h => (by cases h), fun _ => HA.out⟩, HBx⟩
            case measure => simp [intOf]; omega
          | false =>
            have hsz : (1 : Int) ≤ (p[k].nm.size : Int) := sizeN he
            by_cases hl : (p[k].nm.size : Int) ≤ 64
            case neg =>
              have hl2 : 64 < (p[k].nm.size : Int) := by omega
              have HA := Lib.hid (no_pat hlt (fits_no2 HK.out (.inr (.inl hl2))))
              clear c1
              go_wp2_with fail
              go_roundw
              case rel => exact ⟨k + 1, by omega, by go_num, false, rfl, Lib.hid ⟨fun h => (by cases h), fun _ => HA.out⟩, HBx⟩
              case measure => simp [intOf]; omega
            cases z with
            | true =>
              have HA := Lib.hid (fits_take HAll.out hlt (fits_var HK.out he hl HZZ.out.symm))
              clear c1
              go_wp2_with fail
              go_roundw
              case rel => exact ⟨k + 1, by omega, by go_num, true, rfl, Lib.hid ⟨fun _ => HA.out, fun h => (by cases h)⟩, HBx⟩
              case measure => simp [intOf]; omega
            | false =>
              have HA := Lib.hid (no_pat hlt (fits_no2 HK.out (.inr (.inr HZZ.out.symm))))
              clear c1
              go_wp2_with fail
              go_roundw
              case rel => exact ⟨k + 1, by omega, by go_num, false, rfl, Lib.hid ⟨fun h => (by cases h), fun _ => HA.out⟩, HBx⟩
              case measure => simp [intOf]; omega
        | false =>
          cases h3 : (p[k].k == 3) with
          | true =>
            have HK := Lib.hid (show p[k].k = 3 by simpa using h3)
            cases he : p[k].nm.toList.isEmpty with
            | false =>
              have HA := Lib.hid (no_pat hlt (fits_no3 HK.out (.inl he)))
              clear c1
              go_wp2_with fail
              go_roundw
              case rel => exact ⟨k + 1, by omega, by go_num, false, rfl, Lib.hid ⟨fun h => (by cases h), fun _ => HA.out⟩, HBx⟩
              case measure => simp [intOf]; omega
            | true =>
              cases z with
              | true =>
                have HA := Lib.hid (fits_take HAll.out hlt (fits_wild HK.out he HZZ.out.symm))
                clear c1
                go_wp2_with fail
                go_roundw
                case rel => exact ⟨k + 1, by omega, by go_num, true, rfl, Lib.hid ⟨fun _ => HA.out, fun h => (by cases h)⟩, HBx⟩
                case measure => simp [intOf]; omega
              | false =>
                have HA := Lib.hid (no_pat hlt (fits_no3 HK.out (.inr HZZ.out.symm)))
                clear c1
                go_wp2_with fail
                go_roundw
                case rel => exact ⟨k + 1, by omega, by go_num, false, rfl, Lib.hid ⟨fun h => (by cases h), fun _ => HA.out⟩, HBx⟩
                case measure => simp [intOf]; omega
          | false =>
            have HA := Lib.hid (no_pat hlt (fits_no4 h2 h1 h3))
            clear c1
            go_wp2_with fail
            go_roundw
            case rel => exact ⟨k + 1, by omega, by go_num, false, rfl, Lib.hid ⟨fun h => (by cases h), fun _ => HA.out⟩, HBx⟩
            case measure => simp [intOf]; omega
end Go.Proofs.YtaogfgohchpnoaaDoor

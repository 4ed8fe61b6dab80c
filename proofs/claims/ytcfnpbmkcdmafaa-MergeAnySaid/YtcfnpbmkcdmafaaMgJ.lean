/-
  Contract of merge.least: the walk.
-/
import Derived.Test.YtcfnpbmkcdmafaaMgI
namespace Go.Proofs.Ytcfnpbmkcdmafaa
open Go Go.RowKit

theorem eqSrc_nil (W : World) : (binOp .eql 87 (.pointer none) (.pointer none)).run Try.prog W = .ok (.bool true) W := by kernel_rfl
theorem eqSrc_ptr (s : Nat) (W : World) : (binOp .eql 87 (.pointer (some ⟨s, 0, none⟩)) (.pointer none)).run Try.prog W = .ok (.bool false) W := by kernel_rfl
theorem bestN_hit {Ls : List (List Th)} {n : Nat} {x : Th} {r : List Th} (h : Ls[n]? = some (x :: r)) : bestN Ls (n + 1) = match bestN Ls n with
    | none => some (n, x)
    | some (m, y) => if cmpT2 x y < 0 then some (n, x) else some (m, y) := by
  conv => lhs; unfold bestN
  rw [h]
  rfl
theorem bestN_miss {Ls : List (List Th)} {n : Nat} (h : Ls[n]? = some []) : bestN Ls (n + 1) = bestN Ls n := by
  conv => lhs; unfold bestN
  rw [h]
def Four (s n : Nat) (x y : Th) (X : World) : Prop := X.cell? ⟨s, 1, none⟩ = some (.int .i8 y.1) ∧ X.cell? ⟨s, 2, none⟩ = some (.int .i64 y.2) ∧ X.cell? ⟨n, 0, none⟩ = some (.int .i8 x.1) ∧ X.cell? ⟨n, 1, none⟩ = some (.int .i64 x.2)
theorem Four.below {s n : Nat} {x y : Th} {W W' : World} (hb : Below W.heap.size W W') (h : Four s n x y W) : Four s n x y W' := by
  obtain ⟨h1, h2, h3, h4⟩ := h
  have g : ∀ {b o v}, W.cell? ⟨b, o, none⟩ = some v → W'.cell? ⟨b, o, none⟩ = some v := fun {b o v} e => (hb.cell (p := ⟨b, o, none⟩) (World.block_lt_of_cell? W _ e)).trans e
  exact ⟨g h1, g h2, g h3, g h4⟩
set_option maxRecDepth 100000 in
set_option maxHeartbeats 4000000 in
theorem least_any {Q : List SrcQ} {Y S : Nat → Prop} {w : World} {v : Value} (h : Srcs Q Y w) (hv : PtrIn S w v (Q.map (·.1))) (hS : ∀ k, S k → ¬ Y k) (hQ : Q.length ≤ 1000) :
    Calls Try.prog 53 #[cmpFn, v] w (LeastEnd Q Y w) := by
  have H0 := Lib.hid (show LsJ Q Y w 0 w from ⟨Upd.refl _ _, by
    have h' : Srcs Q Y w := h
    obtain ⟨q0, F, q1, q2, q3⟩ := h'
    refine ⟨fun k e => ?_, F, by simpa using q1, by simpa using q2, fun i k hi e => .inl (q3 i k (by simpa using hi) e)⟩
    rcases e with e | e
    · exact q0 k e
    · omega⟩)
  have HV := Lib.hid hv
  obtain ⟨p, c, rfl, hc1, hc2, -⟩ := hv
  rw [List.length_map] at hc1 HV ⊢
  clear h
  have q1 := eqSrc_nil
  have q2 := eqSrc_ptr
  have HQ := Lib.hid hQ
  have HSS := Lib.hid hS
  clear hS
  go_enter Try.func53, Try.ntmps53
  go_wp2_with fail
  go_loopw [5, 12] (fun kp i wr => ∃ n : Nat, n ≤ Q.length ∧ i = .int .i64 n ∧ Hid (LsJ Q Y w n wr) ∧ kp = bestV (Q.map (·.1)) (bestN (leftQ Q) n)) (fun _ i _ => Q.length - (intOf i).toNat)
  case atStart => exact ⟨0, Nat.zero_le _, rfl, H0, rfl⟩
  case round =>
    obtain ⟨n, hn, rfl, HJ, hkp⟩ := hrel
    by_cases hlt : n < Q.length
    · obtain ⟨b, off, rfl, hb, hbl, hcell⟩ := HV.out.row (by intro e; rw [List.map_eq_nil_iff] at e; rw [e] at hlt; simp at hlt)
      obtain ⟨s, hs⟩ : ∃ s, s = Q[n].1 := ⟨_, rfl⟩
      have hcl : wr.cell? ⟨b, off + n, none⟩ = some (.pointer (some ⟨s, 0, none⟩)) := by
        have h1 := hcell n (by simpa using hlt)
        rw [List.getElem_map, ← hs] at h1
        exact (World.cell?_of_block (a := ⟨b, off + n, none⟩) (HJ.out.1.block b hbl (fun _ e => HSS.out b hb e))).trans h1
      obtain ⟨Yi, g1, g2⟩ := HJ.out.next hlt
      rw [← hs] at g1 g2
      have HC := Lib.hid (peek_any g1)
      have HG := Lib.hid g2
      clear g1 g2 hcell
      have hlt' : (n : Int) < (Q.length : Int) := by omega
      obtain ⟨L, hL⟩ : ∃ L, L = Q[n].2.2 := ⟨_, rfl⟩
      have HLs := Lib.hid (show (leftQ Q)[n]? = some L by unfold leftQ; rw [List.getElem?_map, List.getElem?_eq_getElem hlt, hL]; rfl)
      rw [← hL] at HC HG
      have HSn := Lib.hid (show ∀ x, bestV (Q.map (·.1)) (some (n, x)) = .pointer (some ⟨s, 0, none⟩) from fun x => by unfold bestV; simp [List.getD, hlt, hs])
      clear hL hs
      go_wp2_with fail
      refine HC.out.mono ?_
      rintro e w1 ⟨rfl, hu, Y', hs', hsrc⟩
      have HJ1 := Lib.hid (HG.out w1 Y' hu hs' hsrc)
      clear hu hs' hsrc HC HG
      have HK := Lib.hid hkp
      clear hkp
      cases L with
      | nil =>
        have HB := Lib.hid (bestN_miss HLs.out)
        unfold headV
        go_wp2_with fail
        go_region
        go_wp2_with fail
        go_roundw
        case rel => exact ⟨n + 1, hlt, by simp, Lib.hid (HJ1.out.below ((Below.refl _ _).alloc (Nat.le_refl _) _).drew), by rw [HB.out]; exact HK.out⟩
        case measure => simp [intOf]; omega
      | cons x r =>
        have HB := Lib.hid (bestN_hit HLs.out)
        unfold headV
        rcases hbn : bestN (leftQ Q) n with _ | ⟨m, y⟩
        · have hk := HK.out
          rw [hbn] at hk
          unfold bestV at hk
          simp only at hk
          have HBn := Lib.hid hbn
          subst hk
          clear hbn
          go_wp2_with fail
          go_region
          go_wp2_with fail
          go_roundw
          case rel => exact ⟨n + 1, hlt, by simp, Lib.hid (HJ1.out.below ((Below.refl _ _).alloc (Nat.le_refl _) _).drew), by rw [HB.out, HBn.out]; exact (HSn.out x).symm⟩
          case measure => simp [intOf]; omega
        · have HBn := Lib.hid hbn
          obtain ⟨sm, es, hsm, y1, y2⟩ := HJ1.out.head hbn (Nat.le_succ _) hlt
          have hk := HK.out
          rw [hbn] at hk
          unfold bestV at hk
          simp only [es] at hk
          have HES := Lib.hid es
          clear hbn es
          subst hk
          obtain ⟨z, hz⟩ : ∃ z, z = cmpT2 x y := ⟨_, rfl⟩
          have HZ := Lib.hid hz
          clear hz
          have y1' := (World.cell?_alloc_lt w1 (.cells #[.int .i8 x.1, .int .i64 x.2] 28) ⟨sm, 1, none⟩ hsm).trans y1
          have y2' := (World.cell?_alloc_lt w1 (.cells #[.int .i8 x.1, .int .i64 x.2] 28) ⟨sm, 2, none⟩ hsm).trans y2
          have x1' : (w1.alloc (.cells #[.int .i8 x.1, .int .i64 x.2] 28)).cell? ⟨w1.heap.size, 0, none⟩ = some (.int .i8 x.1) := by rw [cell_of_row _ w1.heap.size 0 _ _ (0, 0) (heap_alloc_new w1 _)]; rfl
          have x2' : (w1.alloc (.cells #[.int .i8 x.1, .int .i64 x.2] 28)).cell? ⟨w1.heap.size, 1, none⟩ = some (.int .i64 x.2) := by rw [cell_of_row _ w1.heap.size 1 _ _ (0, 0) (heap_alloc_new w1 _)]; rfl
          have HS := Lib.hid (And.intro y1' (And.intro y2' (And.intro x1' x2')))
          clear y1 y2 y1' y2' x1' x2'
          by_cases hz0 : z < 0
          · have HB2 := Lib.hid (show bestN (leftQ Q) (n + 1) = some (n, x) by rw [HB.out, HBn.out]; simp only; rw [if_pos (by rw [← HZ.out]; exact hz0)])
            go_wp2_with fail
            go_region_held3 (fun X => X.cell? ⟨sm, 1, none⟩ = some (.int .i8 y.1) ∧ X.cell? ⟨sm, 2, none⟩ = some (.int .i64 y.2) ∧ X.cell? ⟨w1.heap.size, 0, none⟩ = some (.int .i8 x.1) ∧ X.cell? ⟨w1.heap.size, 1, none⟩ = some (.int .i64 x.2)) (first | exact HS.out | exact HS4.out)
              ((go_at_call 22; refine (cmp_any x y _).mono ?_; rintro e w4 ⟨rfl, hb4⟩; rw [← HZ.out]; have HJ4 := Lib.hid (HJ1.out.below ((((Below.refl _ _).alloc (Nat.le_refl _) _).drew).trans (hb4.mono (by simp)))); have HS4 := Lib.hid (Four.below hb4 (show Four sm w1.heap.size x y _ from HS.out)); clear hb4))
            go_wp2_with fail
            go_roundw
            case rel => exact ⟨n + 1, hlt, by simp, HJ4, by rw [HB2.out]; exact (HSn.out x).symm⟩
            case measure => simp [intOf]; omega
          · have HB2 := Lib.hid (show bestN (leftQ Q) (n + 1) = some (m, y) by rw [HB.out, HBn.out]; simp only; rw [if_neg (by rw [← HZ.out]; exact hz0)])
            go_wp2_with fail
            go_region_held3 (fun X => X.cell? ⟨sm, 1, none⟩ = some (.int .i8 y.1) ∧ X.cell? ⟨sm, 2, none⟩ = some (.int .i64 y.2) ∧ X.cell? ⟨w1.heap.size, 0, none⟩ = some (.int .i8 x.1) ∧ X.cell? ⟨w1.heap.size, 1, none⟩ = some (.int .i64 x.2)) (first | exact HS.out | exact HS4.out)
              ((go_at_call 22; refine (cmp_any x y _).mono ?_; rintro e w4 ⟨rfl, hb4⟩; rw [← HZ.out]; have HJ4 := Lib.hid (HJ1.out.below ((((Below.refl _ _).alloc (Nat.le_refl _) _).drew).trans (hb4.mono (by simp)))); have HS4 := Lib.hid (Four.below hb4 (show Four sm w1.heap.size x y _ from HS.out)); clear hb4))
            go_wp2_with fail
            go_roundw
            case rel => exact ⟨n + 1, hlt, by simp, HJ4, by rw [HB2.out]; unfold bestV; simp only [HES.out]⟩
            case measure => simp [intOf]; omega
    · obtain rfl : n = Q.length := by omega
      go_wp2_with fail
      go_ret
      refine ⟨by rw [← hkp]; rfl, HJ.out.1, ?_⟩
      have h1 := HJ.out.2
      rw [List.take_length, List.drop_length, List.append_nil] at h1
      exact h1
end Go.Proofs.Ytcfnpbmkcdmafaa

/-
  Contract of the laws' rises; a mark that is stored; marks that were seen.
-/
import Derived.Test.YtlccleafjpeccaaMhG
import Derived.Test.YtlccleafjpeccaaMhN
import Derived.Test.YtlccleafjpeccaaDkM
import Derived.Maps.Views
namespace Go.Proofs.Ytlccleafjpeccaa
open Go Go.RowKit Go.Shelf Go.Maps

theorem rise_adj {L : List Th} (h : ∀ i (_ : i + 1 < L.length), L[i].1 ≤ L[i + 1].1) : Rise L := by
  induction L with
  | nil => exact List.Pairwise.nil
  | cons x r ih =>
    have ih' := ih (fun i hi => by have := h (i + 1) (by simpa using hi); simpa using this)
    refine List.pairwise_cons.2 ⟨fun z hz => ?_, ih'⟩
    rcases r with _ | ⟨y, s⟩
    · cases hz
    · have h0 := h 0 (by simp)
      simp at h0
      rcases List.mem_cons.1 hz with rfl | hz
      · exact h0
      · exact Int.le_trans h0 ((List.pairwise_cons.1 ih').1 z hz)
def riseTo (L : List Th) (n : Nat) : Prop := ∀ i (_ : i + 1 < L.length), i + 1 < n → L[i].1 ≤ L[i + 1].1
def RisesEnd (L : List Th) (w : World) (e : Ending) (w' : World) : Prop := ∃ b : Bool, e = .returned (.bool b) ∧ (b = true → Rise L) ∧ (Rise L → b = true) ∧ Below w.heap.size w w'
set_option maxRecDepth 100000 in
set_option maxHeartbeats 4000000 in
theorem rises_any {S : Nat → Prop} {v : Value} {L : List Th} {w : World} (h : ThIn S w v L) (hl : L.length ≤ 1000) :
    Calls Try.prog 41 #[v] w (RisesEnd L w) := by
  have HV := Lib.hid (show ∀ W, Below w.heap.size w W → ThIn (fun k => S k ∧ k < w.heap.size) W v L from fun W hb => h.keep hb.size (fun k e hk => ⟨⟨e, hk⟩, hb.block k hk⟩))
  obtain ⟨p, c, rfl, hc1, hc2, -⟩ := h
  have HL := Lib.hid hl
  go_enter Try.func41, Try.ntmps41
  go_wp2_with fail
  go_loopw [3] (fun i wr => ∃ n : Nat, 1 ≤ n ∧ (n ≤ L.length ∨ n = 1) ∧ i = .int .i64 n ∧ Hid (riseTo L n ∧ Below w.heap.size w wr)) (fun i _ => L.length - (intOf i).toNat)
  case atStart => exact ⟨1, Nat.le_refl _, .inr rfl, rfl, Lib.hid ⟨fun i _ h => by omega, Below.refl _ _⟩⟩
  case round =>
    obtain ⟨n, hn1, hn, rfl, HJ⟩ := hrel
    by_cases hlt : n < L.length
    · have hlt' : (n : Int) < (L.length : Int) := by omega
      obtain ⟨k, rfl⟩ : ∃ k, n = k + 1 := ⟨n - 1, by omega⟩
      obtain ⟨x, hx⟩ : ∃ x, x = L[k + 1] := ⟨_, rfl⟩
      obtain ⟨y, hy⟩ : ∃ y, y = L[k] := ⟨_, rfl⟩
      have HXY := Lib.hid (And.intro hx hy)
      obtain ⟨b, off, rfl, hbl, hcl⟩ := (HV.out wr HJ.out.2).row (by rintro rfl; simp at hlt)
      have hxc := hcl (k + 1) hlt
      have hyc := hcl k (by omega)
      rw [← hx] at hxc
      rw [← hy] at hyc
      obtain ⟨N, hN⟩ : ∃ N, N = k + 1 := ⟨_, rfl⟩
      rw [← hN] at hxc hlt hlt' ⊢
      have HN := Lib.hid hN
      have hw : IntKind.i64.wrap ((N : Int) - 1) = (k : Int) := by
        have := HL.out
        rw [IntKind.wrap_i64]; omega
      have hk1 : (k : Int) < (L.length : Int) := by omega
      have hn63 : (N : Int) + 1 ≤ 1000 ∨ (N : Int) + 1 ≤ 1001 := .inr (by have := HL.out; omega)
      have hn64 : (N : Int) + 1 ≤ 1001 := by have := HL.out; omega
      have HF := Lib.hid (show FourO b off N b off k x y wr from ⟨hxc.1, hxc.2, hyc.1, hyc.2⟩)
      have HBd := Lib.hid HJ.out.2.drew
      have HRt := Lib.hid HJ.out.1
      obtain ⟨z, hz⟩ : ∃ z, z = cmpT2 x y := ⟨_, rfl⟩
      have HZ := Lib.hid hz
      clear hxc hyc hcl hx hy hN hz hn hn63 hn1
      by_cases hz0 : z < 0
      · have HRf := Lib.hid (show ¬ Rise L from fun hr => by
          have h1 := List.pairwise_iff_getElem.1 hr k (k + 1) (by omega) (by have := HN.out; omega) (by omega)
          rw [← HXY.out.1, ← HXY.out.2] at h1
          have h2 := (cmp_lt x y).1 (by rw [← HZ.out]; exact hz0)
          omega)
        go_wp2_with fail
        go_region_held3 (fun X => X.cell? ⟨b, off + N * 2, none⟩ = some (.int .i8 x.1) ∧ X.cell? ⟨b, off + N * 2 + 1, none⟩ = some (.int .i64 x.2) ∧ X.cell? ⟨b, off + k * 2, none⟩ = some (.int .i8 y.1) ∧ X.cell? ⟨b, off + k * 2 + 1, none⟩ = some (.int .i64 y.2)) (first | exact HF.out | exact HF4.out)
          ((go_at_call 22; refine (cmp_any x y _).mono ?_; rintro e w4 ⟨rfl, hb4⟩; rw [← HZ.out]; have HB4 := Lib.hid (HBd.out.trans (hb4.mono HBd.out.size)); have HF4 := Lib.hid (HF.out.below ((Below.refl _ _).drew.trans hb4)); clear hb4))
        go_wp2_with fail
        go_ret
        exact ⟨false, rfl, (fun h => Bool.noConfusion h), (fun h => absurd h HRf.out), HB4.out⟩
      · have HRn := Lib.hid (show riseTo L (N + 1) from fun i hi hin => by
          by_cases e : i + 1 < k + 1
          · exact HRt.out i hi e
          · obtain rfl : i = k := by have := HN.out; omega
            rw [← HXY.out.1, ← HXY.out.2]
            have := mt (cmp_lt x y).2 (by rw [← HZ.out]; exact hz0)
            omega)
        go_wp2_with fail
        go_region_held3 (fun X => X.cell? ⟨b, off + N * 2, none⟩ = some (.int .i8 x.1) ∧ X.cell? ⟨b, off + N * 2 + 1, none⟩ = some (.int .i64 x.2) ∧ X.cell? ⟨b, off + k * 2, none⟩ = some (.int .i8 y.1) ∧ X.cell? ⟨b, off + k * 2 + 1, none⟩ = some (.int .i64 y.2)) (first | exact HF.out | exact HF4.out)
          ((go_at_call 22; refine (cmp_any x y _).mono ?_; rintro e w4 ⟨rfl, hb4⟩; rw [← HZ.out]; have HB4 := Lib.hid (HBd.out.trans (hb4.mono HBd.out.size)); have HF4 := Lib.hid (HF.out.below ((Below.refl _ _).drew.trans hb4)); clear hb4))
        go_wp2_with fail
        go_roundw
        case rel => exact ⟨N + 1, by omega, .inl hlt, by simp, Lib.hid ⟨HRn.out, HB4.out⟩⟩
        case measure => simp [intOf]; omega
    · have hlt' : ¬ (n : Int) < (L.length : Int) := by omega
      have HR := Lib.hid (rise_adj (L := L) (fun i hi => HJ.out.1 i hi (by omega)))
      go_wp2_with fail
      go_ret
      exact ⟨true, rfl, fun _ => HR.out, fun _ => rfl, HJ.out.2⟩
/-- A mark is stored into a row of the call's own. -/
theorem OwnTh.mark {B : Nat} {w : World} {v : Value} {A C : List Th} {x : Th} {g cap : Nat} (h : OwnTh B w v (A ++ x :: C)) (hv : v = .slice (some ⟨g, 0, none⟩) (A ++ x :: C).length cap) (m : Int) : OwnTh B (w.setCell ⟨g, A.length * 2 + 1, none⟩ (.int .i64 m)) v (A ++ (x.1, m) :: C) := by
  subst hv
  have e2 : cellsTh (A ++ (x.1, m) :: C) = (cellsTh (A ++ x :: C)).set (A.length * 2 + 1) (.int .i64 m) := by
    rw [cellsTh_append, cellsTh_append, List.set_append_right _ _ (by rw [cellsTh_len]; omega), cellsTh_len]
    rw [show A.length * 2 + 1 - A.length * 2 = 1 by omega]
    rfl
  have el : (A ++ (x.1, m) :: C).length = (A ++ x :: C).length := by simp
  rcases h.2 with ⟨e, -⟩ | ⟨g', cap', cur, e, hB, hg, hnc, hcm, hcs, htk⟩
  · cases e
  · cases e
    unfold OwnTh
    refine ⟨by rw [cellsTh_len], .inr ⟨g, cap, cur.setIfInBounds (A.length * 2 + 1) (.int .i64 m), by rw [el], hB, ?_, by rw [el]; exact hnc, hcm, by simpa using hcs, ?_⟩⟩
    · exact Go.heap_setCell_same _ _ _ _ _ _ hg
    · rw [el, Array.toList_setIfInBounds, List.take_set, htk, ← e2]
/-- A map of marks that were seen. -/
def SeenAt (w : World) (b n : Nat) (M : List Int) : Prop := ∃ D, MapAt w Try.prog 3 b n D ∧ IsMap D ∧ ∀ m : Int, D.atKey (.int .i64 m) (.held (.bool false)) = .held (.bool (decide (m ∈ M)))
end Go.Proofs.Ytlccleafjpeccaa

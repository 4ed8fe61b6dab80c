/-
  Contract of pack's reading of a value of a key.
-/
import Derived.Test.YthnpiafpkllbpaaPkRs
namespace Go.Proofs.Ythnpiafpkllbpaa
open Go Go.RowKit

theorem keyP_int (r : List UInt8) : keyP (1 :: r) = (intP r).map fun x => (⟨1, x.1, ⟨#[]⟩⟩, x.2) := by
  rw [keyP, if_pos rfl]
  unfold intP
  by_cases h : 8 ≤ r.length
  · rw [if_pos h, if_pos h]; rfl
  · rw [if_neg h, if_neg h]; rfl
theorem keyP_sym (r : List UInt8) : keyP (2 :: r) = (symP r []).map fun x => (symV x.1, x.2) := by
  rw [keyP, if_neg (by decide), if_pos rfl]
  cases symP r [] <;> rfl
theorem keyP_none {c : UInt8} (r : List UInt8) (h1 : c ≠ 1) (h2 : c ≠ 2) : keyP (c :: r) = none := by
  rw [keyP, if_neg h1, if_neg h2]
theorem RestAt.alloc {n₀ : Nat} {w : World} {R : Nat} {l : List UInt8} (h : RestAt n₀ w R l) (o : Obj) : RestAt n₀ (w.alloc o) R l := h.below ((Below.refl w.heap.size w).alloc (Nat.le_refl _) o) h.lt
theorem keep_alloc (R : Nat) (w : World) (o : Obj) : KeepR R w (w.alloc o) := (keep_refl R w).below ((Below.refl _ _).alloc (Nat.le_refl _) o)
/-- The new block's cells, after readings. -/
theorem new_cells {R : Nat} {w w1 : World} {x y z : Value} {t : TypeId} (hk : KeepR R (w.alloc (.cells #[x, y, z] t)) w1) (hR : R < w.heap.size) :
    w1.cell? ⟨w.heap.size, 0, none⟩ = some x ∧ w1.cell? ⟨w.heap.size, 1, none⟩ = some y ∧ w1.cell? ⟨w.heap.size, 2, none⟩ = some z ∧ w1.frozen? ⟨w.heap.size, 0, none⟩ = false ∧ w1.frozen? ⟨w.heap.size, 1, none⟩ = false ∧ w1.frozen? ⟨w.heap.size, 2, none⟩ = false ∧ w.heap.size < w1.heap.size := by
  have hb := (hk.block w.heap.size (by simp) (by intro e; injection e with e; omega)).trans (heap_alloc_new w _)
  exact ⟨cell_of_row w1 _ 0 _ _ (0, 0) hb, cell_of_row w1 _ 1 _ _ (0, 0) hb, cell_of_row w1 _ 2 _ _ (0, 0) hb, frozen_of_row w1 _ 0 _ _ hb, frozen_of_row w1 _ 1 _ _ hb, frozen_of_row w1 _ 2 _ _ hb, (Array.getElem?_eq_some_iff.1 hb).1⟩
theorem below_sets (B : Nat) (w : World) (x y z : Value) : Below B w (((w.setCell ⟨B, 0, none⟩ x).setCell ⟨B, 1, none⟩ y).setCell ⟨B, 2, none⟩ z) :=
  (((Below.refl B w).setCell (p := ⟨B, 0, none⟩) (Nat.le_refl _) x).setCell (p := ⟨B, 1, none⟩) (Nat.le_refl _) y).setCell (p := ⟨B, 2, none⟩) (Nat.le_refl _) z
def aggV (x : V3) : Value := .agg #[.int .i64 x.k, .int .i64 x.n, .string x.s]

set_option maxHeartbeats 2000000 in
set_option maxRecDepth 100000 in
theorem rdKey_any (n₀ R : Nat) (l : List UInt8) (w : World) (h : RestAt n₀ w R l) : Calls Try.prog 57 #[.pointer (some ⟨R, 0, none⟩)] w (ReadEnd (fun x _ v => v = aggV x) n₀ R (keyP l) w) := by
  have H := Lib.hid h
  have hRlt := h.lt
  clear h
  have K0 := Lib.hid (keep_alloc R w (.cells #[.int .i64 0, .int .i64 0, .string ⟨#[]⟩] 78))
  go_enter Try.func57, Try.ntmps57
  go_wp2_with fail
  refine (one_any n₀ R l _ (H.out.alloc _)).mono ?_
  rintro e w1 (⟨c, r, rfl, rfl, hr, hk⟩ | ⟨rfl, rfl, hk⟩)
  rotate_left
  · have HK := Lib.hid (K0.out.trans hk)
    clear hk
    go_wp2_with fail
    exact ⟨rfl, HK.out, .inr ⟨rfl, rfl⟩⟩
  have HK := Lib.hid hk
  have HR := Lib.hid hr
  clear hk hr
  cases h1 : ((c.toNat : Int) == 1) with
  | true =>
    obtain rfl := zero_of h1 (by decide)
    clear h1
    go_wp2_with fail
    refine (rdInt_any n₀ R r w1 HR.out).mono ?_
    rintro e w2 ⟨hk, ⟨x, r', v, ho, rfl, rfl, hr⟩ | ⟨ho, rfl⟩⟩
    · have HK2 := Lib.hid (HK.out.trans hk)
      have HR2 := Lib.hid hr
      have HO := Lib.hid ho
      clear hk hr ho
      obtain ⟨c0, c1, c2, f0, f1, f2, hlt⟩ := new_cells HK2.out hRlt
      go_wp2_with fail
      exact bodyPost_ret (v := aggV ⟨1, x, ⟨#[]⟩⟩) (by simp [results, Try.results57, go_sem, aggV, c0, c1, c2]) rfl ⟨(K0.out.trans HK2.out).below (below_sets _ _ _ _ _), .inl ⟨⟨1, x, ⟨#[]⟩⟩, r', _, (keyP_int r).trans (by rw [HO.out]; rfl), rfl, rfl, HR2.out.below (below_sets _ _ _ _ _) hRlt⟩⟩
    · have HK2 := Lib.hid ((K0.out.trans HK.out).trans hk)
      have HO := Lib.hid ho
      clear hk ho
      go_wp2_with fail
      exact ⟨rfl, HK2.out, .inr ⟨(keyP_int r).trans (by rw [HO.out]; rfl), rfl⟩⟩
  | false =>
    have hc1 := other_of h1 1 rfl
    cases h2 : ((c.toNat : Int) == 2) with
    | true =>
      obtain rfl := zero_of h2 (by decide)
      clear h1 h2 hc1
      go_wp2_with fail
      refine (rdSym_any n₀ R r w1 HR.out).mono ?_
      rintro e w2 ⟨hk, ⟨x, r', v, ho, rfl, rfl, hr⟩ | ⟨ho, rfl⟩⟩
      · have HK2 := Lib.hid (HK.out.trans hk)
        have HR2 := Lib.hid hr
        have HO := Lib.hid ho
        clear hk hr ho
        obtain ⟨c0, c1, c2, f0, f1, f2, hlt⟩ := new_cells HK2.out hRlt
        go_wp2_with fail
        exact bodyPost_ret (v := aggV (symV x)) (by simp [results, Try.results57, go_sem, aggV, symV, c0, c1, c2]) rfl ⟨(K0.out.trans HK2.out).below (below_sets _ _ _ _ _), .inl ⟨symV x, r', _, (keyP_sym r).trans (by rw [HO.out]; rfl), rfl, rfl, HR2.out.below (below_sets _ _ _ _ _) hRlt⟩⟩
      · have HK2 := Lib.hid ((K0.out.trans HK.out).trans hk)
        have HO := Lib.hid ho
        clear hk ho
        go_wp2_with fail
        exact ⟨rfl, HK2.out, .inr ⟨(keyP_sym r).trans (by rw [HO.out]; rfl), rfl⟩⟩
    | false =>
      have hc2 := other_of h2 2 rfl
      have HS : Hid (keyP (c :: r) = none) := Lib.hid (keyP_none r hc1 hc2)
      have HK2 := Lib.hid (K0.out.trans HK.out)
      clear hc1 hc2
      go_wp2_with fail
      exact ⟨rfl, HK2.out, .inr ⟨HS.out, rfl⟩⟩
end Go.Proofs.Ythnpiafpkllbpaa

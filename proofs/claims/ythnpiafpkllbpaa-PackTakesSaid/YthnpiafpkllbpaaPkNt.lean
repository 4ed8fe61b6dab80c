/-
  Contract of pack's reading of a tuple.
-/
import Derived.Test.YthnpiafpkllbpaaPkTn
import Derived.Laws.MakeOwn
namespace Go.Proofs.Ythnpiafpkllbpaa
open Go Go.RowKit

theorem make_row (n : Nat) (hn : n ≤ 8) (w : World) : (Instr.makeSlice 39 (.int .u8 (n : Int)) (.int .u8 (n : Int))).run Try.prog w = .ok (.slice (some ⟨w.heap.size, 0, none⟩) n n) (w.alloc (.cells (madeCells #[.int .i64 0, .int .i64 0, .string ⟨#[]⟩] (n * 3)) 78)) := by
  obtain ⟨i, hi, hz, hs, hb⟩ := info_parts Try.infoV
  have h := run_make (P := Try.prog) w 39 78 i _ Try.underlying39 hi hz .u8 .u8 n n (by omega) (Int.le_refl _) (by rw [hb]; omega) (by omega)
  rw [hs] at h
  exact h
/-- A new row holds the first values. -/
def RowN (w : World) (g n : Nat) (acc : List V3) : Prop := ∃ A : Array Value, w.heap[g]? = some (.cells A 78 (0, 0)) ∧ A.size = n * 3 ∧ acc.length ≤ n ∧ ∀ (o : Nat) (u : Value), (rowV acc)[o]? = some u → A[o]? = some u
theorem RowN.new (w : World) (n : Nat) : RowN (w.alloc (.cells (madeCells #[.int .i64 0, .int .i64 0, .string ⟨#[]⟩] (n * 3)) 78)) w.heap.size n [] :=
  ⟨_, heap_alloc_new w _, size_madeCells _ _, Nat.zero_le _, fun o u h => by simp [rowV] at h⟩
theorem RowN.keep {w w' : World} {g n R : Nat} {acc : List V3} (h : RowN w g n acc) (hk : KeepR R w w') (hR : R ≠ g) : RowN w' g n acc := by
  obtain ⟨A, h1, h2⟩ := h
  exact ⟨A, (hk.block g (Array.getElem?_eq_some_iff.1 h1).1 (by intro e; injection e with e; exact hR e.symm)).trans h1, h2⟩
theorem RowN.in_ {w : World} {g : Nat} {T : List V3} (h : RowN w g T.length T) (hl : T.length ≤ 8) : TupIn w.heap.size w (.slice (some ⟨g, 0, none⟩) T.length T.length) T := by
  obtain ⟨A, h1, h2, -, h3⟩ := h
  refine ⟨_, _, rfl, by omega, .inr ⟨g, 0, rfl, (Array.getElem?_eq_some_iff.1 h1).1, fun j hj => ?_⟩⟩
  obtain ⟨q1, q2, q3⟩ := rowV_at T j hj
  have at_ : ∀ o u, (rowV T)[o]? = some u → w.cell? ⟨g, o, none⟩ = some u := fun o u hu => (cell_of_row w g o A _ (0, 0) h1).trans (h3 o u hu)
  rw [Nat.zero_add]
  exact ⟨at_ _ _ q1, at_ _ _ q2, at_ _ _ q3⟩
theorem rowV_lt {T : List V3} {o : Nat} {u : Value} (h : (rowV T)[o]? = some u) : o < T.length * 3 := by
  rw [← rowV_len]
  exact (List.getElem?_eq_some_iff.1 h).1
theorem RowN.put {w : World} {g n : Nat} {acc : List V3} (h : RowN w g n acc) (x : V3) (hlt : acc.length < n) :
    RowN (((w.setCell ⟨g, acc.length * 3, none⟩ (.int .i64 x.k)).setCell ⟨g, acc.length * 3 + 1, none⟩ (.int .i64 x.n)).setCell ⟨g, acc.length * 3 + 2, none⟩ (.string x.s)) g n (acc ++ [x]) := by
  obtain ⟨A, h1, h2, -, h3⟩ := h
  refine ⟨_, Go.heap_setCell_same _ g _ _ _ _ (Go.heap_setCell_same _ g _ _ _ _ (Go.heap_setCell_same _ g _ _ _ _ h1)), by simp [h2], by simp; omega, fun o u hu => ?_⟩
  rw [rowV_append] at hu
  have hlen : (rowV acc).length = acc.length * 3 := rowV_len acc
  rcases Nat.lt_or_ge o (acc.length * 3) with ho | ho
  · rw [List.getElem?_append_left (by omega)] at hu
    have := h3 o u hu
    simp only [Array.getElem?_setIfInBounds, Array.size_setIfInBounds]
    rw [if_neg (by omega), if_neg (by omega), if_neg (by omega)]
    exact this
  · rw [List.getElem?_append_right (by omega), hlen] at hu
    simp only [rowV] at hu
    simp only [Array.getElem?_setIfInBounds, Array.size_setIfInBounds]
    obtain ⟨d, rfl⟩ : ∃ d, o = acc.length * 3 + d := ⟨o - acc.length * 3, by omega⟩
    rw [Nat.add_sub_cancel_left] at hu
    rcases d with _ | _ | _ | d
    · rw [if_neg (by omega), if_neg (by omega), if_pos (by omega), if_pos (by omega)]; simpa using hu
    · rw [if_neg (by omega), if_pos (by omega), if_pos (by omega)]; simpa using hu
    · rw [if_pos (by omega), if_pos (by omega)]; simpa using hu
    · simp at hu
theorem RowN.cells {w : World} {g n : Nat} {acc : List V3} (h : RowN w g n acc) {o : Nat} (ho : o < n * 3) : (∃ u, w.cell? ⟨g, o, none⟩ = some u) ∧ w.frozen? ⟨g, o, none⟩ = false := by
  obtain ⟨A, h1, h2, -⟩ := h
  exact ⟨⟨A[o]'(by omega), (cell_of_row w g o A _ (0, 0) h1).trans (by simp [h2, ho])⟩, frozen_of_row w g o A _ h1⟩

theorem below_sets3 {B g : Nat} (h : B ≤ g) (w : World) (o1 o2 o3 : Nat) (x y z : Value) : Below B w (((w.setCell ⟨g, o1, none⟩ x).setCell ⟨g, o2, none⟩ y).setCell ⟨g, o3, none⟩ z) :=
  (((Below.refl B w).setCell (p := ⟨g, o1, none⟩) h x).setCell (p := ⟨g, o2, none⟩) h y).setCell (p := ⟨g, o3, none⟩) h z
theorem vals_step {n k : Nat} {r l' r' : List UInt8} {acc : List V3} {x : V3} (hlt : k < n) (h : valsQ n r = (valsQ (n - k) l').map (fun p => (acc ++ p.1, p.2))) (ho : valQ l' = some (x, r')) :
    valsQ n r = (valsQ (n - (k + 1)) r').map (fun p => ((acc ++ [x]) ++ p.1, p.2)) := by
  rw [h, show n - k = n - (k + 1) + 1 by omega, valsQ, ho]
  show Option.map _ ((valsQ (n - (k + 1)) r').map (fun p => (x :: p.1, p.2))) = _
  cases valsQ (n - (k + 1)) r' <;> simp
theorem vals_bad {n k : Nat} {r l' : List UInt8} {acc : List V3} (hlt : k < n) (h : valsQ n r = (valsQ (n - k) l').map (fun p => (acc ++ p.1, p.2))) (ho : valQ l' = none) : valsQ n r = none := by
  rw [h, show n - k = n - (k + 1) + 1 by omega, valsQ, ho]
  rfl
set_option maxHeartbeats 2000000 in
set_option maxRecDepth 100000 in
theorem rdTup_any (n₀ R : Nat) (l : List UInt8) (w : World) (h : RestAt n₀ w R l) : Calls Try.prog 35 #[.pointer (some ⟨R, 0, none⟩)] w (ReadEnd (fun T w' v => ∃ g, w.heap.size ≤ g ∧ v = .slice (some ⟨g, 0, none⟩) T.length T.length ∧ RowN w' g T.length T ∧ T.length ≤ 8) n₀ R (tupQ l) w) := by
  have H := Lib.hid h
  have hRlt := h.lt
  clear h
  go_enter Try.func35, Try.ntmps35
  go_wp2_with fail
  refine (one_any n₀ R l w H.out).mono ?_
  rintro e w1 (⟨c, r, rfl, rfl, hr, hk⟩ | ⟨rfl, rfl, hk⟩)
  rotate_left
  · have HK := Lib.hid hk
    clear hk
    go_wp2_with fail
    exact ⟨rfl, HK.out, .inr ⟨rfl, rfl⟩⟩
  have HK := Lib.hid hk
  have HR := Lib.hid hr
  have HS := Lib.hid (show tupQ (c :: r) = if 8 < c.toNat then none else valsQ c.toNat r from rfl)
  clear hk hr H
  by_cases h8 : 8 < c.toNat
  · have h8' : (8 : Int) < (c.toNat : Int) := by omega
    have HS' : Hid (tupQ (c :: r) = none) := Lib.hid (by rw [HS.out, if_pos h8])
    go_wp2_with fail
    exact ⟨rfl, HK.out, .inr ⟨HS'.out, rfl⟩⟩
  · have h8' : (c.toNat : Int) ≤ 8 := by omega
    have HS' : Hid (tupQ (c :: r) = valsQ c.toNat r) := Lib.hid (by rw [HS.out, if_neg h8])
    clear HS
    have hmk := make_row c.toNat (by omega) w1
    have hn0 : (0 : Int) ≤ (c.toNat : Int) := by omega
    have hg := HK.out.size
    go_wp2_with fail
    go_loopw [17] (fun i wr => ∃ k : Nat, k ≤ c.toNat ∧ i = .int .i64 k ∧ ∃ acc l', Hid (acc.length = k ∧ RowN wr w1.heap.size c.toNat acc ∧ RestAt n₀ wr R l' ∧ KeepR R w wr ∧ valsQ c.toNat r = (valsQ (c.toNat - k) l').map (fun p => (acc ++ p.1, p.2)))) (fun i _ => c.toNat - (intOf i).toNat)
    case atStart => exact ⟨0, Nat.zero_le _, rfl, [], r, Lib.hid ⟨rfl, RowN.new _ _, HR.out.alloc _, HK.out.trans (keep_alloc _ _ _), by cases valsQ (c.toNat - 0) r <;> simp_all⟩⟩
    case round =>
      obtain ⟨k, hk, rfl, acc, l', HI⟩ := hrel
      have k0 : (0 : Int) ≤ (k : Int) := by omega
      by_cases hlt : k < c.toNat
      · have hlt' : (k : Int) < (c.toNat : Int) := by omega
        go_wp2_with fail
        refine (rdVal_any n₀ R l' wr HI.out.2.2.1).mono ?_
        rintro e w2 ⟨hk2, ⟨x, r', v, ho, rfl, hv, hr2⟩ | ⟨ho, rfl⟩⟩
        · unfold aggV at hv
          subst hv
          have HK2 := Lib.hid (HI.out.2.2.2.1.trans hk2)
          have HR2 := Lib.hid hr2
          have HRow := Lib.hid (HI.out.2.1.keep hk2 (by omega))
          have HQ := Lib.hid (vals_step hlt HI.out.2.2.2.2 ho)
          clear hk2 hr2 ho
          obtain ⟨⟨u0, c0⟩, f0⟩ := HRow.out.cells (o := k * 3) (by omega)
          obtain ⟨⟨u1, c1⟩, f1⟩ := HRow.out.cells (o := k * 3 + 1) (by omega)
          obtain ⟨⟨u2, c2⟩, f2⟩ := HRow.out.cells (o := k * 3 + 2) (by omega)
          go_wp2_with fail
          have hb3 := Lib.hid (below_sets3 hg w2 (k * 3) (k * 3 + 1) (k * 3 + 2) (.int .i64 x.k) (.int .i64 x.n) (.string x.s))
          have hput : Hid (RowN (((w2.setCell ⟨w1.heap.size, k * 3, none⟩ (.int .i64 x.k)).setCell ⟨w1.heap.size, k * 3 + 1, none⟩ (.int .i64 x.n)).setCell ⟨w1.heap.size, k * 3 + 2, none⟩ (.string x.s)) w1.heap.size c.toNat (acc ++ [x])) := Lib.hid (by
            have h := HRow.out.put x (by rw [HI.out.1]; exact hlt)
            rw [HI.out.1] at h
            exact h)
          go_roundw
          case rel => exact ⟨k + 1, by omega, by go_num, acc ++ [x], r', Lib.hid ⟨by rw [List.length_append, HI.out.1]; rfl, hput.out, HR2.out.below hb3.out hRlt, HK2.out.below hb3.out, HQ.out⟩⟩
          case measure => simp [intOf]; omega
        · have HK2 := Lib.hid (HI.out.2.2.2.1.trans hk2)
          have HQ : Hid (tupQ (c :: r) = none) := Lib.hid (HS'.out.trans (vals_bad hlt HI.out.2.2.2.2 ho))
          clear hk2 ho
          go_wp2_with fail
          exact ⟨rfl, HK2.out, .inr ⟨HQ.out, rfl⟩⟩
      · obtain rfl : k = c.toNat := by omega
        have HQ : Hid (tupQ (c :: r) = some (acc, l')) := Lib.hid (by rw [HS'.out, HI.out.2.2.2.2, Nat.sub_self]; simp [valsQ])
        go_wp2_with fail
        go_ret
        exact ⟨HI.out.2.2.2.1, .inl ⟨acc, l', _, HQ.out, rfl, ⟨w1.heap.size, HK.out.size, by rw [HI.out.1]; rfl, by rw [HI.out.1]; exact HI.out.2.1, by have := HI.out.1; omega⟩, HI.out.2.2.1⟩⟩
end Go.Proofs.Ythnpiafpkllbpaa

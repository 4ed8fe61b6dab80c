/-
  The walk of the document's Copy of entries.
-/
import Derived.Test.YtdjebcfpodfhhaaChCp
namespace Go.Proofs.Ytdjebcfpodfhhaa
open Go Go.RowKit Go.Maps

theorem OwnR.emptyD (w : World) : OwnR w.heap.size (w.drew.alloc (.cells #[] 87)) (.slice (some ⟨w.heap.size, 0, none⟩) 0 0) [] := OwnR.empty w.heap.size w.drew (Nat.le_refl _)
theorem cp_mid {w wr w1 : World} {v : Value} {k : Nat} {E : List (List V3 × Int)} {D : List (Value × (List V3 × Int))} {o : Obj} (h : CpJ w wr v k E D) (hg : (wr.drew.alloc o).grownBy w1 (some wr.heap.size)) (o2 : Obj) :
    (w1.alloc o2).ownsRow w.heap.size 76 2 v k (rowQ D) ∧ (∀ q ∈ D, TupS (fun b => w.heap.size ≤ b ∧ b < wr.heap.size ∧ v.ownBlock ≠ some b) (w1.alloc o2) q.1 q.2.1) ∧ Below w.heap.size w (w1.alloc o2) ∧ wr.heap.size + 1 ≤ w1.heap.size := by
  have hs := hg.size
  have s0 : wr.heap.size + 1 ≤ w1.heap.size := by simpa using hs
  have lt := World.ownsRow.lt h.row
  have hrow : w1.ownsRow w.heap.size 76 2 v k (rowQ D) := World.ownsRow.kept (World.ownsRow.alloc (show wr.drew.ownsRow _ _ _ _ _ _ from h.row) o) hg (by
    cases e : v.ownBlock with
    | none =>
      rcases h.row.2 with ⟨rfl, -⟩ | ⟨g, cap, cur, rfl, -⟩
      · exact .inl rfl
      · cases e
    | some j => exact .inr (fun e' => by have := (lt j e).2; cases e'; omega))
  have b1 : Below w.heap.size w w1 := (h.below.drew.alloc h.below.size o).grown hg (by have := h.below.size; simp; omega) (fun j e => by cases e; exact h.below.size)
  refine ⟨World.ownsRow.alloc hrow o2, fun q hq => ?_, b1.alloc b1.size o2, s0⟩
  refine (h.tup q hq).inside.same (fun b hb => ⟨hb.1.1, hb.2, hb.1.2⟩) (fun b o' hb => ?_)
  have e1 : (wr.drew.alloc o).cell? ⟨b, o', none⟩ = wr.cell? ⟨b, o', none⟩ := World.cell?_alloc_lt _ _ _ hb.2
  have e2 : w1.cell? ⟨b, o', none⟩ = (wr.drew.alloc o).cell? ⟨b, o', none⟩ := grown_cell hg (by have := hb.2; simp; omega) (fun e => by cases e; have := hb.2; omega)
  exact (World.cell?_alloc_lt _ _ _ (show b < w1.heap.size from by have := hb.2; omega)).trans (e2.trans e1)
theorem cp_step {w wr w1 w2 : World} {v : Value} {k : Nat} {E : List (List V3 × Int)} {D : List (Value × (List V3 × Int))} {o o2 : Obj} {T : List V3} {N : Int} {p7 : Option Addr} {c7 : Nat} {p' : Option Addr} {c' : Nat} (h : CpJ w wr v k E D) (hg : (wr.drew.alloc o).grownBy w1 (some wr.heap.size))
    (hE : E[k]? = some (T, N)) (ht : TupS (fun b => wr.heap.size ≤ b) w1 (.slice p7 T.length c7) T) (hr : w2.ownsRow w.heap.size 76 2 (.slice p' (k + 1) c') (k + 1) (rowQ D ++ [.slice p7 T.length c7, .int .i64 N])) (hg2 : (w1.alloc o2).grownBy w2 v.ownBlock)
    (hb : (Value.slice p' (k + 1) c').ownBlock = v.ownBlock ∨ (Value.slice p' (k + 1) c').ownBlock = some (w1.alloc o2).heap.size) : CpJ w w2 (.slice p' (k + 1) c') (k + 1) E (D ++ [(.slice p7 T.length c7, (T, N))]) := by
  obtain ⟨m1, m2, m3, m4⟩ := cp_mid h hg o2
  have lt := World.ownsRow.lt h.row
  have ltw : w.heap.size ≤ wr.heap.size := h.below.size
  have hs1 : (w1.alloc o2).heap.size = w1.heap.size + 1 := by simp
  refine ⟨?_, ?_, fun q hq => ?_, m3.grown hg2 m3.size (fun j e => (World.ownsRow.lt m1 j e).1)⟩
  · rw [List.map_append, h.eq, List.take_add_one, hE]
    rfl
  · rw [rowQ_snoc]
    exact hr
  · rcases List.mem_append.1 hq with hq | hq
    · refine (m2 q hq).same (fun b hb' => ⟨hb'.1, fun e => ?_⟩) (fun b o' hb' => grown_cell hg2 (by have := hb'.2.1; omega) hb'.2.2)
      rcases hb with hb | hb
      · exact hb'.2.2 (hb ▸ e)
      · rw [hb] at e
        have := hb'.2.1
        cases e
        omega
    · obtain rfl := List.mem_singleton.1 hq
      refine ht.inside.same (fun b hb' => ⟨by have := hb'.1; omega, fun e => ?_⟩) (fun b o' hb' => ?_)
      · rcases hb with hb | hb
        · rw [hb] at e
          have := (lt b e).2
          have := hb'.1
          omega
        · rw [hb] at e
          have := hb'.2
          cases e
          omega
      · refine (grown_cell hg2 (by have := hb'.2; omega) (fun e => ?_)).trans (World.cell?_alloc_lt _ _ _ hb'.2)
        have := (lt b e).2
        have := hb'.1
        omega
theorem cp_S {wr w1 : World} {o : Obj} {b i j : Nat} {u v : Value} (hg : (wr.drew.alloc o).grownBy w1 (some wr.heap.size)) (hb : b < wr.heap.size) (h1 : wr.cell? ⟨b, i, none⟩ = some u) (h2 : wr.cell? ⟨b, j, none⟩ = some v) :
    (w1.cell? ⟨b, i, none⟩ = some u ∧ w1.cell? ⟨b, j, none⟩ = some v) ∧ ∀ o2, (w1.alloc o2).cell? ⟨b, i, none⟩ = some u ∧ (w1.alloc o2).cell? ⟨b, j, none⟩ = some v := by
  have hs := hg.size
  have s0 : wr.heap.size + 1 ≤ w1.heap.size := by simpa using hs
  have key : ∀ {i : Nat} {u : Value}, wr.cell? ⟨b, i, none⟩ = some u → w1.cell? ⟨b, i, none⟩ = some u := fun {i u} h => (grown_cell hg (by simp; omega) (fun e => by cases e; omega)).trans ((World.cell?_alloc_lt _ _ _ hb).trans h)
  exact ⟨⟨key h1, key h2⟩, fun o2 => ⟨(World.cell?_alloc_lt _ _ _ (show b < w1.heap.size by omega)).trans (key h1), (World.cell?_alloc_lt _ _ _ (show b < w1.heap.size by omega)).trans (key h2)⟩⟩
theorem cp_lit (w1 : World) (p : Option Addr) (l c : Nat) (N : Int) : (w1.alloc (.cells #[.slice p l c, .int .i64 N] 76)).cell? ((⟨w1.heap.size, 0, none⟩ : Addr).add 0) = some (.slice p l c) ∧ (w1.alloc (.cells #[.slice p l c, .int .i64 N] 76)).cell? ((⟨w1.heap.size, 0, none⟩ : Addr).add 1) = some (.int .i64 N) := by
  rw [addr_add, addr_add]
  exact ⟨(cell_of_row _ w1.heap.size 0 _ _ (0, 0) (heap_alloc_new w1 _)).trans rfl, (cell_of_row _ w1.heap.size 1 _ _ (0, 0) (heap_alloc_new w1 _)).trans rfl⟩
set_option maxRecDepth 100000 in
set_option maxHeartbeats 4000000 in
theorem rcopy_any (w : World) (v : Value) (E : List (List V3 × Int)) (h : EntS (fun k => k < w.heap.size) w v E) :
    Calls Try.prog 18 #[v] w fun e w' => ∃ v', e = .returned v' ∧ EntS (fun k => w.heap.size ≤ k) w' v' E ∧ Below w.heap.size w w' ∧ ∃ Q, Q.map (·.2) = E ∧ RowQ w' w.heap.size v' Q := by
  obtain ⟨p, cap, Q, hQ, rfl, hl, ht, hc⟩ := h
  have HQ := Lib.hid hQ
  have HT := Lib.hid ht
  have HC := Lib.hid hc
  have hl' : (Q.length : Int) ≤ 100 := by omega
  have HEl := Lib.hid (show E.length = Q.length by rw [← hQ]; simp)
  clear hQ ht hc
  go_enter Try.func18, Try.ntmps18
  go_wp2_with fail
  go_loopw [3, 4] (fun ov i wr => ∃ (k : Nat) (D : List (Value × (List V3 × Int))), k ≤ Q.length ∧ i = .int .i64 k ∧ Hid (CpJ w wr ov k E D)) (fun _ i _ => Q.length - (intOf i).toNat)
  case atStart => exact ⟨0, [], Nat.zero_le _, rfl, Lib.hid ⟨rfl, World.ownsRow_nil _ _ _ _, by simp, Below.refl _ _⟩⟩
  case round =>
    obtain ⟨k, D, hk, rfl, hJ⟩ := hrel
    have h0 : (0 : Int) ≤ (k : Int) := by omega
    obtain ⟨po, co, hov⟩ : ∃ po co, u3 = .slice po k co := by
      rcases hJ.out.row.2 with ⟨e, hz⟩ | ⟨g, cap, cur, e, -⟩
      · exact ⟨none, 0, by rw [e, hz]⟩
      · exact ⟨_, cap, e⟩
    subst hov
    by_cases hlt : k < Q.length
    · have hlt' : (k : Int) < (Q.length : Int) := by omega
      obtain ⟨q, hq⟩ : ∃ q, Q[k]? = some q := ⟨_, List.getElem?_eq_getElem hlt⟩
      obtain ⟨b, off, hp, hb, hcq⟩ : ∃ b off, p = some ⟨b, off, none⟩ ∧ b < w.heap.size ∧ CellsQ w b off Q := by
        rcases HC.out with h | h
        · rw [h] at hlt; simp at hlt
        · exact h
      subst hp
      have htq := HT.out q (List.mem_of_getElem? hq)
      have hEk : E[k]? = some q.2 := by rw [← HQ.out, List.getElem?_map, hq]; rfl
      obtain ⟨c0, c1⟩ := hcq k q hq
      obtain ⟨tv, T, N⟩ := q
      obtain ⟨pt, ct, htv⟩ := htq.slice
      dsimp only at htv c0 c1 htq hEk
      subst htv
      have hbw : b < wr.heap.size := Nat.lt_of_lt_of_le hb hJ.out.below.size
      have c0' : wr.cell? ⟨b, off + k * 2, none⟩ = some (.slice pt T.length ct) := (hJ.out.below.cell (p := ⟨b, _, none⟩) hb).trans c0
      have c1' : wr.cell? ⟨b, off + k * 2 + 1, none⟩ = some (.int .i64 N) := (hJ.out.below.cell (p := ⟨b, _, none⟩) hb).trans c1
      have HTq := Lib.hid (htq.same (W' := wr.drew.alloc (.cells #[] 87)) (fun _ h => h) (fun b o' hb' => (World.cell?_alloc_lt _ _ _ (Nat.lt_of_lt_of_le hb' hJ.out.below.size)).trans (hJ.out.below.cell (p := ⟨b, o', none⟩) hb')))
      have HE := Lib.hid hEk
      have HO := Lib.hid (OwnR.emptyD wr)
      have HSz := Lib.hid (show wr.heap.size ≤ (wr.drew.alloc (.cells #[] 87)).heap.size by simp)
      have HK := Lib.hid (show k ≤ 1000 by omega)
      clear c0 c1 htq hEk hcq hq
      go_wp2_with fail
      go_region_held3 (fun X => X.cell? ⟨b, off + k * 2, none⟩ = some (.slice pt T.length ct) ∧ X.cell? ⟨b, off + k * 2 + 1, none⟩ = some (.int .i64 N))
        (first | exact ⟨c0', c1'⟩ | exact ⟨(World.cell?_alloc_lt _ _ _ hbw).trans c0', (World.cell?_alloc_lt _ _ _ hbw).trans c1'⟩ | exact HS1.out.1 | exact HS1.out.2 _ | exact HS2.out)
        ((first
          | (refine step_copyT rfl (.tmp 12) (.tmp 17) rfl wr.heap.size (fun b => b < w.heap.size) _ _ T rfl rfl HO.out HTq.out HSz.out ?_; intro p7 c7 w1 ht7 hg7; have HT7 := Lib.hid ht7; have HG7 := Lib.hid hg7; have HS1 := Lib.hid (cp_S hg7 hbw c0' c1'); have HM := Lib.hid (cp_mid hJ.out hg7 (.cells #[.slice p7 T.length c7, .int .i64 N] 76)); have HL := Lib.hid (cp_lit w1 p7 T.length c7 N); clear ht7 hg7)
          | (refine step_appQ rfl (.tmp 11) (.tmp 25) rfl w.heap.size k _ (rowQ D) ⟨w1.heap.size, 0, none⟩ p7 T.length c7 N rfl rfl HM.out.1 HK.out HM.out.2.2.1.size HL.out.1 HL.out.2 ?_; intro p' c' w2 hr2 hg2 hb2; have HF := Lib.hid (cp_step hJ.out HG7.out HE.out HT7.out hr2 hg2 hb2); have HS2 := Lib.hid (show w2.cell? ⟨b, off + k * 2, none⟩ = some (.slice pt T.length ct) ∧ w2.cell? ⟨b, off + k * 2 + 1, none⟩ = some (.int .i64 N) from ⟨(HF.out.below.cell (p := ⟨b, _, none⟩) hb).trans ((hJ.out.below.cell (p := ⟨b, _, none⟩) hb).symm.trans c0'), (HF.out.below.cell (p := ⟨b, _, none⟩) hb).trans ((hJ.out.below.cell (p := ⟨b, _, none⟩) hb).symm.trans c1')⟩); clear hr2 hg2 hb2)))
      all_goals
        go_wp2_with fail
        go_roundw
        case rel => exact ⟨k + 1, _, by omega, by go_num, HF⟩
        case measure => simp [intOf]; omega
    · obtain rfl : k = Q.length := by omega
      go_wp2_with fail
      go_ret
      have := hJ.out
      rw [← HEl.out] at this
      obtain ⟨e1, e2, e3⟩ := cpJ_end this (by have := HEl.out; omega)
      rw [HEl.out] at e1 e3
      exact ⟨_, rfl, e1, hJ.out.below, D, e2, e3⟩
end Go.Proofs.Ytdjebcfpodfhhaa

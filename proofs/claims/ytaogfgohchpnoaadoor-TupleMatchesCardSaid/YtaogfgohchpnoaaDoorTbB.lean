/-
  Contracts of slices.IndexFunc at the names of bindings, and of tuple.bind.
-/
import Derived.Test.YtaogfgohchpnoaaDoorTbK
import Derived.Deep.QuietTactic
import Derived.BigQuiet
namespace Go.Proofs.YtaogfgohchpnoaaDoor
open Go Go.RowKit

/-- A slice value reads as a row of bindings. -/
def KIn (n₀ : Nat) (w : World) (v : Value) (L : List Bd) : Prop :=
  (L = [] ∧ ∃ p cap, v = .slice p L.length cap) ∨ ∃ g cap, v = .slice (some ⟨g, 0, none⟩) L.length cap ∧ g < n₀ ∧ L.length ≤ cap ∧ cap ≤ maxLen ∧ AtK w g 0 L
theorem OwnK.in_ {B : Nat} {w : World} {v : Value} {L : List Bd} (h : OwnK B w v L) : KIn w.heap.size w v L := h.shape
theorem KIn.below {n₀ : Nat} {w w' : World} {v : Value} {L : List Bd} (h : KIn n₀ w v L) (hb : Below n₀ w w') : KIn n₀ w' v L := by
  rcases h with h | ⟨g, cap, rfl, hg, h1, h2, h3⟩
  · exact .inl h
  · exact .inr ⟨g, cap, rfl, hg, h1, h2, h3.below hb hg⟩
theorem KIn.mono {n₀ n₁ : Nat} {w : World} {v : Value} {L : List Bd} (h : KIn n₀ w v L) (hn : n₀ ≤ n₁) : KIn n₁ w v L := by
  rcases h with h | ⟨g, cap, rfl, hg, h1⟩
  · exact .inl h
  · exact .inr ⟨g, cap, rfl, by omega, h1⟩
theorem KIn.form {n₀ : Nat} {w : World} {v : Value} {L : List Bd} (h : KIn n₀ w v L) : ∃ p cap, v = .slice p L.length cap := by
  rcases h with ⟨-, h⟩ | ⟨g, cap, rfl, -⟩
  · exact h
  · exact ⟨_, _, rfl⟩
theorem KIn.some {n₀ : Nat} {w : World} {p : Option Addr} {cap : Nat} {L : List Bd} (h : KIn n₀ w (.slice p L.length cap) L) {k : Nat} (hk : k < L.length) : ∃ g, p = some ⟨g, 0, none⟩ ∧ g < n₀ ∧ L.length ≤ cap ∧ cap ≤ maxLen ∧ AtK w g 0 L := by
  rcases h with ⟨rfl, -⟩ | ⟨g, c, e, hg, h1⟩
  · simp at hk
  · injection e with e1 _ e3
    subst e1 e3
    exact ⟨g, rfl, hg, h1⟩
theorem findB_at {L : List Bd} {k : Nat} (h : k < L.length) (s : ByteArray) : findB (L.drop k) s = findB (L[k] :: L.drop (k + 1)) s := by rw [List.drop_eq_getElem_cons h]
theorem findB_yes {b : Bd} {L : List Bd} {s : ByteArray} (h : (b.nm.toList == s.toList) = true) : findB (b :: L) s = some b.v := by
  rw [findB, if_pos (bytes_ext (by simpa using h))]
theorem findB_no {b : Bd} {L : List Bd} {s : ByteArray} (h : (b.nm.toList == s.toList) = false) : findB (b :: L) s = findB L s := by
  rw [findB, if_neg]
  rintro rfl
  simp at h
set_option maxHeartbeats 1000000 in
set_option maxRecDepth 100000 in
theorem bind1_any (b : Bd) (pn : Addr) (nm : ByteArray) (w : World) (hp : pn.block < w.heap.size) (h : w.cell? pn = some (.string nm)) :
    Calls Tryd.prog 77 #[.agg #[.string b.nm, .int .i64 b.v.k, .int .i64 b.v.n, .string b.v.s], .pointer (some pn)] w fun e w' => e = .returned (.bool (b.nm.toList == nm.toList)) ∧ Below w.heap.size w w' := by
  have q : (w.alloc (.cells #[.string b.nm, .int .i64 b.v.k, .int .i64 b.v.n, .string b.v.s] 72)).cell? pn = some (.string nm) := ((below_box w _).cell hp).trans h
  go_enter Tryd.func77, Tryd.ntmps77
  go_wp2_with fail
  go_ret
  exact ⟨rfl, below_box _ _⟩
/-- What the search for a name answers. -/
def IdxEnd (L : List Bd) (nm : ByteArray) (w : World) (e : Ending) (w' : World) : Prop :=
  ((findB L nm = none ∧ e = .returned (.int .i64 (-1))) ∨ ∃ i, ∃ h : i < L.length, findB L nm = some L[i].v ∧ e = .returned (.int .i64 (i : Nat))) ∧ Below w.heap.size w w'
set_option maxHeartbeats 1000000 in
set_option maxRecDepth 100000 in
theorem index_any (v : Value) (L : List Bd) (pn : Addr) (nm : ByteArray) (n₀ : Nat) (w : World) (h : KIn n₀ w v L) (hn : n₀ ≤ w.heap.size) (hp : pn.block < w.heap.size) (hc : w.cell? pn = some (.string nm)) (hL : L.length ≤ 1000000) :
    Calls Tryd.prog 76 #[v, .func (.func 77) #[] #[.pointer (some pn)]] w (IdxEnd L nm w) := by
  have HK := Lib.hid h
  have HC := Lib.hid hc
  obtain ⟨p, cap, rfl⟩ := h.form
  have hL' : (L.length : Int) ≤ 1000000 := by omega
  clear h hc
  go_enter Tryd.func76, Tryd.ntmps76
  go_wp2_with fail
  go_loopw [8] (fun i wr => ∃ k : Nat, k ≤ L.length ∧ i = .int .i64 k ∧ Hid (findB L nm = findB (L.drop k) nm ∧ Below w.heap.size w wr)) (fun i _ => L.length - (intOf i).toNat)
  case atStart => exact ⟨0, Nat.zero_le _, rfl, Lib.hid ⟨rfl, Below.refl _ _⟩⟩
  case round =>
    obtain ⟨k, hk, rfl, HI⟩ := hrel
    have h0 : (0 : Int) ≤ (k : Int) := by omega
    by_cases hlt : k < L.length
    · have hlt' : (k : Int) < (L.length : Int) := by omega
      obtain ⟨g, hg1, hg2, hg3, hg4, hg5⟩ := HK.out.some hlt
      subst hg1
      obtain ⟨x0, x1, x2, x3⟩ := (hg5.below (HI.out.2.mono hn) hg2) k hlt
      rw [Nat.zero_add] at x0 x1 x2 x3
      clear hg5
      have hz := HI.out.2.size
      have HCL := Lib.hid (bind1_any L[k] pn nm wr (by omega) ((HI.out.2.cell hp).trans HC.out))
      have HS := Lib.hid (HI.out.1.trans (findB_at hlt nm))
      cases he : (L[k].nm.toList == nm.toList) with
      | true =>
        have HF := Lib.hid (HS.out.trans (findB_yes he))
        rw [he] at HCL
        clear he
        go_wp2_with fail
        refine HCL.out.mono ?_
        rintro e w1 ⟨rfl, hb⟩
        have HB := Lib.hid (HI.out.2.trans (hb.mono hz))
        clear hb
        go_wp2_with fail
        go_ret
        exact ⟨.inr ⟨k, hlt, HF.out, rfl⟩, HB.out⟩
      | false =>
        have HF := Lib.hid (HS.out.trans (findB_no he))
        rw [he] at HCL
        clear he
        go_wp2_with fail
        refine HCL.out.mono ?_
        rintro e w1 ⟨rfl, hb⟩
        have HB := Lib.hid (HI.out.2.trans (hb.mono hz))
        clear hb
        go_wp2_with fail
        go_roundw
        case rel => exact ⟨k + 1, by omega, by go_num, Lib.hid ⟨HF.out, HB.out⟩⟩
        case measure => simp [intOf]; omega
    · have hge : (L.length : Int) ≤ (k : Int) := by omega
      have HF : Hid (findB L nm = none) := Lib.hid (HI.out.1.trans (by rw [List.drop_of_length_le (by omega)]; rfl))
      go_wp2_with fail
      go_ret
      exact ⟨.inl ⟨HF.out, rfl⟩, HI.out.2⟩
/-- What bind answers. -/
def BindsEnd (B : Nat) (L : List Bd) (nm : ByteArray) (t : V3) (v : Value) (w : World) (e : Ending) (w' : World) : Prop :=
  Below B w w' ∧ (∀ b, b < w.heap.size → some b ≠ v.ownBlock → w'.heap[b]? = w.heap[b]?) ∧ ((findB L nm = none ∧ ∃ v', e = .returned (.tuple #[v', .bool true]) ∧ OwnK B w' v' (L ++ [⟨nm, t⟩])) ∨ ∃ u, findB L nm = some u ∧ e = .returned (.tuple #[v, .bool (sameV u t)]) ∧ OwnK B w' v L)
theorem below_drewN {B : Nat} {w w' : World} (h : Below B w w') (n : Nat) : Below B w (w'.drewN n) := ⟨h.os, h.tape, h.output, h.size, h.block⟩
theorem own_drewN {B : Nat} {w : World} {v : Value} {L : List Bd} (h : OwnK B w v L) (n : Nat) : OwnK B (w.drewN n) v L := h
theorem two_boxes (w : World) (x : Value) (y0 y1 y2 : Value) (t t' : TypeId) : ((w.alloc (.cells #[x] t)).alloc (.cells #[y0, y1, y2] t')).heap[w.heap.size]? = some (.cells #[x] t (0, 0)) ∧ ((w.alloc (.cells #[x] t)).alloc (.cells #[y0, y1, y2] t')).heap[w.heap.size + 1]? = some (.cells #[y0, y1, y2] t' (0, 0)) := by
  refine ⟨(Below.heap_alloc _ _ _ (by simp)).trans (heap_alloc_new w _), ?_⟩
  have h := heap_alloc_new (w.alloc (.cells #[x] t)) (.cells #[y0, y1, y2] t')
  rw [show (w.alloc (.cells #[x] t)).heap.size = w.heap.size + 1 by simp] at h
  exact h
set_option maxHeartbeats 2000000 in
set_option maxRecDepth 100000 in
theorem bind_any (B : Nat) (v : Value) (L : List Bd) (nm : ByteArray) (t : V3) (w : World) (ho : OwnK B w v L) (hB : B ≤ w.heap.size) (hL : L.length ≤ 1000) :
    Calls Tryd.prog 58 #[v, .string nm, .agg #[.int .i64 t.k, .int .i64 t.n, .string t.s]] w (BindsEnd B L nm t v w) := by
  obtain ⟨W2, hW2⟩ : ∃ W2, W2 = (w.alloc (.cells #[.string nm] 9)).alloc (.cells #[.int .i64 t.k, .int .i64 t.n, .string t.s] 49) := ⟨_, rfl⟩
  have hb2 : Below w.heap.size w W2 := by rw [hW2]; exact ((Below.refl _ _).alloc (Nat.le_refl _) _).alloc (by simp) _
  have hz2 : W2.heap.size = w.heap.size + 2 := by rw [hW2]; simp
  have hbx := two_boxes w (.string nm) (.int .i64 t.k) (.int .i64 t.n) (.string t.s) 9 49
  rw [← hW2] at hbx
  have HBX := Lib.hid hbx
  have HB2 := Lib.hid hb2
  have HZ2 := Lib.hid hz2
  have HO2 := Lib.hid (ho.below hb2)
  have HI := Lib.hid (index_any v L ⟨w.heap.size, 0, none⟩ nm W2.heap.size W2 HO2.out.in_ (Nat.le_refl _) (by rw [hz2]; show w.heap.size < _; omega) (cell_of_row W2 _ 0 _ _ (0, 0) hbx.1) (by omega))
  have HLL := Lib.hid hL
  obtain ⟨p, cap, rfl⟩ := HO2.out.in_.form
  have hL' : (L.length : Int) ≤ 1000 := by omega
  clear ho hbx hb2 hz2 hL
  go_enter Tryd.func58, Tryd.ntmps58
  go_wp2_with fail
  rw [← hW2]
  clear hW2
  refine HI.out.mono ?_
  rintro e w3 ⟨⟨hf, rfl⟩ | ⟨i, hi, hf, rfl⟩, hb⟩
  · have HF := Lib.hid hf
    have HBB : Hid (Below B w w3) := Lib.hid ((HB2.out.mono hB).trans (hb.mono (by have := HZ2.out; omega)))
    have hx0 := (hb.block w.heap.size (by rw [HZ2.out]; omega)).trans HBX.out.1
    have hx1 := (hb.block (w.heap.size + 1) (by rw [HZ2.out]; omega)).trans HBX.out.2
    have c0 : w3.cell? ⟨w.heap.size, 0, none⟩ = some (.string nm) := cell_of_row w3 _ 0 _ _ (0, 0) hx0
    have d0 : w3.cell? ⟨w.heap.size + 1, 0, none⟩ = some (.int .i64 t.k) := cell_of_row w3 _ 0 _ _ (0, 0) hx1
    have d1 : w3.cell? ⟨w.heap.size + 1, 1, none⟩ = some (.int .i64 t.n) := cell_of_row w3 _ 1 _ _ (0, 0) hx1
    have d2 : w3.cell? ⟨w.heap.size + 1, 2, none⟩ = some (.string t.s) := cell_of_row w3 _ 2 _ _ (0, 0) hx1
    have HO3 := Lib.hid (HO2.out.below hb)
    have HBK : Hid (Below w.heap.size w w3) := Lib.hid (HB2.out.trans (hb.mono (by have := HZ2.out; omega)))
    have HBW : Hid (Below B w (w3.alloc (.cells #[.string nm, .int .i64 t.k, .int .i64 t.n, .string t.s] 72))) := Lib.hid (HBB.out.alloc (Nat.le_trans hB HBB.out.size) _)
    clear hf hb hx0 hx1
    go_wp2_with (at_builtin; refine wpList_appK rfl (.tmp 14) (.tmp 18) rfl B w3.heap.size w _ _ L ⟨nm, t⟩ rfl rfl rfl (HO3.out.alloc _) (heap_alloc_new w3 _) (by have := HLL.out; omega) HBW.out hB ?_; intro v' w4 ho4 hb4 hg4)
    go_ret2
    refine ⟨hb4, fun k hk hne => ?_, .inl ⟨HF.out, v', rfl, ho4⟩⟩
    exact (hg4.block k (by have := HBK.out.size; simp; omega) hne).trans ((Below.heap_alloc w3 _ _ (by have := HBK.out.size; omega)).trans (HBK.out.block k hk))
  · have HF := Lib.hid hf
    have HBB : Hid (Below B w w3) := Lib.hid ((HB2.out.mono hB).trans (hb.mono (by have := HZ2.out; omega)))
    have hx1 := (hb.block (w.heap.size + 1) (by rw [HZ2.out]; omega)).trans HBX.out.2
    have d0 : w3.cell? ⟨w.heap.size + 1, 0, none⟩ = some (.int .i64 t.k) := cell_of_row w3 _ 0 _ _ (0, 0) hx1
    have d1 : w3.cell? ⟨w.heap.size + 1, 1, none⟩ = some (.int .i64 t.n) := cell_of_row w3 _ 1 _ _ (0, 0) hx1
    have d2 : w3.cell? ⟨w.heap.size + 1, 2, none⟩ = some (.string t.s) := cell_of_row w3 _ 2 _ _ (0, 0) hx1
    have HO3 := Lib.hid (HO2.out.below hb)
    have HBK : Hid (Below w.heap.size w w3) := Lib.hid (HB2.out.trans (hb.mono (by have := HZ2.out; omega)))
    obtain ⟨g, hg1, hg2, hg3, hg4, hg5⟩ := HO3.out.in_.some hi
    subst hg1
    obtain ⟨-, x1, x2, x3⟩ := hg5 i hi
    rw [Nat.zero_add] at x1 x2 x3
    have hi' : (i : Int) < (L.length : Int) := by omega
    have hi0 : (0 : Int) ≤ (i : Int) := by omega
    have hE := fun W => eqV_run L[i].v t W
    clear hf hb hx1 hg5
    go_wp2_with fail
    go_quiet (fail)
    go_wp2_with fail
    go_ret2
    exact ⟨below_drewN HBB.out nq, fun k hk _ => HBK.out.block k hk, .inr ⟨_, HF.out, rfl, own_drewN HO3.out nq⟩⟩
end Go.Proofs.YtaogfgohchpnoaaDoor

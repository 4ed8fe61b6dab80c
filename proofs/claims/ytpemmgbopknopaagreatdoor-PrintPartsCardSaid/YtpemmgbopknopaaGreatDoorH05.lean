/-
  The document's SameAtom and sameDecl at two that stand for the same.
  The document's sameOn and SameRule at two that stand for the same.
-/
import Derived.Test.YtpemmgbopknopaaGreatDoorH02
import Derived.Laws.StructEq
import Derived.Deep.QuietTactic
import Derived.BigQuiet
import Derived.Laws.Unary
import Derived.Deep.RegionHeld3
import Derived.RegionTactic
import Derived.BigRegion
namespace Go.Proofs.YtpemmgbopknopaaGreatDoor
section
open Go Go.RowKit Go.Shelf

theorem cells5_at {S : Nat → Prop} {w : World} {v : Value} {L : List TmL} (h : RowIn tmY S w v L) {j : Nat} (hj : j < L.length) : ∃ b off c, v = .slice (some ⟨b, off, none⟩) L.length c ∧ b < w.heap.size ∧
    w.cell? ⟨b, off + j * 5, none⟩ = some (.int .i64 L[j].kind) ∧ w.cell? ⟨b, off + j * 5 + 1, none⟩ = some (.string ⟨L[j].name.toArray⟩) ∧ w.cell? ⟨b, off + j * 5 + 2, none⟩ = some (.int .i64 L[j].val.1) ∧ w.cell? ⟨b, off + j * 5 + 3, none⟩ = some (.int .i64 L[j].val.2.1) ∧ w.cell? ⟨b, off + j * 5 + 4, none⟩ = some (.string L[j].val.2.2) := by
  obtain ⟨p, c, rfl, -, -, h⟩ := h
  rcases h with h | ⟨b, off, rfl, -, hb, h⟩
  · subst h; simp at hj
  · obtain ⟨us, hu, hc⟩ := h j hj
    have hu : us = cellT L[j] := hu
    subst hu
    exact ⟨b, off, c, rfl, hb, hc 0 _ rfl, hc 1 _ rfl, hc 2 _ rfl, hc 3 _ rfl, hc 4 _ rfl⟩
theorem RowIn.shape {α : Type} {Y : Lay α} {S : Nat → Prop} {w : World} {v : Value} {L : List α} (h : RowIn Y S w v L) : ∃ p c, v = .slice p L.length c := by
  obtain ⟨p, c, rfl, -⟩ := h
  exact ⟨p, c, rfl⟩
theorem RowIn.in_below {α : Type} {Y : Lay α} {S : Nat → Prop} {w w' : World} {v : Value} {L : List α} (h : RowIn Y S w v L) (hb : Below w.heap.size w w') : RowIn Y S w' v L := h.keep hb.size fun k e hk => ⟨e, hb.block k hk⟩
theorem two_newA (W : World) (o o' : Obj) : ((W.alloc o).alloc o').heap[W.heap.size]? = some o ∧ ((W.alloc o).alloc o').heap[W.heap.size + 1]? = some o' := by
  refine ⟨(Below.heap_alloc _ _ _ (by simp)).trans (heap_alloc_new W o), ?_⟩
  have := heap_alloc_new (W.alloc o) o'
  rw [show (W.alloc o).heap.size = W.heap.size + 1 by simp] at this
  exact this
set_option maxRecDepth 100000 in
set_option maxHeartbeats 4000000 in
theorem rsameatom_yes {S S' : Nat → Prop} {w : World} {u u' : Value} {a : AtL} (h1 : RowIn tmY S w u a.args) (h2 : RowIn tmY S' w u' a.args) :
    Calls Tryz.prog 90 #[.agg #[.string ⟨a.pred.toArray⟩, u], .agg #[.string ⟨a.pred.toArray⟩, u']] w fun e w' => e = .returned (.bool true) ∧ Below w.heap.size w w' := by
  have H1 := Lib.hid h1
  have H2 := Lib.hid h2
  have mixed : Tryz.prog.follows .mixedOrders = true := by kernel_rfl
  obtain ⟨p, c, rfl⟩ := h1.shape
  obtain ⟨p', c', rfl⟩ := h2.shape
  obtain ⟨n, hn⟩ : ∃ n, n = a.args.length := ⟨_, rfl⟩
  have HN := Lib.hid hn
  have hs : ((⟨a.pred.toArray⟩ : ByteArray).toList == (⟨a.pred.toArray⟩ : ByteArray).toList) = true := by simp
  rw [← hn] at H1 H2 ⊢
  clear h1 h2 hn
  go_enter Tryz.func90, Tryz.ntmps90
  go_wp2_with fail
  go_loopw [5] (fun i wr => ∃ k : Nat, k ≤ n ∧ i = .int .i64 k ∧ Hid (Below w.heap.size w wr ∧ wr.heap[w.heap.size]? = some (.cells #[.string ⟨a.pred.toArray⟩, .slice p n c] 46 (0, 0)) ∧ wr.heap[w.heap.size + 1]? = some (.cells #[.string ⟨a.pred.toArray⟩, .slice p' n c'] 46 (0, 0)))) (fun i _ => n - (intOf i).toNat)
  case atStart => exact ⟨0, Nat.zero_le _, rfl, Lib.hid ⟨((Below.refl _ w).alloc (Nat.le_refl _) _).alloc (by simp) _, (two_newA w _ _).1, (two_newA w _ _).2⟩⟩
  case round =>
    obtain ⟨k, hk, rfl, HJ⟩ := hrel
    have h0 : (0 : Int) ≤ (k : Int) := by omega
    obtain ⟨hb, hr, hr'⟩ := HJ.out
    have g1 : wr.cell? ⟨w.heap.size, 1, none⟩ = some (.slice p n c) := cell_of_row wr _ 1 _ _ (0, 0) hr
    have g2 : wr.cell? ⟨w.heap.size + 1, 1, none⟩ = some (.slice p' n c') := cell_of_row wr _ 1 _ _ (0, 0) hr'
    by_cases hlt : k < n
    · have hlt' : (k : Int) < (n : Int) := by omega
      have hkn : k < a.args.length := by rw [← HN.out]; exact hlt
      obtain ⟨b, off, c1, e1, hb1, a0, a1, a2, a3, a4⟩ := cells5_at (H1.out.in_below hb) hkn
      obtain ⟨b', off', c2, e2, hb2, d0, d1, d2, d3, d4⟩ := cells5_at (H2.out.in_below hb) hkn
      injection e1 with e1 _ _
      injection e2 with e2 _ _
      subst e1
      subst e2
      generalize a.args[k] = X at a0 a1 a2 a3 a4 d0 d1 d2 d3 d4
      obtain ⟨K, N, ⟨v1, v2, v3⟩⟩ := X
      simp only at a0 a1 a2 a3 a4 d0 d1 d2 d3 d4
      have hn2 : (n : Int) ≤ 9223372036854775807 := by have := H1.out; obtain ⟨p0, c0, e0, l1, l2, -⟩ := this; unfold maxLen at l2; have := HN.out; omega
      clear hb hr hr'
      go_wp2_with fail
      go_quiet (fail)
      go_wp2_with fail
      go_roundw
      case rel => exact ⟨k + 1, hlt, by simp, Lib.hid (by obtain ⟨hb, hr, hr'⟩ := HJ.out; exact ⟨⟨hb.os, hb.tape, hb.output, hb.size, hb.block⟩, hr, hr'⟩)⟩
      case measure => simp [intOf]; omega
    · obtain rfl : k = n := by omega
      have hlt' : ¬ ((k : Nat) : Int) < (k : Int) := by omega
      clear hr hr'
      go_wp2_with fail
      go_ret
      exact ⟨rfl, hb⟩
-- MORE
theorem ty_at {S : Nat → Prop} {w : World} {v : Value} {L : List Int} (h : RowIn tyY S w v L) {j : Nat} (hj : j < L.length) : ∃ b off c, v = .slice (some ⟨b, off, none⟩) L.length c ∧ b < w.heap.size ∧ w.cell? ⟨b, off + j, none⟩ = some (.int .i64 L[j]) := by
  obtain ⟨p, c, rfl, -, -, h⟩ := h
  rcases h with h | ⟨b, off, rfl, -, hb, h⟩
  · subst h; simp at hj
  · obtain ⟨us, hu, hc⟩ := h j hj
    have hu : us = [.int .i64 L[j]] := hu
    subst hu
    exact ⟨b, off, c, rfl, hb, by have := hc 0 _ rfl; simpa [tyY] using this⟩
theorem pa_at {S : Nat → Prop} {w : World} {v : Value} {L : List (List UInt8 × Int)} (h : RowIn paY S w v L) {j : Nat} (hj : j < L.length) : ∃ b off c, v = .slice (some ⟨b, off, none⟩) L.length c ∧ b < w.heap.size ∧ w.cell? ⟨b, off + j * 2, none⟩ = some (.string ⟨L[j].1.toArray⟩) ∧ w.cell? ⟨b, off + j * 2 + 1, none⟩ = some (.int .i64 L[j].2) := by
  obtain ⟨p, c, rfl, -, -, h⟩ := h
  rcases h with h | ⟨b, off, rfl, -, hb, h⟩
  · subst h; simp at hj
  · obtain ⟨us, hu, hc⟩ := h j hj
    have hu : us = [.string ⟨L[j].1.toArray⟩, .int .i64 L[j].2] := hu
    subst hu
    exact ⟨b, off, c, rfl, hb, hc 0 _ rfl, hc 1 _ rfl⟩
theorem len_le {α : Type} {Y : Lay α} {S : Nat → Prop} {w : World} {v : Value} {L : List α} (h : RowIn Y S w v L) : L.length ≤ 9223372036854775807 := by
  obtain ⟨p, c, -, l1, l2, -⟩ := h
  exact Nat.le_trans l1 l2
set_option maxRecDepth 100000 in
set_option maxHeartbeats 4000000 in
theorem rsamedecl_yes {S S' : Nat → Prop} {w : World} {u u' : Value} {a : DeL} (h1 : RowIn tyY S w u a.types) (h2 : RowIn tyY S' w u' a.types) :
    Calls Tryz.prog 47 #[.agg #[.string ⟨a.name.toArray⟩, .bool a.base, u], .agg #[.string ⟨a.name.toArray⟩, .bool a.base, u']] w fun e w' => e = .returned (.bool true) ∧ Below w.heap.size w w' := by
  have H1 := Lib.hid h1
  have H2 := Lib.hid h2
  have mixed : Tryz.prog.follows .mixedOrders = true := by kernel_rfl
  obtain ⟨p, c, rfl⟩ := h1.shape
  obtain ⟨p', c', rfl⟩ := h2.shape
  have hn2 := len_le h1
  obtain ⟨n, hn⟩ : ∃ n, n = a.types.length := ⟨_, rfl⟩
  have HN := Lib.hid hn
  have hs : ((⟨a.name.toArray⟩ : ByteArray).toList == (⟨a.name.toArray⟩ : ByteArray).toList) = true := by simp
  rw [← hn] at H1 H2 hn2 ⊢
  have hn3 : (n : Int) ≤ 9223372036854775807 := by omega
  generalize a.name = nm at hs ⊢
  generalize a.base = bs
  clear h1 h2 hn hn2
  go_enter Tryz.func47, Tryz.ntmps47
  go_wp2_with fail
  go_loopw [5] (fun i wr => ∃ k : Nat, k ≤ n ∧ i = .int .i64 k ∧ Hid (Below w.heap.size w wr ∧ wr.heap[w.heap.size]? = some (.cells #[.string ⟨nm.toArray⟩, .bool bs, .slice p n c] 63 (0, 0)) ∧ wr.heap[w.heap.size + 1]? = some (.cells #[.string ⟨nm.toArray⟩, .bool bs, .slice p' n c'] 63 (0, 0)))) (fun i _ => n - (intOf i).toNat)
  case atStart => exact ⟨0, Nat.zero_le _, rfl, Lib.hid ⟨((Below.refl _ w).alloc (Nat.le_refl _) _).alloc (by simp) _, (two_newA w _ _).1, (two_newA w _ _).2⟩⟩
  case round =>
    obtain ⟨k, hk, rfl, HJ⟩ := hrel
    have h0 : (0 : Int) ≤ (k : Int) := by omega
    obtain ⟨hb, hr, hr'⟩ := HJ.out
    have g1 : wr.cell? ⟨w.heap.size, 2, none⟩ = some (.slice p n c) := cell_of_row wr _ 2 _ _ (0, 0) hr
    have g2 : wr.cell? ⟨w.heap.size + 1, 2, none⟩ = some (.slice p' n c') := cell_of_row wr _ 2 _ _ (0, 0) hr'
    by_cases hlt : k < n
    · have hlt' : (k : Int) < (n : Int) := by omega
      have hkn : k < a.types.length := by rw [← HN.out]; exact hlt
      obtain ⟨b, off, c1, e1, hb1, a0⟩ := ty_at (H1.out.in_below hb) hkn
      obtain ⟨b', off', c2, e2, hb2, d0⟩ := ty_at (H2.out.in_below hb) hkn
      injection e1 with e1 _ _
      injection e2 with e2 _ _
      subst e1
      subst e2
      generalize a.types[k] = X at a0 d0
      clear hb hr hr'
      go_wp2_with fail
      go_quiet (fail)
      go_wp2_with fail
      go_roundw
      case rel => exact ⟨k + 1, hlt, by simp, Lib.hid (by obtain ⟨hb, hr, hr'⟩ := HJ.out; exact ⟨⟨hb.os, hb.tape, hb.output, hb.size, hb.block⟩, hr, hr'⟩)⟩
      case measure => simp [intOf]; omega
    · obtain rfl : k = n := by omega
      have hlt' : ¬ ((k : Nat) : Int) < (k : Int) := by omega
      clear hr hr'
      go_wp2_with fail
      go_ret
      exact ⟨rfl, hb⟩
end
section
open Go Go.RowKit Go.Shelf

theorem ac_at {S : Nat → Prop} {w : World} {v : Value} {L : List ActL} (h : RowIn acY S w v L) {j : Nat} (hj : j < L.length) : ∃ b off c u, v = .slice (some ⟨b, off, none⟩) L.length c ∧ w.cell? ⟨b, off + j * 3, none⟩ = some (.bool L[j].plus) ∧ w.cell? ⟨b, off + j * 3 + 1, none⟩ = some (.string ⟨L[j].atom.pred.toArray⟩) ∧ w.cell? ⟨b, off + j * 3 + 2, none⟩ = some u ∧ RowIn tmY S w u L[j].atom.args := by
  obtain ⟨p, c, rfl, -, -, h⟩ := h
  rcases h with h | ⟨b, off, rfl, -, hb, h⟩
  · subst h; simp at hj
  · obtain ⟨us, ⟨u, rfl, hu⟩, hc⟩ := h j hj
    exact ⟨b, off, c, u, rfl, hc 0 _ rfl, hc 1 _ rfl, hc 2 _ rfl, hu⟩
theorem li_at {S : Nat → Prop} {w : World} {v : Value} {L : List LiL} (h : RowIn liY S w v L) {j : Nat} (hj : j < L.length) : ∃ b off c u, v = .slice (some ⟨b, off, none⟩) L.length c ∧ b < w.heap.size ∧ RowIn tmY S w u L[j].atom.args ∧ w.cell? ⟨b, off + j * 14, none⟩ = some (.int .i64 L[j].kind) ∧ w.cell? ⟨b, off + j * 14 + 1, none⟩ = some (.string ⟨L[j].atom.pred.toArray⟩) ∧ w.cell? ⟨b, off + j * 14 + 2, none⟩ = some (u) ∧ w.cell? ⟨b, off + j * 14 + 3, none⟩ = some (.int .i64 L[j].op) ∧ w.cell? ⟨b, off + j * 14 + 4, none⟩ = some (.int .i64 L[j].a.kind) ∧ w.cell? ⟨b, off + j * 14 + 5, none⟩ = some (.string ⟨L[j].a.name.toArray⟩) ∧ w.cell? ⟨b, off + j * 14 + 6, none⟩ = some (.int .i64 L[j].a.val.1) ∧ w.cell? ⟨b, off + j * 14 + 7, none⟩ = some (.int .i64 L[j].a.val.2.1) ∧ w.cell? ⟨b, off + j * 14 + 8, none⟩ = some (.string L[j].a.val.2.2) ∧ w.cell? ⟨b, off + j * 14 + 9, none⟩ = some (.int .i64 L[j].b.kind) ∧ w.cell? ⟨b, off + j * 14 + 10, none⟩ = some (.string ⟨L[j].b.name.toArray⟩) ∧ w.cell? ⟨b, off + j * 14 + 11, none⟩ = some (.int .i64 L[j].b.val.1) ∧ w.cell? ⟨b, off + j * 14 + 12, none⟩ = some (.int .i64 L[j].b.val.2.1) ∧ w.cell? ⟨b, off + j * 14 + 13, none⟩ = some (.string L[j].b.val.2.2) := by
  obtain ⟨p, c, rfl, -, -, h⟩ := h
  rcases h with h | ⟨b, off, rfl, -, hb, h⟩
  · subst h; simp at hj
  · obtain ⟨us, ⟨u, rfl, hu⟩, hc⟩ := h j hj
    exact ⟨b, off, c, u, rfl, hb, hu, hc 0 _ rfl, hc 1 _ rfl, hc 2 _ rfl, hc 3 _ rfl, hc 4 _ rfl, hc 5 _ rfl, hc 6 _ rfl, hc 7 _ rfl, hc 8 _ rfl, hc 9 _ rfl, hc 10 _ rfl, hc 11 _ rfl, hc 12 _ rfl, hc 13 _ rfl⟩
set_option maxRecDepth 100000 in
set_option maxHeartbeats 4000000 in
theorem rsameon_yes {S S' : Nat → Prop} {w : World} {u u' x x' : Value} {a : OnL} (h1 : RowIn paY S w u a.params) (h2 : RowIn paY S' w u' a.params) (i1 : RowIn acY S w x a.acts) (i2 : RowIn acY S' w x' a.acts) :
    Calls Tryz.prog 48 #[.agg #[.string ⟨a.event.toArray⟩, u, x], .agg #[.string ⟨a.event.toArray⟩, u', x']] w fun e w' => e = .returned (.bool true) ∧ Below w.heap.size w w' := by
  have H1 := Lib.hid h1
  have H2 := Lib.hid h2
  have I1 := Lib.hid i1
  have I2 := Lib.hid i2
  have mixed : Tryz.prog.follows .mixedOrders = true := by kernel_rfl
  obtain ⟨p, c, rfl⟩ := h1.shape
  obtain ⟨p', c', rfl⟩ := h2.shape
  obtain ⟨q, d, rfl⟩ := i1.shape
  obtain ⟨q', d', rfl⟩ := i2.shape
  have hn2 := len_le h1
  have hm2 := len_le i1
  obtain ⟨n, hn⟩ : ∃ n, n = a.params.length := ⟨_, rfl⟩
  obtain ⟨m, hm⟩ : ∃ m, m = a.acts.length := ⟨_, rfl⟩
  have HN := Lib.hid hn
  have HM := Lib.hid hm
  have hs : ((⟨a.event.toArray⟩ : ByteArray).toList == (⟨a.event.toArray⟩ : ByteArray).toList) = true := by simp
  rw [← hn] at H1 H2 hn2 ⊢
  rw [← hm] at I1 I2 hm2 ⊢
  have hn3 : (n : Int) ≤ 9223372036854775807 := by omega
  have hm3 : (m : Int) ≤ 9223372036854775807 := by omega
  generalize a.event = nm at hs ⊢
  clear h1 h2 i1 i2 hn hn2 hm hm2
  go_enter Tryz.func48, Tryz.ntmps48
  go_wp2_with fail
  go_loopw [5] (fun i wr => ∃ k : Nat, k ≤ n ∧ i = .int .i64 k ∧ Hid (Below w.heap.size w wr ∧ wr.heap[w.heap.size]? = some (.cells #[.string ⟨nm.toArray⟩, .slice p n c, .slice q m d] 67 (0, 0)) ∧ wr.heap[w.heap.size + 1]? = some (.cells #[.string ⟨nm.toArray⟩, .slice p' n c', .slice q' m d'] 67 (0, 0)))) (fun i _ => n - (intOf i).toNat)
  case atStart => exact ⟨0, Nat.zero_le _, rfl, Lib.hid ⟨((Below.refl _ w).alloc (Nat.le_refl _) _).alloc (by simp) _, (two_newA w _ _).1, (two_newA w _ _).2⟩⟩
  case round =>
    obtain ⟨k, hk, rfl, HJ⟩ := hrel
    have h0 : (0 : Int) ≤ (k : Int) := by omega
    obtain ⟨hb, hr, hr'⟩ := HJ.out
    have g1 : wr.cell? ⟨w.heap.size, 1, none⟩ = some (.slice p n c) := cell_of_row wr _ 1 _ _ (0, 0) hr
    have g2 : wr.cell? ⟨w.heap.size + 1, 1, none⟩ = some (.slice p' n c') := cell_of_row wr _ 1 _ _ (0, 0) hr'
    by_cases hlt : k < n
    · have hlt' : (k : Int) < (n : Int) := by omega
      have hkn : k < a.params.length := by rw [← HN.out]; exact hlt
      obtain ⟨b, off, c1, e1, hb1, a0, a1⟩ := pa_at (H1.out.in_below hb) hkn
      obtain ⟨b', off', c2, e2, hb2, d0, d1⟩ := pa_at (H2.out.in_below hb) hkn
      injection e1 with e1 h2' h3'
      injection e2 with e2 h4' h5'
      subst e1
      subst e2
      clear h2' h3' h4' h5'
      generalize a.params[k] = X at a0 a1 d0 d1
      obtain ⟨X1, X2⟩ := X
      simp only at a0 a1 d0 d1
      clear hb hr hr'
      go_wp2_with fail
      go_quiet (fail)
      go_wp2_with fail
      go_roundw
      case rel => exact ⟨k + 1, hlt, by simp, Lib.hid (by obtain ⟨hb, hr, hr'⟩ := HJ.out; exact ⟨⟨hb.os, hb.tape, hb.output, hb.size, hb.block⟩, hr, hr'⟩)⟩
      case measure => simp [intOf]; omega
    · obtain rfl : n = k := by omega
      have hlt' : ¬ ((n : Nat) : Int) < (n : Int) := by omega
      clear hr hr' hb
      go_wp2_with fail
      clear g1 g2
      go_loopw [6] (fun i wr => ∃ k : Nat, k ≤ m ∧ i = .int .i64 k ∧ Hid (Below w.heap.size w wr ∧ wr.heap[w.heap.size]? = some (.cells #[.string ⟨nm.toArray⟩, .slice p n c, .slice q m d] 67 (0, 0)) ∧ wr.heap[w.heap.size + 1]? = some (.cells #[.string ⟨nm.toArray⟩, .slice p' n c', .slice q' m d'] 67 (0, 0)))) (fun i _ => m - (intOf i).toNat)
      case atStart => exact ⟨0, Nat.zero_le _, rfl, HJ⟩
      case round =>
        clear HJ hlt hlt' hk h0
        obtain ⟨k, hk, rfl, HJ⟩ := hrel
        have h0 : (0 : Int) ≤ (k : Int) := by omega
        obtain ⟨hb, hr, hr'⟩ := HJ.out
        have HB := Lib.hid hb
        have g1 : wr.cell? ⟨w.heap.size, 2, none⟩ = some (.slice q m d) := cell_of_row wr _ 2 _ _ (0, 0) hr
        have g2 : wr.cell? ⟨w.heap.size + 1, 2, none⟩ = some (.slice q' m d') := cell_of_row wr _ 2 _ _ (0, 0) hr'
        by_cases hlt : k < m
        · have hlt' : (k : Int) < (m : Int) := by omega
          have hkn : k < a.acts.length := by rw [← HM.out]; exact hlt
          obtain ⟨b, off, c1, u, e1, a0, a1, a2, hu⟩ := ac_at (I1.out.in_below hb) hkn
          obtain ⟨b', off', c2, u', e2, d0, d1, d2, hu'⟩ := ac_at (I2.out.in_below hb) hkn
          injection e1 with e1 h2' h3'
          injection e2 with e2 h4' h5'
          subst e1
          subst e2
          clear h2' h3' h4' h5'
          generalize a.acts[k] = X at a0 a1 a2 d0 d1 d2 hu hu'
          obtain ⟨pl, at_⟩ := X
          simp only at a0 a1 a2 d0 d1 d2 hu hu'
          have HU := Lib.hid (And.intro hu hu')
          obtain ⟨pu, cu, rfl⟩ := hu.shape
          obtain ⟨pu', cu', rfl⟩ := hu'.shape
          have hp : (!(pl == pl)) = false := by simp
          have hp2 : (pl != pl) = false := by simp
          clear hb hr hr' hu hu'
          go_wp2_with fail
          refine region_tail 26 mixed (by kernel_rfl) ?_
          simp only [List.take_succ_cons, List.take_zero, List.drop_succ_cons, List.drop_zero]
          iterate 26 still_step
          refine wpStill_nil ?_
          go_wp2_with fail
          refine (rsameatom_yes (w := wr.drew) (a := at_) (HU.out.1.in_below ⟨rfl, rfl, rfl, Nat.le_refl _, fun _ _ => rfl⟩) (HU.out.2.in_below ⟨rfl, rfl, rfl, Nat.le_refl _, fun _ _ => rfl⟩)).mono ?_
          rintro e w3 ⟨rfl, hb3⟩
          have HB3 : Hid (Below wr.heap.size wr w3) := Lib.hid ⟨hb3.os, hb3.tape, hb3.output, hb3.size, hb3.block⟩
          clear hb3
          go_wp2_with fail
          go_roundw
          case rel =>
            obtain ⟨hb, hr, hr'⟩ := HJ.out
            exact ⟨k + 1, hlt, by simp, Lib.hid ⟨hb.trans (HB3.out.mono hb.size), (HB3.out.block _ (Array.getElem?_eq_some_iff.1 hr).1).trans hr, (HB3.out.block _ (Array.getElem?_eq_some_iff.1 hr').1).trans hr'⟩⟩
          case measure => simp [intOf]; omega
        · obtain rfl : m = k := by omega
          have hlt' : ¬ ((m : Nat) : Int) < (m : Int) := by omega
          clear hr hr'
          go_wp2_with fail
          go_ret
          exact ⟨rfl, hb⟩
end
end Go.Proofs.YtpemmgbopknopaaGreatDoor

/-
  The document's SameAtom and sameDecl at two that stand for the same.
  The document's sameOn and SameRule at two that stand for the same.
  The document's SameRule at two that stand for the same.
  The document's Same at two programs that stand for the same.
-/
import Derived.Test.YtnbaemfkpfmheaaGreatDoorG02
import Derived.Laws.StructEq
import Derived.Deep.QuietTactic
import Derived.BigQuiet
import Derived.Laws.Unary
import Derived.Deep.RegionHeld3
import Derived.RegionTactic
import Derived.BigRegion
namespace Go.Proofs.YtnbaemfkpfmheaaGreatDoor
section
open Go Go.RowKit Go.Shelf

theorem cells5_at {S : Nat → Prop} {w : World} {v : Value} {L : List TmL} (h : RowIn tmY S w v L) {j : Nat} (hj : j < L.length) : ∃ b off c, v = .slice (some ⟨b, off, none⟩) L.length c ∧ b < w.heap.size ∧
    w.cell? ⟨b, off + j * 5, none⟩ = some (.int .i64 L[j].kind) ∧ w.cell? ⟨b, off + j * 5 + 1, none⟩ = some (.string ⟨L[j].name.toArray⟩) ∧ w.cell? ⟨b, off + j * 5 + 2, none⟩ = some (.int .i64 L[j].val.1) ∧ w.cell? ⟨b, off + j * 5 + 3, none⟩ = some (.int .i64 L[j].val.2.1) ∧ w.cell? ⟨b, off + j * 5 + 4, none⟩ = some (.string L[j].val.2.2) := by
  obtain ⟨p, c, rfl, -, -, h⟩ := h
  rcases h with h | ⟨b, off, rfl, -, hb, h⟩
  · subst h; simp at hj
  · obtain ⟨us, hu, hc⟩ := h j hj
    have hu : us = cellT L[j] := hu
    subst hu
    exact ⟨b, off, c, rfl, hb, hc 0 _ rfl, hc 1 _ rfl, hc 2 _ rfl, hc 3 _ rfl, hc 4 _ rfl⟩
theorem RowIn.shape {α : Type} {Y : Lay α} {S : Nat → Prop} {w : World} {v : Value} {L : List α} (h : RowIn Y S w v L) : ∃ p c, v = .slice p L.length c := by
  obtain ⟨p, c, rfl, -⟩ := h
  exact ⟨p, c, rfl⟩
theorem RowIn.in_below {α : Type} {Y : Lay α} {S : Nat → Prop} {w w' : World} {v : Value} {L : List α} (h : RowIn Y S w v L) (hb : Below w.heap.size w w') : RowIn Y S w' v L := h.keep hb.size fun k e hk => ⟨e, hb.block k hk⟩
theorem two_newA (W : World) (o o' : Obj) : ((W.alloc o).alloc o').heap[W.heap.size]? = some o ∧ ((W.alloc o).alloc o').heap[W.heap.size + 1]? = some o' := by
  refine ⟨(Below.heap_alloc _ _ _ (by simp)).trans (heap_alloc_new W o), ?_⟩
  have := heap_alloc_new (W.alloc o) o'
  rw [show (W.alloc o).heap.size = W.heap.size + 1 by simp] at this
  exact this
set_option maxRecDepth 100000 in
set_option maxHeartbeats 4000000 in
theorem rsameatom_yes {S S' : Nat → Prop} {w : World} {u u' : Value} {a : AtL} (h1 : RowIn tmY S w u a.args) (h2 : RowIn tmY S' w u' a.args) :
    Calls Tryz.prog 16 #[.agg #[.string ⟨a.pred.toArray⟩, u], .agg #[.string ⟨a.pred.toArray⟩, u']] w fun e w' => e = .returned (.bool true) ∧ Below w.heap.size w w' := by
  have H1 := Lib.hid h1
  have H2 := Lib.hid h2
  have mixed : Tryz.prog.follows .mixedOrders = true := by kernel_rfl
  obtain ⟨p, c, rfl⟩ := h1.shape
  obtain ⟨p', c', rfl⟩ := h2.shape
  obtain ⟨n, hn⟩ : ∃ n, n = a.args.length := ⟨_, rfl⟩
  have HN := Lib.hid hn
  have hs : ((⟨a.pred.toArray⟩ : ByteArray).toList == (⟨a.pred.toArray⟩ : ByteArray).toList) = true := by simp
  rw [← hn] at H1 H2 ⊢
  clear h1 h2 hn
  go_enter Tryz.func16, Tryz.ntmps16
  go_wp2_with fail
  go_loopw [5] (fun i wr => ∃ k : Nat, k ≤ n ∧ i = .int .i64 k ∧ Hid (Below w.heap.size w wr ∧ wr.heap[w.heap.size]? = some (.cells #[.string ⟨a.pred.toArray⟩, .slice p n c] 38 (0, 0)) ∧ wr.heap[w.heap.size + 1]? = some (.cells #[.string ⟨a.pred.toArray⟩, .slice p' n c'] 38 (0, 0)))) (fun i _ => n - (intOf i).toNat)
  case atStart => exact ⟨0, Nat.zero_le _, rfl, Lib.hid ⟨((Below.refl _ w).alloc (Nat.le_refl _) _).alloc (by simp) _, (two_newA w _ _).1, (two_newA w _ _).2⟩⟩
  case round =>
    obtain ⟨k, hk, rfl, HJ⟩ := hrel
    have h0 : (0 : Int) ≤ (k : Int) := by omega
    obtain ⟨hb, hr, hr'⟩ := HJ.out
    have g1 : wr.cell? ⟨w.heap.size, 1, none⟩ = some (.slice p n c) := cell_of_row wr _ 1 _ _ (0, 0) hr
    have g2 : wr.cell? ⟨w.heap.size + 1, 1, none⟩ = some (.slice p' n c') := cell_of_row wr _ 1 _ _ (0, 0) hr'
    by_cases hlt : k < n
    · have hlt' : (k : Int) < (n : Int) := by omega
      have hkn : k < a.args.length := by rw [← HN.out]; exact hlt
      obtain ⟨b, off, c1, e1, hb1, a0, a1, a2, a3, a4⟩ := cells5_at (H1.out.in_below hb) hkn
      obtain ⟨b', off', c2, e2, hb2, d0, d1, d2, d3, d4⟩ := cells5_at (H2.out.in_below hb) hkn
      injection e1 with e1 _ _
      injection e2 with e2 _ _
      subst e1
      subst e2
      generalize a.args[k] = X at a0 a1 a2 a3 a4 d0 d1 d2 d3 d4
      obtain ⟨K, N, ⟨v1, v2, v3⟩⟩ := X
      simp only at a0 a1 a2 a3 a4 d0 d1 d2 d3 d4
      have hn2 : (n : Int) ≤ 9223372036854775807 := by have := H1.out; obtain ⟨p0, c0, e0, l1, l2, -⟩ := this; unfold maxLen at l2; have := HN.out; omega
      clear hb hr hr'
      go_wp2_with fail
      go_quiet (fail)
      go_wp2_with fail
      go_roundw
      case rel => exact ⟨k + 1, hlt, by simp, Lib.hid (by obtain ⟨hb, hr, hr'⟩ := HJ.out; exact ⟨⟨hb.os, hb.tape, hb.output, hb.size, hb.block⟩, hr, hr'⟩)⟩
      case measure => simp [intOf]; omega
    · obtain rfl : k = n := by omega
      have hlt' : ¬ ((k : Nat) : Int) < (k : Int) := by omega
      clear hr hr'
      go_wp2_with fail
      go_ret
      exact ⟨rfl, hb⟩
-- MORE
theorem ty_at {S : Nat → Prop} {w : World} {v : Value} {L : List Int} (h : RowIn tyY S w v L) {j : Nat} (hj : j < L.length) : ∃ b off c, v = .slice (some ⟨b, off, none⟩) L.length c ∧ b < w.heap.size ∧ w.cell? ⟨b, off + j, none⟩ = some (.int .i64 L[j]) := by
  obtain ⟨p, c, rfl, -, -, h⟩ := h
  rcases h with h | ⟨b, off, rfl, -, hb, h⟩
  · subst h; simp at hj
  · obtain ⟨us, hu, hc⟩ := h j hj
    have hu : us = [.int .i64 L[j]] := hu
    subst hu
    exact ⟨b, off, c, rfl, hb, by have := hc 0 _ rfl; simpa [tyY] using this⟩
theorem pa_at {S : Nat → Prop} {w : World} {v : Value} {L : List (List UInt8 × Int)} (h : RowIn paY S w v L) {j : Nat} (hj : j < L.length) : ∃ b off c, v = .slice (some ⟨b, off, none⟩) L.length c ∧ b < w.heap.size ∧ w.cell? ⟨b, off + j * 2, none⟩ = some (.string ⟨L[j].1.toArray⟩) ∧ w.cell? ⟨b, off + j * 2 + 1, none⟩ = some (.int .i64 L[j].2) := by
  obtain ⟨p, c, rfl, -, -, h⟩ := h
  rcases h with h | ⟨b, off, rfl, -, hb, h⟩
  · subst h; simp at hj
  · obtain ⟨us, hu, hc⟩ := h j hj
    have hu : us = [.string ⟨L[j].1.toArray⟩, .int .i64 L[j].2] := hu
    subst hu
    exact ⟨b, off, c, rfl, hb, hc 0 _ rfl, hc 1 _ rfl⟩
theorem len_le {α : Type} {Y : Lay α} {S : Nat → Prop} {w : World} {v : Value} {L : List α} (h : RowIn Y S w v L) : L.length ≤ 9223372036854775807 := by
  obtain ⟨p, c, -, l1, l2, -⟩ := h
  exact Nat.le_trans l1 l2
set_option maxRecDepth 100000 in
set_option maxHeartbeats 4000000 in
theorem rsamedecl_yes {S S' : Nat → Prop} {w : World} {u u' : Value} {a : DeL} (h1 : RowIn tyY S w u a.types) (h2 : RowIn tyY S' w u' a.types) :
    Calls Tryz.prog 28 #[.agg #[.string ⟨a.name.toArray⟩, .bool a.base, u], .agg #[.string ⟨a.name.toArray⟩, .bool a.base, u']] w fun e w' => e = .returned (.bool true) ∧ Below w.heap.size w w' := by
  have H1 := Lib.hid h1
  have H2 := Lib.hid h2
  have mixed : Tryz.prog.follows .mixedOrders = true := by kernel_rfl
  obtain ⟨p, c, rfl⟩ := h1.shape
  obtain ⟨p', c', rfl⟩ := h2.shape
  have hn2 := len_le h1
  obtain ⟨n, hn⟩ : ∃ n, n = a.types.length := ⟨_, rfl⟩
  have HN := Lib.hid hn
  have hs : ((⟨a.name.toArray⟩ : ByteArray).toList == (⟨a.name.toArray⟩ : ByteArray).toList) = true := by simp
  rw [← hn] at H1 H2 hn2 ⊢
  have hn3 : (n : Int) ≤ 9223372036854775807 := by omega
  generalize a.name = nm at hs ⊢
  generalize a.base = bs
  clear h1 h2 hn hn2
  go_enter Tryz.func28, Tryz.ntmps28
  go_wp2_with fail
  go_loopw [5] (fun i wr => ∃ k : Nat, k ≤ n ∧ i = .int .i64 k ∧ Hid (Below w.heap.size w wr ∧ wr.heap[w.heap.size]? = some (.cells #[.string ⟨nm.toArray⟩, .bool bs, .slice p n c] 67 (0, 0)) ∧ wr.heap[w.heap.size + 1]? = some (.cells #[.string ⟨nm.toArray⟩, .bool bs, .slice p' n c'] 67 (0, 0)))) (fun i _ => n - (intOf i).toNat)
  case atStart => exact ⟨0, Nat.zero_le _, rfl, Lib.hid ⟨((Below.refl _ w).alloc (Nat.le_refl _) _).alloc (by simp) _, (two_newA w _ _).1, (two_newA w _ _).2⟩⟩
  case round =>
    obtain ⟨k, hk, rfl, HJ⟩ := hrel
    have h0 : (0 : Int) ≤ (k : Int) := by omega
    obtain ⟨hb, hr, hr'⟩ := HJ.out
    have g1 : wr.cell? ⟨w.heap.size, 2, none⟩ = some (.slice p n c) := cell_of_row wr _ 2 _ _ (0, 0) hr
    have g2 : wr.cell? ⟨w.heap.size + 1, 2, none⟩ = some (.slice p' n c') := cell_of_row wr _ 2 _ _ (0, 0) hr'
    by_cases hlt : k < n
    · have hlt' : (k : Int) < (n : Int) := by omega
      have hkn : k < a.types.length := by rw [← HN.out]; exact hlt
      obtain ⟨b, off, c1, e1, hb1, a0⟩ := ty_at (H1.out.in_below hb) hkn
      obtain ⟨b', off', c2, e2, hb2, d0⟩ := ty_at (H2.out.in_below hb) hkn
      injection e1 with e1 _ _
      injection e2 with e2 _ _
      subst e1
      subst e2
      generalize a.types[k] = X at a0 d0
      clear hb hr hr'
      go_wp2_with fail
      go_quiet (fail)
      go_wp2_with fail
      go_roundw
      case rel => exact ⟨k + 1, hlt, by simp, Lib.hid (by obtain ⟨hb, hr, hr'⟩ := HJ.out; exact ⟨⟨hb.os, hb.tape, hb.output, hb.size, hb.block⟩, hr, hr'⟩)⟩
      case measure => simp [intOf]; omega
    · obtain rfl : k = n := by omega
      have hlt' : ¬ ((k : Nat) : Int) < (k : Int) := by omega
      clear hr hr'
      go_wp2_with fail
      go_ret
      exact ⟨rfl, hb⟩
end
section
open Go Go.RowKit Go.Shelf

theorem ac_at {S : Nat → Prop} {w : World} {v : Value} {L : List ActL} (h : RowIn acY S w v L) {j : Nat} (hj : j < L.length) : ∃ b off c u, v = .slice (some ⟨b, off, none⟩) L.length c ∧ w.cell? ⟨b, off + j * 3, none⟩ = some (.bool L[j].plus) ∧ w.cell? ⟨b, off + j * 3 + 1, none⟩ = some (.string ⟨L[j].atom.pred.toArray⟩) ∧ w.cell? ⟨b, off + j * 3 + 2, none⟩ = some u ∧ RowIn tmY S w u L[j].atom.args := by
  obtain ⟨p, c, rfl, -, -, h⟩ := h
  rcases h with h | ⟨b, off, rfl, -, hb, h⟩
  · subst h; simp at hj
  · obtain ⟨us, ⟨u, rfl, hu⟩, hc⟩ := h j hj
    exact ⟨b, off, c, u, rfl, hc 0 _ rfl, hc 1 _ rfl, hc 2 _ rfl, hu⟩
theorem li_at {S : Nat → Prop} {w : World} {v : Value} {L : List LiL} (h : RowIn liY S w v L) {j : Nat} (hj : j < L.length) : ∃ b off c u, v = .slice (some ⟨b, off, none⟩) L.length c ∧ b < w.heap.size ∧ RowIn tmY S w u L[j].atom.args ∧ w.cell? ⟨b, off + j * 14, none⟩ = some (.int .i64 L[j].kind) ∧ w.cell? ⟨b, off + j * 14 + 1, none⟩ = some (.string ⟨L[j].atom.pred.toArray⟩) ∧ w.cell? ⟨b, off + j * 14 + 2, none⟩ = some (u) ∧ w.cell? ⟨b, off + j * 14 + 3, none⟩ = some (.int .i64 L[j].op) ∧ w.cell? ⟨b, off + j * 14 + 4, none⟩ = some (.int .i64 L[j].a.kind) ∧ w.cell? ⟨b, off + j * 14 + 5, none⟩ = some (.string ⟨L[j].a.name.toArray⟩) ∧ w.cell? ⟨b, off + j * 14 + 6, none⟩ = some (.int .i64 L[j].a.val.1) ∧ w.cell? ⟨b, off + j * 14 + 7, none⟩ = some (.int .i64 L[j].a.val.2.1) ∧ w.cell? ⟨b, off + j * 14 + 8, none⟩ = some (.string L[j].a.val.2.2) ∧ w.cell? ⟨b, off + j * 14 + 9, none⟩ = some (.int .i64 L[j].b.kind) ∧ w.cell? ⟨b, off + j * 14 + 10, none⟩ = some (.string ⟨L[j].b.name.toArray⟩) ∧ w.cell? ⟨b, off + j * 14 + 11, none⟩ = some (.int .i64 L[j].b.val.1) ∧ w.cell? ⟨b, off + j * 14 + 12, none⟩ = some (.int .i64 L[j].b.val.2.1) ∧ w.cell? ⟨b, off + j * 14 + 13, none⟩ = some (.string L[j].b.val.2.2) := by
  obtain ⟨p, c, rfl, -, -, h⟩ := h
  rcases h with h | ⟨b, off, rfl, -, hb, h⟩
  · subst h; simp at hj
  · obtain ⟨us, ⟨u, rfl, hu⟩, hc⟩ := h j hj
    exact ⟨b, off, c, u, rfl, hb, hu, hc 0 _ rfl, hc 1 _ rfl, hc 2 _ rfl, hc 3 _ rfl, hc 4 _ rfl, hc 5 _ rfl, hc 6 _ rfl, hc 7 _ rfl, hc 8 _ rfl, hc 9 _ rfl, hc 10 _ rfl, hc 11 _ rfl, hc 12 _ rfl, hc 13 _ rfl⟩
set_option maxRecDepth 100000 in
set_option maxHeartbeats 4000000 in
theorem rsameon_yes {S S' : Nat → Prop} {w : World} {u u' x x' : Value} {a : OnL} (h1 : RowIn paY S w u a.params) (h2 : RowIn paY S' w u' a.params) (i1 : RowIn acY S w x a.acts) (i2 : RowIn acY S' w x' a.acts) :
    Calls Tryz.prog 29 #[.agg #[.string ⟨a.event.toArray⟩, u, x], .agg #[.string ⟨a.event.toArray⟩, u', x']] w fun e w' => e = .returned (.bool true) ∧ Below w.heap.size w w' := by
  have H1 := Lib.hid h1
  have H2 := Lib.hid h2
  have I1 := Lib.hid i1
  have I2 := Lib.hid i2
  have mixed : Tryz.prog.follows .mixedOrders = true := by kernel_rfl
  obtain ⟨p, c, rfl⟩ := h1.shape
  obtain ⟨p', c', rfl⟩ := h2.shape
  obtain ⟨q, d, rfl⟩ := i1.shape
  obtain ⟨q', d', rfl⟩ := i2.shape
  have hn2 := len_le h1
  have hm2 := len_le i1
  obtain ⟨n, hn⟩ : ∃ n, n = a.params.length := ⟨_, rfl⟩
  obtain ⟨m, hm⟩ : ∃ m, m = a.acts.length := ⟨_, rfl⟩
  have HN := Lib.hid hn
  have HM := Lib.hid hm
  have hs : ((⟨a.event.toArray⟩ : ByteArray).toList == (⟨a.event.toArray⟩ : ByteArray).toList) = true := by simp
  rw [← hn] at H1 H2 hn2 ⊢
  rw [← hm] at I1 I2 hm2 ⊢
  have hn3 : (n : Int) ≤ 9223372036854775807 := by omega
  have hm3 : (m : Int) ≤ 9223372036854775807 := by omega
  generalize a.event = nm at hs ⊢
  clear h1 h2 i1 i2 hn hn2 hm hm2
  go_enter Tryz.func29, Tryz.ntmps29
  go_wp2_with fail
  go_loopw [5] (fun i wr => ∃ k : Nat, k ≤ n ∧ i = .int .i64 k ∧ Hid (Below w.heap.size w wr ∧ wr.heap[w.heap.size]? = some (.cells #[.string ⟨nm.toArray⟩, .slice p n c, .slice q m d] 72 (0, 0)) ∧ wr.heap[w.heap.size + 1]? = some (.cells #[.string ⟨nm.toArray⟩, .slice p' n c', .slice q' m d'] 72 (0, 0)))) (fun i _ => n - (intOf i).toNat)
  case atStart => exact ⟨0, Nat.zero_le _, rfl, Lib.hid ⟨((Below.refl _ w).alloc (Nat.le_refl _) _).alloc (by simp) _, (two_newA w _ _).1, (two_newA w _ _).2⟩⟩
  case round =>
    obtain ⟨k, hk, rfl, HJ⟩ := hrel
    have h0 : (0 : Int) ≤ (k : Int) := by omega
    obtain ⟨hb, hr, hr'⟩ := HJ.out
    have g1 : wr.cell? ⟨w.heap.size, 1, none⟩ = some (.slice p n c) := cell_of_row wr _ 1 _ _ (0, 0) hr
    have g2 : wr.cell? ⟨w.heap.size + 1, 1, none⟩ = some (.slice p' n c') := cell_of_row wr _ 1 _ _ (0, 0) hr'
    by_cases hlt : k < n
    · have hlt' : (k : Int) < (n : Int) := by omega
      have hkn : k < a.params.length := by rw [← HN.out]; exact hlt
      obtain ⟨b, off, c1, e1, hb1, a0, a1⟩ := pa_at (H1.out.in_below hb) hkn
      obtain ⟨b', off', c2, e2, hb2, d0, d1⟩ := pa_at (H2.out.in_below hb) hkn
      injection e1 with e1 h2' h3'
      injection e2 with e2 h4' h5'
      subst e1
      subst e2
      clear h2' h3' h4' h5'
      generalize a.params[k] = X at a0 a1 d0 d1
      obtain ⟨X1, X2⟩ := X
      simp only at a0 a1 d0 d1
      clear hb hr hr'
      go_wp2_with fail
      go_quiet (fail)
      go_wp2_with fail
      go_roundw
      case rel => exact ⟨k + 1, hlt, by simp, Lib.hid (by obtain ⟨hb, hr, hr'⟩ := HJ.out; exact ⟨⟨hb.os, hb.tape, hb.output, hb.size, hb.block⟩, hr, hr'⟩)⟩
      case measure => simp [intOf]; omega
    · obtain rfl : n = k := by omega
      have hlt' : ¬ ((n : Nat) : Int) < (n : Int) := by omega
      clear hr hr' hb
      go_wp2_with fail
      clear g1 g2
      go_loopw [6] (fun i wr => ∃ k : Nat, k ≤ m ∧ i = .int .i64 k ∧ Hid (Below w.heap.size w wr ∧ wr.heap[w.heap.size]? = some (.cells #[.string ⟨nm.toArray⟩, .slice p n c, .slice q m d] 72 (0, 0)) ∧ wr.heap[w.heap.size + 1]? = some (.cells #[.string ⟨nm.toArray⟩, .slice p' n c', .slice q' m d'] 72 (0, 0)))) (fun i _ => m - (intOf i).toNat)
      case atStart => exact ⟨0, Nat.zero_le _, rfl, HJ⟩
      case round =>
        clear HJ hlt hlt' hk h0
        obtain ⟨k, hk, rfl, HJ⟩ := hrel
        have h0 : (0 : Int) ≤ (k : Int) := by omega
        obtain ⟨hb, hr, hr'⟩ := HJ.out
        have HB := Lib.hid hb
        have g1 : wr.cell? ⟨w.heap.size, 2, none⟩ = some (.slice q m d) := cell_of_row wr _ 2 _ _ (0, 0) hr
        have g2 : wr.cell? ⟨w.heap.size + 1, 2, none⟩ = some (.slice q' m d') := cell_of_row wr _ 2 _ _ (0, 0) hr'
        by_cases hlt : k < m
        · have hlt' : (k : Int) < (m : Int) := by omega
          have hkn : k < a.acts.length := by rw [← HM.out]; exact hlt
          obtain ⟨b, off, c1, u, e1, a0, a1, a2, hu⟩ := ac_at (I1.out.in_below hb) hkn
          obtain ⟨b', off', c2, u', e2, d0, d1, d2, hu'⟩ := ac_at (I2.out.in_below hb) hkn
          injection e1 with e1 h2' h3'
          injection e2 with e2 h4' h5'
          subst e1
          subst e2
          clear h2' h3' h4' h5'
          generalize a.acts[k] = X at a0 a1 a2 d0 d1 d2 hu hu'
          obtain ⟨pl, at_⟩ := X
          simp only at a0 a1 a2 d0 d1 d2 hu hu'
          have HU := Lib.hid (And.intro hu hu')
          obtain ⟨pu, cu, rfl⟩ := hu.shape
          obtain ⟨pu', cu', rfl⟩ := hu'.shape
          have hp : (!(pl == pl)) = false := by simp
          have hp2 : (pl != pl) = false := by simp
          clear hb hr hr' hu hu'
          go_wp2_with fail
          refine region_tail 26 mixed (by kernel_rfl) ?_
          simp only [List.take_succ_cons, List.take_zero, List.drop_succ_cons, List.drop_zero]
          iterate 26 still_step
          refine wpStill_nil ?_
          go_wp2_with fail
          refine (rsameatom_yes (w := wr.drew) (a := at_) (HU.out.1.in_below ⟨rfl, rfl, rfl, Nat.le_refl _, fun _ _ => rfl⟩) (HU.out.2.in_below ⟨rfl, rfl, rfl, Nat.le_refl _, fun _ _ => rfl⟩)).mono ?_
          rintro e w3 ⟨rfl, hb3⟩
          have HB3 : Hid (Below wr.heap.size wr w3) := Lib.hid ⟨hb3.os, hb3.tape, hb3.output, hb3.size, hb3.block⟩
          clear hb3
          go_wp2_with fail
          go_roundw
          case rel =>
            obtain ⟨hb, hr, hr'⟩ := HJ.out
            exact ⟨k + 1, hlt, by simp, Lib.hid ⟨hb.trans (HB3.out.mono hb.size), (HB3.out.block _ (Array.getElem?_eq_some_iff.1 hr).1).trans hr, (HB3.out.block _ (Array.getElem?_eq_some_iff.1 hr').1).trans hr'⟩⟩
          case measure => simp [intOf]; omega
        · obtain rfl : m = k := by omega
          have hlt' : ¬ ((m : Nat) : Int) < (m : Int) := by omega
          clear hr hr'
          go_wp2_with fail
          go_ret
          exact ⟨rfl, hb⟩
end
section
open Go Go.RowKit Go.Shelf

set_option maxRecDepth 100000 in
set_option maxHeartbeats 8000000 in
theorem rsamerule_yes {S S' : Nat → Prop} {w : World} {u u' x x' : Value} {a : RuL} (h1 : RowIn tmY S w u a.head.args) (h2 : RowIn tmY S' w u' a.head.args) (i1 : RowIn liY S w x a.body) (i2 : RowIn liY S' w x' a.body) :
    Calls Tryz.prog 15 #[.agg #[.string ⟨a.head.pred.toArray⟩, u, x], .agg #[.string ⟨a.head.pred.toArray⟩, u', x']] w fun e w' => e = .returned (.bool true) ∧ Below w.heap.size w w' := by
  have H1 := Lib.hid h1
  have H2 := Lib.hid h2
  have I1 := Lib.hid i1
  have I2 := Lib.hid i2
  have mixed : Tryz.prog.follows .mixedOrders = true := by kernel_rfl
  obtain ⟨p, n1, c, rfl⟩ : ∃ p n c, u = .slice p n c := (by obtain ⟨p, c, e⟩ := h1.shape; exact ⟨p, _, c, e⟩)
  obtain ⟨p', n2, c', rfl⟩ : ∃ p n c, u' = .slice p n c := (by obtain ⟨p, c, e⟩ := h2.shape; exact ⟨p, _, c, e⟩)
  obtain ⟨q, d, rfl⟩ := i1.shape
  obtain ⟨q', d', rfl⟩ := i2.shape
  have hm2 := len_le i1
  obtain ⟨m, hm⟩ : ∃ m, m = a.body.length := ⟨_, rfl⟩
  have HM := Lib.hid hm
  rw [← hm] at I1 I2 hm2 ⊢
  have hm3 : (m : Int) ≤ 9223372036854775807 := by omega
  have HO : Hid (∀ W, Below w.heap.size w W → Calls Tryz.prog 16 #[.agg #[.string ⟨a.head.pred.toArray⟩, .slice p n1 c], .agg #[.string ⟨a.head.pred.toArray⟩, .slice p' n2 c']] W fun e w' => e = .returned (.bool true) ∧ Below W.heap.size W w') := Lib.hid (fun W hb => rsameatom_yes (a := a.head) (H1.out.in_below hb) (H2.out.in_below hb))
  generalize a.head.pred = nm at HO ⊢
  clear h1 h2 i1 i2 hm hm2 H1 H2
  go_enter Tryz.func15, Tryz.ntmps15
  go_wp2_with fail
  refine (HO.out _ (((Below.refl _ w).alloc (Nat.le_refl _) _).alloc (by simp) _)).mono ?_
  rintro e w1 ⟨rfl, hb1⟩
  have k0 := (hb1.block w.heap.size (by simp; omega)).trans (two_newA w (.cells #[.string ⟨nm.toArray⟩, .slice p n1 c, .slice q m d] 41) (.cells #[.string ⟨nm.toArray⟩, .slice p' n2 c', .slice q' m d'] 41)).1
  have k1 := (hb1.block (w.heap.size + 1) (by simp)).trans (two_newA w (.cells #[.string ⟨nm.toArray⟩, .slice p n1 c, .slice q m d] 41) (.cells #[.string ⟨nm.toArray⟩, .slice p' n2 c', .slice q' m d'] 41)).2
  have HJ0 : Hid (Below w.heap.size w w1 ∧ w1.heap[w.heap.size]? = some (.cells #[.string ⟨nm.toArray⟩, .slice p n1 c, .slice q m d] 41 (0, 0)) ∧ w1.heap[w.heap.size + 1]? = some (.cells #[.string ⟨nm.toArray⟩, .slice p' n2 c', .slice q' m d'] 41 (0, 0))) := Lib.hid ⟨(((Below.refl _ w).alloc (Nat.le_refl _) _).alloc (by simp) _).trans (hb1.mono (by simp; omega)), k0, k1⟩
  have y0 : w1.cell? ⟨w.heap.size, 2, none⟩ = some (.slice q m d) := cell_of_row w1 _ 2 _ _ (0, 0) k0
  have y1 : w1.cell? ⟨w.heap.size + 1, 2, none⟩ = some (.slice q' m d') := cell_of_row w1 _ 2 _ _ (0, 0) k1
  clear hb1 k0 k1
  go_wp2_with fail
  clear y0 y1
  go_loopw [5] (fun i wr => ∃ k : Nat, k ≤ m ∧ i = .int .i64 k ∧ Hid (Below w.heap.size w wr ∧ wr.heap[w.heap.size]? = some (.cells #[.string ⟨nm.toArray⟩, .slice p n1 c, .slice q m d] 41 (0, 0)) ∧ wr.heap[w.heap.size + 1]? = some (.cells #[.string ⟨nm.toArray⟩, .slice p' n2 c', .slice q' m d'] 41 (0, 0)))) (fun i _ => m - (intOf i).toNat)
  case atStart => exact ⟨0, Nat.zero_le _, rfl, HJ0⟩
  case round =>
    clear HJ0
    obtain ⟨k, hk, rfl, HJ⟩ := hrel
    have h0 : (0 : Int) ≤ (k : Int) := by omega
    obtain ⟨hb, hr, hr'⟩ := HJ.out
    have g1 : wr.cell? ⟨w.heap.size, 2, none⟩ = some (.slice q m d) := cell_of_row wr _ 2 _ _ (0, 0) hr
    have g2 : wr.cell? ⟨w.heap.size + 1, 2, none⟩ = some (.slice q' m d') := cell_of_row wr _ 2 _ _ (0, 0) hr'
    by_cases hlt : k < m
    · have hlt' : (k : Int) < (m : Int) := by omega
      have hkn : k < a.body.length := by rw [← HM.out]; exact hlt
      obtain ⟨b, off, c1, u, e1, hbb, hu, a0, a1, a2, a3, a4, a5, a6, a7, a8, a9, a10, a11, a12, a13⟩ := li_at (I1.out.in_below hb) hkn
      obtain ⟨b', off', c2, u', e2, hbb', hu', d0, d1, d2, d3, d4, d5, d6, d7, d8, d9, d10, d11, d12, d13⟩ := li_at (I2.out.in_below hb) hkn
      injection e1 with e1 h2' h3'
      injection e2 with e2 h4' h5'
      subst e1
      subst e2
      clear h2' h3' h4' h5'
      generalize a.body[k] = X at hu hu' a0 a1 a2 a3 a4 a5 a6 a7 a8 a9 a10 a11 a12 a13 d0 d1 d2 d3 d4 d5 d6 d7 d8 d9 d10 d11 d12 d13
      obtain ⟨K, at_, o_, ⟨k1, s1, ⟨v1, v2, v3⟩⟩, ⟨k2, s2, ⟨z1, z2, z3⟩⟩⟩ := X
      simp only at hu hu' a0 a1 a2 a3 a4 a5 a6 a7 a8 a9 a10 a11 a12 a13 d0 d1 d2 d3 d4 d5 d6 d7 d8 d9 d10 d11 d12 d13
      have HU : Hid (∀ W, Below wr.heap.size wr W → Calls Tryz.prog 16 #[.agg #[.string ⟨at_.pred.toArray⟩, u], .agg #[.string ⟨at_.pred.toArray⟩, u']] W fun e w' => e = .returned (.bool true) ∧ Below W.heap.size W w') := Lib.hid (fun W hb => rsameatom_yes (a := at_) (hu.in_below hb) (hu'.in_below hb))
      obtain ⟨pu, nu, cu, rfl⟩ : ∃ p n c, u = .slice p n c := (by obtain ⟨p, c, e⟩ := hu.shape; exact ⟨p, _, c, e⟩)
      obtain ⟨pu', nu', cu', rfl⟩ : ∃ p n c, u' = .slice p n c := (by obtain ⟨p, c, e⟩ := hu'.shape; exact ⟨p, _, c, e⟩)
      have hz1 : w.heap.size + 1 < wr.heap.size := (Array.getElem?_eq_some_iff.1 hr').1
      have hz0 : w.heap.size < wr.heap.size := (Array.getElem?_eq_some_iff.1 hr).1
      clear hb hr hr' hu hu'
      go_wp2_with fail
      go_region
      all_goals
        go_wp2_with fail
        refine (HU.out _ (((Below.refl _ wr).alloc (Nat.le_refl _) _).alloc (by simp) _).drew).mono ?_
        rintro e w3 ⟨rfl, hb3⟩
        have HB3 : Hid (Below wr.heap.size wr w3) := Lib.hid ((((Below.refl _ wr).alloc (Nat.le_refl _) _).alloc (by simp) _).drew.trans (hb3.mono (by simp; omega)))
        clear hb3
        go_wp2_with fail
        go_roundw
      case rel =>
        obtain ⟨hb, hr, hr'⟩ := HJ.out
        exact ⟨k + 1, hlt, by simp, Lib.hid ⟨hb.trans (HB3.out.mono hb.size), (HB3.out.block _ (Array.getElem?_eq_some_iff.1 hr).1).trans hr, (HB3.out.block _ (Array.getElem?_eq_some_iff.1 hr').1).trans hr'⟩⟩
      case measure => simp [intOf]; omega
      case rel =>
        obtain ⟨hb, hr, hr'⟩ := HJ.out
        exact ⟨k + 1, hlt, by simp, Lib.hid ⟨hb.trans (HB3.out.mono hb.size), (HB3.out.block _ (Array.getElem?_eq_some_iff.1 hr).1).trans hr, (HB3.out.block _ (Array.getElem?_eq_some_iff.1 hr').1).trans hr'⟩⟩
      case measure => simp [intOf]; omega
    · obtain rfl : m = k := by omega
      have hlt' : ¬ ((m : Nat) : Int) < (m : Int) := by omega
      clear hr hr'
      go_wp2_with fail
      go_ret
      exact ⟨rfl, hb⟩
end
section
open Go Go.RowKit Go.Shelf

theorem de_at {S : Nat → Prop} {w : World} {v : Value} {L : List DeL} (h : RowIn deY S w v L) {j : Nat} (hj : j < L.length) : ∃ b off c u, v = .slice (some ⟨b, off, none⟩) L.length c ∧ w.cell? ⟨b, off + j * 3, none⟩ = some (.string ⟨L[j].name.toArray⟩) ∧ w.cell? ⟨b, off + j * 3 + 1, none⟩ = some (.bool L[j].base) ∧ w.cell? ⟨b, off + j * 3 + 2, none⟩ = some u ∧ RowIn tyY S w u L[j].types := by
  obtain ⟨p, c, rfl, -, -, h⟩ := h
  rcases h with h | ⟨b, off, rfl, -, hb, h⟩
  · subst h; simp at hj
  · obtain ⟨us, ⟨u, rfl, hu⟩, hc⟩ := h j hj
    exact ⟨b, off, c, u, rfl, hc 0 _ rfl, hc 1 _ rfl, hc 2 _ rfl, hu⟩
theorem on_at {S : Nat → Prop} {w : World} {v : Value} {L : List OnL} (h : RowIn onY S w v L) {j : Nat} (hj : j < L.length) : ∃ b off c u x, v = .slice (some ⟨b, off, none⟩) L.length c ∧ w.cell? ⟨b, off + j * 3, none⟩ = some (.string ⟨L[j].event.toArray⟩) ∧ w.cell? ⟨b, off + j * 3 + 1, none⟩ = some u ∧ w.cell? ⟨b, off + j * 3 + 2, none⟩ = some x ∧ RowIn paY S w u L[j].params ∧ RowIn acY S w x L[j].acts := by
  obtain ⟨p, c, rfl, -, -, h⟩ := h
  rcases h with h | ⟨b, off, rfl, -, hb, h⟩
  · subst h; simp at hj
  · obtain ⟨us, ⟨u, x, rfl, hu, hx⟩, hc⟩ := h j hj
    exact ⟨b, off, c, u, x, rfl, hc 0 _ rfl, hc 1 _ rfl, hc 2 _ rfl, hu, hx⟩
theorem ru_at {S : Nat → Prop} {w : World} {v : Value} {L : List RuL} (h : RowIn ruY S w v L) {j : Nat} (hj : j < L.length) : ∃ b off c u x, v = .slice (some ⟨b, off, none⟩) L.length c ∧ w.cell? ⟨b, off + j * 3, none⟩ = some (.string ⟨L[j].head.pred.toArray⟩) ∧ w.cell? ⟨b, off + j * 3 + 1, none⟩ = some u ∧ w.cell? ⟨b, off + j * 3 + 2, none⟩ = some x ∧ RowIn tmY S w u L[j].head.args ∧ RowIn liY S w x L[j].body := by
  obtain ⟨p, c, rfl, -, -, h⟩ := h
  rcases h with h | ⟨b, off, rfl, -, hb, h⟩
  · subst h; simp at hj
  · obtain ⟨us, ⟨u, x, rfl, hu, hx⟩, hc⟩ := h j hj
    exact ⟨b, off, c, u, x, rfl, hc 0 _ rfl, hc 1 _ rfl, hc 2 _ rfl, hu, hx⟩
theorem below_drew (W : World) : Below W.heap.size W W.drew := ⟨rfl, rfl, rfl, Nat.le_refl _, fun _ _ => rfl⟩
set_option maxRecDepth 100000 in
set_option maxHeartbeats 8000000 in
theorem rsame_yes {S S' : Nat → Prop} {w : World} {u u' x x' y y' : Value} {a : PrL} (h1 : RowIn deY S w u a.decls) (h2 : RowIn deY S' w u' a.decls) (i1 : RowIn onY S w x a.ons) (i2 : RowIn onY S' w x' a.ons) (j1 : RowIn ruY S w y a.rules) (j2 : RowIn ruY S' w y' a.rules) :
    Calls Tryz.prog 9 #[.agg #[u, x, y], .agg #[u', x', y']] w fun e w' => e = .returned (.bool true) ∧ Below w.heap.size w w' := by
  have H1 := Lib.hid (And.intro h1 h2)
  have H2 := Lib.hid (And.intro i1 i2)
  have H3 := Lib.hid (And.intro j1 j2)
  have mixed : Tryz.prog.follows .mixedOrders = true := by kernel_rfl
  obtain ⟨p1, c1, rfl⟩ := h1.shape
  obtain ⟨p1', c1', rfl⟩ := h2.shape
  obtain ⟨p2, c2, rfl⟩ := i1.shape
  obtain ⟨p2', c2', rfl⟩ := i2.shape
  obtain ⟨p3, c3, rfl⟩ := j1.shape
  obtain ⟨p3', c3', rfl⟩ := j2.shape
  have l1 := len_le h1
  have l2 := len_le i1
  have l3 := len_le j1
  obtain ⟨n1, hn1⟩ : ∃ n, n = a.decls.length := ⟨_, rfl⟩
  obtain ⟨n2, hn2⟩ : ∃ n, n = a.ons.length := ⟨_, rfl⟩
  obtain ⟨n3, hn3⟩ : ∃ n, n = a.rules.length := ⟨_, rfl⟩
  have HN1 := Lib.hid hn1
  have HN2 := Lib.hid hn2
  have HN3 := Lib.hid hn3
  rw [← hn1] at H1 l1 ⊢
  rw [← hn2] at H2 l2 ⊢
  rw [← hn3] at H3 l3 ⊢
  have m1 : (n1 : Int) ≤ 9223372036854775807 := by omega
  have m2 : (n2 : Int) ≤ 9223372036854775807 := by omega
  have m3 : (n3 : Int) ≤ 9223372036854775807 := by omega
  clear h1 h2 i1 i2 j1 j2 hn1 hn2 hn3 l1 l2 l3
  go_enter Tryz.func9, Tryz.ntmps9
  go_wp2_with fail
  go_loopw [5] (fun i wr => ∃ k : Nat, k ≤ n1 ∧ i = .int .i64 k ∧ Hid (Below w.heap.size w wr ∧ wr.heap[w.heap.size]? = some (.cells #[.slice p1 n1 c1, .slice p2 n2 c2, .slice p3 n3 c3] 27 (0, 0)) ∧ wr.heap[w.heap.size + 1]? = some (.cells #[.slice p1' n1 c1', .slice p2' n2 c2', .slice p3' n3 c3'] 27 (0, 0)))) (fun i _ => n1 - (intOf i).toNat)
  case atStart => exact ⟨0, Nat.zero_le _, rfl, Lib.hid ⟨((Below.refl _ w).alloc (Nat.le_refl _) _).alloc (by simp) _, (two_newA w _ _).1, (two_newA w _ _).2⟩⟩
  case round =>
    obtain ⟨k, hk, rfl, HJ⟩ := hrel
    have h0 : (0 : Int) ≤ (k : Int) := by omega
    obtain ⟨hb, hr, hr'⟩ := HJ.out
    have g1 : wr.cell? ⟨w.heap.size, 0, none⟩ = some (.slice p1 n1 c1) := cell_of_row wr _ 0 _ _ (0, 0) hr
    have g2 : wr.cell? ⟨w.heap.size + 1, 0, none⟩ = some (.slice p1' n1 c1') := cell_of_row wr _ 0 _ _ (0, 0) hr'
    by_cases hlt : k < n1
    · have hlt' : (k : Int) < (n1 : Int) := by omega
      have hkn : k < a.decls.length := by rw [← HN1.out]; exact hlt
      obtain ⟨b, off, cc, u, e1, a0, a1, a2, hu⟩ := de_at (H1.out.1.in_below hb) hkn
      obtain ⟨b', off', cc', u', e2, d0, d1, d2, hu'⟩ := de_at (H1.out.2.in_below hb) hkn
      injection e1 with e1 h2' h3'
      injection e2 with e2 h4' h5'
      subst e1
      subst e2
      clear h2' h3' h4' h5'
      generalize a.decls[k] = X at a0 a1 a2 d0 d1 d2 hu hu'
      have HU : Hid (∀ WW, Below wr.heap.size wr WW → Calls Tryz.prog 28 #[.agg #[.string ⟨X.name.toArray⟩, .bool X.base, u], .agg #[.string ⟨X.name.toArray⟩, .bool X.base, u']] WW fun e w' => e = .returned (.bool true) ∧ Below WW.heap.size WW w') := Lib.hid (fun WW hb => rsamedecl_yes (w := WW) (a := X) (hu.in_below hb) (hu'.in_below hb))
      obtain ⟨q0, n0q, k0q, rfl⟩ : ∃ q n k, u = .slice q n k := (by obtain ⟨q, k, e⟩ := hu.shape; exact ⟨_, _, _, e⟩)
      obtain ⟨q1, n1q, k1q, rfl⟩ : ∃ q n k, u' = .slice q n k := (by obtain ⟨q, k, e⟩ := hu'.shape; exact ⟨_, _, _, e⟩)
      clear hb hr hr' hu hu'
      go_wp2_with fail
      refine region_tail 10 mixed (by kernel_rfl) ?_
      simp only [List.take_succ_cons, List.take_zero, List.drop_succ_cons, List.drop_zero]
      iterate 10 still_step
      refine wpStill_nil ?_
      go_wp2_with fail
      refine (HU.out wr.drew (below_drew wr)).mono ?_
      rintro e w3 ⟨rfl, hb3⟩
      have HB3 : Hid (Below wr.heap.size wr w3) := Lib.hid ⟨hb3.os, hb3.tape, hb3.output, hb3.size, hb3.block⟩
      clear hb3
      go_wp2_with fail
      go_roundw
      case rel =>
        obtain ⟨hb, hr, hr'⟩ := HJ.out
        exact ⟨k + 1, hlt, by simp, Lib.hid ⟨hb.trans (HB3.out.mono hb.size), (HB3.out.block _ (Array.getElem?_eq_some_iff.1 hr).1).trans hr, (HB3.out.block _ (Array.getElem?_eq_some_iff.1 hr').1).trans hr'⟩⟩
      case measure => simp [intOf]; omega
    · obtain rfl : n1 = k := by omega
      have hlt' : ¬ ((n1 : Nat) : Int) < (n1 : Int) := by omega
      clear hr hr' hb
      go_wp2_with fail
      clear g1 g2
      go_loopw [6] (fun i wr => ∃ k : Nat, k ≤ n2 ∧ i = .int .i64 k ∧ Hid (Below w.heap.size w wr ∧ wr.heap[w.heap.size]? = some (.cells #[.slice p1 n1 c1, .slice p2 n2 c2, .slice p3 n3 c3] 27 (0, 0)) ∧ wr.heap[w.heap.size + 1]? = some (.cells #[.slice p1' n1 c1', .slice p2' n2 c2', .slice p3' n3 c3'] 27 (0, 0)))) (fun i _ => n2 - (intOf i).toNat)
      case atStart => exact ⟨0, Nat.zero_le _, rfl, HJ⟩
      case round =>
        clear HJ hlt hlt' hk h0
        obtain ⟨k, hk, rfl, HJ⟩ := hrel
        have h0 : (0 : Int) ≤ (k : Int) := by omega
        obtain ⟨hb, hr, hr'⟩ := HJ.out
        have g1 : wr.cell? ⟨w.heap.size, 1, none⟩ = some (.slice p2 n2 c2) := cell_of_row wr _ 1 _ _ (0, 0) hr
        have g2 : wr.cell? ⟨w.heap.size + 1, 1, none⟩ = some (.slice p2' n2 c2') := cell_of_row wr _ 1 _ _ (0, 0) hr'
        by_cases hlt : k < n2
        · have hlt' : (k : Int) < (n2 : Int) := by omega
          have hkn : k < a.ons.length := by rw [← HN2.out]; exact hlt
          obtain ⟨b, off, cc, u, x, e1, a0, a1, a2, hu, hx⟩ := on_at (H2.out.1.in_below hb) hkn
          obtain ⟨b', off', cc', u', x', e2, d0, d1, d2, hu', hx'⟩ := on_at (H2.out.2.in_below hb) hkn
          injection e1 with e1 h2' h3'
          injection e2 with e2 h4' h5'
          subst e1
          subst e2
          clear h2' h3' h4' h5'
          generalize a.ons[k] = X at a0 a1 a2 d0 d1 d2 hu hx hu' hx'
          have HU : Hid (∀ WW, Below wr.heap.size wr WW → Calls Tryz.prog 29 #[.agg #[.string ⟨X.event.toArray⟩, u, x], .agg #[.string ⟨X.event.toArray⟩, u', x']] WW fun e w' => e = .returned (.bool true) ∧ Below WW.heap.size WW w') := Lib.hid (fun WW hb => rsameon_yes (w := WW) (a := X) (hu.in_below hb) (hu'.in_below hb) (hx.in_below hb) (hx'.in_below hb))
          obtain ⟨q0, n0q, k0q, rfl⟩ : ∃ q n k, u = .slice q n k := (by obtain ⟨q, k, e⟩ := hu.shape; exact ⟨_, _, _, e⟩)
          obtain ⟨q1, n1q, k1q, rfl⟩ : ∃ q n k, u' = .slice q n k := (by obtain ⟨q, k, e⟩ := hu'.shape; exact ⟨_, _, _, e⟩)
          obtain ⟨q2, n2q, k2q, rfl⟩ : ∃ q n k, x = .slice q n k := (by obtain ⟨q, k, e⟩ := hx.shape; exact ⟨_, _, _, e⟩)
          obtain ⟨q3, n3q, k3q, rfl⟩ : ∃ q n k, x' = .slice q n k := (by obtain ⟨q, k, e⟩ := hx'.shape; exact ⟨_, _, _, e⟩)
          clear hb hr hr' hu hx hu' hx'
          go_wp2_with fail
          refine region_tail 10 mixed (by kernel_rfl) ?_
          simp only [List.take_succ_cons, List.take_zero, List.drop_succ_cons, List.drop_zero]
          iterate 10 still_step
          refine wpStill_nil ?_
          go_wp2_with fail
          refine (HU.out wr.drew (below_drew wr)).mono ?_
          rintro e w3 ⟨rfl, hb3⟩
          have HB3 : Hid (Below wr.heap.size wr w3) := Lib.hid ⟨hb3.os, hb3.tape, hb3.output, hb3.size, hb3.block⟩
          clear hb3
          go_wp2_with fail
          go_roundw
          case rel =>
            obtain ⟨hb, hr, hr'⟩ := HJ.out
            exact ⟨k + 1, hlt, by simp, Lib.hid ⟨hb.trans (HB3.out.mono hb.size), (HB3.out.block _ (Array.getElem?_eq_some_iff.1 hr).1).trans hr, (HB3.out.block _ (Array.getElem?_eq_some_iff.1 hr').1).trans hr'⟩⟩
          case measure => simp [intOf]; omega
        · obtain rfl : n2 = k := by omega
          have hlt' : ¬ ((n2 : Nat) : Int) < (n2 : Int) := by omega
          clear hr hr' hb
          go_wp2_with fail
          clear g1 g2
          go_loopw [7] (fun i wr => ∃ k : Nat, k ≤ n3 ∧ i = .int .i64 k ∧ Hid (Below w.heap.size w wr ∧ wr.heap[w.heap.size]? = some (.cells #[.slice p1 n1 c1, .slice p2 n2 c2, .slice p3 n3 c3] 27 (0, 0)) ∧ wr.heap[w.heap.size + 1]? = some (.cells #[.slice p1' n1 c1', .slice p2' n2 c2', .slice p3' n3 c3'] 27 (0, 0)))) (fun i _ => n3 - (intOf i).toNat)
          case atStart => exact ⟨0, Nat.zero_le _, rfl, HJ⟩
          case round =>
            clear HJ hlt hlt' hk h0
            obtain ⟨k, hk, rfl, HJ⟩ := hrel
            have h0 : (0 : Int) ≤ (k : Int) := by omega
            obtain ⟨hb, hr, hr'⟩ := HJ.out
            have g1 : wr.cell? ⟨w.heap.size, 2, none⟩ = some (.slice p3 n3 c3) := cell_of_row wr _ 2 _ _ (0, 0) hr
            have g2 : wr.cell? ⟨w.heap.size + 1, 2, none⟩ = some (.slice p3' n3 c3') := cell_of_row wr _ 2 _ _ (0, 0) hr'
            by_cases hlt : k < n3
            · have hlt' : (k : Int) < (n3 : Int) := by omega
              have hkn : k < a.rules.length := by rw [← HN3.out]; exact hlt
              obtain ⟨b, off, cc, u, x, e1, a0, a1, a2, hu, hx⟩ := ru_at (H3.out.1.in_below hb) hkn
              obtain ⟨b', off', cc', u', x', e2, d0, d1, d2, hu', hx'⟩ := ru_at (H3.out.2.in_below hb) hkn
              injection e1 with e1 h2' h3'
              injection e2 with e2 h4' h5'
              subst e1
              subst e2
              clear h2' h3' h4' h5'
              generalize a.rules[k] = X at a0 a1 a2 d0 d1 d2 hu hx hu' hx'
              have HU : Hid (∀ WW, Below wr.heap.size wr WW → Calls Tryz.prog 15 #[.agg #[.string ⟨X.head.pred.toArray⟩, u, x], .agg #[.string ⟨X.head.pred.toArray⟩, u', x']] WW fun e w' => e = .returned (.bool true) ∧ Below WW.heap.size WW w') := Lib.hid (fun WW hb => rsamerule_yes (w := WW) (a := X) (hu.in_below hb) (hu'.in_below hb) (hx.in_below hb) (hx'.in_below hb))
              obtain ⟨q0, n0q, k0q, rfl⟩ : ∃ q n k, u = .slice q n k := (by obtain ⟨q, k, e⟩ := hu.shape; exact ⟨_, _, _, e⟩)
              obtain ⟨q1, n1q, k1q, rfl⟩ : ∃ q n k, u' = .slice q n k := (by obtain ⟨q, k, e⟩ := hu'.shape; exact ⟨_, _, _, e⟩)
              obtain ⟨q2, n2q, k2q, rfl⟩ : ∃ q n k, x = .slice q n k := (by obtain ⟨q, k, e⟩ := hx.shape; exact ⟨_, _, _, e⟩)
              obtain ⟨q3, n3q, k3q, rfl⟩ : ∃ q n k, x' = .slice q n k := (by obtain ⟨q, k, e⟩ := hx'.shape; exact ⟨_, _, _, e⟩)
              clear hb hr hr' hu hx hu' hx'
              go_wp2_with fail
              refine region_tail 10 mixed (by kernel_rfl) ?_
              simp only [List.take_succ_cons, List.take_zero, List.drop_succ_cons, List.drop_zero]
              iterate 10 still_step
              refine wpStill_nil ?_
              go_wp2_with fail
              refine (HU.out wr.drew (below_drew wr)).mono ?_
              rintro e w3 ⟨rfl, hb3⟩
              have HB3 : Hid (Below wr.heap.size wr w3) := Lib.hid ⟨hb3.os, hb3.tape, hb3.output, hb3.size, hb3.block⟩
              clear hb3
              go_wp2_with fail
              go_roundw
              case rel =>
                obtain ⟨hb, hr, hr'⟩ := HJ.out
                exact ⟨k + 1, hlt, by simp, Lib.hid ⟨hb.trans (HB3.out.mono hb.size), (HB3.out.block _ (Array.getElem?_eq_some_iff.1 hr).1).trans hr, (HB3.out.block _ (Array.getElem?_eq_some_iff.1 hr').1).trans hr'⟩⟩
              case measure => simp [intOf]; omega
            · obtain rfl : n3 = k := by omega
              have hlt' : ¬ ((n3 : Nat) : Int) < (n3 : Int) := by omega
              clear hr hr'
              go_wp2_with fail
              go_ret
              exact ⟨rfl, hb⟩
end
end Go.Proofs.YtnbaemfkpfmheaaGreatDoor

/-
  Contracts of the document's Gaps, Same and SameAll, and of lex.Same.
-/
import Derived.Test.YtiokdlomfmkkoaaDoorLxX
import Derived.Laws.StructEq
import Derived.Deep.RegionHeld3
import Derived.BigQuiet
namespace Go.Proofs.YtiokdlomfmkkoaaDoor
open Go Go.RowKit

set_option maxHeartbeats 400000 in
theorem rgaps_any (s : ByteArray) (w : World) (hm : s.size ≤ 1000000) : Calls Tryd.prog 20 #[.string s] w fun e w' => e = .returned (.bool (decide (skC false s.data.toList = s.size))) ∧ w = w' := by
  obtain ⟨n, hn⟩ : ∃ n, n = skC false s.data.toList := ⟨_, rfl⟩
  have hk := rgap_any s 0 w hm (Nat.zero_le _)
  rw [List.drop_zero, ← hn, Nat.zero_add] at hk
  have HK := Lib.hid hk
  rw [← hn]
  have h2 : ((n : Int) == (s.size : Int)) = decide (n = s.size) := by
    by_cases h : n = s.size
    · rw [decide_eq_true h, beq_iff_eq]; omega
    · rw [decide_eq_false h, beq_eq_false_iff_ne]; omega
  clear hk hn
  cases hb : decide (n = s.size) with
  | true =>
    rw [hb] at h2
    clear hb
    go_enter Tryd.func20, Tryd.ntmps20
    go_wp2_with (go_at_call 23; refine HK.out.mono ?_; rintro e w1 ⟨rfl, rfl⟩)
    go_ret
    exact ⟨rfl, rfl⟩
  | false =>
    rw [hb] at h2
    clear hb
    go_enter Tryd.func20, Tryd.ntmps20
    go_wp2_with (go_at_call 23; refine HK.out.mono ?_; rintro e w1 ⟨rfl, rfl⟩)
    go_ret
    exact ⟨rfl, rfl⟩
theorem below_2 (w : World) (o o' : Obj) : Below w.heap.size w ((w.alloc o).alloc o') := ((Below.refl _ _).alloc (Nat.le_refl _) _).alloc (by simp) _
set_option maxHeartbeats 1000000 in
set_option maxRecDepth 100000 in
/-- The document's Same at tokens with one key. -/
theorem rsame_yes (x y : Wd) (h : x.key = y.key) (w : World) : Calls Tryd.prog 19 #[wordV x, wordV y] w fun e w' => e = .returned (.bool true) ∧ Below w.heap.size w w' := by
  obtain ⟨k, T, ⟨a, b, c⟩, p⟩ := x
  obtain ⟨k', T', ⟨a', b', c'⟩, p'⟩ := y
  simp only [Wd.key, Prod.mk.injEq] at h
  obtain ⟨rfl, rfl, rfl, rfl, rfl⟩ := h
  unfold wordV
  simp only
  go_enter Tryd.func19, Tryd.ntmps19
  go_wp2_with fail
  go_ret
  exact ⟨rfl, below_2 w _ _⟩
/-- What SameAll does at two rows of the same tokens. -/
theorem WIn.cells_at {S : Nat → Prop} {w : World} {p : Option Addr} {c : Nat} {L : List Wd} (h : WIn S w (.slice p L.length c) L) (k : Nat) (hk : k < L.length) :
    ∃ b off, p = some ⟨b, off, none⟩ ∧ L.length ≤ c ∧ c ≤ maxLen ∧ w.cell? ⟨b, off + k * 6, none⟩ = some (.int .i64 L[k].kind) ∧ w.cell? ⟨b, off + k * 6 + 1, none⟩ = some (.string ⟨L[k].text.toArray⟩) ∧ w.cell? ⟨b, off + k * 6 + 2, none⟩ = some (.int .i64 L[k].val.1) ∧
    w.cell? ⟨b, off + k * 6 + 3, none⟩ = some (.int .i64 L[k].val.2.1) ∧ w.cell? ⟨b, off + k * 6 + 4, none⟩ = some (.string L[k].val.2.2) ∧ w.cell? ⟨b, off + k * 6 + 5, none⟩ = some (.int .i64 L[k].pos) := by
  obtain ⟨b, off, c', e, h1, h2, h3, h4, h5⟩ := h.at_ (by omega)
  cases e
  exact ⟨b, off, rfl, h1, h2, h5 k hk⟩
set_option maxHeartbeats 2000000 in
set_option maxRecDepth 100000 in
theorem rsameall_yes (v v' : Value) (L : List Wd) (S S' : Nat → Prop) (w : World) (h : WIn S w v L) (h' : WIn S' w v' L) (hL : L.length ≤ 1000000) :
    Calls Tryd.prog 12 #[v, v'] w fun e w' => e = .returned (.bool true) ∧ Below w.heap.size w w' := by
  have HI := Lib.hid h
  have HI' := Lib.hid h'
  obtain ⟨p, c, rfl, hc1, hc2, -⟩ := h
  obtain ⟨p', c', rfl, hc1', hc2', -⟩ := h'
  have hL' : (L.length : Int) ≤ 1000000 := by omega
  go_enter Tryd.func12, Tryd.ntmps12
  go_wp2_with fail
  go_loopw [5] (fun i wr => ∃ k : Nat, k ≤ L.length ∧ i = .int .i64 k ∧ Hid (Below w.heap.size w wr) ∧ WIn S wr (.slice p L.length c) L ∧ WIn S' wr (.slice p' L.length c') L) (fun i _ => L.length - (intOf i).toNat)
  case atStart => exact ⟨0, Nat.zero_le _, rfl, Lib.hid (Below.refl _ _), HI.out, HI'.out⟩
  case round =>
    obtain ⟨k, hk, rfl, HB, hi, hi'⟩ := hrel
    by_cases hlt : k < L.length
    · have hlt' : (k : Int) < (L.length : Int) := by omega
      have HJ := Lib.hid hi
      have HJ' := Lib.hid hi'
      obtain ⟨b, off, rfl, h1, h2, a0, a1, a2, a3, a4, a5⟩ := hi.cells_at k hlt
      obtain ⟨b', off', rfl, h1', h2', d0, d1, d2, d3, d4, d5⟩ := hi'.cells_at k hlt
      obtain ⟨x, hx⟩ : ∃ x, x = L[k] := ⟨_, rfl⟩
      rw [← hx] at a0 a1 a2 a3 a4 a5 d0 d1 d2 d3 d4 d5
      clear hx hi hi'
      unfold maxLen at h2 h2'
      go_wp2_with fail
      go_quiet (fail)
      go_wp2_with fail
      go_roundw
      case rel => exact ⟨k + 1, by omega, by go_num, Lib.hid (by have h := HB.out; exact ⟨h.os, h.tape, h.output, h.size, h.block⟩), HJ.out, HJ'.out⟩
      case measure => simp [intOf]; omega
    · have hge : ¬ (k : Int) < (L.length : Int) := by omega
      go_wp2_with fail
      go_ret
      exact ⟨rfl, HB.out⟩
end Go.Proofs.YtiokdlomfmkkoaaDoor

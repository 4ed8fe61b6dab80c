/-
  The document's Compare at a tuple with itself, Same at entries with themselves.
-/
import Derived.Test.YtdjebcfpodfhhaaChB
import Derived.Shelf.SlSortCmp.QuietGrown
import Derived.BigQuiet
import Derived.IntWalk
namespace Go.Proofs.Ytdjebcfpodfhhaa
open Go Go.RowKit

set_option maxHeartbeats 400000 in
theorem rc_same (k n : Int) (s : ByteArray) (w : World) :
    Calls Try.prog 40 #[.agg #[.int .i64 k, .int .i64 n, .string s], .agg #[.int .i64 k, .int .i64 n, .string s]] w fun e w' => e = .returned (.int .i64 0) ∧ Grown w w' := by
  go_enter Try.func40, Try.ntmps40
  go_wp2
  go_ret
  exact ⟨rfl, ((Grown.refl _).alloc _).alloc _⟩
theorem TupS.some {S : Nat → Prop} {w : World} {v : Value} {T : List V3} (h : TupS S w v T) {k : Nat} (hk : k < T.length) : ∃ b off cap, v = .slice (some ⟨b, off, none⟩) T.length cap ∧ S b ∧ CellsAt w b off T := by
  obtain ⟨p, cap, rfl, -, h | ⟨b, off, rfl, hb, hc⟩⟩ := h
  · subst h
    simp at hk
  · exact ⟨b, off, cap, rfl, hb, hc⟩
set_option maxHeartbeats 2000000 in
set_option maxRecDepth 100000 in
theorem rcompare_same (v1 v2 : Value) (T : List V3) (w : World) (h1 : TupS (fun k => k < w.heap.size) w v1 T) (h2 : TupS (fun k => k < w.heap.size) w v2 T) :
    Calls Try.prog 36 #[v1, v2] w fun e w' => e = .returned (.int .i64 0) ∧ Grown w w' := by
  have H1 := Lib.hid h1
  have H2 := Lib.hid h2
  obtain ⟨p1, c1, rfl, l1, q1⟩ := h1
  obtain ⟨p2, c2, rfl, l2, q2⟩ := h2
  clear q1 q2 l2
  have mixed : Try.prog.follows .mixedOrders = true := by kernel_rfl
  go_enter Try.func36, Try.ntmps36
  go_wp2_with fail
  go_loopw [5] (fun i wr => ∃ k : Nat, k ≤ T.length ∧ i = .int .i64 k ∧ Hid (Grown w wr)) (fun i _ => T.length - (intOf i).toNat)
  case atStart => exact ⟨0, Nat.zero_le _, rfl, Lib.hid (Grown.refl _)⟩
  case round =>
    obtain ⟨k, hk, rfl, hg⟩ := hrel
    have h0 : (0 : Int) ≤ (k : Int) := by omega
    by_cases hlt : k < T.length
    · have hlt' : (k : Int) < (T.length : Int) := by omega
      obtain ⟨b1, o1, cc1, hv1, hb1, hc1⟩ := H1.out.some hlt
      obtain ⟨b2, o2, cc2, hv2, hb2, hc2⟩ := H2.out.some hlt
      injection hv1 with hp1 _ hcap1
      injection hv2 with hp2 _ hcap2
      subst hp1 hcap1 hp2 hcap2
      have hsz := hg.out.size
      have cell1 : ∀ n os, (Sort.grow (wr.drewN n) os).cell? ⟨b1, o1 + k * 3, none⟩ = some (.int .i64 T[k].k) ∧ (Sort.grow (wr.drewN n) os).cell? ⟨b1, o1 + k * 3 + 1, none⟩ = some (.int .i64 T[k].n) ∧ (Sort.grow (wr.drewN n) os).cell? ⟨b1, o1 + k * 3 + 2, none⟩ = some (.string T[k].s) := fun n os => (hc1.below (hg.out.trans ⟨n, os, rfl⟩).below (by omega)) k hlt
      have cell2 : ∀ n os, (Sort.grow (wr.drewN n) os).cell? ⟨b2, o2 + k * 3, none⟩ = some (.int .i64 T[k].k) ∧ (Sort.grow (wr.drewN n) os).cell? ⟨b2, o2 + k * 3 + 1, none⟩ = some (.int .i64 T[k].n) ∧ (Sort.grow (wr.drewN n) os).cell? ⟨b2, o2 + k * 3 + 2, none⟩ = some (.string T[k].s) := fun n os => (hc2.below (hg.out.trans ⟨n, os, rfl⟩).below (by omega)) k hlt
      have x0 := fun n os => (cell1 n os).1
      have x1 := fun n os => (cell1 n os).2.1
      have x2 := fun n os => (cell1 n os).2.2
      have y0 := fun n os => (cell2 n os).1
      have y1 := fun n os => (cell2 n os).2.1
      have y2 := fun n os => (cell2 n os).2.2
      clear cell1 cell2 hc1 hc2
      have HC : Hid (∀ n os, Calls Try.prog 40 #[.agg #[.int .i64 T[k].k, .int .i64 T[k].n, .string T[k].s], .agg #[.int .i64 T[k].k, .int .i64 T[k].n, .string T[k].s]] (Sort.grow (wr.drewN n) os) fun e w' => e = .returned (.int .i64 0) ∧ ∃ q os', w' = Sort.grow ((Sort.grow (wr.drewN n) os).drewN q) os') := Lib.hid (fun n os => rc_same _ _ _ _)
      go_wp2_with fail
      go_quiet_grown ((go_at_call 40; exact Calls.grown_of (HC.out _ _)))
      go_wp2
      go_roundw
      case rel => exact ⟨k + 1, by omega, by go_num, Lib.hid (hg.out.trans ⟨nq, osq, rfl⟩)⟩
      case measure => simp [intOf]; omega
    · obtain rfl : k = T.length := by omega
      go_wp2_with fail
      go_ret
      exact ⟨rfl, hg.out⟩
set_option maxHeartbeats 2000000 in
set_option maxRecDepth 100000 in
theorem rsame_same (v1 v2 : Value) (E : List (List V3 × Int)) (w : World) (h1 : EntS (fun k => k < w.heap.size) w v1 E) (h2 : EntS (fun k => k < w.heap.size) w v2 E) :
    Calls Try.prog 24 #[v1, v2] w fun e w' => e = .returned (.bool true) ∧ Grown w w' := by
  obtain ⟨p1, cap1, Q1, e1, rfl, l1, t1, d1⟩ := h1
  obtain ⟨p2, cap2, Q2, e2, rfl, l2, t2, d2⟩ := h2
  have el : Q2.length = Q1.length := by
    have := congrArg List.length (e2.trans e1.symm)
    simpa using this
  have HE := Lib.hid (show ∀ (k : Nat) (q1 q2 : Value × (List V3 × Int)), Q1[k]? = some q1 → Q2[k]? = some q2 → q2.2 = q1.2 from fun k q1 q2 h1 h2 => by
    have a := congrArg (fun l => l[k]?) (e2.trans e1.symm)
    simpa [h1, h2] using a)
  have H1 := Lib.hid (And.intro t1 d1)
  have H2 := Lib.hid (And.intro t2 d2)
  have HL := Lib.hid el
  rw [el]
  clear t1 d1 t2 d2 e1 e2 el l2
  have mixed : Try.prog.follows .mixedOrders = true := by kernel_rfl
  go_enter Try.func24, Try.ntmps24
  go_wp2_with fail
  go_loopw [5] (fun i wr => ∃ k : Nat, k ≤ Q1.length ∧ i = .int .i64 k ∧ Hid (Grown w wr)) (fun i _ => Q1.length - (intOf i).toNat)
  case atStart => exact ⟨0, Nat.zero_le _, rfl, Lib.hid (Grown.refl _)⟩
  case round =>
    obtain ⟨k, hk, rfl, hg⟩ := hrel
    have h0 : (0 : Int) ≤ (k : Int) := by omega
    by_cases hlt : k < Q1.length
    · have hlt' : (k : Int) < (Q1.length : Int) := by omega
      have g1 : Q1[k]? = some Q1[k] := List.getElem?_eq_getElem hlt
      have hlt2 : k < Q2.length := by have := HL.out; omega
      have g2 : Q2[k]? = some Q2[k] := List.getElem?_eq_getElem hlt2
      obtain ⟨b1, o1, hp1, hb1, hc1⟩ : ∃ b off, p1 = some ⟨b, off, none⟩ ∧ b < w.heap.size ∧ CellsQ w b off Q1 := by
        rcases H1.out.2 with h | h
        · rw [h] at hlt; simp at hlt
        · exact h
      obtain ⟨b2, o2, hp2, hb2, hc2⟩ : ∃ b off, p2 = some ⟨b, off, none⟩ ∧ b < w.heap.size ∧ CellsQ w b off Q2 := by
        rcases H2.out.2 with h | h
        · rw [h] at hlt2; simp at hlt2
        · exact h
      subst hp1 hp2
      have hsz := hg.out.size
      have hT1 := H1.out.1 _ (List.getElem_mem hlt)
      have hT2 := H2.out.1 _ (List.getElem_mem hlt2)
      have hq := HE.out k _ _ g1 g2
      obtain ⟨q1, hq1⟩ : ∃ q, q = Q1[k] := ⟨_, rfl⟩
      obtain ⟨q2, hq2⟩ : ∃ q, q = Q2[k] := ⟨_, rfl⟩
      rw [← hq1] at g1 hT1 hq
      rw [← hq2] at g2 hT2 hq
      obtain ⟨tv1, T1, n1⟩ := q1
      obtain ⟨tv2, T2, n2⟩ := q2
      simp only [Prod.mk.injEq] at hq
      obtain ⟨rfl, rfl⟩ := hq
      obtain ⟨u1, u2⟩ := hc1 k _ g1
      obtain ⟨u3, u4⟩ := hc2 k _ g2
      have hbel : ∀ n os, Below w.heap.size w (Sort.grow (wr.drewN n) os) := fun n os => (hg.out.trans ⟨n, os, rfl⟩).below
      have x0 : ∀ n os, (Sort.grow (wr.drewN n) os).cell? ⟨b1, o1 + k * 2, none⟩ = some tv1 := fun n os => ((hbel n os).cell (p := ⟨b1, _, none⟩) hb1).trans u1
      have x1 : ∀ n os, (Sort.grow (wr.drewN n) os).cell? ⟨b1, o1 + k * 2 + 1, none⟩ = some (.int .i64 n2) := fun n os => ((hbel n os).cell (p := ⟨b1, _, none⟩) hb1).trans u2
      have y0 : ∀ n os, (Sort.grow (wr.drewN n) os).cell? ⟨b2, o2 + k * 2, none⟩ = some tv2 := fun n os => ((hbel n os).cell (p := ⟨b2, _, none⟩) hb2).trans u3
      have y1 : ∀ n os, (Sort.grow (wr.drewN n) os).cell? ⟨b2, o2 + k * 2 + 1, none⟩ = some (.int .i64 n2) := fun n os => ((hbel n os).cell (p := ⟨b2, _, none⟩) hb2).trans u4
      have up : ∀ {v : Value}, TupS (fun k => k < w.heap.size) w v T2 → ∀ n os, TupS (fun k => k < (Sort.grow (wr.drewN n) os).heap.size) (Sort.grow (wr.drewN n) os) v T2 := fun ht n os => ht.same (fun k hk => Nat.lt_of_lt_of_le hk (hbel n os).size) (fun b o hb => (hbel n os).cell (p := ⟨b, o, none⟩) hb)
      have HC : Hid (∀ n os, Calls Try.prog 36 #[tv1, tv2] (Sort.grow (wr.drewN n) os) fun e w' => e = .returned (.int .i64 0) ∧ ∃ q os', w' = Sort.grow ((Sort.grow (wr.drewN n) os).drewN q) os') := Lib.hid (fun n os => rcompare_same _ _ _ _ (up hT1 n os) (up hT2 n os))
      clear u1 u2 u3 u4 hc1 hc2 hT1 hT2 g1 g2 hq1 hq2 hbel up hlt2
      go_wp2_with fail
      go_quiet_grown ((go_at_call 36; exact Calls.grown_of (HC.out _ _)))
      go_wp2
      go_roundw
      case rel => exact ⟨k + 1, by omega, by go_num, Lib.hid (hg.out.trans ⟨nq, osq, rfl⟩)⟩
      case measure => simp [intOf]; omega
    · obtain rfl : k = Q1.length := by omega
      go_wp2_with fail
      go_ret
      exact ⟨rfl, hg.out⟩
end Go.Proofs.Ytdjebcfpodfhhaa

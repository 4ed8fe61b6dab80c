/-
  The laws' cut; the walk of the law ParseRules.
-/
import Derived.Test.YtmnbbbkikbcbjaaDoorG17
import Derived.Test.YtmnbbbkikbcbjaaDoorG18
namespace Go.Proofs.YtmnbbbkikbcbjaaDoor
open Go Go.RowKit Go.Shelf

set_option maxRecDepth 100000 in
theorem pcut_any (s : ByteArray) (w : World) (hm : s.size ≤ maxLen) : ∃ C : ByteArray, (C.size ≤ 1500 ∨ 65536 < C.size ∧ C.size ≤ maxLen) ∧ Calls Tryd.prog 4 #[.string s] w fun e w' => e = .returned (.string C) ∧ w = w' := by
  unfold maxLen at hm
  by_cases h1 : 1500 < s.size
  · have h1' : (1500 : Int) < (s.size : Int) := by omega
    by_cases h2 : s.size ≤ 65536
    · have h2' : (s.size : Int) ≤ 65536 := by omega
      have h3 : (1500 : Int) ≤ (s.size : Int) := by omega
      refine ⟨s.extract 0 1500, .inl (by rw [ByteArray.size_extract]; omega), ?_⟩
      go_enter Tryd.func4, Tryd.ntmps4
      go_wp2_with fail
      go_ret
      exact ⟨rfl, rfl⟩
    · have h2' : ¬ (s.size : Int) ≤ 65536 := by omega
      refine ⟨s, .inr ⟨by omega, hm⟩, ?_⟩
      go_enter Tryd.func4, Tryd.ntmps4
      go_wp2_with fail
      go_ret
      exact ⟨rfl, rfl⟩
  · have h1' : ¬ (1500 : Int) < (s.size : Int) := by omega
    refine ⟨s, .inl (by omega), ?_⟩
    go_enter Tryd.func4, Tryd.ntmps4
    go_wp2_with fail
    go_ret
    exact ⟨rfl, rfl⟩
set_option maxRecDepth 100000 in
set_option maxHeartbeats 4000000 in
theorem parseRules_walk (s : ByteArray) (w : World) (hm : s.size ≤ maxLen) (G : Glob w) :
    Calls Tryd.prog 3 #[.string s] w fun e w' => e = .returned (.bool true) ∧ Below w.heap.size w w' := by
  obtain ⟨C, -, hC⟩ := pcut_any s w hm
  have HC := Lib.hid hC
  have HG := Lib.hid G
  clear hC G hm
  go_enter Tryd.func3, Tryd.ntmps3
  go_wp2_with fail
  refine HC.out.mono ?_
  rintro y w0 ⟨rfl, rfl⟩
  go_wp2_with fail
  refine (parseRule_any C w HG.out).mono ?_
  rintro y w1 ⟨hb, ⟨hs, a, v, hsay, rfl, hv⟩ | hways⟩
  rotate_left
  · have HB := Lib.hid hb
    clear hb
    rcases hways with ⟨hs, n, hsay, rfl⟩ | ⟨hs, n, hsay, rfl⟩ | ⟨hl, rfl⟩
    all_goals
      go_wp2_with fail
      refine (alive_any _ (HG.out.below (HB.out.alloc HB.out.size _))).mono ?_
      rintro y w2 ⟨rfl, hb2⟩
      have HB2 := Lib.hid hb2
      clear hb2
      go_wp2_with fail
      go_ret
      exact ⟨rfl, (HB.out.alloc HB.out.size _).trans (HB2.out.mono (by have := HB.out.size; simp; omega))⟩
  obtain ⟨u, x, rfl, h1, h2⟩ := hv
  have HB := Lib.hid hb
  have HS := Lib.hid (say_rule hsay)
  have HV := Lib.hid (And.intro h1 h2)
  obtain ⟨q1, n1, k1, rfl⟩ : ∃ q n k, u = .slice q n k := (by obtain ⟨q, k, e⟩ := h1.shape; exact ⟨_, _, _, e⟩)
  obtain ⟨q2, n2, k2, rfl⟩ : ∃ q n k, x = .slice q n k := (by obtain ⟨q, k, e⟩ := h2.shape; exact ⟨_, _, _, e⟩)
  have HSz := Lib.hid hs
  clear hb hsay h1 h2 hs
  go_wp2_with fail
  refine (parseProgram_any C _ (HG.out.below (HB.out.alloc HB.out.size _))).mono ?_
  rintro y w2 ⟨hb2, ⟨hs, cs, v, hsay, rfl, hv⟩ | ⟨hs, n, hsay, rfl⟩ | ⟨hs, n, hsay, rfl⟩ | ⟨hl, rfl⟩⟩
  rotate_left
  · exact absurd (hsay.symm.trans HS.out) (by intro e; cases e)
  · exact absurd (hsay.symm.trans HS.out) (by intro e; cases e)
  · exact absurd hl (by have := HSz.out; omega)
  obtain rfl : cs = [.rule a] := by have := hsay.symm.trans HS.out; injection this
  obtain ⟨u', x', y', rfl, g1, g2, g3⟩ := hv
  have HB2 := Lib.hid hb2
  have HW := Lib.hid (And.intro g1 (And.intro g2 g3))
  obtain ⟨q3, n3, k3, rfl⟩ : ∃ q n k, u' = .slice q n k := (by obtain ⟨q, k, e⟩ := g1.shape; exact ⟨_, _, _, e⟩)
  obtain ⟨q4, n4, k4, rfl⟩ : ∃ q n k, x' = .slice q n k := (by obtain ⟨q, k, e⟩ := g2.shape; exact ⟨_, _, _, e⟩)
  obtain ⟨q5, n5, k5, rfl⟩ : ∃ q n k, y' = .slice q n k := (by obtain ⟨q, k, e⟩ := g3.shape; exact ⟨_, _, _, e⟩)
  have r3 := (hb2.block w1.heap.size (by simp)).trans (heap_alloc_new w1 (.cells #[.string ⟨a.head.pred.toArray⟩, .slice q1 n1 k1, .slice q2 n2 k2] 28))
  obtain ⟨⟨b0, b1, b2⟩, -⟩ := cells3 r3
  have hz : w1.heap.size < w2.heap.size := by have := hb2.size; simp at this; omega
  clear hb2 hsay hs g1 g2 g3 r3
  go_wp2_with fail
  have B12 : Below w1.heap.size w1 w2 := ((Below.refl _ w1).alloc (Nat.le_refl _) _).trans (HB2.out.mono (by simp))
  have HRow : Hid (∀ o1, RowIn ruY (fun _ => True) ((w2.alloc o1).alloc (.cells #[.string ⟨a.head.pred.toArray⟩, .slice q1 n1 k1, .slice q2 n2 k2] 28)) (.slice (some ⟨w2.heap.size + 1, 0, none⟩) 1 1) [a]) := Lib.hid (fun o1 => by
    have B13 : Below w1.heap.size w1 (w2.alloc o1) := B12.alloc B12.size _
    have h := (RowOwn.lit (Y := ruY) (et := 28) (B := 0) (w := w2.alloc o1) (x := a) (us := [.string ⟨a.head.pred.toArray⟩, .slice q1 n1 k1, .slice q2 n2 k2]) (Nat.zero_le _) ⟨_, _, rfl, HV.out.1.keep B13.size fun k _ hk => ⟨Nat.zero_le _, B13.block k hk⟩, HV.out.2.keep B13.size fun k _ hk => ⟨Nat.zero_le _, B13.block k hk⟩⟩).in_
    rw [show (w2.alloc o1).heap.size = w2.heap.size + 1 by simp] at h
    exact h.keep (Nat.le_refl _) fun k _ _ => ⟨True.intro, rfl⟩)
  have HBig : Hid (∀ o1 o2, Below w2.heap.size w2 ((w2.alloc o1).alloc o2)) := Lib.hid (fun o1 o2 => ((Below.refl _ w2).alloc (Nat.le_refl _) o1).alloc (by simp) o2)
  clear B12
  refine (rsame_yes (a := ofCs [.rule a]) (HW.out.1.in_below (HBig.out _ _)) (RowIn.nil _ (fun _ => True) _) (HW.out.2.1.in_below (HBig.out _ _)) (RowIn.nil _ (fun _ => True) _) (HW.out.2.2.in_below (HBig.out _ _)) (HRow.out _)).mono ?_
  rintro y w3 ⟨rfl, hb3⟩
  have HB3 : Hid (Below w.heap.size w w3) := Lib.hid ((((HB.out.alloc HB.out.size _).trans (HB2.out.mono (by have := HB.out.size; simp; omega))).trans ((HBig.out _ _).mono (by have := HB.out.size; omega))).trans (hb3.mono (by have := HB.out.size; simp; omega)))
  clear hb3
  go_wp2_with fail
  refine (alive_any _ (HG.out.below HB3.out)).mono ?_
  rintro y w4 ⟨rfl, hb4⟩
  have HB4 := Lib.hid hb4
  clear hb4
  go_wp2_with fail
  go_ret
  exact ⟨rfl, HB3.out.trans (HB4.out.mono HB3.out.size)⟩
end Go.Proofs.YtmnbbbkikbcbjaaDoor

/-
  cut at the 100 bytes of the file; slices.Clone at bytes.
-/
import Derived.Test.YtnmeehhjfcciiaaDkZ
namespace Go.Proofs.Ytnmeehhjfcciiaa
open Go Go.RowKit Go.Maps Go.WideMaps

set_option maxRecDepth 100000 in
theorem cut_0 (w : World) (b cap : Nat) (hc : 100 ≤ cap) (hm : cap ≤ maxLen) : Says 42 #[.slice (some ⟨b, 0, none⟩) 100 cap, .int .i64 0] w (.slice (some ⟨b, 0, none⟩) 64 64) := by
  unfold maxLen at hm
  have h1 : (100 : Int) ≤ (cap : Int) := by omega
  have h2 : (cap : Int) ≤ 9223372036854775807 := by omega
  have h3 : (64 : Int) ≤ (cap : Int) := by omega
  go_enter Try.func42, Try.ntmps42
  go_wp2_with fail
  all_goals (go_ret; exact ⟨rfl, rfl⟩)
set_option maxRecDepth 100000 in
theorem cut_1 (w : World) (b cap : Nat) (hc : 100 ≤ cap) (hm : cap ≤ maxLen) : Says 42 #[.slice (some ⟨b, 0, none⟩) 100 cap, .int .i64 1] w (.slice (some ⟨b, 64, none⟩) 36 36) := by
  unfold maxLen at hm
  have h1 : (100 : Int) ≤ (cap : Int) := by omega
  have h2 : (cap : Int) ≤ 9223372036854775807 := by omega
  have h3 : (64 : Int) ≤ (cap : Int) := by omega
  go_enter Try.func42, Try.ntmps42
  go_wp2_with fail
  all_goals (go_ret; exact ⟨rfl, rfl⟩)
set_option maxRecDepth 100000 in
set_option maxHeartbeats 2000000 in
theorem cloneB_row (w : World) (b off m cap : Nat) (news : List Value) (h1 : 1 ≤ m) (h2 : m ≤ 1000000) (hl : news.length = m) (hnews : ∀ j u, news[j]? = some u → w.cell? ⟨b, off + j, none⟩ = some u) (hone : ∀ u ∈ news, u.oneCell' = true) (hb : b < w.heap.size) :
    Calls Try.prog 38 #[.slice (some ⟨b, off, none⟩) m cap] w fun e w' => ∃ g c, e = .returned (.slice (some ⟨g, 0, none⟩) m c) ∧ w'.ownsRow w.heap.size 5 1 (.slice (some ⟨g, 0, none⟩) m c) m news ∧ Grow (fun _ => False) w w' := by
  have q := fun W : World => Lib.run_eql_slice_nil W 22 5 (some ⟨b, off, none⟩) m cap 0 0 Try.underlying22
  obtain ⟨i0, hi, hz0, hz1, hz2⟩ := info_parts infoU8
  have add_is : ∀ j : Nat, (⟨b, off, none⟩ : Addr).add j = ⟨b, off + j, none⟩ := fun j => by unfold Addr.add; split <;> simp_all
  have HNw := Lib.hid (show ∀ j u, news[j]? = some u → (w.alloc (.cells #[] 5)).cell? ((⟨b, off, none⟩ : Addr).add j) = some u from fun j u hu => by rw [add_is, World.cell?_alloc_lt _ _ _ hb]; exact hnews j u hu)
  have HOne := Lib.hid hone
  have HL := Lib.hid (show news.length = m * 1 by omega)
  have o1 : 0 + m ≤ maxLen := by unfold maxLen; omega
  have o2 : (0 + m) * 1 ≤ 140737488355328 := by omega
  clear hnews hone hl add_is
  go_enter Try.func38, Try.ntmps38
  go_wp2_with (at_builtin; refine wpList_append_lies _ rfl (.tmp 5) (.tmp 6) 22 rfl w.heap.size 5 i0 (.int .u8 0) 1 1 Try.underlying22 hi hz0 hz1 hz2 rfl (by decide) _ _ _ rfl (World.ownsRow_made w #[] 0 (Nat.le_refl _) (by decide) rfl) ⟨b, off, none⟩ m cap news rfl HL.out HNw.out HOne.out h1 o1 o2 (by simp) (w.heap.size + 1) (by simp) ?_; intro g5 cap5 w5 how5 hgr5 hloc5 hlt5)
  have HEnd := Lib.hid (And.intro (show w5.ownsRow w.heap.size 5 1 (.slice (some ⟨g5, 0, none⟩) m cap5) m news from by simpa using how5) (((Grow.refl (fun _ => False) w).alloc (.cells #[] 5)).grownNew (r := w.heap.size) hgr5 (Nat.le_refl _)))
  clear how5 hgr5 hloc5 hlt5
  go_ret
  exact ⟨g5, cap5, by simp, HEnd.out.1, HEnd.out.2⟩
theorem ord_none (w : World) (x : Int) : Says 57 #[.int .i64 x] w (.bool false) := by
  go_enter Try.func57, Try.ntmps57
  go_wp2_with fail
  go_ret
  exact ⟨by simp, rfl⟩
set_option maxRecDepth 100000 in
theorem cmpI_any (w : World) (x y : Int) : Says 51 #[.int .i64 x, .int .i64 y] w (.int .i64 (if x < y then -1 else if y < x then 1 else 0)) := by
  have HX := Lib.hid (ord_none w x)
  have HY := Lib.hid (ord_none w y)
  by_cases h1 : x < y
  · rw [if_pos h1]
    go_enter Try.func51, Try.ntmps51
    go_wp2_with fail
    refine HX.out.mono ?_
    rintro e w1 ⟨rfl, rfl⟩
    go_wp2_with fail
    refine HY.out.mono ?_
    rintro e w1 ⟨rfl, rfl⟩
    go_wp2_with fail
    go_ret
    exact ⟨rfl, rfl⟩
  · rw [if_neg h1]
    by_cases h2 : y < x
    · rw [if_pos h2]
      go_enter Try.func51, Try.ntmps51
      go_wp2_with fail
      refine HX.out.mono ?_
      rintro e w1 ⟨rfl, rfl⟩
      go_wp2_with fail
      refine HY.out.mono ?_
      rintro e w1 ⟨rfl, rfl⟩
      go_wp2_with fail
      go_ret
      exact ⟨rfl, rfl⟩
    · rw [if_neg h2]
      go_enter Try.func51, Try.ntmps51
      go_wp2_with fail
      refine HX.out.mono ?_
      rintro e w1 ⟨rfl, rfl⟩
      go_wp2_with fail
      refine HY.out.mono ?_
      rintro e w1 ⟨rfl, rfl⟩
      go_wp2_with fail
      go_ret
      exact ⟨rfl, rfl⟩
end Go.Proofs.Ytnmeehhjfcciiaa

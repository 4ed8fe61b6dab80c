/-
  Disk.loose at the two sectors of a new file: in order.
-/
import Derived.Test.YtnmeehhjfcciiaaDkSo
namespace Go.Proofs.Ytnmeehhjfcciiaa
open Go Go.RowKit Go.Maps Go.WideMaps

theorem at2_own {w : World} {n0 : Nat} {v : Value} {x y : Nat} (h : w.ownsRow n0 92 2 v 2 (spc [x, y])) : ∃ g cap, v = .slice (some ⟨g, 0, none⟩) 2 cap ∧ n0 ≤ g ∧ At2 w g x y := by
  rcases h.2 with ⟨-, h0⟩ | ⟨g, cap, cur, rfl, hb, hg, h2, h3, h4, h5⟩
  · cases h0
  · refine ⟨g, cap, rfl, hb, cur.toList.drop 4, ?_⟩
    rw [hg]
    have e : cur.toList = spc [x, y] ++ cur.toList.drop 4 := by
      rw [← h5]
      exact (List.take_append_drop 4 cur.toList).symm
    have e2 : cur = (spc [x, y] ++ cur.toList.drop 4).toArray := by
      apply Array.ext'
      rw [List.toList_toArray]
      exact e
    rw [show (.int .i64 0 :: .int .i64 (x : Int) :: .int .i64 0 :: .int .i64 (y : Int) :: cur.toList.drop 4) = spc [x, y] ++ cur.toList.drop 4 from rfl, ← e2]
set_option maxRecDepth 100000 in
theorem len64_two (w : World) : Calls Try.prog 68 #[.int .u64 2] w fun e w' => (∃ v : Int, e = .returned (.int .i64 v)) ∧ w = w' := by
  go_enter Try.func68, Try.ntmps68
  go_wp2_with fail
  go_ret
  exact ⟨⟨_, rfl⟩, rfl⟩
set_option maxRecDepth 100000 in
theorem len_two (w : World) : Calls Try.prog 53 #[.int .u64 2] w fun e w' => (∃ v : Int, e = .returned (.int .i64 v)) ∧ w = w' := by
  go_enter Try.func53, Try.ntmps53
  go_wp2_with fail
  refine (len64_two w).mono ?_
  rintro e w1 ⟨⟨v, rfl⟩, rfl⟩
  go_wp2_with fail
  go_ret
  exact ⟨⟨_, rfl⟩, rfl⟩
/-- Two sectors, in order. -/
def SortEnd (w : World) (g : Nat) (e : Ending) (w' : World) : Prop := e = .returned (.tuple #[]) ∧ At2 w' g 0 1 ∧ Grow (fun k => k = g) w w'
theorem ins_ord {w : World} {g : Nat} (cap : Nat) {x y : Int} (h : At2 w g x y) (hP : x = 0 ∧ y = 1 ∨ x = 1 ∧ y = 0) : Calls Try.prog 76 #[.slice (some ⟨g, 0, none⟩) 2 cap, .int .i64 0, .int .i64 2, .func (.func 49) #[] #[]] w (SortEnd w g) := by
  refine (ins_two w g cap x y h).mono ?_
  rintro e w1 ⟨rfl, h1, h2⟩
  refine ⟨rfl, ?_, h2⟩
  rcases hP with ⟨rfl, rfl⟩ | ⟨rfl, rfl⟩
  · exact h1
  · exact h1
set_option maxRecDepth 100000 in
theorem pdq_ord {w : World} {g : Nat} (cap : Nat) (v : Value) {x y : Int} (h : At2 w g x y) (hP : x = 0 ∧ y = 1 ∨ x = 1 ∧ y = 0) : Calls Try.prog 70 #[.slice (some ⟨g, 0, none⟩) 2 cap, .int .i64 0, .int .i64 2, v, .func (.func 49) #[] #[]] w (SortEnd w g) := by
  have HI := Lib.hid (ins_ord cap h hP)
  clear h hP
  go_enter Try.func70, Try.ntmps70
  go_wp2_with fail
  refine wp_loop_rounds 1 ?_
  rw [rounds_succ]
  go_wp2_with fail
  refine HI.out.mono ?_
  rintro e w1 ⟨rfl, h1, h2⟩
  have HE := Lib.hid (And.intro h1 h2)
  clear h1 h2
  go_wp2_with fail
  exact bodyPost_ret (results_none rfl _ _ _) rfl ⟨rfl, HE.out.1, HE.out.2⟩
set_option maxRecDepth 100000 in
theorem sort_ord {w : World} {g : Nat} (cap : Nat) {x y : Int} (h : At2 w g x y) (hP : x = 0 ∧ y = 1 ∨ x = 1 ∧ y = 0) : Calls Try.prog 55 #[.slice (some ⟨g, 0, none⟩) 2 cap, .func (.func 49) #[] #[]] w (SortEnd w g) := by
  have HI := Lib.hid (fun v => pdq_ord cap v h hP)
  clear h hP
  go_enter Try.func55, Try.ntmps55
  go_wp2_with fail
  refine (len_two w).mono ?_
  rintro e w1 ⟨⟨v, rfl⟩, rfl⟩
  go_wp2_with fail
  refine (HI.out _).mono ?_
  rintro e w1 ⟨rfl, h1, h2⟩
  have HE := Lib.hid (And.intro h1 h2)
  clear h1 h2
  go_wp2_with fail
  exact bodyPost_end (results_none rfl _ _ _) rfl ⟨rfl, HE.out.1, HE.out.2⟩
/-- The two loose sectors, in order, in a row of their own. -/
def LooseEnd (w : World) (e : Ending) (w' : World) : Prop := ∃ g cap, e = .returned (.slice (some ⟨g, 0, none⟩) 2 cap) ∧ w.heap.size ≤ g ∧ At2 w' g 0 1 ∧ Grow (fun _ => False) w w'
set_option maxRecDepth 100000 in
theorem sorted_ord (w : World) (Bs M nn : Nat) (hm : MapAt w Try.prog 92 M nn (OL 2)) (hBs : w.cell? ⟨Bs, 0, none⟩ = some (.map (some M))) (hBl : Bs < w.heap.size) :
    Calls Try.prog 47 #[.func (.func 56) #[] #[.pointer (some ⟨Bs, 0, none⟩)], .func (.func 49) #[] #[]] w (LooseEnd w) := by
  have HC := Lib.hid (collect_two w Bs M nn hm hBs hBl)
  clear hm hBs hBl
  go_enter Try.func47, Try.ntmps47
  go_wp2_with fail
  refine HC.out.mono ?_
  rintro e w1 ⟨v, P, hP, rfl, ho, hb⟩
  have hA : ∃ g cap x y, v = .slice (some ⟨g, 0, none⟩) 2 cap ∧ w.heap.size ≤ g ∧ At2 w1 g x y ∧ (x = 0 ∧ y = 1 ∨ x = 1 ∧ y = 0) := by
    rcases hP with rfl | rfl
    · obtain ⟨g, cap, e, h1, h2⟩ := at2_own ho
      exact ⟨g, cap, _, _, e, h1, h2, .inl ⟨rfl, rfl⟩⟩
    · obtain ⟨g, cap, e, h1, h2⟩ := at2_own ho
      exact ⟨g, cap, _, _, e, h1, h2, .inr ⟨rfl, rfl⟩⟩
  obtain ⟨g, cap, x, y, rfl, hgl, hA, hxy⟩ := hA
  have HS := Lib.hid (sort_ord cap hA hxy)
  have HB := Lib.hid hb
  clear ho hb hP hA hxy
  go_wp2_with fail
  refine HS.out.mono ?_
  rintro e w2 ⟨rfl, h1, h2⟩
  have HE := Lib.hid (show LooseEnd w (.returned (.slice (some ⟨g, 0, none⟩) 2 cap)) w2 from ⟨g, cap, rfl, hgl, h1, ⟨h2.os.trans HB.out.os, h2.tape.trans HB.out.tape, h2.output.trans HB.out.output, Nat.le_trans HB.out.size h2.size, fun k hk _ => (h2.block k (Nat.lt_of_lt_of_le hk HB.out.size) (by omega)).trans (HB.out.block k hk)⟩⟩)
  clear h1 h2
  go_wp2_with fail
  go_ret
  exact HE.out
set_option maxRecDepth 100000 in
theorem loose_two {w : World} {d O nn : Nat} (h4 : w.cell? ⟨d, 4, none⟩ = some (.map (some O))) (hm : MapAt w Try.prog 92 O nn (OL 2)) : Calls Try.prog 39 #[.pointer (some ⟨d, 0, none⟩)] w (LooseEnd w) := by
  have HM := Lib.hid hm
  clear hm
  go_enter Try.func39, Try.ntmps39
  go_wp2_with fail
  refine (keys_any w O).mono ?_
  rintro e w1 ⟨rfl, hw1⟩
  have HS := Lib.hid (sorted_ord w1 w.heap.size O nn (by rw [hw1]; exact HM.out.alloc _) (by rw [hw1]; exact (World.cell?_alloc_new w _ _ 0).trans rfl) (by rw [hw1]; simp))
  have HG := Lib.hid (show Grow (fun _ => False) w w1 from by rw [hw1]; exact (Grow.refl _ w).alloc _)
  clear hw1
  go_wp2_with fail
  refine HS.out.mono ?_
  rintro e w2 ⟨g, cap, rfl, hgl, hA, hg2⟩
  have HE := Lib.hid (show LooseEnd w (.returned (.slice (some ⟨g, 0, none⟩) 2 cap)) w2 from ⟨g, cap, rfl, Nat.le_trans HG.out.size hgl, hA, HG.out.trans hg2⟩)
  clear hgl hA hg2
  go_wp2_with fail
  go_ret
  exact HE.out
end Go.Proofs.Ytnmeehhjfcciiaa

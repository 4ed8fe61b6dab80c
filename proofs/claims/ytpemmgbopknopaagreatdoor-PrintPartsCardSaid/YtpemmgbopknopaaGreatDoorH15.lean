/-
  What print's example answers: it holds.
-/
import Derived.Test.YtpemmgbopknopaaGreatDoorH14
namespace Go.Proofs.YtpemmgbopknopaaGreatDoor
open Go Go.RowKit Go.Shelf

set_option maxRecDepth 100000 in
set_option maxHeartbeats 20000000 in
theorem pawake_any (w : World) (G : Glob w) : Calls Tryz.prog 27 #[] w fun e w' => e = .returned (.bool true) ∧ Below w.heap.size w w' := by
  have HG := Lib.hid G
  clear G
  go_enter Tryz.func27, Tryz.ntmps27
  go_wp2_with fail
  go_region
  all_goals
    generalize hW : World.drew _ = W
    obtain ⟨⟨x0, x1, x2, x3, x4⟩, hb⟩ := alloc5 hW
    have HX := Lib.hid (And.intro x0 (And.intro x1 (And.intro x2 (And.intro x3 x4))))
    have HB := Lib.hid hb
    obtain ⟨c0, c1, c2, c3, c4⟩ := five_cells x0
    have d10 := cell_at x1 0 _ rfl
    have d11 := cell_at x1 1 _ rfl
    have d20 := cell_at x2 0 _ rfl
    have d21 := cell_at x2 1 _ rfl
    have d30 := cell_at x3 0 _ rfl
    have d31 := cell_at x3 1 _ rfl
    have d40 := cell_at x4 0 _ rfl
    have d41 := cell_at x4 1 _ rfl
    clear x0 x1 x2 x3 x4 hb hW
    go_wp2_with fail
    refine (ex_rule_call (by first | exact HX.out.2.1 | exact HX.out.2.2.1 | exact HX.out.2.2.2.1 | exact HX.out.2.2.2.2) (by first | exact HX.out.2.1 | exact HX.out.2.2.1 | exact HX.out.2.2.2.1 | exact HX.out.2.2.2.2) (HG.out.below HB.out)).mono ?_
    rintro y w1 ⟨rfl, hb⟩
    have ok : ∀ {b : Nat} {o : Obj}, W.heap[b]? = some o → w1.heap[b]? = some o := fun h => (hb.block _ (Array.getElem?_eq_some_iff.1 h).1).trans h
    have HY := Lib.hid (And.intro (ok HX.out.2.1) (And.intro (ok HX.out.2.2.1) (And.intro (ok HX.out.2.2.2.1) (ok HX.out.2.2.2.2))))
    have HB1 := Lib.hid (HB.out.trans (hb.mono HB.out.size))
    clear hb ok c0 c1 c2 c3 c4 d10 d11 d20 d21 d30 d31 d40 d41
    have up : ∀ {b : Nat} {p : Obj}, w1.heap[b]? = some p → (w1.alloc (.cells #[.string ⟨#[88]⟩, .int .i64 1] 111)).heap[b]? = some p := fun h => (Below.heap_alloc _ _ _ (Array.getElem?_eq_some_iff.1 h).1).trans h
    have d10 := cell_at (up HY.out.1) 0 _ rfl
    have d11 := cell_at (up HY.out.1) 1 _ rfl
    have d20 := cell_at (up HY.out.2.1) 0 _ rfl
    have d21 := cell_at (up HY.out.2.1) 1 _ rfl
    have d30 := cell_at (up HY.out.2.2.1) 0 _ rfl
    have d31 := cell_at (up HY.out.2.2.1) 1 _ rfl
    have d40 := cell_at (up HY.out.2.2.2) 0 _ rfl
    have d41 := cell_at (up HY.out.2.2.2) 1 _ rfl
    clear up
    go_wp2_with fail
    refine (ex_on_call (by first | exact HY.out.1 | exact HY.out.2.1 | exact HY.out.2.2.1 | exact HY.out.2.2.2) (HG.out.below HB1.out)).mono ?_
    rintro y w2 ⟨rfl, hb⟩
    have HB2 := Lib.hid (HB1.out.trans (hb.mono HB1.out.size))
    clear hb d10 d11 d20 d21 d30 d31 d40 d41
    go_wp2_with fail
    refine (ex_name w2 (HG.out.below HB2.out)).mono ?_
    rintro y w3 ⟨rfl, hb⟩
    have HB3 := Lib.hid (HB2.out.trans (hb.mono HB2.out.size))
    clear hb
    go_wp2_with fail
    refine (ex_var w3 (HG.out.below HB3.out)).mono ?_
    rintro y w4 ⟨rfl, hb⟩
    have HB4 := Lib.hid (HB3.out.trans (hb.mono HB3.out.size))
    clear hb
    go_wp2_with fail
    go_ret
    exact ⟨rfl, HB4.out⟩
end Go.Proofs.YtpemmgbopknopaaGreatDoor

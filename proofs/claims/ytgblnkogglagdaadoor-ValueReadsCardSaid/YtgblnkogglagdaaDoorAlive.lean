/-
  The sign of life that every law of layer 1 asks: a symbol's text, an int that is read, an int ahead of a symbol.
-/
import Derived.Test.YtgblnkogglagdaaDoorDec
namespace Go.Proofs.YtgblnkogglagdaaDoor
open Go Go.RowKit

theorem alive_text (w : World) (G : Glob w) :
    Calls Tryd.prog 17 #[.agg #[.int .i64 2, .int .i64 0, .string ⟨#[97, 10, 34]⟩]] w fun e w' => e = .returned (.tuple #[.string ⟨#[34, 97, 92, 110, 92, 34, 34]⟩, .int .i64 0]) ∧ Below w.heap.size w w' := by
  have h := text_yes 2 0 ⟨#[97, 10, 34]⟩ w (.inr ⟨rfl, rfl, by decide⟩) ⟨by decide, by decide⟩ G
  rw [show textS 2 0 ⟨#[97, 10, 34]⟩ = ⟨#[34, 97, 92, 110, 92, 34, 34]⟩ from by decide +kernel] at h
  exact h
theorem alive_dec : DecIs ⟨#[45, 49, 50]⟩ 1 (-12) ⟨#[]⟩ true := fun w _ =>
  decode_ok ⟨#[45, 49, 50]⟩ (-12) w (by decide) (by decide) (by decide +kernel) (by decide +kernel)
theorem alive_read (w : World) (G : Glob w) :
    Calls Tryd.prog 7 #[.string ⟨#[45, 49, 50]⟩] w fun e w' => e = .returned (.tuple #[.agg #[.int .i64 1, .int .i64 (-12), .string ⟨#[]⟩], .int .i64 0]) ∧ Below w.heap.size w w' :=
  read_hit ⟨#[45, 49, 50]⟩ 1 (-12) ⟨#[]⟩ w (Lib.hid alive_dec) (.inl ⟨rfl, by decide +kernel⟩) ⟨by decide, by decide⟩ (by decide +kernel) G
theorem alive_cmp (w : World) :
    Calls Tryd.prog 23 #[.agg #[.int .i64 1, .int .i64 (-12), .string ⟨#[]⟩], .agg #[.int .i64 2, .int .i64 0, .string ⟨#[51]⟩]] w fun e w' => e = .returned (.int .i64 (-1)) ∧ Below w.heap.size w w' := by
  have h := compare_any 1 (-12) ⟨#[]⟩ 2 0 ⟨#[51]⟩ w
  rw [show cmpV 1 (-12) ⟨#[]⟩ 2 0 ⟨#[51]⟩ = -1 from by decide +kernel] at h
  exact h

set_option maxHeartbeats 1000000 in
theorem alive_true (w : World) (G : Glob w) :
    Calls Tryd.prog 9 #[] w fun e w' => e = .returned (.bool true) ∧ Below w.heap.size w w' := by
  go_enter Tryd.func9, Tryd.ntmps9
  go_wp2_with (first
    | (go_at_call 17; refine (alive_text _ G).mono ?_; rintro e w1 ⟨rfl, hb⟩; have G1 := G.below hb)
    | (go_at_call 7; refine (alive_read _ G1).mono ?_; rintro e w2 ⟨rfl, hb2⟩)
    | (go_at_call 23; refine (alive_cmp _).mono ?_; rintro e w3 ⟨rfl, hb3⟩))
  go_ret
  exact ⟨rfl, (hb.trans (hb2.mono hb.size)).trans ((below_then hb3).mono (Nat.le_trans hb.size hb2.size))⟩

end Go.Proofs.YtgblnkogglagdaaDoor

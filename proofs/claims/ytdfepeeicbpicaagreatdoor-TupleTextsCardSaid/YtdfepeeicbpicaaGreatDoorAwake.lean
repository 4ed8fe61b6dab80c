/-
  The laws' own 'awake' answers true.
-/
import Derived.Test.YtdfepeeicbpicaaGreatDoorAwS
import Derived.Test.YtdfepeeicbpicaaGreatDoorAwT
import Derived.Test.YtdfepeeicbpicaaGreatDoorAwM
import Derived.Deep.RegionWith
import Derived.Deep.RegionHeld3
namespace Go.Proofs.YtdfepeeicbpicaaGreatDoor
open Go Go.RowKit

/-- A tuple of an int, as it lies. -/
def oneC (n : Int) : Obj := .cells #[.int .i64 1, .int .i64 n, .string ⟨#[]⟩] 37
set_option maxHeartbeats 1000000 in
theorem check_nine (p : Option Addr) (c : Nat) (w : World) : Calls Tryz.prog 13 #[.slice p 9 c] w fun e w' => e = .returned (.int .i64 20) ∧ w = w' := by
  go_enter Tryz.func13, Tryz.ntmps13
  go_wp2_with fail
  go_ret
  exact ⟨rfl, rfl⟩
/-- awake's first call. -/
theorem awake_sorted (w : World) : Calls Tryz.prog 23 #[.slice (some ⟨w.heap.size + 3, 0, none⟩) 3 3] ((((w.alloc (oneC 2)).alloc (oneC 1)).alloc (oneC 2)).alloc (.cells #[.slice (some ⟨w.heap.size, 0, none⟩) 1 1, .slice (some ⟨w.heap.size + 1, 0, none⟩) 1 1, .slice (some ⟨w.heap.size + 2, 0, none⟩) 1 1] 23)) (ThreeEnd ((((w.alloc (oneC 2)).alloc (oneC 1)).alloc (oneC 2)).alloc (.cells #[.slice (some ⟨w.heap.size, 0, none⟩) 1 1, .slice (some ⟨w.heap.size + 1, 0, none⟩) 1 1, .slice (some ⟨w.heap.size + 2, 0, none⟩) 1 1] 23))) := by
  have hx := one_in 2 w
  have hy := one_in 1 (w.alloc (oneC 2))
  have hz := one_in 2 ((w.alloc (oneC 2)).alloc (oneC 1))
  simp only [World.size_alloc] at hx hy hz
  refine sorted_three _ (w.heap.size + 3) (w.heap.size + 3) _ _ _ ((hx.below ?_).mono (by omega)) ((hy.below ?_).mono (by omega)) ((hz.below ?_).mono (by omega)) (by simp) (by simp) ?_ ?_ ?_
  · exact (((Below.refl _ _).alloc (by simp) _).alloc (by simp) _).alloc (by simp) _
  · exact ((Below.refl _ _).alloc (by simp) _).alloc (by simp) _
  · exact (Below.refl _ _).alloc (by simp) _
  all_goals (rw [cell_of_row _ (w.heap.size + 3) _ _ 23 (0, 0) (by simpa using heap_alloc_new (((w.alloc (oneC 2)).alloc (oneC 1)).alloc (oneC 2)) _)]; rfl)

set_option maxHeartbeats 4000000 in
set_option maxRecDepth 100000 in
theorem awake_true (w : World) (G : Glob w) : Calls Tryz.prog 11 #[] w fun e w' => e = .returned (.bool true) ∧ Below w.heap.size w w' := by
  have HS := Lib.hid (awake_sorted w)
  go_enter Tryz.func11, Tryz.ntmps11
  go_wp2_with (go_at_call 24; refine (onet_any _ _).mono ?_; rintro e w' ⟨rfl, rfl⟩)
  refine HS.out.mono ?_
  rintro e w1 ⟨g, cap, q1, rfl, hq, hg0, hg1, hT, hB1⟩
  have hBw : Below w.heap.size w w1 := Below.trans (((((Below.refl _ _).alloc (Nat.le_refl _) _).alloc (by simp) _).alloc (by simp; omega) _).alloc (by simp; omega) _) (hB1.mono (by simp; omega))
  have HQ := Lib.hid hq
  have HT := Lib.hid hT
  have HB := Lib.hid hBw
  clear HS hq hT hB1 hBw hg0
  go_wp2_with (go_at_call 24; refine (onet_any _ _).mono ?_; rintro e w' ⟨rfl, rfl⟩)
  refine (text_seven _ _ _ (one_in 7 w1) (by simp) ((G.below HB.out).below (below_box w1 _))).mono ?_
  rintro e w2 ⟨rfl, hb2⟩
  have hB2 : Below w1.heap.size w1 w2 := (below_box w1 _).trans (hb2.mono (by simp))
  have HB2 := Lib.hid hB2
  have hz2 := hB2.size
  clear hb2 hB2
  go_wp2_with (go_at_call 24; refine (onet_any _ _).mono ?_; rintro e w' ⟨rfl, rfl⟩)
  have hpat : PatX ((w2.alloc (.cells #[.int .i64 1, .string ⟨#[88]⟩, .int .i64 0, .int .i64 0, .string ⟨#[]⟩] 58)).alloc (oneC 3)) w2.heap.size := by
    refine PatX.below (n := w2.heap.size + 1) (w := w2.alloc (.cells #[.int .i64 1, .string ⟨#[88]⟩, .int .i64 0, .int .i64 0, .string ⟨#[]⟩] 58)) ?_ ((Below.refl _ _).alloc (by simp) _) (by omega)
    refine ⟨?_, ?_, ?_, ?_, ?_⟩ <;> (rw [cell_of_row _ w2.heap.size _ _ 58 (0, 0) (heap_alloc_new w2 _)]; rfl)
  have ht3 := one_in 3 (w2.alloc (.cells #[.int .i64 1, .string ⟨#[88]⟩, .int .i64 0, .int .i64 0, .string ⟨#[]⟩] 58))
  simp only [World.size_alloc] at ht3
  refine (tmatch_x _ w2.heap.size (w2.heap.size + 1 + 1) _ hpat (by simp; omega) ht3 (by simp)).mono ?_
  rintro e w3 ⟨g3, cap3, rfl, hg3, hgl3, hb3⟩
  have hB3 : Below w2.heap.size w2 w3 := ((below_box w2 _).alloc (by simp) _).trans (hb3.mono (by simp; omega))
  have hz3 := hB3.size
  have HB3 := Lib.hid (HB.out.trans ((HB2.out.trans (hB3.mono hz2)).mono HB.out.size))
  have hT3 : TupIn w3.heap.size w3 q1 (oneT 1) := ((HT.out.below HB2.out).below (hB3.mono hz2)).mono (by omega)
  have cq : w3.cell? ⟨g, 0, none⟩ = some q1 := (hB3.cell (p := ⟨g, 0, none⟩) (by simp; omega)).trans ((HB2.out.cell (p := ⟨g, 0, none⟩) hg1).trans HQ.out)
  have hgl : g < w3.heap.size := by omega
  have HT3 := Lib.hid hT3
  clear hpat ht3 hb3 hB3 hT3 HQ HT HB2 HB
  have hmk : ∀ W : World, (Instr.makeSlice 23 (.int .i64 9) (.int .i64 9)).run Tryz.prog W = .ok (.slice (some ⟨W.heap.size, 0, none⟩) 9 9) (W.alloc (.cells (madeCells #[.int .i64 0, .int .i64 0, .string ⟨#[]⟩] 27) 37)) := fun _ => by kernel_rfl
  have hcc : (cmpT (oneT 1) (oneT 1) == 0) = true := by rw [cmpT_self]; rfl
  go_wp2_with fail
  go_region_held3 (fun w' => w'.cell? ⟨g, 0, none⟩ = some q1 ∧ w'.cell? ⟨g3, 2, none⟩ = some (.int .i64 3))
    (first
      | go_keep
      | exact ⟨k0, k2⟩)
    ((first
      | (go_at_call 24; refine (onet_any _ _).mono ?_; rintro e w' ⟨rfl, rfl⟩)
      | (go_at_call 10; refine (same_any q1 _ (oneT 1) (oneT 1) (w3.heap.size + 1) _ ((HT3.out.below (by repeat (first | exact Below.refl _ _ | refine Below.drew ?_ | refine Below.alloc ?_ (by simp) _))).mono (by omega)) ((one_in 1 w3).below (by repeat (first | exact Below.refl _ _ | refine Below.drew ?_))) (by simp)).mono ?_; rintro e w4 ⟨rfl, hg4⟩; rw [hcc]; have BB : Below w3.heap.size w3 w4 := Below.trans (by repeat (first | exact Below.refl _ _ | refine Below.drew ?_ | refine Below.alloc ?_ (by simp) _)) (hg4.below.mono (by simp)); have k0 : w4.cell? ⟨g, 0, none⟩ = some q1 := (BB.cell (p := ⟨g, 0, none⟩) hgl).trans cq; have k2 : w4.cell? ⟨g3, 2, none⟩ = some (.int .i64 3) := (BB.cell (p := ⟨g3, 2, none⟩) hgl3).trans hg3)
      | (go_at_call 13; refine (check_nine _ _ _).mono ?_; rintro e w' ⟨rfl, rfl⟩)))
  all_goals (go_wp2_with fail; go_ret; exact ⟨rfl, HB3.out.trans ((BB.alloc BB.size _).mono HB3.out.size)⟩)
end Go.Proofs.YtdfepeeicbpicaaGreatDoor

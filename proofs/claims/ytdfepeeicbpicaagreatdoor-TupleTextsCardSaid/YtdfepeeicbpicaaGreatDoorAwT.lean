/-
  tuple.Text at the tuple that 'awake' hands it.
-/
import Derived.Test.YtdfepeeicbpicaaGreatDoorAwS
import Derived.Test.YtdfepeeicbpicaaGreatDoorTck
import Derived.Test.YtdfepeeicbpicaaGreatDoorText
namespace Go.Proofs.YtdfepeeicbpicaaGreatDoor
open Go Go.RowKit

theorem okT_one (n : Int) : OkT (oneT n) := ⟨by simp [oneT], fun x hx => by
  obtain rfl : x = ⟨1, n, ⟨#[]⟩⟩ := by simpa [oneT] using hx
  exact .inl ⟨rfl, by rw [Lib.toList_data]⟩⟩
set_option maxHeartbeats 1000000 in
set_option maxRecDepth 100000 in
theorem text_seven (v : Value) (n₀ : Nat) (w : World) (h : TupIn n₀ w v (oneT 7)) (hn : n₀ ≤ w.heap.size) (G : Glob w) :
    Calls Tryz.prog 6 #[v] w fun e w' => e = .returned (.tuple #[.string ⟨#[40, 55, 41]⟩, .int .i64 0]) ∧ Below w.heap.size w w' := by
  have HK : Hid (Calls Tryz.prog 13 #[v] w fun e w' => e = .returned (.int .i64 0) ∧ Below w.heap.size w w') := Lib.hid ((tcheck_any v (oneT 7) n₀ w h hn).mono (by
    rintro e w' ⟨⟨-, rfl⟩ | ⟨hno, -⟩, hb⟩
    · exact ⟨rfl, hb⟩
    · exact absurd (okT_one 7) hno))
  obtain ⟨b, off, cap, rfl, hb, hc⟩ := h.some (k := 0) (by simp [oneT])
  obtain ⟨x0, x1, x2⟩ := hc 0 (by simp [oneT])
  simp only [oneT, List.length_cons, List.length_nil, Nat.zero_add, Nat.zero_mul, Nat.add_zero, List.getElem_cons_zero] at x0 x1 x2 HK ⊢
  clear hc
  have hmk : ∀ W : World, (Instr.makeSlice 34 (.int .i64 1) (.int .i64 1)).run Tryz.prog W = .ok (.slice (some ⟨W.heap.size, 0, none⟩) 1 1) (W.alloc (.cells #[.string ⟨#[]⟩] 9)) := fun _ => by kernel_rfl
  go_enter Tryz.func6, Tryz.ntmps6
  go_wp2_with fail
  refine HK.out.mono ?_
  rintro e w1 ⟨rfl, hb1⟩
  go_wp2_with fail
  have hbw : b < w.heap.size := by omega
  have hz1 := hb1.size
  go_loopw [18] (fun i wr => Below w.heap.size w wr ∧ w1.heap.size < wr.heap.size ∧ ((i = .int .i64 0 ∧ wr.cell? ⟨w1.heap.size, 0, none⟩ = some (.string ⟨#[]⟩) ∧ wr.frozen? ⟨w1.heap.size, 0, none⟩ = false) ∨ (i = .int .i64 1 ∧ wr.cell? ⟨w1.heap.size, 0, none⟩ = some (.string ⟨#[55]⟩)))) (fun i _ => 1 - (intOf i).toNat)
  case atStart => exact ⟨hb1.trans ((below_box _ _).mono hz1), by simp, .inl ⟨rfl, by simp, by simp⟩⟩
  case round =>
    obtain ⟨hB, hzr, ⟨rfl, c0, f0⟩ | ⟨rfl, c1⟩⟩ := hrel
    · have hbs := hB.size
      have y0 := (hB.cell (p := ⟨b, off, none⟩) hbw).trans x0
      have y1 := (hB.cell (p := ⟨b, off + 1, none⟩) hbw).trans x1
      have y2 := (hB.cell (p := ⟨b, off + 2, none⟩) hbw).trans x2
      have hbr : b < wr.heap.size := by omega
      have HG := Lib.hid (G.below hB)
      go_wp2_with fail
      refine (text_yes 1 7 ⟨#[]⟩ _ (.inl ⟨rfl, by rw [Lib.toList_data]⟩) (by unfold I64; omega) (HG.out.below (below_box _ _))).mono ?_
      rintro e w2 ⟨rfl, hb2⟩
      have hz2 : w1.heap.size < w2.heap.size := by have := hb2.size; simp at this; omega
      have c2 : w2.cell? ⟨w1.heap.size, 0, none⟩ = some (.string ⟨#[]⟩) := (hb2.cell (p := ⟨w1.heap.size, 0, none⟩) (by simp; omega)).trans ((below_box wr _).cell (p := ⟨w1.heap.size, 0, none⟩) hzr |>.trans c0)
      have f2 : w2.frozen? ⟨w1.heap.size, 0, none⟩ = false := (hb2.frozen (p := ⟨w1.heap.size, 0, none⟩) (by simp; omega)).trans ((below_box wr _).frozen (p := ⟨w1.heap.size, 0, none⟩) hzr |>.trans f0)
      have et : textS 1 7 ⟨#[]⟩ = ⟨#[55]⟩ := by
        unfold textS textL Lib.itoa
        rw [if_pos rfl, if_neg (by decide), Lib.decDigits, dif_pos (by decide)]
        rfl
      rw [et]
      have HB2 := Lib.hid (hB.trans (((below_box _ _).trans (hb2.mono (by simp))).mono hbs))
      clear hb2
      go_wp2_with fail
      go_roundw
      case rel => exact ⟨HB2.out.setCell (show w.heap.size ≤ w1.heap.size from hz1) _, by simpa using hz2, .inr ⟨rfl, World.cell?_setCell_same _ _ _ c2⟩⟩
      case measure => simp [intOf]
    · go_wp2_with fail
      have hj : Lib.join ([(⟨#[55]⟩ : ByteArray)].map (·.data.toList)) (⟨#[44, 32]⟩ : ByteArray).data.toList = [55] := by simp [Lib.join]
      refine (Tryz.strings_Join w1.heap.size 0 1 [⟨#[55]⟩] ⟨#[44, 32]⟩ _ (fun j x hx => by
        match j, hx with
        | 0, hx =>
          obtain rfl : (⟨#[55]⟩ : ByteArray) = x := by simpa using hx
          exact c1) hzr (by simp) (by simp) (by rw [hj]; simp)).mono ?_
      rintro e w2 ⟨rfl, hb2⟩
      rw [hj]
      go_wp2_with fail
      go_ret2
      exact ⟨rfl, hB.trans (hb2.mono hB.size)⟩
end Go.Proofs.YtdfepeeicbpicaaGreatDoor

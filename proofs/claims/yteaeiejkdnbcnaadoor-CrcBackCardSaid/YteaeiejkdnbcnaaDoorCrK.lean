/-
  The laws' common conjunct: awake answers true.
-/
import Derived.Test.YteaeiejkdnbcnaaDoorCrQ
import Derived.Lib.SlBytesConst
namespace Go.Proofs.YteaeiejkdnbcnaaDoor
open Go Go.RowKit

theorem rg_nine : rg (sumL nineL) = 3421780262 := by rw [sum_nine]; rfl
theorem ext_two : extL 0#32 ([[49, 50, 51, 52], [53, 54, 55, 56, 57]] : List (List UInt8)).flatten = sumL nineL := by
  rw [extL_zero]; rfl
theorem BytIn.litF (w : World) (C : Array Value) (l : List UInt8) (n : Nat) (fr : Nat × Nat) (hn : n = l.length) (hC : C.toList = bytesV l) :
    BytIn (w.heap.size + 1) (w.alloc (.cells C 5 fr)) (.slice (some ⟨w.heap.size, 0, none⟩) n n) l := by
  subst hn
  refine .inr ⟨_, _, rfl, fun j hj => ⟨by simp, ?_⟩⟩
  have hadd : (⟨w.heap.size, 0, none⟩ : Addr).add j = ⟨w.heap.size, j, none⟩ := by unfold Addr.add; split <;> simp_all
  rw [hadd, cell_of_row _ w.heap.size j C _ fr (heap_alloc_new w _), ← Array.getElem?_toList, hC]
  simp [bytesV, hj]
theorem BytIn.keepA {A : Nat} {w w' : World} {v : Value} {l : List UInt8} (h : BytIn A w v l) (hk : KeepA A w w') (hA : A ≤ w.heap.size) : BytIn A w' v l := by
  rcases h with h | ⟨a, cap, rfl, h⟩
  · exact .inl h
  · exact .inr ⟨a, cap, rfl, fun j hj => ⟨(h j hj).1, (World.cell?_of_block (a := a.add j) (by rw [add_block]; exact hk.block a.block (by have := (h j hj).1; omega) (fun e => by have := (h j hj).1; simp at e; omega))).trans (h j hj).2⟩⟩
/-- The literals that awake adds. -/
def o4 : Obj := .cells #[.int .u8 49, .int .u8 50, .int .u8 51, .int .u8 52] 5 (4, 5)
def o5 : Obj := .cells #[.int .u8 53, .int .u8 54, .int .u8 55, .int .u8 56, .int .u8 57] 5 (5, 6)
def two4 : List (List UInt8) := [[49, 50, 51, 52], [53, 54, 55, 56, 57]]
theorem two_parts (w : World) (A : Nat) (hA : A < w.heap.size) : Parts A (((w.alloc o4).alloc o5).alloc (.cells #[.slice (some ⟨w.heap.size, 0, none⟩) 4 4, .slice (some ⟨w.heap.size + 1, 0, none⟩) 5 5] 22)) (w.heap.size + 1 + 1) two4 := by
  obtain ⟨w1, h1⟩ : ∃ w1, w1 = w.alloc o4 := ⟨_, rfl⟩
  have hs1 : w1.heap.size = w.heap.size + 1 := by rw [h1]; exact size_one _ _
  obtain ⟨w2, h2⟩ : ∃ w2, w2 = w1.alloc o5 := ⟨_, rfl⟩
  have hs2 : w2.heap.size = w.heap.size + 1 + 1 := by rw [h2, size_one, hs1]
  have b0 : BytIn (w.heap.size + 1) w1 (.slice (some ⟨w.heap.size, 0, none⟩) 4 4) [49, 50, 51, 52] := by rw [h1]; exact BytIn.litF w _ _ 4 (4, 5) rfl rfl
  have b1 : BytIn (w1.heap.size + 1) w2 (.slice (some ⟨w1.heap.size, 0, none⟩) 5 5) [53, 54, 55, 56, 57] := by rw [h2]; exact BytIn.litF w1 _ _ 5 (5, 6) rfl rfl
  have b2 : Below w1.heap.size w1 w2 := by rw [h2]; exact (Below.refl _ _).alloc (Nat.le_refl _) _
  rw [← h1, ← h2]
  rw [hs1] at b1 b2
  have hs3 := size_one w2 (.cells #[.slice (some ⟨w.heap.size, 0, none⟩) 4 4, .slice (some ⟨w.heap.size + 1, 0, none⟩) 5 5] 22)
  have b3 : Below w2.heap.size w2 (w2.alloc (.cells #[.slice (some ⟨w.heap.size, 0, none⟩) 4 4, .slice (some ⟨w.heap.size + 1, 0, none⟩) 5 5] 22)) := (Below.refl _ _).alloc (Nat.le_refl _) _
  refine ⟨by omega, by omega, fun j hj => ?_⟩
  have hblk := heap_alloc_new w2 (.cells #[.slice (some ⟨w.heap.size, 0, none⟩) 4 4, .slice (some ⟨w.heap.size + 1, 0, none⟩) 5 5] 22)
  rw [hs2] at hblk
  match j, hj with
  | 0, _ => exact ⟨some ⟨w.heap.size, 0, none⟩, 4, cell_of_row _ _ 0 _ _ (0, 0) hblk, ((b0.below b2).below (b3.mono (by omega))).mono (by omega), fun _ a e => by cases e; show w.heap.size ≠ A; omega⟩
  | 1, _ => exact ⟨some ⟨w.heap.size + 1, 0, none⟩, 5, cell_of_row _ _ 1 _ _ (0, 0) hblk, (b1.below (b3.mono (by omega))).mono (by omega), fun _ a e => by cases e; show w.heap.size + 1 ≠ A; omega⟩
theorem ext_two4 : extL 0#32 two4.flatten = sumL nineL := by rw [extL_zero]; rfl
set_option maxHeartbeats 2000000 in
set_option maxRecDepth 100000 in
theorem awake_true (w : World) (G : Glob w) : Calls Tryd.prog 17 #[] w fun e w' => e = .returned (.bool true) ∧ Below w.heap.size w w' := by
  have HG := Lib.hid G
  clear G
  have kc := fun (w : World) (C : Array Value) (n c : Nat) => Lib.run_convert_bytes_const (P := Tryd.prog) w 22 5 C n c Tryd.underlying22 Tryd.underlying5
  go_enter Tryd.func17, Tryd.ntmps17
  go_wp2_with fail
  have HI0 := Lib.hid (show BytIn (w.heap.size + 1) (w.alloc (.cells #[.int .u8 97, .int .u8 98] 5 (2, 3))) (.slice (some ⟨w.heap.size, 0, none⟩) 2 2) [97, 98] from BytIn.litF w #[.int .u8 97, .int .u8 98] [97, 98] 2 (2, 3) rfl rfl)
  obtain ⟨w0, hw0⟩ : ∃ w0, w0 = w.alloc (.cells #[.int .u8 97, .int .u8 98] 5 (2, 3)) := ⟨_, rfl⟩
  have HB0 := Lib.hid (show Below w.heap.size w w0 by rw [hw0]; exact (Below.refl _ _).alloc (Nat.le_refl _) _)
  have hs0 : w0.heap.size = w.heap.size + 1 := by rw [hw0]; exact size_one _ _
  rw [← hw0, ← hs0] at HI0
  rw [← hw0]
  clear hw0 hs0
  refine (seal_any _ [97, 98] w0 HI0.out (by decide) (HG.out.below HB0.out)).mono ?_
  rintro e w1 ⟨v1, rfl, ho1, hb1⟩
  have HB1 := Lib.hid (HB0.out.trans (hb1.mono HB0.out.size))
  have HC1 := Lib.hid ho1.byC
  clear ho1 hb1
  go_wp2_with fail
  refine (open_any v1 (sealL [97, 98]) w1 HC1.out (by rw [sealL_len]; decide) (HG.out.below HB1.out)).mono ?_
  rintro e w2 ⟨v2, rfl, ho2, hb2⟩
  rw [openE_seal] at ho2 ⊢
  have HB2 := Lib.hid (HB1.out.trans (hb2.mono HB1.out.size))
  have HI2 := Lib.hid (show BytIn w2.heap.size w2 v2 [97, 98] from ho2.in_)
  clear ho2 hb2 HC1 HI0
  go_wp2_with fail
  refine (frame_any 7 none 0 [] w2 (.inl ⟨rfl, rfl⟩) (by decide) (HG.out.below HB2.out)).mono ?_
  rintro e w3 ⟨v3, rfl, ho3, hb3⟩
  have HB3 := Lib.hid (HB2.out.trans (hb3.mono HB2.out.size))
  have HC3 := Lib.hid ho3.byC
  have HI3 := Lib.hid ((HI2.out.below hb3).mono hb3.size)
  obtain ⟨p3, c3, hv3, -⟩ := ho3.byC.2
  rw [frameL_len] at hv3
  subst hv3
  clear ho3 hb3
  go_wp2_with fail
  refine (unf_any _ (frameL 7 []) w3 HC3.out (by rw [frameL_len]; decide) (by rw [frameL_len]; decide) (HG.out.below HB3.out)).mono ?_
  rintro e w4 ⟨v4, rfl, ho4, hb4⟩
  have hu := unfE_frame 7 [] [] (by decide)
  rw [List.append_nil] at hu
  rw [hu] at ho4 ⊢
  have HB4 := Lib.hid (HB3.out.trans (hb4.mono HB3.out.size))
  have HI4 := Lib.hid ((HI3.out.below hb4).mono hb4.size)
  obtain ⟨p4, c4, hv4⟩ := ho4.in_.shape
  subst hv4
  clear ho4 hb4 hu
  go_wp2_with fail
  obtain ⟨w5, hw5⟩ : ∃ w5, w5 = w4.alloc (.cells #[.int .u8 7, .slice p4 0 c4] 35) := ⟨_, rfl⟩
  have HB5 := Lib.hid (show Below w.heap.size w w5 by rw [hw5]; exact HB4.out.alloc HB4.out.size _)
  have HI5 := Lib.hid (show BytIn w5.heap.size w5 v2 [97, 98] by rw [hw5]; exact (HI4.out.below ((Below.refl _ _).alloc (Nat.le_refl _) _)).mono (by simp))
  obtain ⟨P5, hP5⟩ : ∃ P5, P5 = w4.heap.size := ⟨_, rfl⟩
  have HC5 := Lib.hid (show w5.cell? ⟨P5, 0, none⟩ = some (.int .u8 7) ∧ P5 < w5.heap.size by rw [hw5, hP5]; exact ⟨cell_of_row _ w4.heap.size 0 _ _ (0, 0) (heap_alloc_new w4 _), by simp⟩)
  rw [← hw5, ← hP5]
  clear hw5 hP5 HI4 HB4
  refine (new_any w5).mono ?_
  rintro e w6 ⟨rfl, ha6, hb6⟩
  obtain ⟨A, hA⟩ : ∃ A, A = w5.heap.size := ⟨_, rfl⟩
  rw [← hA] at ha6 ⊢
  have HA := Lib.hid hA
  have HA6 := Lib.hid ha6
  have HB6 := Lib.hid (HB5.out.trans (hb6.mono HB5.out.size))
  have HI6 := Lib.hid (show BytIn A w6 v2 [97, 98] by rw [hA]; exact HI5.out.below hb6)
  have HC6 := Lib.hid (show w6.cell? ⟨P5, 0, none⟩ = some (.int .u8 7) ∧ P5 < A by rw [hA]; exact ⟨(hb6.cell (p := ⟨P5, 0, none⟩) HC5.out.2).trans HC5.out.1, HC5.out.2⟩)
  clear ha6 hb6 hA HI5 HC5 HI3 HI2
  have kc2 : ∀ (o : Obj) (C : Array Value) (n c : Nat), (convert 22 22 (.slice (some ⟨w6.heap.size + 1, 0, none⟩) n c)).run Tryd.prog ((w6.alloc o).alloc (.cells C 5)) = .ok (.slice (some ⟨w6.heap.size + 1, 0, none⟩) n c) ((w6.alloc o).alloc (.cells C 5 (C.size, C.size + 1))) := fun o C n c => by
    have h := kc (w6.alloc o) C n c
    rw [size_one] at h
    exact h
  go_wp2_with fail
  obtain ⟨w7, hw7⟩ : ∃ w7, w7 = ((w6.alloc o4).alloc o5).alloc (.cells #[.slice (some ⟨w6.heap.size, 0, none⟩) 4 4, .slice (some ⟨w6.heap.size + 1, 0, none⟩) 5 5] 22) := ⟨_, rfl⟩
  have HB67 := Lib.hid (show Below w6.heap.size w6 w7 by rw [hw7]; exact (((Below.refl _ _).alloc (Nat.le_refl _) _).alloc (by simp) _).alloc (by simp; omega) _)
  have HPt := Lib.hid (show Parts A w7 (w6.heap.size + 1 + 1) two4 by rw [hw7]; exact two_parts w6 A HA6.out.lt)
  unfold o4 o5 at hw7
  rw [← hw7]
  have hwf := hw7
  clear hw7 hwf
  have HB7 := Lib.hid (HB6.out.trans (HB67.out.mono HB6.out.size))
  have HA7 := Lib.hid (HA6.out.below HB67.out)
  have HI7 := Lib.hid (HI6.out.below (HB67.out.mono (Nat.le_of_lt HA6.out.lt)))
  have HC7 := Lib.hid ((HB67.out.cell (p := ⟨P5, 0, none⟩) (Nat.lt_trans HC6.out.2 HA6.out.lt)).trans HC6.out.1)
  refine (add_any w7 A _ 0#32 0 two4 HA7.out HPt.out (by decide) (by decide) (HG.out.below HB7.out) (by have := HG.out.big; have := HA.out; have := HB5.out.size; omega)).mono ?_
  rintro e w8 ⟨rfl, ha8, hk8⟩
  rw [ext_two4] at ha8
  have HA8 := Lib.hid (show AddAt w8 A true (sumL nineL) 9 from ha8)
  have HI8 := Lib.hid (HI7.out.keepA hk8 (Nat.le_of_lt HA7.out.lt))
  have HB8 := Lib.hid (HB7.out.grown hk8 HB7.out.size (fun k hk => by simp at hk; have := HA.out; have := HB5.out.size; omega))
  have hc8 : w8.cell? ⟨P5, 0, none⟩ = some (.int .u8 7) := (World.cell?_of_block (hk8.block P5 (by have := HC6.out.2; have := HA7.out.lt; omega) (fun e => by simp at e; have := HC6.out.2; omega))).trans HC7.out
  clear ha8 hk8
  have HI9 := Lib.hid (show BytIn (w8.heap.size + 1) (w8.alloc (.cells #[.int .u8 49, .int .u8 50, .int .u8 51, .int .u8 52, .int .u8 53, .int .u8 54, .int .u8 55, .int .u8 56, .int .u8 57] 5 (9, 10))) (.slice (some ⟨w8.heap.size, 0, none⟩) 9 9) nineL from BytIn.litF w8 _ _ 9 (9, 10) rfl rfl)
  go_wp2_with fail
  obtain ⟨w9, hw9⟩ : ∃ w9, w9 = w8.alloc (.cells #[.int .u8 49, .int .u8 50, .int .u8 51, .int .u8 52, .int .u8 53, .int .u8 54, .int .u8 55, .int .u8 56, .int .u8 57] 5 (9, 10)) := ⟨_, rfl⟩
  have hb9 : Below w8.heap.size w8 w9 := by rw [hw9]; exact (Below.refl _ _).alloc (Nat.le_refl _) _
  have HB9 := Lib.hid (HB8.out.trans (hb9.mono HB8.out.size))
  have HA9 := Lib.hid (HA8.out.below hb9)
  have hs9 : w9.heap.size = w8.heap.size + 1 := by rw [hw9]; exact size_one _ _
  rw [← hw9, ← hs9] at HI9
  rw [← hw9]
  clear hw9
  have hc9 : w9.cell? ⟨P5, 0, none⟩ = some (.int .u8 7) := (hb9.cell (p := ⟨P5, 0, none⟩) (by have := HC6.out.2; have := HA8.out.lt; show P5 < _; omega)).trans hc8
  have r2 := run_str w9 A v2 [97, 98] (HI8.out.below (hb9.mono (Nat.le_of_lt HA8.out.lt)))
  have hsum := sum_any _ nineL w9 HI9.out (by decide) (HG.out.below HB9.out)
  have has := asum_any w9 A true (sumL nineL) 9 HA9.out
  have hal := alen_any w9 A true (sumL nineL) 9 HA9.out
  unfold regV at hsum has
  rw [rg_nine] at hsum has
  have HSum := Lib.hid hsum
  have HAs := Lib.hid has
  have HAl := Lib.hid hal
  clear hsum has hal hb9 hs9 hc8
  refine HSum.out.mono ?_
  rintro e w' ⟨rfl, rfl⟩
  go_wp2_with fail
  refine HAs.out.mono ?_
  rintro e w' ⟨rfl, rfl⟩
  go_wp2_with fail
  refine HAl.out.mono ?_
  rintro e w' ⟨rfl, rfl⟩
  go_wp2_with fail
  go_ret
  exact ⟨rfl, HB9.out⟩
end Go.Proofs.YteaeiejkdnbcnaaDoor

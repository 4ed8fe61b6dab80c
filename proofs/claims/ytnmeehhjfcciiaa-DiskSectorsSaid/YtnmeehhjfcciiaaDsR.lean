/-
  Disk.resized at one file of any size.
-/
import Derived.Test.YtnmeehhjfcciiaaDsQ
namespace Go.Proofs.Ytnmeehhjfcciiaa
open Go Go.RowKit Go.Maps Go.WideMaps

/-- A round of resized, where the size is fixed. -/
structure RzE (w : World) (F r nf g x : Nat) (left : Lit → Bool) (cnt : Nat) (v : Value) (wr : World) : Prop where
  rg : wr.ranges Try.prog 3 heldE F r nf (oneM (.int .i64 0) (.pointer (some ⟨g, 0, none⟩))) left cnt
  grow : Grow (fun _ => False) w wr
  one : OneR (.int .i64 0) (.pointer (some ⟨g, 0, none⟩)) left x 1
  own : wr.ownsRow w.heap.size 3 1 v 0 []
  shape : ∃ p c, v = .slice p 0 c
theorem rze_ne {w : World} {F r nf g x : Nat} {left : Lit → Bool} {cnt : Nat} {v : Value} {wr : World} (h : RzE w F r nf g x left cnt v wr) : v.ownBlock ≠ some r := by
  intro e
  obtain ⟨_, _, _, _, _, _, _, _, _, hr, _⟩ := h.rg
  rcases h.own.2 with ⟨rfl, -⟩ | ⟨gg, cap, cur, rfl, -, hc, -⟩
  · simp [Value.ownBlock] at e
  · obtain rfl : gg = r := by simpa [Value.ownBlock] using e
    rw [hc] at hr
    cases hr
theorem RzE.drew {w : World} {F r nf g x : Nat} {left : Lit → Bool} {cnt : Nat} {v : Value} {wr : World} (h : RzE w F r nf g x left cnt v wr) : RzE w F r nf g x left cnt v wr.drew :=
  ⟨h.rg, h.grow.drew, h.one, h.own.drew, h.shape⟩
set_option maxRecDepth 100000 in
set_option maxHeartbeats 2000000 in
theorem resized_ne {n0 : Nat} {w : World} {d F O D X g n cap : Nat} {room next fixed : Int} {nf no nd nx m : Nat} {oo dd xx : DataW Value} {chg wrn : Value} {p : Option Addr} {xs : List Value}
    (h : DkS n0 w d F O D X room next nf no nd nx m (oneM (.int .i64 0) (.pointer (some ⟨g, 0, none⟩))) oo dd xx chg xs) (hg : FileAt w g (.slice p n cap) fixed wrn) (hn : n ≤ 1000000) (hne : (n : Int) ≠ fixed) :
    Calls Try.prog 33 #[.pointer (some ⟨d, 0, none⟩)] w fun e w' => ∃ v, e = .returned v ∧ w'.ownsRow w.heap.size 3 1 v 1 [.int .i64 0] ∧ Grow (fun _ => False) w w' := by
  have HS := Lib.hid h
  have HFi := Lib.hid hg
  have hl : d < w.heap.size := h.on.lt
  obtain ⟨-, -, -, c3, -, -, -, -, -, -⟩ := h.on.cells
  obtain ⟨i0, hi, hz0, hz1, hz2⟩ := info_parts infoInt
  have hn1 : (n : Int) ≤ 1000000 := by omega
  have hne2 : ((n : Int) != fixed) = true := by simpa using hne
  have hne3 : ((n : Int) == fixed) = false := by simpa using hne
  clear h hg hn
  go_enter Try.func33, Try.ntmps33
  go_wp2_with (at_range; refine wpList_range_own _ rfl _ 59 rfl 3 66 keyI Try.underlying59 heldE F nf _ rfl (HS.out.files.alloc _) ?_; intro w0 hrg0 hg0 hs0)
  have HRg := Lib.hid hrg0
  have HG0 := Lib.hid (show Grow (fun _ => False) w w0 from ((Grow.refl _ w).alloc (.cells #[] 3)).trans (Grow.of_grown hg0 (fun k e _ => by cases e)))
  have HOw := Lib.hid (show w0.ownsRow w.heap.size 3 1 (.slice (some ⟨w.heap.size, 0, none⟩) 0 0) 0 [] from World.ownsRow.kept (World.ownsRow_made w #[] 0 (Nat.le_refl _) (by decide) rfl) hg0 (.inr (by simp [Value.ownBlock])))
  clear hrg0 hg0 c3
  have er : (w.alloc (.cells #[] 3)).heap.size = w.heap.size + 1 := by simp
  go_frame
  rw [er] at HRg ⊢
  clear er
  go_loopw [3] (fun v wr => ∃ (left : Lit → Bool) (cnt x : Nat), Hid (RzR w F (w.heap.size + 1) nf g x left cnt v wr)) (fun _ wr => wr.rangeLeft F (w.heap.size + 1))
  case atStart => exact ⟨_, _, 0, Lib.hid ⟨HRg.out, HG0.out, .inl ⟨rfl, rfl⟩, HOw.out⟩⟩
  case round =>
    obtain ⟨left, cnt, x, hJ⟩ := hrel
    have hrg := Lib.hid hJ.out.rg
    go_wp2_with (at_next; refine wpList_next_ranges _ rfl _ rfl 3 keyI heldE (Value.int .i64) (fun v : Value => v) (fun key kl hk => by obtain ⟨y, e1, -⟩ := Maps.keyOf_int_inv Try.underlying3 hk; exact ⟨y, e1⟩) (fun v y _ => ⟨v, rfl⟩) F (w.heap.size + 1) nf _ _ _ rfl hrg.out ?_ ?_)
    · intro _ hl0
      have hx := oneR_end hJ.out.one (sym_int .i64 0) hl0
      subst hx
      obtain ⟨gg, cap1, hv1, -⟩ := World.ownsRow.form hJ.out.own (by omega)
      clear hl0
      have HOw1 := Lib.hid hJ.out.own
      have HGr1 := Lib.hid hJ.out.grow
      clear hrg hJ
      subst hv1
      go_wp2_with fail
      refine (sort_one _ _ _).mono ?_
      rintro e w1 ⟨rfl, rfl⟩
      go_wp2_with fail
      go_ret
      exact ⟨_, rfl, HOw1.out, HGr1.out⟩
    · intro kx c kl yd yp w1 cnt1 hkey hlk hv hat hrg1 hlt hg1 hs1 hen
      have hkk := oneR_key hJ.out.one hlk
      obtain rfl := int_key Try.underlying3 hkey hkk
      obtain ⟨rfl, rfl, hO⟩ := oneR_step hJ.out.one hlk hv hat (sym_int2 .i64 _ kl)
      have HO := Lib.hid hO
      have HRg1 := Lib.hid hrg1
      have HG1 := Lib.hid (hJ.out.grow.grownNew hg1 (by simp))
      have HOw1 := Lib.hid (hJ.out.own.kept hg1 (.inr (rz_ne hJ.out)))
      have HLt := Lib.hid hlt
      obtain ⟨b0, b1, -⟩ := (HFi.out.grow HG1.out (fun e => e)).cells
      have hlg : g < w1.heap.size := (Array.getElem?_eq_some_iff.1 (HFi.out.grow HG1.out (fun e => e))).1
      have o1 : 0 + 1 ≤ maxLen := by decide
      have o3 : w.heap.size ≤ (w1.drew.alloc (.cells #[.int .i64 0] 3)).heap.size := by have := HG1.out.size; simp; exact Nat.le_succ_of_le this
      clear hkey hlk hv hat hrg1 hlt hg1 hs1 hO hkk
      go_wp2_with fail
      go_region_held3 (fun W => W.cell? ⟨g, 0, none⟩ = some (.slice p n cap) ∧ W.cell? ⟨g, 1, none⟩ = some (.int .i64 fixed)) (exact ⟨b0, b1⟩) (fail)
      go_wp2_with (at_builtin; refine wpList_append_own _ rfl (.tmp 27) (.tmp 29) 67 rfl w.heap.size 3 i0 (.int .i64 0) 1 8 Try.underlying67 hi hz0 hz1 hz2 rfl (by decide) _ _ _ rfl (HOw1.out.drew.alloc _) ⟨w1.heap.size, 0, none⟩ 1 1 [.int .i64 0] rfl rfl (lit_cells w1.drew _ _) (one_cells rfl) o1 (by decide) o3 ?_; intro v5 w5 how5 hgr5 hn5)
      have HEnd := Lib.hid (rz_step hJ.out HRg1.out HG1.out HO.out how5 hgr5 HS.out.files.lt)
      clear how5 hgr5
      first
        | (refine ⟨⟨_, cnt1, 1, HEnd⟩, ?_⟩
           rw [HEnd.out.rg.left_eq, hrg.out.left_eq]
           exact HLt.out)
        | (go_roundw
           case rel => exact ⟨_, cnt1, 1, HEnd⟩
           case measure => rw [HEnd.out.rg.left_eq, hrg.out.left_eq]; exact HLt.out)
set_option maxRecDepth 100000 in
set_option maxHeartbeats 2000000 in
theorem resized_eq {n0 : Nat} {w : World} {d F O D X g n cap : Nat} {room next : Int} {nf no nd nx m : Nat} {oo dd xx : DataW Value} {chg wrn : Value} {p : Option Addr} {xs : List Value}
    (h : DkS n0 w d F O D X room next nf no nd nx m (oneM (.int .i64 0) (.pointer (some ⟨g, 0, none⟩))) oo dd xx chg xs) (hg : FileAt w g (.slice p n cap) (n : Int) wrn) (hn : n ≤ 1000000) :
    Calls Try.prog 33 #[.pointer (some ⟨d, 0, none⟩)] w fun e w' => ∃ v, e = .returned v ∧ w'.ownsRow w.heap.size 3 1 v 0 [] ∧ (∃ p c, v = .slice p 0 c) ∧ Grow (fun _ => False) w w' := by
  have HS := Lib.hid h
  have HFi := Lib.hid hg
  have hl : d < w.heap.size := h.on.lt
  obtain ⟨-, -, -, c3, -, -, -, -, -, -⟩ := h.on.cells
  obtain ⟨i0, hi, hz0, hz1, hz2⟩ := info_parts infoInt
  have hn1 : (n : Int) ≤ 1000000 := by omega
  clear h hg hn
  go_enter Try.func33, Try.ntmps33
  go_wp2_with (at_range; refine wpList_range_own _ rfl _ 59 rfl 3 66 keyI Try.underlying59 heldE F nf _ rfl (HS.out.files.alloc _) ?_; intro w0 hrg0 hg0 hs0)
  have HRg := Lib.hid hrg0
  have HG0 := Lib.hid (show Grow (fun _ => False) w w0 from ((Grow.refl _ w).alloc (.cells #[] 3)).trans (Grow.of_grown hg0 (fun k e _ => by cases e)))
  have HOw := Lib.hid (show w0.ownsRow w.heap.size 3 1 (.slice (some ⟨w.heap.size, 0, none⟩) 0 0) 0 [] from World.ownsRow.kept (World.ownsRow_made w #[] 0 (Nat.le_refl _) (by decide) rfl) hg0 (.inr (by simp [Value.ownBlock])))
  clear hrg0 hg0 c3
  have er : (w.alloc (.cells #[] 3)).heap.size = w.heap.size + 1 := by simp
  go_frame
  rw [er] at HRg ⊢
  clear er
  go_loopw [3] (fun v wr => ∃ (left : Lit → Bool) (cnt x : Nat), Hid (RzE w F (w.heap.size + 1) nf g x left cnt v wr)) (fun _ wr => wr.rangeLeft F (w.heap.size + 1))
  case atStart => exact ⟨_, _, 0, Lib.hid ⟨HRg.out, HG0.out, .inl ⟨rfl, rfl⟩, HOw.out, ⟨_, _, rfl⟩⟩⟩
  case round =>
    obtain ⟨left, cnt, x, hJ⟩ := hrel
    have hrg := Lib.hid hJ.out.rg
    go_wp2_with (at_next; refine wpList_next_ranges _ rfl _ rfl 3 keyI heldE (Value.int .i64) (fun v : Value => v) (fun key kl hk => by obtain ⟨y, e1, -⟩ := Maps.keyOf_int_inv Try.underlying3 hk; exact ⟨y, e1⟩) (fun v y _ => ⟨v, rfl⟩) F (w.heap.size + 1) nf _ _ _ rfl hrg.out ?_ ?_)
    · intro _ hl0
      have hx := oneR_end hJ.out.one (sym_int .i64 0) hl0
      subst hx
      obtain ⟨pp, cap1, hv1⟩ := hJ.out.shape
      clear hl0
      have HOw1 := Lib.hid hJ.out.own
      have HGr1 := Lib.hid hJ.out.grow
      clear hrg hJ
      subst hv1
      go_wp2_with fail
      refine (sortI_none _ _ _).mono ?_
      rintro e w1 ⟨rfl, rfl⟩
      go_wp2_with fail
      go_ret
      exact ⟨_, rfl, HOw1.out, ⟨_, _, rfl⟩, HGr1.out⟩
    · intro kx c kl yd yp w1 cnt1 hkey hlk hv hat hrg1 hlt hg1 hs1 hen
      have hkk := oneR_key hJ.out.one hlk
      obtain rfl := int_key Try.underlying3 hkey hkk
      obtain ⟨rfl, rfl, hO⟩ := oneR_step hJ.out.one hlk hv hat (sym_int2 .i64 _ kl)
      have HO := Lib.hid hO
      have HRg1 := Lib.hid hrg1
      have HG1 := Lib.hid (hJ.out.grow.grownNew hg1 (by simp))
      have HEnd := Lib.hid (show RzE w F (w.heap.size + 1) nf g 1 (fun z => left z && !z.sameKey kl) cnt1 _ w1 from ⟨hrg1, HG1.out, hO, hJ.out.own.kept hg1 (.inr (rze_ne hJ.out)), hJ.out.shape⟩)
      have HLt := Lib.hid hlt
      obtain ⟨b0, b1, -⟩ := (HFi.out.grow HG1.out (fun e => e)).cells
      have hlg : g < w1.heap.size := (Array.getElem?_eq_some_iff.1 (HFi.out.grow HG1.out (fun e => e))).1
      clear hkey hlk hv hat hrg1 hlt hg1 hs1 hO hkk
      go_wp2_with fail
      go_region_held3 (fun W => W.cell? ⟨g, 0, none⟩ = some (.slice p n cap) ∧ W.cell? ⟨g, 1, none⟩ = some (.int .i64 (n : Int))) (exact ⟨b0, b1⟩) (fail)
      have HEnd2 := Lib.hid (HEnd.out.drew)
      go_wp2_with fail
      first
        | (refine ⟨⟨_, cnt1, 1, HEnd2⟩, ?_⟩
           rw [HEnd2.out.rg.left_eq, hrg.out.left_eq]
           exact HLt.out)
        | (go_roundw
           case rel => exact ⟨_, cnt1, 1, HEnd2⟩
           case measure => rw [HEnd2.out.rg.left_eq, hrg.out.left_eq]; exact HLt.out)
end Go.Proofs.Ytnmeehhjfcciiaa

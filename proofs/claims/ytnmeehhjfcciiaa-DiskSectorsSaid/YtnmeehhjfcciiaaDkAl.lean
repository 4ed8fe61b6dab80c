/-
  alive: the document's example of a loss of power.
-/
import Derived.Test.YtnmeehhjfcciiaaDkLo
namespace Go.Proofs.Ytnmeehhjfcciiaa
open Go Go.RowKit Go.Maps Go.WideMaps

theorem newDk_S {w w1 : World} (h : NewDk w w1 9) : DkS w.heap.size w1 (w.heap.size + 4) w.heap.size (w.heap.size + 1) (w.heap.size + 2) (w.heap.size + 3) 9 0 0 0 0 0 0 (.map []) (.map []) (.map []) (.map []) (.slice none 0 0) [] :=
  ⟨h.disk, h.files, h.olds, h.dir, h.fixed, World.ownsRow_nil _ _ _ _, by omega, fun k hk => (by cases hk), by omega⟩
/-- So many bytes are 'x'. -/
def fillX (k : Nat) : List Value := List.replicate k (.int .u8 120) ++ List.replicate (100 - k) (.int .u8 0)
theorem fillX_len {k : Nat} (h : k ≤ 100) : (fillX k).length = 100 := by unfold fillX; simp; omega
theorem fillX_set {k : Nat} (h : k < 100) : (fillX k).set k (.int .u8 120) = fillX (k + 1) := by
  unfold fillX
  rw [List.set_append_right _ _ (by simp)]
  simp only [List.length_replicate, Nat.sub_self]
  rw [show 100 - k = (100 - (k + 1)) + 1 by omega, List.replicate_succ, List.set_cons_zero, List.replicate_succ', List.append_assoc]
  rfl
/-- The loop that fills the bytes. -/
structure FlR (w : World) (B k : Nat) (wr : World) : Prop where
  grow : Grow (fun b => b = B) w wr
  row : wr.heap[B]? = some (.cells (fillX k).toArray 5 (0, 0))
theorem FlR.step {w wr : World} {B k : Nat} (h : FlR w B k wr) (hk : k < 100) : FlR w B (k + 1) (wr.setCell ⟨B, k, none⟩ (.int .u8 120)) := by
  refine ⟨h.grow.setCell _ _ (fun _ => rfl), ?_⟩
  have h1 := Go.heap_setCell_same wr B k _ _ (.int .u8 120) h.row
  refine h1.trans ?_
  rw [← fillX_set hk]
  simp
theorem FlR.cell {w wr : World} {B k : Nat} (h : FlR w B k wr) (hk : k < 100) : ∃ v, wr.cell? ⟨B, k, none⟩ = some v := by
  rw [cell_of_row wr B k _ _ (0, 0) h.row]
  have := fillX_len (Nat.le_of_lt hk)
  exact ⟨(fillX k)[k], by simp [this, hk]⟩
theorem row_cap {w : World} {n0 gb n s cap : Nat} {e : TypeId} {ys : List Value} (h : w.ownsRow n0 e s (.slice (some ⟨gb, 0, none⟩) n cap) n ys) : n ≤ cap ∧ cap ≤ maxLen ∧ gb < w.heap.size := by
  have hl := h.lt gb (by simp [Value.ownBlock])
  rcases h.2 with ⟨e, -⟩ | ⟨g, cap', cur, e, -, -, h2, h3, -⟩
  · cases e
  · injection e with _ _ e
    subst e
    exact ⟨h2, h3, hl.2⟩
theorem read_back {w : World} {n0 g5 c5 : Nat} (h : w.ownsRow n0 5 1 (.slice (some ⟨g5, 0, none⟩) 40 c5) 40 ((ysE.drop 60).take 40)) : (convert 22 9 (.slice (some ⟨g5, 0, none⟩) 5 c5)).run Try.prog w = .ok (.string ⟨#[120, 120, 120, 120, 0]⟩) w ∧ w.cell? ⟨g5, 39, none⟩ = some (.int .u8 0) := by
  have hcs := World.ownsRow.cells h (g := g5) (by simp [Value.ownBlock])
  have add_is : ∀ j : Nat, (⟨g5, 0, none⟩ : Addr).add j = ⟨g5, j, none⟩ := fun j => by unfold Addr.add; split <;> simp_all
  refine ⟨?_, ?_⟩
  · refine run_convert_bytes_back (P := Try.prog) w 22 9 5 ⟨g5, 0, none⟩ c5 [120, 120, 120, 120, 0] Try.underlying22 Try.underlying5 Try.underlying9 (fun j hj => ?_)
    rcases j with _ | _ | _ | _ | _ | j
    · exact hcs 0 _ rfl
    · exact hcs 1 _ rfl
    · exact hcs 2 _ rfl
    · exact hcs 3 _ rfl
    · exact hcs 4 _ rfl
    · exact absurd hj (by simp)
  · rw [← add_is]
    exact hcs 39 _ rfl
set_option maxRecDepth 100000 in
set_option maxHeartbeats 4000000 in
theorem alive_true (w : World) : Calls Try.prog 18 #[] w fun e w' => e = .returned (.bool true) ∧ Below w.heap.size w w' := by
  have hmk : ∀ W : World, (Instr.makeSlice 22 (.int .i64 100) (.int .i64 100)).run Try.prog W = .ok (.slice (some ⟨W.heap.size, 0, none⟩) 100 100) (W.alloc (.cells (fillX 0).toArray 5)) := fun _ => by kernel_rfl
  go_enter Try.func18, Try.ntmps18
  go_wp2_with fail
  refine (new_any w 9 (by decide) (by decide)).mono ?_
  rintro e w1 ⟨rfl, hn⟩
  have HS1 := Lib.hid (newDk_S hn)
  have HB1 := Lib.hid hn.below
  have hs1 := hn.size
  clear hn
  go_wp2_with fail
  have HS2 := Lib.hid (HS1.out.same ((Grow.refl _ w1).alloc (.cells (fillX 0).toArray 5)))
  have HB2 := Lib.hid (HB1.out.trans ((below_new w1 (.cells (fillX 0).toArray 5)).mono HB1.out.size))
  have HF2 := Lib.hid (heap_alloc_new w1 (.cells (fillX 0).toArray 5))
  clear hmk HS1 HB1
  generalize w1.alloc (.cells (fillX 0).toArray 5) = w2 at *
  rw [hs1] at HF2
  clear hs1
  obtain ⟨B, HBn⟩ : ∃ B, Hid (w.heap.size + 5 = B) := ⟨_, Lib.hid rfl⟩
  rw [HBn.out] at HF2 ⊢
  try go_frame
  go_loopw [4] (fun i wr => ∃ k : Nat, k ≤ 100 ∧ i = .int .i64 k ∧ Hid (FlR w2 B k wr)) (fun i _ => 100 - (intOf i).toNat)
  case atStart => exact ⟨0, by omega, rfl, Lib.hid ⟨Grow.refl _ _, HF2.out⟩⟩
  case round =>
    obtain ⟨k, hk, rfl, hJ⟩ := hrel
    by_cases hlt : k < 100
    case pos =>
      have hlt' : (k : Int) < 100 := by omega
      have h0 : (0 : Int) ≤ (k : Int) := by omega
      obtain ⟨v, hc⟩ := hJ.out.cell hlt
      have hf := frozen_of_row wr B k _ _ hJ.out.row
      have hB := (Array.getElem?_eq_some_iff.1 hJ.out.row).1
      have HN := Lib.hid (hJ.out.step hlt)
      go_wp2_with fail
      try go_frame
      go_roundw
      case rel => exact ⟨k + 1, by omega, by simp, HN⟩
      case measure => simp only [intOf]; omega
    obtain rfl : k = 100 := by omega
    have HX := Lib.hid (show wr.heap[B]? = some (.cells xs100.toArray 5 (0, 0)) from hJ.out.row)
    have HG3 := Lib.hid hJ.out.grow
    clear hJ
    have HS3 := Lib.hid (HS2.out.grow HG3.out (by have := HBn.out; omega) (by have := HBn.out; omega) (by have := HBn.out; omega) (by have := HBn.out; omega) (by have := HBn.out; omega) (fun k hk => by cases hk))
    have HB3 := Lib.hid (show Below w.heap.size w wr from HB2.out.trans (HG3.out.below HB2.out.size (fun k e => by have := HBn.out; omega)))
    clear HS2 HB2 HG3 HF2
    have HCr := Lib.hid (create_any ⟨#[97]⟩ HS3.out (by decide) (by decide) (by omega) (by omega) rfl rfl (by decide))
    go_wp2_with fail
    refine HCr.out.mono ?_
    rintro e w4 ⟨rfl, chg, hS4, hF4, hg4⟩
    obtain ⟨g, HGe⟩ : ∃ g, Hid (g = wr.heap.size) := ⟨_, Lib.hid rfl⟩
    rw [← HGe.out] at hS4 hF4
    have hown := hS4.own
    obtain ⟨gc, cc, rfl, -⟩ := World.ownsRow.form hown (by decide)
    have hgc : gc ≠ g := by
      rintro rfl
      obtain ⟨-, cur, hc⟩ := own_blockD hown gc rfl
      rw [hF4] at hc
      injection hc with hc
      injection hc with _ hc _
      exact absurd hc (by decide)
    have HS4 := Lib.hid (show DkS w.heap.size w4 (w.heap.size + 4) w.heap.size (w.heap.size + 1) (w.heap.size + 2) (w.heap.size + 3) 9 1 1 0 1 0 1 (oneM (.int .i64 0) (.pointer (some ⟨g, 0, none⟩))) (.map []) (oneM (.string [97]) (.int .i64 0)) (.map []) (.slice (some ⟨gc, 0, none⟩) 1 cc) [.string ⟨#[]⟩, .string ⟨#[97]⟩, .int .i64 0] from hS4)
    have HF4 := Lib.hid (show FileAt w4 g (.slice none 0 0) 0 (.slice none 0 0) from hF4)
    have HN := Lib.hid (show w.heap.size + 5 = B ∧ B < g from ⟨HBn.out, by rw [HGe.out]; exact (Array.getElem?_eq_some_iff.1 HX.out).1⟩)
    have HX4 := Lib.hid ((hg4.block B (Array.getElem?_eq_some_iff.1 HX.out).1 (by rintro (e | e | e | e) <;> first | (have := HN.out; omega) | cases e)).trans HX.out)
    have HB4 := Lib.hid (HB3.out.trans (hg4.below HB3.out.size (by rintro k (e | e | e | e) <;> first | omega | cases e)))
    have HGc := Lib.hid hgc
    clear hS4 hF4 hg4 hown hgc HS3 HB3 HX HCr HGe hk hlt
    have HW := Lib.hid (write_new HS4.out HF4.out (by have := HN.out; have := HGc.out; simp [Value.ownBlock]; omega) (by decide) (by decide) HX4.out (by have := HN.out; omega))
    go_wp2_with fail
    refine HW.out.mono ?_
    rintro e w5 ⟨rfl, hS5, hg5, gg, cap, wrn, hF5, hY5⟩
    have HS5 := Lib.hid hS5
    have HF5 := Lib.hid hF5
    have HY5 := Lib.hid hY5
    have HB5 := Lib.hid (HB4.out.trans (hg5.below HB4.out.size (by have := HN.out; rintro k (e | e) <;> omega)))
    clear hS5 hF5 hY5 hg5 HS4 HF4 HX4 HB4 HW HGc
    go_wp2_with fail
    refine (loose_one HS5.out HF5.out).mono ?_
    rintro e w6 ⟨rfl, hg6⟩
    have hsz : Maps.size (OL 2) = 2 := by rw [ol2]; rfl
    have HS6 := Lib.hid (HS5.out.same hg6)
    have HF6 := Lib.hid (HF5.out.grow hg6 (fun e => e))
    have HY6 := Lib.hid (own_grow HY5.out hg6 (fun _ _ e => e))
    have HB6 := Lib.hid (HB5.out.trans (hg6.below HB5.out.size (fun k e => e.elim)))
    clear HS5 HF5 HY5 HB5 hg6
    go_wp2_with fail
    clear hsz
    have hd : ((w6.alloc (.cells #[.bool true] 4)).alloc (.cells #[.bool true] 4)).cell? ⟨w6.heap.size, 0, none⟩ = some (.bool true) := (World.cell?_alloc_lt _ _ _ (by simp)).trans ((World.cell?_alloc_new w6 _ _ 0).trans rfl)
    have hk : ((w6.alloc (.cells #[.bool true] 4)).alloc (.cells #[.bool true] 4)).cell? ⟨w6.heap.size + 1, 0, none⟩ = some (.bool true) := by
      have e : (w6.alloc (.cells #[.bool true] 4)).heap.size = w6.heap.size + 1 := by simp
      rw [← e]
      exact (World.cell?_alloc_new (w6.alloc (.cells #[.bool true] 4)) #[.bool true] 4 0).trans rfl
    have hl : ((w6.alloc (.cells #[.bool true] 4)).alloc (.cells #[.bool true] 4)).heap.size = w6.heap.size + 2 := by simp
    have hg8 : Grow (fun _ => False) w6 ((w6.alloc (.cells #[.bool true] 4)).alloc (.cells #[.bool true] 4)) := ((Grow.refl _ w6).alloc _).alloc _
    have HS8 := Lib.hid (HS6.out.same hg8)
    have HF8 := Lib.hid (HF6.out.grow hg8 (fun e => e))
    have HY8 := Lib.hid (own_grow HY6.out hg8 (fun _ _ e => e))
    have HB8 := Lib.hid (HB6.out.trans (hg8.below HB6.out.size (fun k e => e.elim)))
    clear hg8 HS6 HF6 HY6 HB6
    generalize (w6.alloc (.cells #[.bool true] 4)).alloc (.cells #[.bool true] 4) = w8 at *
    have HLo := Lib.hid (lose_one HS8.out (by decide) HF8.out HY8.out hd (by omega) hk (by omega))
    clear hd hk hl
    refine HLo.out.mono ?_
    rintro e w9 ⟨d2, F2, O2, D2, X2, g2, gb, cap2, nx2, next, rfl, hS9, hF9, hY9, hg9⟩
    have HB9 := Lib.hid (HB8.out.trans (hg9.below HB8.out.size (fun k e => e.elim)))
    have HR := Lib.hid (read_file hS9 hF9 hY9 (one_cells rfl))
    clear hS9 hF9 hY9 hg9 HS8 HF8 HY8 HB8 HLo
    go_wp2_with fail
    refine HR.out.mono ?_
    rintro e w10 ⟨g5, c5, rfl, hY10, hg10⟩
    have HB10 := Lib.hid (HB9.out.trans (hg10.below HB9.out.size (fun k e => e.elim)))
    have HY10 := Lib.hid hY10
    clear hY10 hg10 HB9 HR
    obtain ⟨hcv, c39⟩ := read_back HY10.out
    obtain ⟨h40, hmx, hg5⟩ := row_cap HY10.out
    have h5 : (5 : Int) ≤ (c5 : Int) := by omega
    have h40' : (40 : Int) ≤ (c5 : Int) := by omega
    clear hmx HY10
    go_wp2_with fail
    go_ret
    exact ⟨rfl, HB10.out⟩
end Go.Proofs.Ytnmeehhjfcciiaa

/-
  directory.files at one name; chosen.
-/
import Derived.Test.YtnmeehhjfcciiaaDkT
namespace Go.Proofs.Ytnmeehhjfcciiaa
open Go Go.RowKit Go.Maps Go.WideMaps

/-- The numbers of the files, behind x rounds. -/
def FM : Nat → DataW Value
  | 0 => .map []
  | _ + 1 => oneM (.int .i64 0) (.agg #[])
/-- What a round of files begins with. -/
structure FiR (w : World) (D r M nd x : Nat) (s : List UInt8) (left : Lit → Bool) (cnt : Nat) (wr : World) : Prop where
  rg : wr.ranges Try.prog 9 heldE D r nd (oneM (.string s) (.int .i64 0)) left cnt
  grow : Grow (fun _ => False) w wr
  one : OneR (.string s) (.int .i64 0) left x 1
  map : MapAt wr Try.prog 3 M x (FM x)
theorem fi_step {w wr w1 w5 : World} {D r M nd : Nat} {s : List UInt8} {left left' : Lit → Bool} {cnt cnt1 : Nat} (_ : FiR w D r M nd 0 s left cnt wr) (hr : w1.ranges Try.prog 9 heldE D r nd (oneM (.string s) (.int .i64 0)) left' cnt1) (hg : Grow (fun _ => False) w w1)
    (ho : OneR (.string s) (.int .i64 0) left' 1 1) (hm : MapAt w5 Try.prog 3 M (0 + 1) ((FM 0).put (.int .i64 0) (.held (.agg #[])))) (hgr : w1.grownBy w5 (some M)) (hM : w.heap.size ≤ M) (hD : D < w.heap.size) (hMr : M ≠ r) : FiR w D r M nd 1 s left' cnt1 w5 :=
  ⟨hr.kept hgr (fun e => by have := Option.some.inj e; omega) (fun e => hMr (Option.some.inj e).symm), hg.thenNew (T := fun k => k = M) (Grow.of_grown hgr (fun k e _ => (Option.some.inj e).symm)) (fun i hi e => by omega), ho, hm⟩
set_option maxRecDepth 100000 in
set_option maxHeartbeats 2000000 in
theorem files_one {w : World} {D nd : Nat} {s : List UInt8} (h : MapAt w Try.prog 9 D nd (oneM (.string s) (.int .i64 0))) :
    Calls Try.prog 37 #[.map (some D)] w fun e w' => e = .returned (.map (some w.heap.size)) ∧ MapAt w' Try.prog 3 w.heap.size 1 (oneM (.int .i64 0) (.agg #[])) ∧ Grow (fun _ => False) w w' := by
  have H := Lib.hid h
  have hmm := @run_makeMap Try.prog
  have hDl := Lib.hid (show D < w.heap.size from h.lt)
  clear h
  go_enter Try.func37, Try.ntmps37
  go_wp2_with (at_range; refine wpList_range_own _ rfl _ 62 rfl 9 3 keyS Try.underlying62 heldE D nd _ rfl (H.out.alloc _) ?_; intro w0 hrg0 hg0 hs0)
  have HRg := Lib.hid hrg0
  have HG0 := Lib.hid (show Grow (fun _ => False) w w0 from ((Grow.refl _ w).alloc (.map #[] 0)).trans (Grow.of_grown hg0 (fun k e _ => by cases e)))
  have HM0 := Lib.hid (show MapAt w0 Try.prog 3 w.heap.size 0 (FM 0) from (MapAt.made w Try.prog 3).kept hg0 (by simp))
  have er : (w.alloc (.map #[] 0)).heap.size = w.heap.size + 1 := by simp
  clear hrg0 hg0
  go_frame
  rw [er] at HRg ⊢
  clear er hmm
  go_loopw [5] (fun _ wr => ∃ (left : Lit → Bool) (cnt x : Nat), Hid (FiR w D (w.heap.size + 1) w.heap.size nd x s left cnt wr)) (fun _ wr => wr.rangeLeft D (w.heap.size + 1))
  case atStart => exact ⟨_, _, 0, Lib.hid ⟨HRg.out, HG0.out, .inl ⟨rfl, rfl⟩, HM0.out⟩⟩
  case round =>
    obtain ⟨left, cnt, x, hJ⟩ := hrel
    have hrg := Lib.hid hJ.out.rg
    go_wp2_with (at_next; refine wpList_next_ranges _ rfl _ rfl 9 keyS heldE Value.string (fun v : Value => v) (fun key kl hk => Maps.keyOf_string_inv Try.underlying9 hk) (fun v y _ => ⟨v, rfl⟩) D (w.heap.size + 1) nd _ _ _ rfl hrg.out ?_ ?_)
    · intro _ hl0
      have hx := oneR_end hJ.out.one (sym_str s) hl0
      subst hx
      clear hl0
      go_wp2_with fail
      go_ret
      exact ⟨rfl, hJ.out.map, hJ.out.grow⟩
    · intro kx c kl yd yp w1 cnt1 hkey hlk hv hat hrg1 hlt hg1 hs1 hen
      obtain ⟨rfl, rfl, hO⟩ := oneR_step hJ.out.one hlk hv hat (sym_str2 s kl)
      have HO := Lib.hid hO
      have HRg1 := Lib.hid hrg1
      have HG1 := Lib.hid (hJ.out.grow.grownNew hg1 (by omega))
      have HM1 := Lib.hid (hJ.out.map.kept hg1 (by simp))
      have HLt := Lib.hid hlt
      have ki0 := Lib.hid (keyOf_int_mk (P := Try.prog) Try.underlying3 (q := .i64) (a := 0) (by decide))
      clear hkey hlk hv hat hrg1 hlt hg1 hs1 hO
      go_wp2_with (at_mapUpdate; refine wpList_store_any _ rfl _ _ _ 86 rfl 3 103 keyI Try.underlying86 w.heap.size 0 (FM 0) rfl HM1.out (by decide) _ _ _ rfl rfl ki0.out ?_; intro w5 hm5 hg5; have HEnd := Lib.hid (fi_step hJ.out HRg1.out HG1.out HO.out hm5 hg5 (Nat.le_refl _) hDl.out (by omega)); clear hm5 hg5)
      go_frame
      go_roundw
      case rel => exact ⟨_, cnt1, 1, HEnd⟩
      case measure => rw [HEnd.out.rg.left_eq, hrg.out.left_eq]; exact HLt.out
set_option maxRecDepth 100000 in
theorem chosen_yes {w : World} {gk cc : Nat} (h : w.cell? ⟨gk, 0, none⟩ = some (.bool true)) : Says 40 #[.slice (some ⟨gk, 0, none⟩) 1 cc, .int .i64 0] w (.bool true) := by
  go_enter Try.func40, Try.ntmps40
  go_wp2_with fail
  go_ret
  exact ⟨rfl, rfl⟩
set_option maxRecDepth 100000 in
theorem chosen_no {w : World} {gk cc : Nat} : Says 40 #[.slice (some ⟨gk, 0, none⟩) 1 cc, .int .i64 1] w (.bool false) := by
  go_enter Try.func40, Try.ntmps40
  go_wp2_with fail
  go_ret
  exact ⟨rfl, rfl⟩
end Go.Proofs.Ytnmeehhjfcciiaa

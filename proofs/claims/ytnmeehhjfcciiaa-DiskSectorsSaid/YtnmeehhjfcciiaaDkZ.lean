/-
  Disk.sizesAfter at one file whose size is kept.
-/
import Derived.Test.YtnmeehhjfcciiaaDkJ
namespace Go.Proofs.Ytnmeehhjfcciiaa
open Go Go.RowKit Go.Maps Go.WideMaps

def SM : Nat → DataW Value
  | 0 => .map []
  | _ + 1 => oneM (.int .i64 0) (.int .i64 0)
/-- What a round of the first loop begins with. -/
structure SzR (w : World) (F r M nf g x : Nat) (left : Lit → Bool) (cnt : Nat) (wr : World) : Prop where
  rg : wr.ranges Try.prog 3 heldE F r nf (oneM (.int .i64 0) (.pointer (some ⟨g, 0, none⟩))) left cnt
  grow : Grow (fun _ => False) w wr
  one : OneR (.int .i64 0) (.pointer (some ⟨g, 0, none⟩)) left x 1
  map : MapAt wr Try.prog 3 M x (SM x)
theorem sz_step {w wr w1 w5 : World} {F r M nf g : Nat} {left left' : Lit → Bool} {cnt cnt1 : Nat} (_ : SzR w F r M nf g 0 left cnt wr) (hr : w1.ranges Try.prog 3 heldE F r nf (oneM (.int .i64 0) (.pointer (some ⟨g, 0, none⟩))) left' cnt1) (hg : Grow (fun _ => False) w w1)
    (ho : OneR (.int .i64 0) (.pointer (some ⟨g, 0, none⟩)) left' 1 1) (hm : MapAt w5 Try.prog 3 M (0 + 1) ((SM 0).put (.int .i64 0) (.held (.int .i64 0)))) (hgr : w1.grownBy w5 (some M)) (hM : w.heap.size ≤ M) (hF : F < w.heap.size) (hMr : M ≠ r) : SzR w F r M nf g 1 left' cnt1 w5 :=
  ⟨hr.kept hgr (fun e => by have := Option.some.inj e; omega) (fun e => hMr (Option.some.inj e).symm), hg.thenNew (T := fun k => k = M) (Grow.of_grown hgr (fun k e _ => (Option.some.inj e).symm)) (fun i hi e => by omega), ho, hm⟩
set_option maxRecDepth 100000 in
set_option maxHeartbeats 2000000 in
theorem sizes_one {n0 : Nat} {w : World} {d F O D X g cap gk kc : Nat} {room next : Int} {nf no nd nx m : Nat} {oo dd xx : DataW Value} {chg wrn : Value} {p : Option Addr} {xs : List Value}
    (h : DkS n0 w d F O D X room next nf no nd nx m (oneM (.int .i64 0) (.pointer (some ⟨g, 0, none⟩))) oo dd xx chg xs) (hg : FileAt w g (.slice p 100 cap) 0 wrn) (hk : w.cell? ⟨gk, 0, none⟩ = some (.bool true)) (hkl : gk < w.heap.size) :
    Calls Try.prog 36 #[.pointer (some ⟨d, 0, none⟩), .slice (some ⟨gk, 0, none⟩) 1 kc] w fun e w' => e = .returned (.map (some w.heap.size)) ∧ MapAt w' Try.prog 3 w.heap.size 2 (oneM (.int .i64 0) (.int .i64 100)) ∧ Grow (fun _ => False) w w' := by
  have HS := Lib.hid h
  have HFi := Lib.hid hg
  have HK := Lib.hid (And.intro hk hkl)
  have hmm := @run_makeMap Try.prog
  have hFl := Lib.hid (show F < w.heap.size from h.files.lt)
  have hl : d < w.heap.size := h.on.lt
  obtain ⟨-, -, -, c3, -, -, -, -, -, -⟩ := h.on.cells
  clear h hg hk hkl
  go_enter Try.func36, Try.ntmps36
  go_wp2_with (at_range; refine wpList_range_own _ rfl _ 59 rfl 3 66 keyI Try.underlying59 heldE F nf _ rfl (HS.out.files.alloc _) ?_; intro w0 hrg0 hg0 hs0)
  have HRg := Lib.hid hrg0
  have HG0 := Lib.hid (show Grow (fun _ => False) w w0 from ((Grow.refl _ w).alloc (.map #[] 0)).trans (Grow.of_grown hg0 (fun k e _ => by cases e)))
  have HM0 := Lib.hid (show MapAt w0 Try.prog 3 w.heap.size 0 (SM 0) from (MapAt.made w Try.prog 3).kept hg0 (by simp))
  have er : (w.alloc (.map #[] 0)).heap.size = w.heap.size + 1 := by simp
  clear hrg0 hg0 c3
  go_frame
  rw [er] at HRg ⊢
  clear er hmm
  go_loopw [6] (fun _ wr => ∃ (left : Lit → Bool) (cnt x : Nat), Hid (SzR w F (w.heap.size + 1) w.heap.size nf g x left cnt wr)) (fun _ wr => wr.rangeLeft F (w.heap.size + 1))
  case atStart => exact ⟨_, _, 0, Lib.hid ⟨HRg.out, HG0.out, .inl ⟨rfl, rfl⟩, HM0.out⟩⟩
  case round =>
    obtain ⟨left, cnt, x, hJ⟩ := hrel
    have hrg := Lib.hid hJ.out.rg
    go_wp2_with (at_next; refine wpList_next_ranges _ rfl _ rfl 3 keyI heldE (Value.int .i64) (fun v : Value => v) (fun key kl hk => by obtain ⟨y, e1, -⟩ := Maps.keyOf_int_inv Try.underlying3 hk; exact ⟨y, e1⟩) (fun v y _ => ⟨v, rfl⟩) F (w.heap.size + 1) nf _ _ _ rfl hrg.out ?_ ?_)
    · intro _ hl0
      have hx := oneR_end hJ.out.one (sym_int .i64 0) hl0
      subst hx
      have HM1 := Lib.hid hJ.out.map
      have HG1 := Lib.hid hJ.out.grow
      clear hl0 hrg hJ
      go_wp2_with fail
      refine (resized_one (HS.out.same HG1.out) (HFi.out.grow HG1.out (fun e => e))).mono ?_
      rintro e w1 ⟨v, rfl, how, hg1⟩
      obtain ⟨gg, cap1, rfl, -⟩ := World.ownsRow.form how (by decide)
      have c0 := World.ownsRow.cells how (g := gg) (by simp [Value.ownBlock]) 0 _ rfl
      rw [show (⟨gg, 0, none⟩ : Addr).add 0 = ⟨gg, 0, none⟩ by unfold Addr.add; split <;> simp_all] at c0
      have hgl := (how.lt gg (by simp [Value.ownBlock])).2
      have HG2 := Lib.hid (HG1.out.trans hg1)
      have HM2 := Lib.hid (HM1.out.grow hg1 (fun e => e))
      have HC0 := Lib.hid (And.intro c0 hgl)
      have HGn := Lib.hid (show gg ≠ w.heap.size from by have := (how.lt gg (by simp [Value.ownBlock])).1; have := HM1.out.lt; omega)
      clear how hg1 c0 hgl
      have ki0 := Lib.hid (keyOf_int_mk (P := Try.prog) Try.underlying3 (q := .i64) (a := 0) (by decide))
      go_wp2_with fail
      go_loopw [30] (fun i wr => ∃ k : Nat, k ≤ 1 ∧ i = .int .i64 k ∧ Hid (Grow (fun b => b = w.heap.size) w1 wr ∧ ((k = 0 ∧ MapAt wr Try.prog 3 w.heap.size 1 (SM 1)) ∨ (k = 1 ∧ MapAt wr Try.prog 3 w.heap.size 2 (oneM (.int .i64 0) (.int .i64 100)))))) (fun i _ => 1 - (intOf i).toNat)
      case atStart => exact ⟨0, by omega, rfl, Lib.hid ⟨Grow.refl _ _, .inl ⟨rfl, HM2.out⟩⟩⟩
      case round =>
        obtain ⟨k, hk, rfl, hJ⟩ := hrel
        have HGw := Lib.hid (HG2.out.thenNew hJ.out.1 (fun i hi e => by omega))
        by_cases hk0 : k = 0
        case neg =>
          obtain rfl : k = 1 := by omega
          have HE := Lib.hid (show MapAt wr Try.prog 3 w.heap.size 2 (oneM (.int .i64 0) (.int .i64 100)) from by
            rcases hJ.out.2 with ⟨h0, -⟩ | ⟨-, h1⟩
            · omega
            · exact h1)
          go_wp2_with fail
          go_ret
          exact ⟨rfl, HE.out, HGw.out⟩
        subst hk0
        have HM := Lib.hid (show MapAt wr Try.prog 3 w.heap.size 1 (SM 1) from by
          rcases hJ.out.2 with ⟨-, h1⟩ | ⟨h0, -⟩
          · exact h1
          · omega)
        have hgn : gg ≠ w.heap.size := HGn.out
        have c0 : wr.cell? ⟨gg, 0, none⟩ = some (.int .i64 0) := (World.cell?_of_block (hJ.out.1.block gg HC0.out.2 hgn)).trans HC0.out.1
        have HCh := Lib.hid (chosen_yes (cc := kc) ((World.cell?_of_block (HGw.out.block gk HK.out.2 (fun e => e))).trans HK.out.1))
        obtain ⟨-, -, -, c3, -, -, -, -, -, -⟩ := (HS.out.on.grow HGw.out (fun e => e)).cells
        obtain ⟨b0, -, -⟩ := (HFi.out.grow HGw.out (fun e => e)).cells
        have hlw : d < wr.heap.size := Nat.lt_of_lt_of_le hl HGw.out.size
        have hlg : g < wr.heap.size := (Array.getElem?_eq_some_iff.1 (HFi.out.grow HGw.out (fun e => e))).1
        have HFm := Lib.hid (HS.out.files.grow HGw.out (fun e => e))
        clear hgn
        go_wp2_with fail
        refine HCh.out.mono ?_
        rintro e w3 ⟨rfl, rfl⟩
        go_wp2_with (first
          | (at_lookup; refine wpList_lookup_any _ rfl _ _ 59 rfl 3 66 keyI Try.underlying59 (.pointer none) (.pointer (some ⟨g, 0, none⟩)) (zeroF _) F nf _ rfl HFm.out _ _ rfl ki0.out rfl ?_)
          | (at_mapUpdate; refine wpList_store_any _ rfl _ _ _ 84 rfl 3 3 keyI Try.underlying84 w.heap.size 1 (SM 1) rfl HM.out (by decide) _ _ _ rfl rfl ki0.out ?_; intro w5 hm5 hg5; have HEnd := Lib.hid (And.intro hm5 (hJ.out.1.trans (Grow.of_grown hg5 (fun k e _ => (Option.some.inj e).symm)))); clear hm5 hg5))
        go_roundw
        case rel => exact ⟨1, by omega, by go_num, Lib.hid ⟨HEnd.out.2, .inr ⟨rfl, HEnd.out.1⟩⟩⟩
        case measure => simp [intOf]
    · intro kx c kl yd yp w1 cnt1 hkey hlk hv hat hrg1 hlt hg1 hs1 hen
      have hkk := oneR_key hJ.out.one hlk
      obtain rfl := int_key Try.underlying3 hkey hkk
      obtain ⟨rfl, rfl, hO⟩ := oneR_step hJ.out.one hlk hv hat (sym_int2 .i64 _ kl)
      have HO := Lib.hid hO
      have HRg1 := Lib.hid hrg1
      have HG1 := Lib.hid (hJ.out.grow.grownNew hg1 (by omega))
      have HM1 := Lib.hid (hJ.out.map.kept hg1 (by simp))
      have HLt := Lib.hid hlt
      have ki0 := Lib.hid (keyOf_int_mk (P := Try.prog) Try.underlying3 (q := .i64) (a := 0) (by decide))
      obtain ⟨-, b1, -⟩ := (HFi.out.grow HG1.out (fun e => e)).cells
      have hlg : g < w1.heap.size := (Array.getElem?_eq_some_iff.1 (HFi.out.grow HG1.out (fun e => e))).1
      clear hkey hlk hv hat hrg1 hlt hg1 hs1 hO hkk
      go_wp2_with (at_mapUpdate; refine wpList_store_any _ rfl _ _ _ 84 rfl 3 3 keyI Try.underlying84 w.heap.size 0 (SM 0) rfl HM1.out (by decide) _ _ _ rfl rfl ki0.out ?_; intro w5 hm5 hg5; have HEnd := Lib.hid (sz_step hJ.out HRg1.out HG1.out HO.out hm5 hg5 (Nat.le_refl _) hFl.out (by omega)); clear hm5 hg5)
      go_frame
      go_roundw
      case rel => exact ⟨_, cnt1, 1, HEnd⟩
      case measure => rw [HEnd.out.rg.left_eq, hrg.out.left_eq]; exact HLt.out
end Go.Proofs.Ytnmeehhjfcciiaa

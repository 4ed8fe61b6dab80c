/-
  Disk.Size; Disk.Read of a whole file.
-/
import Derived.Test.YtnmeehhjfcciiaaDsG
namespace Go.Proofs.Ytnmeehhjfcciiaa
open Go Go.RowKit Go.Maps Go.WideMaps

set_option maxRecDepth 100000 in
theorem size_any {n0 nF : Nat} {w : World} {d F O D X g : Nat} {room next fixed : Int} {nf no nd nx m : Nat} {oo xx : DataW Value} {chg fv wrn : Value} {xs : List Value} {s : ByteArray} {L : List UInt8}
    (h : DkS n0 w d F O D X room next nf no nd nx m (oneM (.int .i64 0) (.pointer (some ⟨g, 0, none⟩))) oo (oneM (.string s.data.toList) (.int .i64 0)) xx chg xs) (hs : s.size ≤ 64) (hg : FileAt w g fv fixed wrn) (hf : OwnF nF w fv L) :
    Calls Try.prog 17 #[.pointer (some ⟨d, 0, none⟩), .string s] w fun e w' => e = .returned (.tuple #[.int .i64 (L.length : Int), .int .i64 0]) ∧ Grow (fun _ => False) w w' := by
  have HM := Lib.hid (made_yes h.on)
  have HF := Lib.hid (find_any s 0 (.pointer (some ⟨g, 0, none⟩)) h (by unfold maxLen; omega) (by decide) (oneM_at _ (sym_str _)) (by rw [oneM_has]; exact sym_str _) rfl)
  have HFi := Lib.hid hg
  obtain ⟨fp, fc, rfl⟩ := hf.shp
  clear h hs hg hf
  go_enter Try.func17, Try.ntmps17
  go_wp2_with fail
  refine HM.out.mono ?_
  rintro e w1 ⟨rfl, rfl⟩
  go_wp2_with fail
  refine HF.out.mono ?_
  rintro e w1 ⟨rfl, hg1⟩
  have HG1 := Lib.hid hg1
  obtain ⟨b0, -, -⟩ := (HFi.out.grow hg1 (fun e => e)).cells
  have hlg : g < w1.heap.size := (Array.getElem?_eq_some_iff.1 (HFi.out.grow hg1 (fun e => e))).1
  clear hg1 HM HF
  go_wp2_with fail
  go_ret2
  exact ⟨rfl, HG1.out⟩
theorem OwnF.full {n : Nat} {w : World} {v : Value} {l : List UInt8} (h : OwnF n w v l) : (l = [] ∧ v = .slice none 0 0) ∨ ∃ b c, v = .slice (some ⟨b, 0, none⟩) l.length c ∧ l.length ≤ c ∧ c ≤ 9223372036854775807 ∧ RdIn w.heap.size w (.slice (some ⟨b, 0, none⟩) l.length c) l := by
  have hr := h.read
  rcases h.form with h0 | ⟨b, c, rfl, -, -, h4, h5, -⟩
  · exact .inl h0
  · exact .inr ⟨b, c, rfl, h4, by unfold maxLen at h5; omega, hr⟩
set_option maxRecDepth 100000 in
set_option maxHeartbeats 2000000 in
theorem read_full {n0 nF : Nat} {w : World} {d F O D X g : Nat} {room next fixed : Int} {nf no nd nx m : Nat} {oo xx : DataW Value} {chg fv wrn : Value} {xs : List Value} {s : ByteArray} {L : List UInt8}
    (h : DkS n0 w d F O D X room next nf no nd nx m (oneM (.int .i64 0) (.pointer (some ⟨g, 0, none⟩))) oo (oneM (.string s.data.toList) (.int .i64 0)) xx chg xs) (hs : s.size ≤ 64) (hg : FileAt w g fv fixed wrn) (hf : OwnF nF w fv L) (hL : L.length ≤ 10000) :
    Calls Try.prog 16 #[.pointer (some ⟨d, 0, none⟩), .string s, .int .i64 0, .int .i64 (L.length : Int)] w fun e w' => ∃ v, e = .returned (.tuple #[v, .int .i64 0]) ∧ OwnF w.heap.size w' v L ∧ Grow (fun _ => False) w w' := by
  have HM := Lib.hid (made_yes h.on)
  have HF := Lib.hid (find_any s 0 (.pointer (some ⟨g, 0, none⟩)) h (by unfold maxLen; omega) (by decide) (oneM_at _ (sym_str _)) (by rw [oneM_has]; exact sym_str _) rfl)
  have HFi := Lib.hid hg
  have HFb := Lib.hid hf
  have HL := Lib.hid hL
  have z1 : (0 : Int) ≤ (L.length : Int) := by omega
  have z2 : (L.length : Int) ≤ 10000 := by omega
  clear h hs hg hf hL
  go_enter Try.func16, Try.ntmps16
  go_wp2_with fail
  refine HM.out.mono ?_
  rintro e w1 ⟨rfl, rfl⟩
  go_wp2_with fail
  refine HF.out.mono ?_
  rintro e w1 ⟨rfl, hg1⟩
  have HG1 := Lib.hid hg1
  obtain ⟨b0, -, -⟩ := (HFi.out.grow hg1 (fun e => e)).cells
  have hlg : g < w1.heap.size := (Array.getElem?_eq_some_iff.1 (HFi.out.grow hg1 (fun e => e))).1
  have HF1 := Lib.hid (HFb.out.grow hg1 (fun _ _ e => e))
  clear hg1 HM HF
  rcases HF1.out.full with ⟨hL0, hv⟩ | ⟨b, c, hv, hc1, hc2, hrd⟩
  · subst hL0 hv
    have HCl := Lib.hid (cloneB_any w1 (.slice none 0 0) [] (.inl ⟨rfl, .inl rfl⟩) (by decide))
    go_wp2_with fail
    refine HCl.out.mono ?_
    rintro e w2 ⟨v, rfl, how, hg2⟩
    have HEnd := Lib.hid (And.intro (how.base HG1.out.size) (HG1.out.trans hg2))
    clear how hg2
    go_wp2_with fail
    go_ret2
    exact ⟨v, rfl, HEnd.out.1, HEnd.out.2⟩
  · subst hv
    have HCl := Lib.hid (cloneB_any w1 _ L hrd (by have := HL.out; omega))
    have i1 : (L.length : Int) ≤ (c : Int) := by omega
    have i2 : (c : Int) ≤ 9223372036854775807 := by omega
    clear hrd
    go_wp2_with fail
    refine HCl.out.mono ?_
    rintro e w2 ⟨v, rfl, how, hg2⟩
    have HEnd := Lib.hid (And.intro (how.base HG1.out.size) (HG1.out.trans hg2))
    clear how hg2
    go_wp2_with fail
    go_ret2
    exact ⟨v, rfl, HEnd.out.1, HEnd.out.2⟩
end Go.Proofs.Ytnmeehhjfcciiaa

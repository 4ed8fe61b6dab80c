/-
  Disk.find, sectors.
-/
import Derived.Test.YtnmeehhjfcciiaaDkD
import Derived.Deep.QuietTactic
namespace Go.Proofs.Ytnmeehhjfcciiaa
open Go Go.RowKit Go.Maps Go.WideMaps

set_option maxRecDepth 100000 in
theorem sectors_any (w : World) (n : Nat) (h : n ≤ 4194304) : Says 27 #[.int .i64 (n : Int)] w (.int .i64 (((n + 63) / 64 : Nat) : Int)) := by
  have h' : (n : Int) ≤ 4194304 := by omega
  have h0 : (0 : Int) ≤ (n : Int) := by omega
  go_enter Try.func27, Try.ntmps27
  go_wp2_with fail
  go_ret
  refine ⟨?_, rfl⟩
  show Ending.returned (.int .i64 (((n : Int) + 64 - 1) / 64)) = _
  rw [show ((n : Int) + 64 - 1) / 64 = (((n + 63) / 64 : Nat) : Int) by omega]
set_option maxRecDepth 100000 in
/-- What find answers: a file that is there. -/
theorem find_any {n0 : Nat} {w : World} {d F O D X : Nat} {room next : Int} {nf no nd nx m : Nat} {ff oo dd xx : DataW Value} {chg : Value} {xs : List Value} (s : ByteArray) (i : Int) (p : Value)
    (h : DkS n0 w d F O D X room next nf no nd nx m ff oo dd xx chg xs) (hs : s.size ≤ maxLen) (hi : (Lit.int .i64 i).wf = true) (hd : dd.atKey (.string s.data.toList) (.held (.int .i64 0)) = .held (.int .i64 i)) (hh : Maps.has dd (.string s.data.toList) = true) (hf : ff.atKey (.int .i64 i) (.held (.pointer none)) = .held p) :
    Calls Try.prog 25 #[.pointer (some ⟨d, 0, none⟩), .string s] w fun e w' => e = .returned (.tuple #[.int .i64 i, p, .bool true]) ∧ Grow (fun _ => False) w w' := by
  have HS := Lib.hid h
  have ks := Lib.hid (keyOf_string_mk (P := Try.prog) Try.underlying9 hs)
  have ki := Lib.hid (keyOf_int_mk (P := Try.prog) Try.underlying3 hi)
  obtain ⟨v, ps, hrun, hu⟩ := World.ownsMap.lookup (w := w.drew) (show w.drew.ownsMap Try.prog 3 heldE F nf ff from h.files) keyI Try.underlying59 (zeroF _) (zd := .held (.pointer none)) (zp := []) rfl ki.out
  obtain rfl : v = p := by
    have := heldE_inv hu
    rw [hf] at this
    injection this with this _
    injection this with this
    exact this.symm
  have hl : d < w.heap.size := h.on.lt
  obtain ⟨-, -, -, c3, -, c5, -, -, -, -⟩ := h.on.cells
  have HD := Lib.hid hd
  have HH := Lib.hid hh
  clear h hs hi hd hh hf hu
  go_enter Try.func25, Try.ntmps25
  go_wp2_with (at_lookup; refine wpList_lookup_ok_any _ rfl _ _ 62 rfl 9 3 keyS Try.underlying62 (.int .i64 0) (.int .i64 i) (zeroI _) D nd dd rfl HS.out.dir _ _ rfl ks.out HD.out true HH.out ?_)
  go_region_held3 (fun W => W.cell? ⟨d, 3, none⟩ = some (.map (some F))) (exact c3) (fail)
  go_wp2_with fail
  go_ret3
  exact ⟨rfl, (Grow.refl _ w).drew⟩
end Go.Proofs.Ytnmeehhjfcciiaa

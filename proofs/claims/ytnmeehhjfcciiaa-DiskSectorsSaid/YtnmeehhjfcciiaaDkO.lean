/-
  Disk.Loose, where one file has a loose size.
-/
import Derived.Test.YtnmeehhjfcciiaaDkR
namespace Go.Proofs.Ytnmeehhjfcciiaa
open Go Go.RowKit Go.Maps Go.WideMaps

theorem len_map {w : World} {k e t : TypeId} {b n : Nat} {D : DataW Value} (h : MapAt w Try.prog k b n D) (ht : Try.prog.underlying t = some (.map k e)) (ty : TypeId) : (Builtin.len_ #[t] ty #[.map (some b)]).run Try.prog w = .ok (.int .i64 (Maps.size D)) w := World.ownsMap.len h ht ty
theorem lo_keep {n0 : Nat} {w w1 : World} {d F O D X : Nat} {room next : Int} {nf no nd nx m : Nat} {ff oo dd xx : DataW Value} {chg : Value} {xs : List Value} (h : DkS n0 w d F O D X room next nf no nd nx m ff oo dd xx chg xs) (hg : Grow (fun _ => False) w.drew w1) : w1.cell? ⟨d, 4, none⟩ = some (.map (some O)) ∧ w1.cell? ⟨d, 7, none⟩ = some chg := by
  obtain ⟨-, -, -, -, c4, -, -, c7, -, -⟩ := (h.same ((Grow.refl _ w).drew.trans hg)).on.cells
  exact ⟨c4, c7⟩
set_option maxRecDepth 100000 in
set_option maxHeartbeats 2000000 in
theorem loose_one {n0 : Nat} {w : World} {d F O D X g cap cc : Nat} {room next : Int} {nf no nd nx m : Nat} {oo dd xx : DataW Value} {wrn : Value} {p q : Option Addr} {xs : List Value}
    (h : DkS n0 w d F O D X room next nf no nd nx m (oneM (.int .i64 0) (.pointer (some ⟨g, 0, none⟩))) oo dd xx (.slice q m cc) xs) (hg : FileAt w g (.slice p 100 cap) 0 wrn) :
    Calls Try.prog 14 #[.pointer (some ⟨d, 0, none⟩)] w fun e w' => e = .returned (.tuple #[.int .i64 m, .int .i64 (Maps.size oo), .int .i64 1]) ∧ Grow (fun _ => False) w w' := by
  have HM := Lib.hid (made_yes h.on)
  have HR := Lib.hid (resized_one (show DkS n0 w.drew d F O D X room next nf no nd nx m _ oo dd xx (.slice q m cc) xs from h.same (Grow.refl _ w).drew) (show FileAt w.drew g (.slice p 100 cap) 0 wrn from hg))
  have HS := Lib.hid h
  have hl : d < w.heap.size := h.on.lt
  obtain ⟨-, -, -, -, c4, -, -, c7, -, -⟩ := h.on.cells
  have l0 := fun ty => len_map (w := w.drew) (show MapAt w.drew Try.prog 92 O no oo from h.olds) Try.underlying60 ty
  clear h hg
  go_enter Try.func14, Try.ntmps14
  go_wp2_with fail
  refine HM.out.mono ?_
  rintro e w1 ⟨rfl, rfl⟩
  go_wp2_with fail
  go_region_held3 (fun W => W.cell? ⟨d, 4, none⟩ = some (.map (some O)) ∧ W.cell? ⟨d, 7, none⟩ = some (.slice q m cc) ∧ ∀ ty, (Builtin.len_ #[60] ty #[.map (some O)]).run Try.prog W = .ok (.int .i64 (Maps.size oo)) W) (first | exact ⟨c4, c7, l0⟩ | exact ⟨(lo_keep HS.out hgr1).1, (lo_keep HS.out hgr1).2, l1⟩) ((go_at_call 33; refine HR.out.mono ?_; rintro e w1 ⟨v, rfl, how1, hgr1⟩; obtain ⟨gg, cap1, rfl, -⟩ := World.ownsRow.form how1 (by decide); have l1 := fun ty => len_map (w := w1) (HS.out.olds.grow ((Grow.refl _ w).drew.trans hgr1) (fun e => e)) Try.underlying60 ty; have hl1 : d < w1.heap.size := Nat.lt_of_lt_of_le hl hgr1.size))
  have HG := Lib.hid ((Grow.refl (fun _ => False) w).drew.trans hgr1)
  clear l0 l1 how1 hgr1 c4 c7
  go_wp2_with fail
  first | go_ret3 | skip
  exact ⟨rfl, HG.out⟩
end Go.Proofs.Ytnmeehhjfcciiaa

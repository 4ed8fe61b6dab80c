/-
  Disk.Write of 100 bytes into a new file.
-/
import Derived.Test.YtnmeehhjfcciiaaDkL
namespace Go.Proofs.Ytnmeehhjfcciiaa
open Go Go.RowKit Go.Maps Go.WideMaps

theorem DkS.grow {S : Nat → Prop} {n0 : Nat} {w w' : World} {d F O D X : Nat} {room next : Int} {nf no nd nx m : Nat} {ff oo dd xx : DataW Value} {chg : Value} {xs : List Value}
    (h : DkS n0 w d F O D X room next nf no nd nx m ff oo dd xx chg xs) (hg : Grow S w w') (hd : ¬ S d) (hF : ¬ S F) (hO : ¬ S O) (hD : ¬ S D) (hX : ¬ S X) (hc : ∀ k, chg.ownBlock = some k → ¬ S k) : DkS n0 w' d F O D X room next nf no nd nx m ff oo dd xx chg xs :=
  ⟨h.on.grow hg hd, h.files.grow hg hF, h.olds.grow hg hO, h.dir.grow hg hD, h.fixed.grow hg hX, own_grow h.own hg hc, h.apart, h.chgs, h.low⟩
theorem DkS.same {n0 : Nat} {w w' : World} {d F O D X : Nat} {room next : Int} {nf no nd nx m : Nat} {ff oo dd xx : DataW Value} {chg : Value} {xs : List Value}
    (h : DkS n0 w d F O D X room next nf no nd nx m ff oo dd xx chg xs) (hg : Grow (fun _ => False) w w') : DkS n0 w' d F O D X room next nf no nd nx m ff oo dd xx chg xs :=
  h.grow hg (fun e => e) (fun e => e) (fun e => e) (fun e => e) (fun e => e) (fun _ _ e => e)
theorem write_mid {n0 : Nat} {w w3 : World} {d F O D X g : Nat} {room next : Int} {nf no nd nx m : Nat} {ff dd xx : DataW Value} {chg wrn : Value} {xs : List Value}
    (h : DkS n0 w d F O D X room next nf no nd nx m ff (.map []) dd xx chg xs) (hl : LoR w.drew g O no 2 wrn w3) (ap : g ≠ d ∧ g ≠ F ∧ g ≠ O ∧ g ≠ D ∧ g ≠ X ∧ chg.ownBlock ≠ some g) : DkS n0 w3 d F O D X room next nf (no + 2) nd nx m ff (OL 2) dd xx chg xs := by
  obtain ⟨a1, a2, a3, a4, a5, a6, a7, a8, a9, a10⟩ := h.apart
  have hg : Grow (fun b => b = O ∨ b = g) w w3 := (Grow.refl _ w).drew.trans hl.grow
  refine ⟨h.on.grow hg ?_, h.files.grow hg ?_, hl.olds, h.dir.grow hg ?_, h.fixed.grow hg ?_, own_grow h.own hg ?_, h.apart, h.chgs, h.low⟩
  · rintro (e | e); exact a2 e; exact ap.1 e.symm
  · rintro (e | e); exact a5 e; exact ap.2.1 e.symm
  · rintro (e | e); exact a8 e.symm; exact ap.2.2.2.1 e.symm
  · rintro (e | e); exact a9 e.symm; exact ap.2.2.2.2.1 e.symm
  · intro k hk
    rintro (rfl | rfl)
    · exact (h.chgs _ hk).2.2.1 rfl
    · exact ap.2.2.2.2.2 hk
theorem run_copy_none {P : Program} (w : World) (t ty e : TypeId) (i : TypeInfo) (ht : P.underlying t = some (.slice e)) (hi : P.info? e = some i) (a : Addr) (n c : Nat) :
    (Builtin.copy_ #[t, t] ty #[.slice none 0 0, .slice (some a) n c]).run P w = .ok (.int .i64 0) w := by
  simp [Builtin.copy_, run_underlying ht, sizeOf, typeInfo, hi, Builtin.lenOf, Builtin.firstCells, loadCells, loadCellsFrom]
  rfl
theorem infoU8 : (Try.prog.info? 5).map (fun i => (i.zero, i.size, i.bytes)) = some (some (.int .u8 0), 1, 1) := by kernel_rfl
def xs100 : List Value := List.replicate 100 (.int .u8 120)
theorem wr_file {w3 w4 : World} {g : Nat} {wrn : Value} (h : FileAt w3 g (.slice none 0 0) 0 wrn) (hg : w3.drew.grownBy w4 (Value.slice none 0 0).ownBlock) : FileAt w4 g (.slice none 0 0) 0 wrn :=
  h.grow (((Grow.refl (fun _ => False) w3).drew).trans (Grow.of_grown hg (fun k e _ => by simp [Value.ownBlock] at e))) (fun e => e)
/-- What Write leaves behind. -/
def WrEnd (n0 : Nat) (w w' : World) (d F O D X g : Nat) (room next : Int) (nf no nd nx m : Nat) (xx : DataW Value) (chg : Value) (xs : List Value) : Prop :=
  DkS n0 w' d F O D X room next nf (no + 2) nd nx m (oneM (.int .i64 0) (.pointer (some ⟨g, 0, none⟩))) (OL 2) (oneM (.string [97]) (.int .i64 0)) xx chg xs ∧ Grow (fun b => b = O ∨ b = g) w w' ∧
    ∃ gg cap wrn, FileAt w' g (.slice (some ⟨gg, 0, none⟩) 100 cap) 0 wrn ∧ w'.ownsRow w.heap.size 5 1 (.slice (some ⟨gg, 0, none⟩) 100 cap) 100 xs100
theorem write_end {n0 : Nat} {w w3 w4 : World} {d F O D X g gg cap : Nat} {room next : Int} {nf no nd nx m : Nat} {xx : DataW Value} {chg wrn : Value} {xs : List Value}
    (h : DkS n0 w3 d F O D X room next nf (no + 2) nd nx m (oneM (.int .i64 0) (.pointer (some ⟨g, 0, none⟩))) (OL 2) (oneM (.string [97]) (.int .i64 0)) xx chg xs) (hf : FileAt w3 g (.slice none 0 0) 0 wrn) (hg : Grow (fun b => b = O ∨ b = g) w w3)
    (ap : g ≠ d ∧ g ≠ F ∧ g ≠ O ∧ g ≠ D ∧ g ≠ X ∧ chg.ownBlock ≠ some g) (how : w4.ownsRow w.heap.size 5 1 (.slice (some ⟨gg, 0, none⟩) (0 + 100) cap) (0 + 100) ([] ++ xs100)) (hgr : w3.drew.grownBy w4 (Value.slice none 0 0).ownBlock) (hgl : g < w.heap.size) :
    WrEnd n0 w (w4.setCell ⟨g, 0, none⟩ (.slice (some ⟨gg, 0, none⟩) (0 + 100) cap)) d F O D X g room next nf no nd nx m xx chg xs := by
  have g1 : Grow (fun _ => False) w3 w4 := ((Grow.refl _ w3).drew).trans (Grow.of_grown hgr (fun k e _ => by simp [Value.ownBlock] at e))
  have g2 : Grow (fun b => b = g) w3 (w4.setCell ⟨g, 0, none⟩ (.slice (some ⟨gg, 0, none⟩) (0 + 100) cap)) := (g1.mono (fun _ _ e => e.elim)).setCell _ _ (fun _ => rfl)
  have hf4 := hf.grow g1 (fun e => e)
  have hb := (how.lt gg (by simp [Value.ownBlock])).1
  refine ⟨h.grow g2 (fun e => ap.1 e.symm) (fun e => ap.2.1 e.symm) (fun e => ap.2.2.1 e.symm) (fun e => ap.2.2.2.1 e.symm) (fun e => ap.2.2.2.2.1 e.symm) (fun k hk e => ap.2.2.2.2.2 (by rw [← e]; exact hk)), hg.trans (g2.mono (fun _ _ e => .inr e)), gg, cap, wrn, ?_, ?_⟩
  · show (w4.setCell ⟨g, 0, none⟩ (.slice (some ⟨gg, 0, none⟩) (0 + 100) cap)).heap[g]? = _
    rw [Go.heap_setCell_same _ g _ _ _ _ hf4]
    rfl
  · exact World.ownsRow.kept (show w4.ownsRow w.heap.size 5 1 (.slice (some ⟨gg, 0, none⟩) 100 cap) 100 xs100 from how) (grown_setCell w4 ⟨g, 0, none⟩ _) (.inr (by simp [Value.ownBlock]; omega))
set_option maxRecDepth 100000 in
set_option maxHeartbeats 2000000 in
theorem write_new {n0 : Nat} {w : World} {d F O D X g B : Nat} {room next : Int} {nf no nd nx m : Nat} {xx : DataW Value} {chg : Value} {xs : List Value}
    (h : DkS n0 w d F O D X room next nf no nd nx m (oneM (.int .i64 0) (.pointer (some ⟨g, 0, none⟩))) (.map []) (oneM (.string [97]) (.int .i64 0)) xx chg xs) (hg : FileAt w g (.slice none 0 0) 0 (.slice none 0 0)) (ap : g ≠ d ∧ g ≠ F ∧ g ≠ O ∧ g ≠ D ∧ g ≠ X ∧ chg.ownBlock ≠ some g) (hno : no ≤ 1000000) (hroom : 2 ≤ room)
    (hB : w.heap[B]? = some (.cells xs100.toArray 5 (0, 0))) (hBO : B ≠ O ∧ B ≠ g) :
    Calls Try.prog 7 #[.pointer (some ⟨d, 0, none⟩), .string ⟨#[97]⟩, .int .i64 0, .slice (some ⟨B, 0, none⟩) 100 100] w fun e w' => e = .returned (.int .i64 0) ∧ WrEnd n0 w w' d F O D X g room next nf no nd nx m xx chg xs := by
  have HR := Lib.hid (ready_ok h.on)
  have HF := Lib.hid (find_any ⟨#[97]⟩ 0 (.pointer (some ⟨g, 0, none⟩)) h (by decide) (by decide) rfl rfl rfl)
  have HS := Lib.hid h
  have HFi := Lib.hid hg
  have HA := Lib.hid ap
  have HRo := Lib.hid hroom
  have HB := Lib.hid hB
  clear h hg ap hroom hB
  go_enter Try.func7, Try.ntmps7
  go_wp2_with fail
  refine HR.out.mono ?_
  rintro e w1 ⟨rfl, rfl⟩
  go_wp2_with fail
  refine HF.out.mono ?_
  rintro e w1 ⟨rfl, hg1⟩
  have G1 := Lib.hid hg1
  have HS1 := Lib.hid (HS.out.same hg1)
  have HF1 := Lib.hid (HFi.out.grow hg1 (fun e => e))
  clear hg1 HF HR
  obtain ⟨b0, -, -⟩ := HF1.out.cells
  go_wp2_with fail
  refine (used_one HS1.out rfl HF1.out (by omega)).mono ?_
  rintro e w2 ⟨rfl, hg2⟩
  have G2 := Lib.hid (G1.out.trans hg2)
  have HS2 := Lib.hid (HS1.out.same hg2)
  have HF2 := Lib.hid (HF1.out.grow hg2 (fun e => e))
  clear hg2 b0 HS1 HF1 G1
  obtain ⟨b0, -, -⟩ := HF2.out.cells
  obtain ⟨-, c1, -, -, -, -, -, -, -, -⟩ := HS2.out.on.cells
  have hl2 : d < w2.heap.size := HS2.out.on.lt
  have hlg2 : g < w2.heap.size := (Array.getElem?_eq_some_iff.1 HF2.out).1
  have hr2 : ¬ room < 2 := by have := HRo.out; omega
  go_wp2_with fail
  go_region_held3 (fun W => W.cell? ⟨g, 0, none⟩ = some (.slice none 0 0) ∧ W.cell? ⟨d, 1, none⟩ = some (.int .i64 room)) (exact ⟨b0, c1⟩) ((first
    | (go_at_call 27; refine (sectors_any _ 0 (by omega)).mono ?_; rintro e w' ⟨rfl, rfl⟩)
    | (go_at_call 27; refine (sectors_any _ 100 (by omega)).mono ?_; rintro e w' ⟨rfl, rfl⟩)))
  have hnd := HA.out.1
  have HLo := Lib.hid (loosen_new (show DkS n0 w2.drew d F O D X room next nf no nd nx m _ (.map []) _ xx chg xs from HS2.out.same (Grow.refl _ w2).drew) (show FileAt w2.drew g (.slice none 0 0) 0 (.slice none 0 0) from HF2.out) ⟨HA.out.1, HA.out.2.2.1⟩ hno)
  clear b0 c1 hl2 hlg2 hnd
  go_wp2_with fail
  · exfalso
    have e2 : IntKind.i64.wrap (IntKind.i64.wrap 0 + 2) = 2 := by decide
    have hbad : room < IntKind.i64.wrap (IntKind.i64.wrap 0 + 2) := by assumption
    rw [e2] at hbad
    omega
  refine HLo.out.mono ?_
  rintro e w3 ⟨rfl, wrn, hlo⟩
  have HL := Lib.hid hlo
  have HS3 := Lib.hid (write_mid HS2.out hlo HA.out)
  obtain ⟨b0, -, -⟩ := hlo.file.cells
  have hlg : g < w3.heap.size := (Array.getElem?_eq_some_iff.1 hlo.file).1
  have HB3 := Lib.hid (show w3.heap[B]? = some (.cells xs100.toArray 5 (0, 0)) from (hlo.grow.block B (by have := (Array.getElem?_eq_some_iff.1 HB.out).1; have := G2.out.size; show B < w2.heap.size; omega) (by rintro (e | e); exact hBO.1 e; exact hBO.2 e)).trans ((G2.out.block B (Array.getElem?_eq_some_iff.1 HB.out).1 (fun e => e)).trans HB.out))
  clear hlo HLo
  obtain ⟨i0, hi, hz0, hz1, hz2⟩ := info_parts infoU8
  have hcp := fun W : World => run_copy_none W 22 3 5 i0 Try.underlying22 hi ⟨B, 0, none⟩ 100 100
  go_wp2_with fail
  have HGr := Lib.hid (G2.out.mono (T := fun b => b = O ∨ b = g) (fun _ _ e => e.elim) |>.trans ((Grow.refl _ w2).drew.trans HL.out.grow))
  have o1 : 0 + 100 ≤ maxLen := by decide
  have o3 : w.heap.size ≤ w3.drew.heap.size := HGr.out.size
  go_region_law ((refine step_append_lies _ (by rfl) _ _ _ (by rfl) w.heap.size 5 i0 _ 1 1 Try.underlying22 hi hz0 hz1 hz2 rfl (by decide) _ _ _ (by rfl) (World.ownsRow_nil _ _ _ _) ⟨B, 0, none⟩ 100 100 xs100 (by rfl) (by rfl) (fun j u hu => World.news_of_block (show w3.drew.heap[B]? = _ from HB3.out) j u (by simpa using hu)) (one_cells rfl) (by decide) o1 (by decide) o3 w3.heap.size (by rfl) ?_; intro gg cap w4 how4 hgr4 hloc4 hlt4; have HF4 := Lib.hid (wr_file HL.out.file hgr4); obtain ⟨b04, -, -⟩ := HF4.out.cells; have f04 := frozen_of_row w4 g 0 _ _ HF4.out))
  have HEnd := Lib.hid (write_end HS3.out HL.out.file HGr.out HA.out how4 hgr4 (Array.getElem?_eq_some_iff.1 HFi.out).1)
  clear how4 hgr4 hloc4 hlt4 b04 f04 HF4 hcp
  go_wp2_with fail
  refine (done_ok HEnd.out.1.on).mono ?_
  rintro e w5 ⟨rfl, rfl⟩
  go_wp2_with fail
  go_ret
  exact ⟨rfl, HEnd.out⟩
end Go.Proofs.Ytnmeehhjfcciiaa

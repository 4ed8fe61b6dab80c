/-
  Disk.loosen at a new file: its first two sectors are kept as having no bytes.
  Disk.Write of 100 bytes into a new file.
  slices.Sort at one number.
-/
import Derived.Test.YtdjhfcopnhcljaaGreatDoorW32
namespace Go.Proofs.YtdjhfcopnhcljaaGreatDoor
section
open Go Go.RowKit Go.Maps Go.WideMaps

/-- The loose sectors of file 0 behind k rounds. -/
def OL : Nat → DataW Value
  | 0 => .map []
  | k + 1 => (OL k).put (spotK 0 k) (.held (.slice none 0 0))
theorem ol_has (k : Nat) (hk : k < 2) : Maps.has (OL k) (spotK 0 k) = false ∧ (OL k).atKey (spotK 0 k) (.held (.slice none 0 0)) = .held (.slice none 0 0) := by
  rcases k with _ | _ | k
  · exact ⟨rfl, rfl⟩
  · have h : ((spotK 0 0).sameKey (spotK 0 1)) = false := spot_apart
    constructor
    · simp [OL, DataW.put, DataW.insert, Maps.has]
      exact h
    · simp [OL, DataW.put, DataW.insert, DataW.atKey]
      rw [show (spotK 0 0).sameKey (spotK 0 1) = false from h]
      rfl
  · omega
theorem keyOf_spotk (k : Nat) (hk : k < 2) : keyOf Tryz.prog 225 (.agg #[.int .i64 0, .int .i64 (k : Int)]) = some (spotK 0 k) := by
  rcases k with _ | _ | k
  · exact keyOf_spot0
  · exact keyOf_spot1
  · omega
/-- What a round of loosen begins with. -/
structure LoR (w : World) (g O no k : Nat) (wrn : Value) (wr : World) : Prop where
  olds : MapAt wr Tryz.prog 225 O (no + k) (OL k)
  file : FileAt wr g (.slice none 0 0) 0 wrn
  own : wr.ownsRow w.heap.size 3 1 wrn k ((List.range k).map fun j : Nat => .int .i64 (j : Int))
  grow : Grow (fun b => b = O ∨ b = g) w wr
theorem LoR.alloc {w wr : World} {g O no k : Nat} {wrn : Value} (h : LoR w g O no k wrn wr) (o : Obj) : LoR w g O no k wrn (wr.alloc o) :=
  ⟨h.olds.alloc o, h.file.grow ((Grow.refl (fun _ => False) wr).alloc o) (fun e => e), h.own.alloc o, h.grow.alloc o⟩
theorem LoR.drew {w wr : World} {g O no k : Nat} {wrn : Value} (h : LoR w g O no k wrn wr) : LoR w g O no k wrn wr.drew := ⟨h.olds, h.file, h.own, h.grow.drew⟩
theorem lo_kept {W w3 : World} {d g O n : Nat} {u v x y : Value} (hg : W.drew.grownBy w3 (some O)) (e : W.cell? ⟨d, 4, none⟩ = some u) (b : W.cell? ⟨g, 0, none⟩ = some v) (s0 : W.cell? ⟨n, 0, none⟩ = some x) (s1 : W.cell? ⟨n, 1, none⟩ = some y) (hk : d ≠ O ∧ g ≠ O ∧ O < W.heap.size) (hn : O < n) :
    w3.cell? ⟨d, 4, none⟩ = some u ∧ w3.cell? ⟨g, 0, none⟩ = some v ∧ w3.cell? ⟨n, 0, none⟩ = some x ∧ w3.cell? ⟨n, 1, none⟩ = some y :=
  ⟨hg.cell e (by simpa using hk.1), hg.cell b (by simpa using hk.2.1), hg.cell s0 (by simp; omega), hg.cell s1 (by simp; omega)⟩
/-- Between a round's store into the map and its append. -/
def LoM (w : World) (g O no k : Nat) (wrn : Value) (w3 : World) : Prop := MapAt w3 Tryz.prog 225 O (no + k + 1) (OL (k + 1)) ∧ FileAt w3 g (.slice none 0 0) 0 wrn ∧ w3.ownsRow w.heap.size 3 1 wrn k ((List.range k).map fun j : Nat => .int .i64 (j : Int)) ∧ Grow (fun b => b = O ∨ b = g) w w3
theorem lo_mid {w W1 w3 : World} {g O no k : Nat} {wrn : Value} (h : LoR w g O no k wrn W1) (hg : W1.drew.grownBy w3 (some O)) (hm : w3.ownsMap Tryz.prog 225 heldE O (no + k + 1) ((OL k).put (spotK 0 k) (.held (.slice none 0 0)))) (hgO : g ≠ O) (hO : O < w.heap.size) (_ : g < w.heap.size) : LoM w g O no k wrn w3 := by
  have g1 : Grow (fun b => b = O) W1 w3 := ((Grow.refl _ W1).drew).trans (Grow.of_grown hg (fun k e _ => (Option.some.inj e).symm))
  refine ⟨hm, h.file.grow g1 hgO, own_grow h.own g1 (fun k hk => ?_), h.grow.trans (g1.mono (fun k _ e => .inl e))⟩
  have := (h.own.lt k hk).1
  omega
theorem lo_file {w w3 w5 : World} {g O no k : Nat} {wrn : Value} {o : Obj} (h : LoM w g O no k wrn w3) (hl : g < w.heap.size) (hg : (w3.alloc o).grownBy w5 wrn.ownBlock) : FileAt w5 g (.slice none 0 0) 0 wrn := by
  have h1 : FileAt (w3.alloc o) g (.slice none 0 0) 0 wrn := h.2.1.grow ((Grow.refl (fun _ => False) w3).alloc o) (fun e => e)
  exact (hg.block g (Array.getElem?_eq_some_iff.1 h1).1 (fun e => by have := (h.2.2.1.lt g e.symm).1; omega)).trans h1
theorem lo_end {w w3 w5 : World} {g O no k : Nat} {wrn v5 : Value} {o : Obj} (h : LoM w g O no k wrn w3) (how : w5.ownsRow w.heap.size 3 1 v5 (k + 1) (((List.range k).map fun j : Nat => .int .i64 (j : Int)) ++ [.int .i64 (k : Int)])) (hg : (w3.alloc o).grownBy w5 wrn.ownBlock) (hl : g < w.heap.size) (hgO : g ≠ O) (hOw : O < w.heap.size) :
    LoR w g O no (k + 1) v5 (w5.setCell ⟨g, 2, none⟩ v5) := by
  have hw : ∀ k, wrn.ownBlock = some k → w.heap.size ≤ k := fun k hk => (h.2.2.1.lt k hk).1
  have g1 : Grow (fun b => wrn.ownBlock = some b) w3 w5 := ((Grow.refl _ w3).alloc o).trans (Grow.of_grown hg (fun k e _ => e))
  have hf := lo_file h hl hg
  refine ⟨?_, ?_, ?_, ?_⟩
  · exact (h.1.grow g1 (fun e => by have := hw _ e; omega)).setCell (a := ⟨g, 2, none⟩) (fun e => hgO e.symm) _
  · show (w5.setCell ⟨g, 2, none⟩ v5).heap[g]? = _
    rw [Go.heap_setCell_same _ g _ _ _ _ hf]
    rfl
  · rw [List.range_succ, List.map_append]
    exact how.kept (grown_setCell w5 ⟨g, 2, none⟩ _) (by
      cases e : v5.ownBlock with
      | none => exact .inl rfl
      | some j => right; have := (how.lt j e).1; simp; omega)
  · have g2 : Grow (fun b => b = O ∨ b = g) w w5 := h.2.2.2.thenNew g1 (fun k hk e => by have := hw k e; omega)
    exact g2.setCell _ _ (fun _ => .inr rfl)
theorem infoInt : (Tryz.prog.info? 3).map (fun i => (i.zero, i.size, i.bytes)) = some (some (.int .i64 0), 1, 8) := by kernel_rfl
set_option maxRecDepth 100000 in
set_option maxHeartbeats 2000000 in
theorem loosen_new {n0 : Nat} {w : World} {d F O D X g : Nat} {room next : Int} {nf no nd nx m : Nat} {ff dd xx : DataW Value} {chg : Value} {xs : List Value}
    (h : DkS n0 w d F O D X room next nf no nd nx m ff (.map []) dd xx chg xs) (hg : FileAt w g (.slice none 0 0) 0 (.slice none 0 0)) (ap : g ≠ d ∧ g ≠ O) (hno : no ≤ 1000000) :
    Calls Tryz.prog 125 #[.pointer (some ⟨d, 0, none⟩), .int .i64 0, .pointer (some ⟨g, 0, none⟩), .int .i64 0, .int .i64 100] w fun e w' => e = .returned (.tuple #[]) ∧ ∃ wrn, LoR w g O no 2 wrn w' := by
  have HS := Lib.hid h
  have HA := Lib.hid ap
  have HNo := Lib.hid hno
  have HGl := Lib.hid (show g < w.heap.size from (Array.getElem?_eq_some_iff.1 hg).1)
  have HSt := Lib.hid (show LoR w g O no 0 (.slice none 0 0) w from ⟨h.olds, hg, World.ownsRow_nil _ _ _ _, Grow.refl _ _⟩)
  have hSe := fun W : World => sectors_any W 100 (by omega)
  have HSe := Lib.hid hSe
  clear h hg ap hno hSe
  go_enter Tryz.func125, Tryz.ntmps125
  go_wp2_with fail
  go_loopw [10] (fun i wr => ∃ (k : Nat) (wrn : Value), k ≤ 2 ∧ i = .int .i64 k ∧ Hid (LoR w g O no k wrn wr)) (fun i _ => 2 - (intOf i).toNat)
  case atStart => exact ⟨0, _, by omega, rfl, HSt⟩
  case round =>
    obtain ⟨k, wrn, hk, rfl, hJ⟩ := hrel
    have h0 : (0 : Int) ≤ (k : Int) := by omega
    by_cases hlt : k < 2
    case neg =>
      obtain rfl : k = 2 := by omega
      go_wp2_with fail
      refine (HSe.out wr).mono ?_
      rintro e w1 ⟨rfl, rfl⟩
      go_wp2_with fail
      exact bodyPost_end (results_none rfl _ _ _) rfl ⟨rfl, _, hJ.out⟩
    have hlt' : (k : Int) < 2 := by omega
    have HOs := Lib.hid (show O < wr.heap.size from hJ.out.olds.lt)
    have HOn := Lib.hid (HS.out.on.grow hJ.out.grow (by rintro (e | e); exact HS.out.apart.2.1 e; exact HA.out.1 e.symm))
    have hlr : d < wr.heap.size := HOn.out.lt
    have hgr : g < wr.heap.size := (Array.getElem?_eq_some_iff.1 hJ.out.file).1
    obtain ⟨-, -, -, -, c4, -, -, -, -, -⟩ := HOn.out.cells
    obtain ⟨b0, -, b2⟩ := hJ.out.file.cells
    have HO1 := Lib.hid (show MapAt (wr.alloc (.cells #[.int .i64 0, .int .i64 (k : Int)] 225)).drew Tryz.prog 225 O (no + k) (OL k) from hJ.out.olds.alloc _)
    obtain ⟨v, ps, hrun, hu⟩ := World.ownsMap.look_ok HO1.out keySp Tryz.underlying127 (zeroB _) (zd := .held (.slice none 0 0)) (zp := []) rfl (keyOf_spotk k hlt)
    obtain rfl : v = .slice none 0 0 := by
      have := heldE_inv hu
      rw [(ol_has k hlt).2] at this
      injection this with this _
      injection this with this
      exact this.symm
    rw [(ol_has k hlt).1] at hrun
    have e4 : (wr.alloc (.cells #[.int .i64 0, .int .i64 (k : Int)] 225)).cell? ⟨d, 4, none⟩ = some (.map (some O)) := (World.cell?_alloc_lt wr _ _ hlr).trans c4
    have s0 : (wr.alloc (.cells #[.int .i64 0, .int .i64 (k : Int)] 225)).cell? ⟨wr.heap.size, 0, none⟩ = some (.int .i64 0) := (World.cell?_alloc_new wr _ _ 0).trans rfl
    have s1 : (wr.alloc (.cells #[.int .i64 0, .int .i64 (k : Int)] 225)).cell? ⟨wr.heap.size, 1, none⟩ = some (.int .i64 k) := (World.cell?_alloc_new wr _ _ 1).trans rfl
    clear hu
    go_wp2_with fail
    refine (HSe.out wr).mono ?_
    rintro e w1 ⟨rfl, rfl⟩
    go_wp2_with fail
    go_region_held3 (fun W => W.cell? ⟨d, 4, none⟩ = some (.map (some O)) ∧ W.cell? ⟨wr.heap.size, 0, none⟩ = some (.int .i64 0) ∧ W.cell? ⟨wr.heap.size, 1, none⟩ = some (.int .i64 k)) (exact ⟨e4, s0, s1⟩) (fail)
    have HJ1 := Lib.hid (hJ.out.alloc (.cells #[.int .i64 0, .int .i64 (k : Int)] 225))
    have HOn1 := Lib.hid (HOn.out.alloc (.cells #[.int .i64 0, .int .i64 (k : Int)] 225)).drew
    have E4 := Lib.hid (And.intro e4 (And.intro s0 s1))
    have hsz : wr.heap.size < (wr.alloc (.cells #[.int .i64 0, .int .i64 (k : Int)] 225)).drew.heap.size := by simp
    clear hrun e4 s0 s1 HO1 c4 b0 b2
    replace HJ1 := Lib.hid (show LoR w g O no k wrn (wr.alloc (.cells #[.int .i64 0, .int .i64 (k : Int)] 225)).drew from HJ1.out.drew)
    replace E4 := Lib.hid (show (wr.alloc (.cells #[.int .i64 0, .int .i64 (k : Int)] 225)).drew.cell? ⟨d, 4, none⟩ = some (.map (some O)) ∧ (wr.alloc (.cells #[.int .i64 0, .int .i64 (k : Int)] 225)).drew.cell? ⟨wr.heap.size, 0, none⟩ = some (.int .i64 0) ∧ (wr.alloc (.cells #[.int .i64 0, .int .i64 (k : Int)] 225)).drew.cell? ⟨wr.heap.size, 1, none⟩ = some (.int .i64 k) from E4.out)
    generalize (wr.alloc (.cells #[.int .i64 0, .int .i64 (k : Int)] 225)).drew = W1 at *
    obtain ⟨b0, -, -⟩ := HJ1.out.file.cells
    obtain ⟨e4, s0, s1⟩ := E4.out
    obtain ⟨w3, hrun, hm3, hg3⟩ := World.ownsMap.update (w := W1.drew) (show W1.drew.ownsMap Tryz.prog 225 heldE O (no + k) (OL k) from HJ1.out.olds) keySp Tryz.underlying127 (by have := HNo.out; unfold maxLen; omega) (keyOf_spotk k hlt) (val := .slice none 0 0) (d := .held (.slice none 0 0)) (ps := []) rfl
    have HK := Lib.hid (And.intro HS.out.apart.2.1 (And.intro HA.out.2 HJ1.out.olds.lt))
    go_wp2_with fail
    go_region_held3 (fun W => W.cell? ⟨d, 4, none⟩ = some (.map (some O)) ∧ W.cell? ⟨g, 0, none⟩ = some (.slice none 0 0) ∧ W.cell? ⟨wr.heap.size, 0, none⟩ = some (.int .i64 0) ∧ W.cell? ⟨wr.heap.size, 1, none⟩ = some (.int .i64 k)) (first | exact ⟨e4, b0, s0, s1⟩ | exact lo_kept hg3 e4 b0 s0 s1 HK.out HOs.out) ((first
      | (go_at_call 158; refine (cut_nil _ k (by omega)).mono ?_; rintro e w' ⟨rfl, rfl⟩)
      | (go_at_call 131; refine (cloneB_nil _).mono ?_; rintro e w' ⟨rfl, rfl⟩)))
    have HL3 := Lib.hid (lo_mid HJ1.out hg3 hm3 HK.out.2.1 (HS.out.olds.lt) HGl.out)
    have hl3 : wr.heap.size < w3.heap.size := by have := hg3.size; simp at this; omega
    have hlg : g < w3.heap.size := by omega
    obtain ⟨-, -, b2⟩ := HL3.out.2.1.cells
    obtain ⟨i0, hi, hz0, hz1, hz2⟩ := info_parts infoInt
    have o1 : k + 1 ≤ maxLen := by unfold maxLen; omega
    have o2 : (k + 1) * 8 ≤ 140737488355328 := by omega
    have o3 : w.heap.size ≤ (w3.alloc (.cells #[.int .i64 (k : Int)] 3)).heap.size := by have := HL3.out.2.2.2.size; simp; omega
    clear hrun hg3 hm3 b0 e4 s0 s1 E4 HJ1 hsz
    go_wp2_with (at_builtin; refine wpList_append_lies _ rfl (.tmp 54) (.tmp 56) 75 rfl w.heap.size 3 i0 (.int .i64 0) 1 8 Tryz.underlying75 hi hz0 hz1 hz2 rfl (by decide) _ _ _ rfl (HL3.out.2.2.1.alloc _) ⟨w3.heap.size, 0, none⟩ 1 1 [.int .i64 (k : Int)] rfl rfl (lit_cells w3 _ _) (one_cells rfl) (by decide) o1 o2 o3 (w3.heap.size + 1) (by simp) ?_; intro g5 cap5 w5 how5 hgr5 hloc5 hlt5; clear hloc5 hlt5; have HF5 := Lib.hid (lo_file HL3.out HGl.out hgr5); obtain ⟨-, -, b25⟩ := HF5.out.cells; have f25 := frozen_of_row w5 g 2 _ _ HF5.out)
    have HEnd := Lib.hid (lo_end HL3.out how5 hgr5 HGl.out HK.out.2.1 HS.out.olds.lt)
    clear how5 hgr5
    go_roundw
    case rel => exact ⟨k + 1, _, by omega, by go_num, HEnd⟩
    case measure => simp [intOf]; omega
end
section
open Go Go.RowKit Go.Maps Go.WideMaps

theorem DkS.grow {S : Nat → Prop} {n0 : Nat} {w w' : World} {d F O D X : Nat} {room next : Int} {nf no nd nx m : Nat} {ff oo dd xx : DataW Value} {chg : Value} {xs : List Value}
    (h : DkS n0 w d F O D X room next nf no nd nx m ff oo dd xx chg xs) (hg : Grow S w w') (hd : ¬ S d) (hF : ¬ S F) (hO : ¬ S O) (hD : ¬ S D) (hX : ¬ S X) (hc : ∀ k, chg.ownBlock = some k → ¬ S k) : DkS n0 w' d F O D X room next nf no nd nx m ff oo dd xx chg xs :=
  ⟨h.on.grow hg hd, h.files.grow hg hF, h.olds.grow hg hO, h.dir.grow hg hD, h.fixed.grow hg hX, own_grow h.own hg hc, h.apart, h.chgs, h.low⟩
theorem DkS.same {n0 : Nat} {w w' : World} {d F O D X : Nat} {room next : Int} {nf no nd nx m : Nat} {ff oo dd xx : DataW Value} {chg : Value} {xs : List Value}
    (h : DkS n0 w d F O D X room next nf no nd nx m ff oo dd xx chg xs) (hg : Grow (fun _ => False) w w') : DkS n0 w' d F O D X room next nf no nd nx m ff oo dd xx chg xs :=
  h.grow hg (fun e => e) (fun e => e) (fun e => e) (fun e => e) (fun e => e) (fun _ _ e => e)
theorem write_mid {n0 : Nat} {w w3 : World} {d F O D X g : Nat} {room next : Int} {nf no nd nx m : Nat} {ff dd xx : DataW Value} {chg wrn : Value} {xs : List Value}
    (h : DkS n0 w d F O D X room next nf no nd nx m ff (.map []) dd xx chg xs) (hl : LoR w.drew g O no 2 wrn w3) (ap : g ≠ d ∧ g ≠ F ∧ g ≠ O ∧ g ≠ D ∧ g ≠ X ∧ chg.ownBlock ≠ some g) : DkS n0 w3 d F O D X room next nf (no + 2) nd nx m ff (OL 2) dd xx chg xs := by
  obtain ⟨a1, a2, a3, a4, a5, a6, a7, a8, a9, a10⟩ := h.apart
  have hg : Grow (fun b => b = O ∨ b = g) w w3 := (Grow.refl _ w).drew.trans hl.grow
  refine ⟨h.on.grow hg ?_, h.files.grow hg ?_, hl.olds, h.dir.grow hg ?_, h.fixed.grow hg ?_, own_grow h.own hg ?_, h.apart, h.chgs, h.low⟩
  · rintro (e | e); exact a2 e; exact ap.1 e.symm
  · rintro (e | e); exact a5 e; exact ap.2.1 e.symm
  · rintro (e | e); exact a8 e.symm; exact ap.2.2.2.1 e.symm
  · rintro (e | e); exact a9 e.symm; exact ap.2.2.2.2.1 e.symm
  · intro k hk
    rintro (rfl | rfl)
    · exact (h.chgs _ hk).2.2.1 rfl
    · exact ap.2.2.2.2.2 hk
theorem run_copy_none {P : Program} (w : World) (t ty e : TypeId) (i : TypeInfo) (ht : P.underlying t = some (.slice e)) (hi : P.info? e = some i) (a : Addr) (n c : Nat) :
    (Builtin.copy_ #[t, t] ty #[.slice none 0 0, .slice (some a) n c]).run P w = .ok (.int .i64 0) w := by
  simp [Builtin.copy_, run_underlying ht, sizeOf, typeInfo, hi, Builtin.lenOf, Builtin.firstCells, loadCells, loadCellsFrom]
  rfl
theorem infoU8 : (Tryz.prog.info? 5).map (fun i => (i.zero, i.size, i.bytes)) = some (some (.int .u8 0), 1, 1) := by kernel_rfl
def xs100 : List Value := List.replicate 100 (.int .u8 120)
theorem wr_file {w3 w4 : World} {g : Nat} {wrn : Value} (h : FileAt w3 g (.slice none 0 0) 0 wrn) (hg : w3.drew.grownBy w4 (Value.slice none 0 0).ownBlock) : FileAt w4 g (.slice none 0 0) 0 wrn :=
  h.grow (((Grow.refl (fun _ => False) w3).drew).trans (Grow.of_grown hg (fun k e _ => by simp [Value.ownBlock] at e))) (fun e => e)
/-- What Write leaves behind. -/
def WrEnd (n0 : Nat) (w w' : World) (d F O D X g : Nat) (room next : Int) (nf no nd nx m : Nat) (xx : DataW Value) (chg : Value) (xs : List Value) : Prop :=
  DkS n0 w' d F O D X room next nf (no + 2) nd nx m (oneM (.int .i64 0) (.pointer (some ⟨g, 0, none⟩))) (OL 2) (oneM (.string [97]) (.int .i64 0)) xx chg xs ∧ Grow (fun b => b = O ∨ b = g) w w' ∧
    ∃ gg cap wrn, FileAt w' g (.slice (some ⟨gg, 0, none⟩) 100 cap) 0 wrn ∧ w'.ownsRow w.heap.size 5 1 (.slice (some ⟨gg, 0, none⟩) 100 cap) 100 xs100
theorem write_end {n0 : Nat} {w w3 w4 : World} {d F O D X g gg cap : Nat} {room next : Int} {nf no nd nx m : Nat} {xx : DataW Value} {chg wrn : Value} {xs : List Value}
    (h : DkS n0 w3 d F O D X room next nf (no + 2) nd nx m (oneM (.int .i64 0) (.pointer (some ⟨g, 0, none⟩))) (OL 2) (oneM (.string [97]) (.int .i64 0)) xx chg xs) (hf : FileAt w3 g (.slice none 0 0) 0 wrn) (hg : Grow (fun b => b = O ∨ b = g) w w3)
    (ap : g ≠ d ∧ g ≠ F ∧ g ≠ O ∧ g ≠ D ∧ g ≠ X ∧ chg.ownBlock ≠ some g) (how : w4.ownsRow w.heap.size 5 1 (.slice (some ⟨gg, 0, none⟩) (0 + 100) cap) (0 + 100) ([] ++ xs100)) (hgr : w3.drew.grownBy w4 (Value.slice none 0 0).ownBlock) (hgl : g < w.heap.size) :
    WrEnd n0 w (w4.setCell ⟨g, 0, none⟩ (.slice (some ⟨gg, 0, none⟩) (0 + 100) cap)) d F O D X g room next nf no nd nx m xx chg xs := by
  have g1 : Grow (fun _ => False) w3 w4 := ((Grow.refl _ w3).drew).trans (Grow.of_grown hgr (fun k e _ => by simp [Value.ownBlock] at e))
  have g2 : Grow (fun b => b = g) w3 (w4.setCell ⟨g, 0, none⟩ (.slice (some ⟨gg, 0, none⟩) (0 + 100) cap)) := (g1.mono (fun _ _ e => e.elim)).setCell _ _ (fun _ => rfl)
  have hf4 := hf.grow g1 (fun e => e)
  have hb := (how.lt gg (by simp [Value.ownBlock])).1
  refine ⟨h.grow g2 (fun e => ap.1 e.symm) (fun e => ap.2.1 e.symm) (fun e => ap.2.2.1 e.symm) (fun e => ap.2.2.2.1 e.symm) (fun e => ap.2.2.2.2.1 e.symm) (fun k hk e => ap.2.2.2.2.2 (by rw [← e]; exact hk)), hg.trans (g2.mono (fun _ _ e => .inr e)), gg, cap, wrn, ?_, ?_⟩
  · show (w4.setCell ⟨g, 0, none⟩ (.slice (some ⟨gg, 0, none⟩) (0 + 100) cap)).heap[g]? = _
    rw [Go.heap_setCell_same _ g _ _ _ _ hf4]
    rfl
  · exact World.ownsRow.kept (show w4.ownsRow w.heap.size 5 1 (.slice (some ⟨gg, 0, none⟩) 100 cap) 100 xs100 from how) (grown_setCell w4 ⟨g, 0, none⟩ _) (.inr (by simp [Value.ownBlock]; omega))
set_option maxRecDepth 100000 in
set_option maxHeartbeats 2000000 in
theorem write_new {n0 : Nat} {w : World} {d F O D X g B : Nat} {room next : Int} {nf no nd nx m : Nat} {xx : DataW Value} {chg : Value} {xs : List Value}
    (h : DkS n0 w d F O D X room next nf no nd nx m (oneM (.int .i64 0) (.pointer (some ⟨g, 0, none⟩))) (.map []) (oneM (.string [97]) (.int .i64 0)) xx chg xs) (hg : FileAt w g (.slice none 0 0) 0 (.slice none 0 0)) (ap : g ≠ d ∧ g ≠ F ∧ g ≠ O ∧ g ≠ D ∧ g ≠ X ∧ chg.ownBlock ≠ some g) (hno : no ≤ 1000000) (hroom : 2 ≤ room)
    (hB : w.heap[B]? = some (.cells xs100.toArray 5 (0, 0))) (hBO : B ≠ O ∧ B ≠ g) :
    Calls Tryz.prog 70 #[.pointer (some ⟨d, 0, none⟩), .string ⟨#[97]⟩, .int .i64 0, .slice (some ⟨B, 0, none⟩) 100 100] w fun e w' => e = .returned (.int .i64 0) ∧ WrEnd n0 w w' d F O D X g room next nf no nd nx m xx chg xs := by
  have HR := Lib.hid (ready_ok h.on)
  have HF := Lib.hid (find_any ⟨#[97]⟩ 0 (.pointer (some ⟨g, 0, none⟩)) h (by decide) (by decide) rfl rfl rfl)
  have HS := Lib.hid h
  have HFi := Lib.hid hg
  have HA := Lib.hid ap
  have HRo := Lib.hid hroom
  have HB := Lib.hid hB
  clear h hg ap hroom hB
  go_enter Tryz.func70, Tryz.ntmps70
  go_wp2_with fail
  refine HR.out.mono ?_
  rintro e w1 ⟨rfl, rfl⟩
  go_wp2_with fail
  refine HF.out.mono ?_
  rintro e w1 ⟨rfl, hg1⟩
  have G1 := Lib.hid hg1
  have HS1 := Lib.hid (HS.out.same hg1)
  have HF1 := Lib.hid (HFi.out.grow hg1 (fun e => e))
  clear hg1 HF HR
  obtain ⟨b0, -, -⟩ := HF1.out.cells
  go_wp2_with fail
  refine (used_one HS1.out rfl HF1.out (by omega)).mono ?_
  rintro e w2 ⟨rfl, hg2⟩
  have G2 := Lib.hid (G1.out.trans hg2)
  have HS2 := Lib.hid (HS1.out.same hg2)
  have HF2 := Lib.hid (HF1.out.grow hg2 (fun e => e))
  clear hg2 b0 HS1 HF1 G1
  obtain ⟨b0, -, -⟩ := HF2.out.cells
  obtain ⟨-, c1, -, -, -, -, -, -, -, -⟩ := HS2.out.on.cells
  have hl2 : d < w2.heap.size := HS2.out.on.lt
  have hlg2 : g < w2.heap.size := (Array.getElem?_eq_some_iff.1 HF2.out).1
  have hr2 : ¬ room < 2 := by have := HRo.out; omega
  go_wp2_with fail
  go_region_held3 (fun W => W.cell? ⟨g, 0, none⟩ = some (.slice none 0 0) ∧ W.cell? ⟨d, 1, none⟩ = some (.int .i64 room)) (exact ⟨b0, c1⟩) ((first
    | (go_at_call 124; refine (sectors_any _ 0 (by omega)).mono ?_; rintro e w' ⟨rfl, rfl⟩)
    | (go_at_call 124; refine (sectors_any _ 100 (by omega)).mono ?_; rintro e w' ⟨rfl, rfl⟩)))
  have hnd := HA.out.1
  have HLo := Lib.hid (loosen_new (show DkS n0 w2.drew d F O D X room next nf no nd nx m _ (.map []) _ xx chg xs from HS2.out.same (Grow.refl _ w2).drew) (show FileAt w2.drew g (.slice none 0 0) 0 (.slice none 0 0) from HF2.out) ⟨HA.out.1, HA.out.2.2.1⟩ hno)
  clear b0 c1 hl2 hlg2 hnd
  go_wp2_with fail
  · exfalso
    have e2 : IntKind.i64.wrap (IntKind.i64.wrap 0 + 2) = 2 := by decide
    have hbad : room < IntKind.i64.wrap (IntKind.i64.wrap 0 + 2) := by assumption
    rw [e2] at hbad
    omega
  refine HLo.out.mono ?_
  rintro e w3 ⟨rfl, wrn, hlo⟩
  have HL := Lib.hid hlo
  have HS3 := Lib.hid (write_mid HS2.out hlo HA.out)
  obtain ⟨b0, -, -⟩ := hlo.file.cells
  have hlg : g < w3.heap.size := (Array.getElem?_eq_some_iff.1 hlo.file).1
  have HB3 := Lib.hid (show w3.heap[B]? = some (.cells xs100.toArray 5 (0, 0)) from (hlo.grow.block B (by have := (Array.getElem?_eq_some_iff.1 HB.out).1; have := G2.out.size; show B < w2.heap.size; omega) (by rintro (e | e); exact hBO.1 e; exact hBO.2 e)).trans ((G2.out.block B (Array.getElem?_eq_some_iff.1 HB.out).1 (fun e => e)).trans HB.out))
  clear hlo HLo
  obtain ⟨i0, hi, hz0, hz1, hz2⟩ := info_parts infoU8
  have hcp := fun W : World => run_copy_none W 24 3 5 i0 Tryz.underlying24 hi ⟨B, 0, none⟩ 100 100
  go_wp2_with fail
  have HGr := Lib.hid (G2.out.mono (T := fun b => b = O ∨ b = g) (fun _ _ e => e.elim) |>.trans ((Grow.refl _ w2).drew.trans HL.out.grow))
  have o1 : 0 + 100 ≤ maxLen := by decide
  have o3 : w.heap.size ≤ w3.drew.heap.size := HGr.out.size
  go_region_law ((refine step_append_lies _ (by rfl) _ _ _ (by rfl) w.heap.size 5 i0 _ 1 1 Tryz.underlying24 hi hz0 hz1 hz2 rfl (by decide) _ _ _ (by rfl) (World.ownsRow_nil _ _ _ _) ⟨B, 0, none⟩ 100 100 xs100 (by rfl) (by rfl) (fun j u hu => World.news_of_block (show w3.drew.heap[B]? = _ from HB3.out) j u (by simpa using hu)) (one_cells rfl) (by decide) o1 (by decide) o3 w3.heap.size (by rfl) ?_; intro gg cap w4 how4 hgr4 hloc4 hlt4; have HF4 := Lib.hid (wr_file HL.out.file hgr4); obtain ⟨b04, -, -⟩ := HF4.out.cells; have f04 := frozen_of_row w4 g 0 _ _ HF4.out))
  have HEnd := Lib.hid (write_end HS3.out HL.out.file HGr.out HA.out how4 hgr4 (Array.getElem?_eq_some_iff.1 HFi.out).1)
  clear how4 hgr4 hloc4 hlt4 b04 f04 HF4 hcp
  go_wp2_with fail
  refine (done_ok HEnd.out.1.on).mono ?_
  rintro e w5 ⟨rfl, rfl⟩
  go_wp2_with fail
  go_ret
  exact ⟨rfl, HEnd.out⟩
end
section
open Go Go.RowKit Go.Maps Go.WideMaps

set_option maxRecDepth 100000 in
theorem ins_one (w : World) (p : Option Addr) (cap : Nat) : Calls Tryz.prog 180 #[.slice p 1 cap, .int .i64 0, .int .i64 1] w fun e w' => e = .returned (.tuple #[]) ∧ w = w' := by
  go_enter Tryz.func180, Tryz.ntmps180
  go_wp2_with fail
  refine wp_loop_rounds 1 ?_
  rw [rounds_succ]
  go_wp2_with fail
  exact bodyPost_end (results_none rfl _ _ _) rfl ⟨rfl, rfl⟩
set_option maxRecDepth 100000 in
theorem pdq_one (w : World) (p : Option Addr) (cap : Nat) (v : Value) : Calls Tryz.prog 159 #[.slice p 1 cap, .int .i64 0, .int .i64 1, v] w fun e w' => e = .returned (.tuple #[]) ∧ w = w' := by
  go_enter Tryz.func159, Tryz.ntmps159
  go_wp2_with fail
  refine wp_loop_rounds 1 ?_
  rw [rounds_succ]
  go_wp2_with fail
  refine (ins_one w p cap).mono ?_
  rintro e w1 ⟨rfl, rfl⟩
  go_wp2_with fail
  exact bodyPost_ret (results_none rfl _ _ _) rfl ⟨rfl, rfl⟩
set_option maxRecDepth 100000 in
theorem len64_one (w : World) : Calls Tryz.prog 190 #[.int .u64 1] w fun e w' => (∃ v : Int, e = .returned (.int .i64 v)) ∧ w = w' := by
  go_enter Tryz.func190, Tryz.ntmps190
  go_wp2_with fail
  go_ret
  exact ⟨⟨_, rfl⟩, rfl⟩
set_option maxRecDepth 100000 in
theorem len_one (w : World) : Calls Tryz.prog 160 #[.int .u64 1] w fun e w' => (∃ v : Int, e = .returned (.int .i64 v)) ∧ w = w' := by
  go_enter Tryz.func160, Tryz.ntmps160
  go_wp2_with fail
  refine (len64_one w).mono ?_
  rintro e w1 ⟨⟨v, rfl⟩, rfl⟩
  go_wp2_with fail
  go_ret
  exact ⟨⟨_, rfl⟩, rfl⟩
set_option maxRecDepth 100000 in
theorem sort_one (w : World) (p : Option Addr) (cap : Nat) : Calls Tryz.prog 132 #[.slice p 1 cap] w fun e w' => e = .returned (.tuple #[]) ∧ w = w' := by
  go_enter Tryz.func132, Tryz.ntmps132
  go_wp2_with fail
  refine (len_one w).mono ?_
  rintro e w1 ⟨⟨v, rfl⟩, rfl⟩
  go_wp2_with fail
  refine (pdq_one w p cap _).mono ?_
  rintro e w1 ⟨rfl, rfl⟩
  go_wp2_with fail
  exact bodyPost_end (results_none rfl _ _ _) rfl ⟨rfl, rfl⟩
end
end Go.Proofs.YtdjhfcopnhcljaaGreatDoor

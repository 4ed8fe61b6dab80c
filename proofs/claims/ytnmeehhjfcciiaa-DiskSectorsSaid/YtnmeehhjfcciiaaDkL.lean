/-
  Disk.loosen at a new file: its first two sectors are kept as having no bytes.
-/
import Derived.Test.YtnmeehhjfcciiaaDkK
namespace Go.Proofs.Ytnmeehhjfcciiaa
open Go Go.RowKit Go.Maps Go.WideMaps

/-- The loose sectors of file 0 behind k rounds. -/
def OL : Nat → DataW Value
  | 0 => .map []
  | k + 1 => (OL k).put (spotK 0 k) (.held (.slice none 0 0))
theorem ol_has (k : Nat) (hk : k < 2) : Maps.has (OL k) (spotK 0 k) = false ∧ (OL k).atKey (spotK 0 k) (.held (.slice none 0 0)) = .held (.slice none 0 0) := by
  rcases k with _ | _ | k
  · exact ⟨rfl, rfl⟩
  · have h : ((spotK 0 0).sameKey (spotK 0 1)) = false := spot_apart
    constructor
    · simp [OL, DataW.put, DataW.insert, Maps.has]
      exact h
    · simp [OL, DataW.put, DataW.insert, DataW.atKey]
      rw [show (spotK 0 0).sameKey (spotK 0 1) = false from h]
      rfl
  · omega
theorem keyOf_spotk (k : Nat) (hk : k < 2) : keyOf Try.prog 92 (.agg #[.int .i64 0, .int .i64 (k : Int)]) = some (spotK 0 k) := by
  rcases k with _ | _ | k
  · exact keyOf_spot0
  · exact keyOf_spot1
  · omega
/-- What a round of loosen begins with. -/
structure LoR (w : World) (g O no k : Nat) (wrn : Value) (wr : World) : Prop where
  olds : MapAt wr Try.prog 92 O (no + k) (OL k)
  file : FileAt wr g (.slice none 0 0) 0 wrn
  own : wr.ownsRow w.heap.size 3 1 wrn k ((List.range k).map fun j : Nat => .int .i64 (j : Int))
  grow : Grow (fun b => b = O ∨ b = g) w wr
theorem LoR.alloc {w wr : World} {g O no k : Nat} {wrn : Value} (h : LoR w g O no k wrn wr) (o : Obj) : LoR w g O no k wrn (wr.alloc o) :=
  ⟨h.olds.alloc o, h.file.grow ((Grow.refl (fun _ => False) wr).alloc o) (fun e => e), h.own.alloc o, h.grow.alloc o⟩
theorem LoR.drew {w wr : World} {g O no k : Nat} {wrn : Value} (h : LoR w g O no k wrn wr) : LoR w g O no k wrn wr.drew := ⟨h.olds, h.file, h.own, h.grow.drew⟩
theorem lo_kept {W w3 : World} {d g O n : Nat} {u v x y : Value} (hg : W.drew.grownBy w3 (some O)) (e : W.cell? ⟨d, 4, none⟩ = some u) (b : W.cell? ⟨g, 0, none⟩ = some v) (s0 : W.cell? ⟨n, 0, none⟩ = some x) (s1 : W.cell? ⟨n, 1, none⟩ = some y) (hk : d ≠ O ∧ g ≠ O ∧ O < W.heap.size) (hn : O < n) :
    w3.cell? ⟨d, 4, none⟩ = some u ∧ w3.cell? ⟨g, 0, none⟩ = some v ∧ w3.cell? ⟨n, 0, none⟩ = some x ∧ w3.cell? ⟨n, 1, none⟩ = some y :=
  ⟨hg.cell e (by simpa using hk.1), hg.cell b (by simpa using hk.2.1), hg.cell s0 (by simp; omega), hg.cell s1 (by simp; omega)⟩
/-- Between a round's store into the map and its append. -/
def LoM (w : World) (g O no k : Nat) (wrn : Value) (w3 : World) : Prop := MapAt w3 Try.prog 92 O (no + k + 1) (OL (k + 1)) ∧ FileAt w3 g (.slice none 0 0) 0 wrn ∧ w3.ownsRow w.heap.size 3 1 wrn k ((List.range k).map fun j : Nat => .int .i64 (j : Int)) ∧ Grow (fun b => b = O ∨ b = g) w w3
theorem lo_mid {w W1 w3 : World} {g O no k : Nat} {wrn : Value} (h : LoR w g O no k wrn W1) (hg : W1.drew.grownBy w3 (some O)) (hm : w3.ownsMap Try.prog 92 heldE O (no + k + 1) ((OL k).put (spotK 0 k) (.held (.slice none 0 0)))) (hgO : g ≠ O) (hO : O < w.heap.size) (_ : g < w.heap.size) : LoM w g O no k wrn w3 := by
  have g1 : Grow (fun b => b = O) W1 w3 := ((Grow.refl _ W1).drew).trans (Grow.of_grown hg (fun k e _ => (Option.some.inj e).symm))
  refine ⟨hm, h.file.grow g1 hgO, own_grow h.own g1 (fun k hk => ?_), h.grow.trans (g1.mono (fun k _ e => .inl e))⟩
  have := (h.own.lt k hk).1
  omega
theorem lo_file {w w3 w5 : World} {g O no k : Nat} {wrn : Value} {o : Obj} (h : LoM w g O no k wrn w3) (hl : g < w.heap.size) (hg : (w3.alloc o).grownBy w5 wrn.ownBlock) : FileAt w5 g (.slice none 0 0) 0 wrn := by
  have h1 : FileAt (w3.alloc o) g (.slice none 0 0) 0 wrn := h.2.1.grow ((Grow.refl (fun _ => False) w3).alloc o) (fun e => e)
  exact (hg.block g (Array.getElem?_eq_some_iff.1 h1).1 (fun e => by have := (h.2.2.1.lt g e.symm).1; omega)).trans h1
theorem lo_end {w w3 w5 : World} {g O no k : Nat} {wrn v5 : Value} {o : Obj} (h : LoM w g O no k wrn w3) (how : w5.ownsRow w.heap.size 3 1 v5 (k + 1) (((List.range k).map fun j : Nat => .int .i64 (j : Int)) ++ [.int .i64 (k : Int)])) (hg : (w3.alloc o).grownBy w5 wrn.ownBlock) (hl : g < w.heap.size) (hgO : g ≠ O) (hOw : O < w.heap.size) :
    LoR w g O no (k + 1) v5 (w5.setCell ⟨g, 2, none⟩ v5) := by
  have hw : ∀ k, wrn.ownBlock = some k → w.heap.size ≤ k := fun k hk => (h.2.2.1.lt k hk).1
  have g1 : Grow (fun b => wrn.ownBlock = some b) w3 w5 := ((Grow.refl _ w3).alloc o).trans (Grow.of_grown hg (fun k e _ => e))
  have hf := lo_file h hl hg
  refine ⟨?_, ?_, ?_, ?_⟩
  · exact (h.1.grow g1 (fun e => by have := hw _ e; omega)).setCell (a := ⟨g, 2, none⟩) (fun e => hgO e.symm) _
  · show (w5.setCell ⟨g, 2, none⟩ v5).heap[g]? = _
    rw [Go.heap_setCell_same _ g _ _ _ _ hf]
    rfl
  · rw [List.range_succ, List.map_append]
    exact how.kept (grown_setCell w5 ⟨g, 2, none⟩ _) (by
      cases e : v5.ownBlock with
      | none => exact .inl rfl
      | some j => right; have := (how.lt j e).1; simp; omega)
  · have g2 : Grow (fun b => b = O ∨ b = g) w w5 := h.2.2.2.thenNew g1 (fun k hk e => by have := hw k e; omega)
    exact g2.setCell _ _ (fun _ => .inr rfl)
theorem infoInt : (Try.prog.info? 3).map (fun i => (i.zero, i.size, i.bytes)) = some (some (.int .i64 0), 1, 8) := by kernel_rfl
set_option maxRecDepth 100000 in
set_option maxHeartbeats 2000000 in
theorem loosen_new {n0 : Nat} {w : World} {d F O D X g : Nat} {room next : Int} {nf no nd nx m : Nat} {ff dd xx : DataW Value} {chg : Value} {xs : List Value}
    (h : DkS n0 w d F O D X room next nf no nd nx m ff (.map []) dd xx chg xs) (hg : FileAt w g (.slice none 0 0) 0 (.slice none 0 0)) (ap : g ≠ d ∧ g ≠ O) (hno : no ≤ 1000000) :
    Calls Try.prog 28 #[.pointer (some ⟨d, 0, none⟩), .int .i64 0, .pointer (some ⟨g, 0, none⟩), .int .i64 0, .int .i64 100] w fun e w' => e = .returned (.tuple #[]) ∧ ∃ wrn, LoR w g O no 2 wrn w' := by
  have HS := Lib.hid h
  have HA := Lib.hid ap
  have HNo := Lib.hid hno
  have HGl := Lib.hid (show g < w.heap.size from (Array.getElem?_eq_some_iff.1 hg).1)
  have HSt := Lib.hid (show LoR w g O no 0 (.slice none 0 0) w from ⟨h.olds, hg, World.ownsRow_nil _ _ _ _, Grow.refl _ _⟩)
  have hSe := fun W : World => sectors_any W 100 (by omega)
  have HSe := Lib.hid hSe
  clear h hg ap hno hSe
  go_enter Try.func28, Try.ntmps28
  go_wp2_with fail
  go_loopw [10] (fun i wr => ∃ (k : Nat) (wrn : Value), k ≤ 2 ∧ i = .int .i64 k ∧ Hid (LoR w g O no k wrn wr)) (fun i _ => 2 - (intOf i).toNat)
  case atStart => exact ⟨0, _, by omega, rfl, HSt⟩
  case round =>
    obtain ⟨k, wrn, hk, rfl, hJ⟩ := hrel
    have h0 : (0 : Int) ≤ (k : Int) := by omega
    by_cases hlt : k < 2
    case neg =>
      obtain rfl : k = 2 := by omega
      go_wp2_with fail
      refine (HSe.out wr).mono ?_
      rintro e w1 ⟨rfl, rfl⟩
      go_wp2_with fail
      exact bodyPost_end (results_none rfl _ _ _) rfl ⟨rfl, _, hJ.out⟩
    have hlt' : (k : Int) < 2 := by omega
    have HOs := Lib.hid (show O < wr.heap.size from hJ.out.olds.lt)
    have HOn := Lib.hid (HS.out.on.grow hJ.out.grow (by rintro (e | e); exact HS.out.apart.2.1 e; exact HA.out.1 e.symm))
    have hlr : d < wr.heap.size := HOn.out.lt
    have hgr : g < wr.heap.size := (Array.getElem?_eq_some_iff.1 hJ.out.file).1
    obtain ⟨-, -, -, -, c4, -, -, -, -, -⟩ := HOn.out.cells
    obtain ⟨b0, -, b2⟩ := hJ.out.file.cells
    have HO1 := Lib.hid (show MapAt (wr.alloc (.cells #[.int .i64 0, .int .i64 (k : Int)] 92)).drew Try.prog 92 O (no + k) (OL k) from hJ.out.olds.alloc _)
    obtain ⟨v, ps, hrun, hu⟩ := World.ownsMap.look_ok HO1.out keySp Try.underlying60 (zeroB _) (zd := .held (.slice none 0 0)) (zp := []) rfl (keyOf_spotk k hlt)
    obtain rfl : v = .slice none 0 0 := by
      have := heldE_inv hu
      rw [(ol_has k hlt).2] at this
      injection this with this _
      injection this with this
      exact this.symm
    rw [(ol_has k hlt).1] at hrun
    have e4 : (wr.alloc (.cells #[.int .i64 0, .int .i64 (k : Int)] 92)).cell? ⟨d, 4, none⟩ = some (.map (some O)) := (World.cell?_alloc_lt wr _ _ hlr).trans c4
    have s0 : (wr.alloc (.cells #[.int .i64 0, .int .i64 (k : Int)] 92)).cell? ⟨wr.heap.size, 0, none⟩ = some (.int .i64 0) := (World.cell?_alloc_new wr _ _ 0).trans rfl
    have s1 : (wr.alloc (.cells #[.int .i64 0, .int .i64 (k : Int)] 92)).cell? ⟨wr.heap.size, 1, none⟩ = some (.int .i64 k) := (World.cell?_alloc_new wr _ _ 1).trans rfl
    clear hu
    go_wp2_with fail
    refine (HSe.out wr).mono ?_
    rintro e w1 ⟨rfl, rfl⟩
    go_wp2_with fail
    go_region_held3 (fun W => W.cell? ⟨d, 4, none⟩ = some (.map (some O)) ∧ W.cell? ⟨wr.heap.size, 0, none⟩ = some (.int .i64 0) ∧ W.cell? ⟨wr.heap.size, 1, none⟩ = some (.int .i64 k)) (exact ⟨e4, s0, s1⟩) (fail)
    have HJ1 := Lib.hid (hJ.out.alloc (.cells #[.int .i64 0, .int .i64 (k : Int)] 92))
    have HOn1 := Lib.hid (HOn.out.alloc (.cells #[.int .i64 0, .int .i64 (k : Int)] 92)).drew
    have E4 := Lib.hid (And.intro e4 (And.intro s0 s1))
    have hsz : wr.heap.size < (wr.alloc (.cells #[.int .i64 0, .int .i64 (k : Int)] 92)).drew.heap.size := by simp
    clear hrun e4 s0 s1 HO1 c4 b0 b2
    replace HJ1 := Lib.hid (show LoR w g O no k wrn (wr.alloc (.cells #[.int .i64 0, .int .i64 (k : Int)] 92)).drew from HJ1.out.drew)
    replace E4 := Lib.hid (show (wr.alloc (.cells #[.int .i64 0, .int .i64 (k : Int)] 92)).drew.cell? ⟨d, 4, none⟩ = some (.map (some O)) ∧ (wr.alloc (.cells #[.int .i64 0, .int .i64 (k : Int)] 92)).drew.cell? ⟨wr.heap.size, 0, none⟩ = some (.int .i64 0) ∧ (wr.alloc (.cells #[.int .i64 0, .int .i64 (k : Int)] 92)).drew.cell? ⟨wr.heap.size, 1, none⟩ = some (.int .i64 k) from E4.out)
    generalize (wr.alloc (.cells #[.int .i64 0, .int .i64 (k : Int)] 92)).drew = W1 at *
    obtain ⟨b0, -, -⟩ := HJ1.out.file.cells
    obtain ⟨e4, s0, s1⟩ := E4.out
    obtain ⟨w3, hrun, hm3, hg3⟩ := World.ownsMap.update (w := W1.drew) (show W1.drew.ownsMap Try.prog 92 heldE O (no + k) (OL k) from HJ1.out.olds) keySp Try.underlying60 (by have := HNo.out; unfold maxLen; omega) (keyOf_spotk k hlt) (val := .slice none 0 0) (d := .held (.slice none 0 0)) (ps := []) rfl
    have HK := Lib.hid (And.intro HS.out.apart.2.1 (And.intro HA.out.2 HJ1.out.olds.lt))
    go_wp2_with fail
    go_region_held3 (fun W => W.cell? ⟨d, 4, none⟩ = some (.map (some O)) ∧ W.cell? ⟨g, 0, none⟩ = some (.slice none 0 0) ∧ W.cell? ⟨wr.heap.size, 0, none⟩ = some (.int .i64 0) ∧ W.cell? ⟨wr.heap.size, 1, none⟩ = some (.int .i64 k)) (first | exact ⟨e4, b0, s0, s1⟩ | exact lo_kept hg3 e4 b0 s0 s1 HK.out HOs.out) ((first
      | (go_at_call 42; refine (cut_nil _ k (by omega)).mono ?_; rintro e w' ⟨rfl, rfl⟩)
      | (go_at_call 38; refine (cloneB_nil _).mono ?_; rintro e w' ⟨rfl, rfl⟩)))
    have HL3 := Lib.hid (lo_mid HJ1.out hg3 hm3 HK.out.2.1 (HS.out.olds.lt) HGl.out)
    have hl3 : wr.heap.size < w3.heap.size := by have := hg3.size; simp at this; omega
    have hlg : g < w3.heap.size := by omega
    obtain ⟨-, -, b2⟩ := HL3.out.2.1.cells
    obtain ⟨i0, hi, hz0, hz1, hz2⟩ := info_parts infoInt
    have o1 : k + 1 ≤ maxLen := by unfold maxLen; omega
    have o2 : (k + 1) * 8 ≤ 140737488355328 := by omega
    have o3 : w.heap.size ≤ (w3.alloc (.cells #[.int .i64 (k : Int)] 3)).heap.size := by have := HL3.out.2.2.2.size; simp; omega
    clear hrun hg3 hm3 b0 e4 s0 s1 E4 HJ1 hsz
    go_wp2_with (at_builtin; refine wpList_append_lies _ rfl (.tmp 54) (.tmp 56) 67 rfl w.heap.size 3 i0 (.int .i64 0) 1 8 Try.underlying67 hi hz0 hz1 hz2 rfl (by decide) _ _ _ rfl (HL3.out.2.2.1.alloc _) ⟨w3.heap.size, 0, none⟩ 1 1 [.int .i64 (k : Int)] rfl rfl (lit_cells w3 _ _) (one_cells rfl) (by decide) o1 o2 o3 (w3.heap.size + 1) (by simp) ?_; intro g5 cap5 w5 how5 hgr5 hloc5 hlt5; clear hloc5 hlt5; have HF5 := Lib.hid (lo_file HL3.out HGl.out hgr5); obtain ⟨-, -, b25⟩ := HF5.out.cells; have f25 := frozen_of_row w5 g 2 _ _ HF5.out)
    have HEnd := Lib.hid (lo_end HL3.out how5 hgr5 HGl.out HK.out.2.1 HS.out.olds.lt)
    clear how5 hgr5
    go_roundw
    case rel => exact ⟨k + 1, _, by omega, by go_num, HEnd⟩
    case measure => simp [intOf]; omega
end Go.Proofs.Ytnmeehhjfcciiaa

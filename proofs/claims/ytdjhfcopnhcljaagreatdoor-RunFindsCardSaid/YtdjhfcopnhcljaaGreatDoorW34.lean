/-
  Disk.resized and Disk.Loose, where one file has a loose size.
  Disk.Loose, where one file has a loose size.
  maps.Clone at a directory.
-/
import Derived.Test.YtdjhfcopnhcljaaGreatDoorW33
import Derived.Laws.Externs
import Derived.MapKept
namespace Go.Proofs.YtdjhfcopnhcljaaGreatDoor
section
open Go Go.RowKit Go.Maps Go.WideMaps

theorem oneR_key {k kl : Lit} {v : Value} {left : Lit → Bool} {x S : Nat} (h : OneR k v left x S) (hl : left kl = true) : k.sameKey kl = true := by
  rcases h with ⟨rfl, rfl⟩ | ⟨h1, -⟩
  · rw [← oneM_has (v := v)]; exact hl
  · rw [h1 kl] at hl; cases hl
theorem int_key {P : Program} {k : TypeId} {q : IntKind} (hk : P.underlying k = some (.int q)) {x : Int} {kl : Lit} {n : Int} (h : keyOf P k (.int q x) = some kl) (hs : (Lit.int q n).sameKey kl = true) : x = n := by
  obtain ⟨y, e1, rfl, -⟩ := Maps.keyOf_int_inv hk h
  injection e1 with _ e1
  simp [Lit.sameKey] at hs
  omega
/-- What a round of resized begins with. -/
structure RzR (w : World) (F r nf g x : Nat) (left : Lit → Bool) (cnt : Nat) (v : Value) (wr : World) : Prop where
  rg : wr.ranges Tryz.prog 3 heldE F r nf (oneM (.int .i64 0) (.pointer (some ⟨g, 0, none⟩))) left cnt
  grow : Grow (fun _ => False) w wr
  one : OneR (.int .i64 0) (.pointer (some ⟨g, 0, none⟩)) left x 1
  own : wr.ownsRow w.heap.size 3 1 v x (List.replicate x (.int .i64 0))
theorem rz_ne {w : World} {F r nf g x : Nat} {left : Lit → Bool} {cnt : Nat} {v : Value} {wr : World} (h : RzR w F r nf g x left cnt v wr) : v.ownBlock ≠ some r := by
  intro e
  obtain ⟨_, _, _, _, _, _, _, _, _, hr, _⟩ := h.rg
  rcases h.own.2 with ⟨rfl, -⟩ | ⟨gg, cap, cur, rfl, -, hc, -⟩
  · simp [Value.ownBlock] at e
  · obtain rfl : gg = r := by simpa [Value.ownBlock] using e
    rw [hc] at hr
    cases hr
theorem rz_step {w wr w1 w5 : World} {F r nf g : Nat} {left left' : Lit → Bool} {cnt cnt1 : Nat} {v v5 : Value} {o : Obj} (h : RzR w F r nf g 0 left cnt v wr) (hr : w1.ranges Tryz.prog 3 heldE F r nf (oneM (.int .i64 0) (.pointer (some ⟨g, 0, none⟩))) left' cnt1) (hg : Grow (fun _ => False) w w1)
    (ho : OneR (.int .i64 0) (.pointer (some ⟨g, 0, none⟩)) left' 1 1) (how : w5.ownsRow w.heap.size 3 1 v5 (0 + 1) ([] ++ [.int .i64 0])) (hgr : (w1.drew.alloc o).grownBy w5 v.ownBlock) (hF : F < w.heap.size) : RzR w F r nf g 1 left' cnt1 v5 w5 := by
  have hv : ∀ k, v.ownBlock = some k → w.heap.size ≤ k := fun k hk => (h.own.lt k hk).1
  have h1 : (w1.drew.alloc o).ranges Tryz.prog 3 heldE F r nf (oneM (.int .i64 0) (.pointer (some ⟨g, 0, none⟩))) left' cnt1 := World.ranges.alloc (show w1.drew.ranges Tryz.prog 3 heldE F r nf _ left' cnt1 from hr) o
  refine ⟨h1.kept hgr (fun e => by have := hv F e.symm; omega) (fun e => rz_ne h e.symm), ?_, ho, how⟩
  exact hg.thenNew (T := fun k => v.ownBlock = some k) (((Grow.refl _ w1).drew.alloc o).trans (Grow.of_grown hgr (fun k e _ => e))) (fun i hi e => by have := hv i e; omega)
set_option maxRecDepth 100000 in
set_option maxHeartbeats 2000000 in
theorem resized_one {n0 : Nat} {w : World} {d F O D X g cap : Nat} {room next : Int} {nf no nd nx m : Nat} {oo dd xx : DataW Value} {chg wrn : Value} {p : Option Addr} {xs : List Value}
    (h : DkS n0 w d F O D X room next nf no nd nx m (oneM (.int .i64 0) (.pointer (some ⟨g, 0, none⟩))) oo dd xx chg xs) (hg : FileAt w g (.slice p 100 cap) 0 wrn) :
    Calls Tryz.prog 84 #[.pointer (some ⟨d, 0, none⟩)] w fun e w' => ∃ v, e = .returned v ∧ w'.ownsRow w.heap.size 3 1 v 1 [.int .i64 0] ∧ Grow (fun _ => False) w w' := by
  have HS := Lib.hid h
  have HFi := Lib.hid hg
  have hl : d < w.heap.size := h.on.lt
  obtain ⟨-, -, -, c3, -, -, -, -, -, -⟩ := h.on.cells
  obtain ⟨i0, hi, hz0, hz1, hz2⟩ := info_parts infoInt
  clear h hg
  go_enter Tryz.func84, Tryz.ntmps84
  go_wp2_with (at_range; refine wpList_range_own _ rfl _ 126 rfl 3 133 dKeyI Tryz.underlying126 heldE F nf _ rfl (HS.out.files.alloc _) ?_; intro w0 hrg0 hg0 hs0)
  have HRg := Lib.hid hrg0
  have HG0 := Lib.hid (show Grow (fun _ => False) w w0 from ((Grow.refl _ w).alloc (.cells #[] 3)).trans (Grow.of_grown hg0 (fun k e _ => by cases e)))
  have HOw := Lib.hid (show w0.ownsRow w.heap.size 3 1 (.slice (some ⟨w.heap.size, 0, none⟩) 0 0) 0 [] from World.ownsRow.kept (World.ownsRow_made w #[] 0 (Nat.le_refl _) (by decide) rfl) hg0 (.inr (by simp [Value.ownBlock])))
  clear hrg0 hg0 c3
  have er : (w.alloc (.cells #[] 3)).heap.size = w.heap.size + 1 := by simp
  go_frame
  rw [er] at HRg ⊢
  clear er
  go_loopw [3] (fun v wr => ∃ (left : Lit → Bool) (cnt x : Nat), Hid (RzR w F (w.heap.size + 1) nf g x left cnt v wr)) (fun _ wr => wr.rangeLeft F (w.heap.size + 1))
  case atStart => exact ⟨_, _, 0, Lib.hid ⟨HRg.out, HG0.out, .inl ⟨rfl, rfl⟩, HOw.out⟩⟩
  case round =>
    obtain ⟨left, cnt, x, hJ⟩ := hrel
    have hrg := Lib.hid hJ.out.rg
    go_wp2_with (at_next; refine wpList_next_ranges _ rfl _ rfl 3 dKeyI heldE (Value.int .i64) (fun v : Value => v) (fun key kl hk => by obtain ⟨y, e1, -⟩ := Maps.keyOf_int_inv Tryz.underlying3 hk; exact ⟨y, e1⟩) (fun v y _ => ⟨v, rfl⟩) F (w.heap.size + 1) nf _ _ _ rfl hrg.out ?_ ?_)
    · intro _ hl0
      have hx := oneR_end hJ.out.one (sym_int .i64 0) hl0
      subst hx
      obtain ⟨gg, cap1, hv1, -⟩ := World.ownsRow.form hJ.out.own (by omega)
      clear hl0
      have HOw1 := Lib.hid hJ.out.own
      have HGr1 := Lib.hid hJ.out.grow
      clear hrg hJ
      subst hv1
      go_wp2_with fail
      refine (sort_one _ _ _).mono ?_
      rintro e w1 ⟨rfl, rfl⟩
      go_wp2_with fail
      go_ret
      exact ⟨_, rfl, HOw1.out, HGr1.out⟩
    · intro kx c kl yd yp w1 cnt1 hkey hlk hv hat hrg1 hlt hg1 hs1 hen
      have hkk := oneR_key hJ.out.one hlk
      obtain rfl := int_key Tryz.underlying3 hkey hkk
      obtain ⟨rfl, rfl, hO⟩ := oneR_step hJ.out.one hlk hv hat (sym_int2 .i64 _ kl)
      have HO := Lib.hid hO
      have HRg1 := Lib.hid hrg1
      have HG1 := Lib.hid (hJ.out.grow.grownNew hg1 (by simp))
      have HOw1 := Lib.hid (hJ.out.own.kept hg1 (.inr (rz_ne hJ.out)))
      have HLt := Lib.hid hlt
      obtain ⟨b0, b1, -⟩ := (HFi.out.grow HG1.out (fun e => e)).cells
      have hlg : g < w1.heap.size := (Array.getElem?_eq_some_iff.1 (HFi.out.grow HG1.out (fun e => e))).1
      have o1 : 0 + 1 ≤ maxLen := by decide
      have o3 : w.heap.size ≤ (w1.drew.alloc (.cells #[.int .i64 0] 3)).heap.size := by have := HG1.out.size; simp; exact Nat.le_succ_of_le this
      clear hkey hlk hv hat hrg1 hlt hg1 hs1 hO hkk
      go_wp2_with fail
      go_region_held3 (fun W => W.cell? ⟨g, 0, none⟩ = some (.slice p 100 cap) ∧ W.cell? ⟨g, 1, none⟩ = some (.int .i64 0)) (exact ⟨b0, b1⟩) (fail)
      go_wp2_with (at_builtin; refine wpList_append_own _ rfl (.tmp 27) (.tmp 29) 75 rfl w.heap.size 3 i0 (.int .i64 0) 1 8 Tryz.underlying75 hi hz0 hz1 hz2 rfl (by decide) _ _ _ rfl (HOw1.out.drew.alloc _) ⟨w1.heap.size, 0, none⟩ 1 1 [.int .i64 0] rfl rfl (lit_cells w1.drew _ _) (one_cells rfl) o1 (by decide) o3 ?_; intro v5 w5 how5 hgr5 hn5)
      have HEnd := Lib.hid (rz_step hJ.out HRg1.out HG1.out HO.out how5 hgr5 HS.out.files.lt)
      clear how5 hgr5
      first
        | (refine ⟨⟨_, cnt1, 1, HEnd⟩, ?_⟩
           rw [HEnd.out.rg.left_eq, hrg.out.left_eq]
           exact HLt.out)
        | (go_roundw
           case rel => exact ⟨_, cnt1, 1, HEnd⟩
           case measure => rw [HEnd.out.rg.left_eq, hrg.out.left_eq]; exact HLt.out)
end
section
open Go Go.RowKit Go.Maps Go.WideMaps

theorem len_map {w : World} {k e t : TypeId} {b n : Nat} {D : DataW Value} (h : MapAt w Tryz.prog k b n D) (ht : Tryz.prog.underlying t = some (.map k e)) (ty : TypeId) : (Builtin.len_ #[t] ty #[.map (some b)]).run Tryz.prog w = .ok (.int .i64 (Maps.size D)) w := World.ownsMap.len h ht ty
theorem lo_keep {n0 : Nat} {w w1 : World} {d F O D X : Nat} {room next : Int} {nf no nd nx m : Nat} {ff oo dd xx : DataW Value} {chg : Value} {xs : List Value} (h : DkS n0 w d F O D X room next nf no nd nx m ff oo dd xx chg xs) (hg : Grow (fun _ => False) w.drew w1) : w1.cell? ⟨d, 4, none⟩ = some (.map (some O)) ∧ w1.cell? ⟨d, 7, none⟩ = some chg := by
  obtain ⟨-, -, -, -, c4, -, -, c7, -, -⟩ := (h.same ((Grow.refl _ w).drew.trans hg)).on.cells
  exact ⟨c4, c7⟩
set_option maxRecDepth 100000 in
set_option maxHeartbeats 2000000 in
theorem loose_one {n0 : Nat} {w : World} {d F O D X g cap cc : Nat} {room next : Int} {nf no nd nx m : Nat} {oo dd xx : DataW Value} {wrn : Value} {p q : Option Addr} {xs : List Value}
    (h : DkS n0 w d F O D X room next nf no nd nx m (oneM (.int .i64 0) (.pointer (some ⟨g, 0, none⟩))) oo dd xx (.slice q m cc) xs) (hg : FileAt w g (.slice p 100 cap) 0 wrn) :
    Calls Tryz.prog 29 #[.pointer (some ⟨d, 0, none⟩)] w fun e w' => e = .returned (.tuple #[.int .i64 m, .int .i64 (Maps.size oo), .int .i64 1]) ∧ Grow (fun _ => False) w w' := by
  have HM := Lib.hid (made_yes h.on)
  have HR := Lib.hid (resized_one (show DkS n0 w.drew d F O D X room next nf no nd nx m _ oo dd xx (.slice q m cc) xs from h.same (Grow.refl _ w).drew) (show FileAt w.drew g (.slice p 100 cap) 0 wrn from hg))
  have HS := Lib.hid h
  have hl : d < w.heap.size := h.on.lt
  obtain ⟨-, -, -, -, c4, -, -, c7, -, -⟩ := h.on.cells
  have l0 := fun ty => len_map (w := w.drew) (show MapAt w.drew Tryz.prog 225 O no oo from h.olds) Tryz.underlying127 ty
  clear h hg
  go_enter Tryz.func29, Tryz.ntmps29
  go_wp2_with fail
  refine HM.out.mono ?_
  rintro e w1 ⟨rfl, rfl⟩
  go_wp2_with fail
  go_region_held3 (fun W => W.cell? ⟨d, 4, none⟩ = some (.map (some O)) ∧ W.cell? ⟨d, 7, none⟩ = some (.slice q m cc) ∧ ∀ ty, (Builtin.len_ #[127] ty #[.map (some O)]).run Tryz.prog W = .ok (.int .i64 (Maps.size oo)) W) (first | exact ⟨c4, c7, l0⟩ | exact ⟨(lo_keep HS.out hgr1).1, (lo_keep HS.out hgr1).2, l1⟩) ((go_at_call 84; refine HR.out.mono ?_; rintro e w1 ⟨v, rfl, how1, hgr1⟩; obtain ⟨gg, cap1, rfl, -⟩ := World.ownsRow.form how1 (by decide); have l1 := fun ty => len_map (w := w1) (HS.out.olds.grow ((Grow.refl _ w).drew.trans hgr1) (fun e => e)) Tryz.underlying127 ty; have hl1 : d < w1.heap.size := Nat.lt_of_lt_of_le hl hgr1.size))
  have HG := Lib.hid ((Grow.refl (fun _ => False) w).drew.trans hgr1)
  clear l0 l1 how1 hgr1 c4 c7
  go_wp2_with fail
  first | go_ret3 | skip
  exact ⟨rfl, HG.out⟩
end
section
open Go Go.RowKit Go.Maps Go.WideMaps

/-- What an interface holds, asked for by the type that it bears. -/
theorem assert_dir (w : World) (x : TypeId) (v : Value) : (Instr.typeAssert (.iface 129 v) x 129 false).run Tryz.prog w = .ok v w := by
  unfold Instr.typeAssert
  simp [run_underlying Tryz.underlying129, go_sem, Result.andThen]
/-- The model's own copying of a map, at a map that is there. -/
theorem copy_dir (w : World) (r c : Nat) (es : Array MapEntry) (hb : w.heap[r]? = some (.map es c)) :
    (Extern.MapsClone.clone #[.iface 129 (.map (some r))]).run Tryz.prog w = .ok (.iface 129 (.map (some w.heap.size))) (w.alloc (.map es c)) := by
  have h := MapKept.run_getObj_map (P := Tryz.prog) hb
  show Sem.run Tryz.prog (getObj r >>= _) w = _
  rw [Sem.run_bind, h]
  rfl
end
end Go.Proofs.YtdjhfcopnhcljaaGreatDoor

/-
  cut at the 100 bytes of the file; slices.Clone at bytes.
  Disk.Read of the last 40 of a file's 100 bytes.
  The comparer of two sectors of one file.
-/
import Derived.Test.YtdjhfcopnhcljaaGreatDoorW35
import Derived.Shelf.SlSortCmp.QuietGrown
namespace Go.Proofs.YtdjhfcopnhcljaaGreatDoor
section
open Go Go.RowKit Go.Maps Go.WideMaps

set_option maxRecDepth 100000 in
theorem cut_0 (w : World) (b cap : Nat) (hc : 100 ≤ cap) (hm : cap ≤ maxLen) : Says 158 #[.slice (some ⟨b, 0, none⟩) 100 cap, .int .i64 0] w (.slice (some ⟨b, 0, none⟩) 64 64) := by
  unfold maxLen at hm
  have h1 : (100 : Int) ≤ (cap : Int) := by omega
  have h2 : (cap : Int) ≤ 9223372036854775807 := by omega
  have h3 : (64 : Int) ≤ (cap : Int) := by omega
  go_enter Tryz.func158, Tryz.ntmps158
  go_wp2_with fail
  all_goals (go_ret; exact ⟨rfl, rfl⟩)
set_option maxRecDepth 100000 in
theorem cut_1 (w : World) (b cap : Nat) (hc : 100 ≤ cap) (hm : cap ≤ maxLen) : Says 158 #[.slice (some ⟨b, 0, none⟩) 100 cap, .int .i64 1] w (.slice (some ⟨b, 64, none⟩) 36 36) := by
  unfold maxLen at hm
  have h1 : (100 : Int) ≤ (cap : Int) := by omega
  have h2 : (cap : Int) ≤ 9223372036854775807 := by omega
  have h3 : (64 : Int) ≤ (cap : Int) := by omega
  go_enter Tryz.func158, Tryz.ntmps158
  go_wp2_with fail
  all_goals (go_ret; exact ⟨rfl, rfl⟩)
set_option maxRecDepth 100000 in
set_option maxHeartbeats 2000000 in
theorem cloneB_row (w : World) (b off m cap : Nat) (news : List Value) (h1 : 1 ≤ m) (h2 : m ≤ 1000000) (hl : news.length = m) (hnews : ∀ j u, news[j]? = some u → w.cell? ⟨b, off + j, none⟩ = some u) (hone : ∀ u ∈ news, u.oneCell' = true) (hb : b < w.heap.size) :
    Calls Tryz.prog 131 #[.slice (some ⟨b, off, none⟩) m cap] w fun e w' => ∃ g c, e = .returned (.slice (some ⟨g, 0, none⟩) m c) ∧ w'.ownsRow w.heap.size 5 1 (.slice (some ⟨g, 0, none⟩) m c) m news ∧ Grow (fun _ => False) w w' := by
  have q := fun W : World => Lib.run_eql_slice_nil W 24 5 (some ⟨b, off, none⟩) m cap 0 0 Tryz.underlying24
  obtain ⟨i0, hi, hz0, hz1, hz2⟩ := info_parts infoU8
  have add_is : ∀ j : Nat, (⟨b, off, none⟩ : Addr).add j = ⟨b, off + j, none⟩ := fun j => by unfold Addr.add; split <;> simp_all
  have HNw := Lib.hid (show ∀ j u, news[j]? = some u → (w.alloc (.cells #[] 5)).cell? ((⟨b, off, none⟩ : Addr).add j) = some u from fun j u hu => by rw [add_is, World.cell?_alloc_lt _ _ _ hb]; exact hnews j u hu)
  have HOne := Lib.hid hone
  have HL := Lib.hid (show news.length = m * 1 by omega)
  have o1 : 0 + m ≤ maxLen := by unfold maxLen; omega
  have o2 : (0 + m) * 1 ≤ 140737488355328 := by omega
  clear hnews hone hl add_is
  go_enter Tryz.func131, Tryz.ntmps131
  go_wp2_with (at_builtin; refine wpList_append_lies _ rfl (.tmp 5) (.tmp 6) 24 rfl w.heap.size 5 i0 (.int .u8 0) 1 1 Tryz.underlying24 hi hz0 hz1 hz2 rfl (by decide) _ _ _ rfl (World.ownsRow_made w #[] 0 (Nat.le_refl _) (by decide) rfl) ⟨b, off, none⟩ m cap news rfl HL.out HNw.out HOne.out h1 o1 o2 (by simp) (w.heap.size + 1) (by simp) ?_; intro g5 cap5 w5 how5 hgr5 hloc5 hlt5)
  have HEnd := Lib.hid (And.intro (show w5.ownsRow w.heap.size 5 1 (.slice (some ⟨g5, 0, none⟩) m cap5) m news from by simpa using how5) (((Grow.refl (fun _ => False) w).alloc (.cells #[] 5)).grownNew (r := w.heap.size) hgr5 (Nat.le_refl _)))
  clear how5 hgr5 hloc5 hlt5
  go_ret
  exact ⟨g5, cap5, by simp, HEnd.out.1, HEnd.out.2⟩
theorem ord_none (w : World) (x : Int) : Says 206 #[.int .i64 x] w (.bool false) := by
  go_enter Tryz.func206, Tryz.ntmps206
  go_wp2_with fail
  go_ret
  exact ⟨by simp, rfl⟩
end
section
open Go Go.RowKit Go.Maps Go.WideMaps

theorem rowB {w : World} {n0 gb cap : Nat} {ys : List Value} (h : w.ownsRow n0 5 1 (.slice (some ⟨gb, 0, none⟩) 100 cap) 100 ys) : (∀ j u, ys[j]? = some u → w.cell? ⟨gb, j, none⟩ = some u) ∧ gb < w.heap.size ∧ 100 ≤ cap ∧ cap ≤ maxLen ∧ ys.length = 100 := by
  have hl := h.lt gb (by simp [Value.ownBlock])
  have add_is : ∀ j : Nat, (⟨gb, 0, none⟩ : Addr).add j = ⟨gb, j, none⟩ := fun j => by unfold Addr.add; split <;> simp_all
  have hc := World.ownsRow.cells h (g := gb) (by simp [Value.ownBlock])
  have h1 := h.1
  rcases h.2 with ⟨e, -⟩ | ⟨g, cap', cur, e, -, -, h2, h3, -⟩
  · cases e
  · injection e with _ _ e
    subst e
    exact ⟨fun j u hu => by rw [← add_is]; exact hc j u hu, hl.2, h2, h3, by omega⟩
theorem own_base {w : World} {B B' : Nat} {e : TypeId} {size : Nat} {v : Value} {n : Nat} {xs : List Value} (h : w.ownsRow B e size v n xs) (hb : B' ≤ B) : w.ownsRow B' e size v n xs := by
  refine ⟨h.1, ?_⟩
  rcases h.2 with h2 | ⟨g, cap, cur, rfl, hg, rest⟩
  · exact .inl h2
  · exact .inr ⟨g, cap, cur, rfl, Nat.le_trans hb hg, rest⟩
set_option maxRecDepth 100000 in
set_option maxHeartbeats 2000000 in
theorem read_file {n0 n1 : Nat} {w : World} {d F O D X g gb cap : Nat} {room next fixed : Int} {nf no nd nx m : Nat} {oo xx : DataW Value} {chg wrn : Value} {xs ys : List Value}
    (h : DkS n0 w d F O D X room next nf no nd nx m (oneM (.int .i64 0) (.pointer (some ⟨g, 0, none⟩))) oo (oneM (.string [97]) (.int .i64 0)) xx chg xs) (hg : FileAt w g (.slice (some ⟨gb, 0, none⟩) 100 cap) fixed wrn) (hy : w.ownsRow n1 5 1 (.slice (some ⟨gb, 0, none⟩) 100 cap) 100 ys) (hone : ∀ u ∈ ys, u.oneCell' = true) :
    Calls Tryz.prog 78 #[.pointer (some ⟨d, 0, none⟩), .string ⟨#[97]⟩, .int .i64 60, .int .i64 40] w fun e w' => ∃ g5 c5, e = .returned (.tuple #[.slice (some ⟨g5, 0, none⟩) 40 c5, .int .i64 0]) ∧ w'.ownsRow w.heap.size 5 1 (.slice (some ⟨g5, 0, none⟩) 40 c5) 40 ((ys.drop 60).take 40) ∧ Grow (fun _ => False) w w' := by
  have HM := Lib.hid (made_yes h.on)
  have HF := Lib.hid (find_any ⟨#[97]⟩ 0 (.pointer (some ⟨g, 0, none⟩)) h (by decide) (by decide) rfl rfl rfl)
  have HFi := Lib.hid hg
  have HY := Lib.hid hy
  have HO := Lib.hid hone
  clear h hg hy hone
  go_enter Tryz.func78, Tryz.ntmps78
  go_wp2_with fail
  refine HM.out.mono ?_
  rintro e w1 ⟨rfl, rfl⟩
  go_wp2_with fail
  refine HF.out.mono ?_
  rintro e w1 ⟨rfl, hg1⟩
  have HG1 := Lib.hid hg1
  obtain ⟨b0, -, -⟩ := (HFi.out.grow hg1 (fun e => e)).cells
  have hlg : g < w1.heap.size := (Array.getElem?_eq_some_iff.1 (HFi.out.grow hg1 (fun e => e))).1
  obtain ⟨hcell, hgb, hc1, hc2, hlen⟩ := rowB (own_grow HY.out hg1 (fun _ _ e => e))
  have HCl := Lib.hid (cloneB_row w1 gb 60 40 (cap - 60) ((ys.drop 60).take 40) (by omega) (by omega) (by rw [List.length_take, List.length_drop]; omega) (fun j u hu => hcell (60 + j) u (by rw [List.getElem?_take] at hu; split at hu; rw [List.getElem?_drop] at hu; exact hu; cases hu)) (fun u hu => HO.out u (List.mem_of_mem_drop (List.mem_of_mem_take hu))) hgb)
  unfold maxLen at hc2
  have i1 : (100 : Int) ≤ (cap : Int) := by omega
  have i2 : (cap : Int) ≤ 9223372036854775807 := by omega
  have i3 : ((cap : Int) - 60).toNat = cap - 60 := by omega
  clear hg1 hcell hlen hc1 hc2 HM HF
  go_wp2_with fail
  refine HCl.out.mono ?_
  rintro e w2 ⟨g5, c5, rfl, how, hg2⟩
  have HEnd := Lib.hid (And.intro (own_base how HG1.out.size) (HG1.out.trans hg2))
  clear how hg2
  go_wp2_with fail
  go_ret2
  exact ⟨g5, c5, rfl, HEnd.out.1, HEnd.out.2⟩
end
section
open Go Go.RowKit Go.Maps Go.WideMaps

/-- Some draws, and new blocks alone. -/
def dGrown (w w' : World) : Prop := ∃ (q : Nat) (os : Array Obj), w' = Sort.grow (w.drewN q) os
theorem dGrown.refl (w : World) : dGrown w w := ⟨0, #[], by rw [Sort.grow_empty]; rfl⟩
theorem dGrown.trans {a b c : World} (h : dGrown a b) (h' : dGrown b c) : dGrown a c := by
  obtain ⟨q, os, rfl⟩ := h
  obtain ⟨q', os', rfl⟩ := h'
  refine ⟨q + q', os ++ os', ?_⟩
  rw [← Sort.grow_grow, ← World.drewN_drewN]
  rfl
theorem dGrown.alloc {a b : World} (h : dGrown a b) (o : Obj) : dGrown a (b.alloc o) := h.trans ⟨0, #[o], by rw [Sort.alloc_eq_grow]; rfl⟩
theorem dGrown.drew {a b : World} (h : dGrown a b) : dGrown a b.drew := h.trans ⟨1, #[], by rw [Sort.grow_empty]; rfl⟩
theorem dGrown.below {a b : World} (h : dGrown a b) : Below a.heap.size a b := by
  obtain ⟨q, os, rfl⟩ := h
  exact ⟨rfl, rfl, rfl, by show a.heap.size ≤ (a.heap ++ os).size; rw [Array.size_append]; omega, fun j hj => Array.getElem?_append_left hj⟩
theorem dGrown.size {a b : World} (h : dGrown a b) : a.heap.size ≤ b.heap.size := h.below.size
theorem dGrown.grow {w w' : World} (h : dGrown w w') : Grow (fun _ => False) w w' := ⟨h.below.os, h.below.tape, h.below.output, h.below.size, fun k hk _ => h.below.block k hk⟩
def dCmpI (x y : Int) : Int := if x < y then -1 else if y < x then 1 else 0
theorem lo1_keep {W0 : World} {n : Nat} {x y : Int} {o : Obj} (hsz : n + 1 < W0.heap.size) (a0 : W0.cell? ⟨n, 0, none⟩ = some (.int .i64 0)) (a1 : W0.cell? ⟨n, 1, none⟩ = some (.int .i64 x)) (b0 : W0.cell? ⟨n + 1, 0, none⟩ = some (.int .i64 0)) (b1 : W0.cell? ⟨n + 1, 1, none⟩ = some (.int .i64 y)) :
    (W0.alloc o).drew.cell? ⟨n, 0, none⟩ = some (.int .i64 0) ∧ (W0.alloc o).drew.cell? ⟨n, 1, none⟩ = some (.int .i64 x) ∧ (W0.alloc o).drew.cell? ⟨n + 1, 0, none⟩ = some (.int .i64 0) ∧ (W0.alloc o).drew.cell? ⟨n + 1, 1, none⟩ = some (.int .i64 y) :=
  ⟨(World.cell?_alloc_lt W0 _ _ (by show n < W0.heap.size; omega)).trans a0, (World.cell?_alloc_lt W0 _ _ (by show n < W0.heap.size; omega)).trans a1, (World.cell?_alloc_lt W0 _ _ hsz).trans b0, (World.cell?_alloc_lt W0 _ _ hsz).trans b1⟩
end
end Go.Proofs.YtdjhfcopnhcljaaGreatDoor

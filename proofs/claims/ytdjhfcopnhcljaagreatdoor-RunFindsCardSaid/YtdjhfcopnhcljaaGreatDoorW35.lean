/-
  Disk.dirAfter at the first change.
  directory.files at one name; chosen.
  Disk.sizesAfter at one file whose size is kept.
-/
import Derived.Test.YtdjhfcopnhcljaaGreatDoorW34
namespace Go.Proofs.YtdjhfcopnhcljaaGreatDoor
section
open Go Go.RowKit Go.Maps Go.WideMaps

theorem row3 {w : World} {n0 gc cc : Nat} {x y z : Value} (h : w.ownsRow n0 138 3 (.slice (some ⟨gc, 0, none⟩) 1 cc) 1 [x, y, z]) : w.cell? ⟨gc, 0, none⟩ = some x ∧ w.cell? ⟨gc, 1, none⟩ = some y ∧ w.cell? ⟨gc, 2, none⟩ = some z ∧ gc < w.heap.size ∧ n0 ≤ gc ∧ 1 ≤ cc ∧ cc ≤ maxLen := by
  have c0 := World.ownsRow.cells h (g := gc) (by simp [Value.ownBlock]) 0 x rfl
  have c1 := World.ownsRow.cells h (g := gc) (by simp [Value.ownBlock]) 1 y rfl
  have c2 := World.ownsRow.cells h (g := gc) (by simp [Value.ownBlock]) 2 z rfl
  have hl := h.lt gc (by simp [Value.ownBlock])
  have add_is : ∀ j : Nat, (⟨gc, 0, none⟩ : Addr).add j = ⟨gc, j, none⟩ := fun j => by unfold Addr.add; split <;> simp_all
  rw [add_is] at c0 c1 c2
  rcases h.2 with ⟨e, -⟩ | ⟨g, cap, cur, e, -, -, h1, h2, -⟩
  · cases e
  · injection e with _ _ e
    subst e
    exact ⟨c0, c1, c2, hl.2, hl.1, h1, h2⟩
end
section
open Go Go.RowKit Go.Maps Go.WideMaps

/-- The numbers of the files, behind x rounds. -/
def FM : Nat → DataW Value
  | 0 => .map []
  | _ + 1 => oneM (.int .i64 0) (.agg #[])
/-- What a round of files begins with. -/
structure FiR (w : World) (D r M nd x : Nat) (s : List UInt8) (left : Lit → Bool) (cnt : Nat) (wr : World) : Prop where
  rg : wr.ranges Tryz.prog 9 heldE D r nd (oneM (.string s) (.int .i64 0)) left cnt
  grow : Grow (fun _ => False) w wr
  one : OneR (.string s) (.int .i64 0) left x 1
  map : MapAt wr Tryz.prog 3 M x (FM x)
theorem fi_step {w wr w1 w5 : World} {D r M nd : Nat} {s : List UInt8} {left left' : Lit → Bool} {cnt cnt1 : Nat} (_ : FiR w D r M nd 0 s left cnt wr) (hr : w1.ranges Tryz.prog 9 heldE D r nd (oneM (.string s) (.int .i64 0)) left' cnt1) (hg : Grow (fun _ => False) w w1)
    (ho : OneR (.string s) (.int .i64 0) left' 1 1) (hm : MapAt w5 Tryz.prog 3 M (0 + 1) ((FM 0).put (.int .i64 0) (.held (.agg #[])))) (hgr : w1.grownBy w5 (some M)) (hM : w.heap.size ≤ M) (hD : D < w.heap.size) (hMr : M ≠ r) : FiR w D r M nd 1 s left' cnt1 w5 :=
  ⟨hr.kept hgr (fun e => by have := Option.some.inj e; omega) (fun e => hMr (Option.some.inj e).symm), hg.thenNew (T := fun k => k = M) (Grow.of_grown hgr (fun k e _ => (Option.some.inj e).symm)) (fun i hi e => by omega), ho, hm⟩
end
section
open Go Go.RowKit Go.Maps Go.WideMaps

def SM : Nat → DataW Value
  | 0 => .map []
  | _ + 1 => oneM (.int .i64 0) (.int .i64 0)
/-- What a round of the first loop begins with. -/
structure SzR (w : World) (F r M nf g x : Nat) (left : Lit → Bool) (cnt : Nat) (wr : World) : Prop where
  rg : wr.ranges Tryz.prog 3 heldE F r nf (oneM (.int .i64 0) (.pointer (some ⟨g, 0, none⟩))) left cnt
  grow : Grow (fun _ => False) w wr
  one : OneR (.int .i64 0) (.pointer (some ⟨g, 0, none⟩)) left x 1
  map : MapAt wr Tryz.prog 3 M x (SM x)
theorem sz_step {w wr w1 w5 : World} {F r M nf g : Nat} {left left' : Lit → Bool} {cnt cnt1 : Nat} (_ : SzR w F r M nf g 0 left cnt wr) (hr : w1.ranges Tryz.prog 3 heldE F r nf (oneM (.int .i64 0) (.pointer (some ⟨g, 0, none⟩))) left' cnt1) (hg : Grow (fun _ => False) w w1)
    (ho : OneR (.int .i64 0) (.pointer (some ⟨g, 0, none⟩)) left' 1 1) (hm : MapAt w5 Tryz.prog 3 M (0 + 1) ((SM 0).put (.int .i64 0) (.held (.int .i64 0)))) (hgr : w1.grownBy w5 (some M)) (hM : w.heap.size ≤ M) (hF : F < w.heap.size) (hMr : M ≠ r) : SzR w F r M nf g 1 left' cnt1 w5 :=
  ⟨hr.kept hgr (fun e => by have := Option.some.inj e; omega) (fun e => hMr (Option.some.inj e).symm), hg.thenNew (T := fun k => k = M) (Grow.of_grown hgr (fun k e _ => (Option.some.inj e).symm)) (fun i hi e => by omega), ho, hm⟩
end
end Go.Proofs.YtdjhfcopnhcljaaGreatDoor

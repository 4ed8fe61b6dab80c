/-
  Disk.dirAfter at the first change.
-/
import Derived.Test.YtnmeehhjfcciiaaDkV
namespace Go.Proofs.Ytnmeehhjfcciiaa
open Go Go.RowKit Go.Maps Go.WideMaps

theorem row3 {w : World} {n0 gc cc : Nat} {x y z : Value} (h : w.ownsRow n0 72 3 (.slice (some ⟨gc, 0, none⟩) 1 cc) 1 [x, y, z]) : w.cell? ⟨gc, 0, none⟩ = some x ∧ w.cell? ⟨gc, 1, none⟩ = some y ∧ w.cell? ⟨gc, 2, none⟩ = some z ∧ gc < w.heap.size ∧ n0 ≤ gc ∧ 1 ≤ cc ∧ cc ≤ maxLen := by
  have c0 := World.ownsRow.cells h (g := gc) (by simp [Value.ownBlock]) 0 x rfl
  have c1 := World.ownsRow.cells h (g := gc) (by simp [Value.ownBlock]) 1 y rfl
  have c2 := World.ownsRow.cells h (g := gc) (by simp [Value.ownBlock]) 2 z rfl
  have hl := h.lt gc (by simp [Value.ownBlock])
  have add_is : ∀ j : Nat, (⟨gc, 0, none⟩ : Addr).add j = ⟨gc, j, none⟩ := fun j => by unfold Addr.add; split <;> simp_all
  rw [add_is] at c0 c1 c2
  rcases h.2 with ⟨e, -⟩ | ⟨g, cap, cur, e, -, -, h1, h2, -⟩
  · cases e
  · injection e with _ _ e
    subst e
    exact ⟨c0, c1, c2, hl.2, hl.1, h1, h2⟩
set_option maxRecDepth 100000 in
set_option maxHeartbeats 2000000 in
theorem dirAfter_one {n0 : Nat} {w : World} {d F O D X gc cc : Nat} {room next file : Int} {nf no nd nx : Nat} {ff oo dd xx : DataW Value} (a c : ByteArray)
    (h : DkS n0 w d F O D X room next nf no nd nx 1 ff oo dd xx (.slice (some ⟨gc, 0, none⟩) 1 cc) [.string a, .string c, .int .i64 file]) (hn : nx ≤ 1000000) (ha : a.size ≤ maxLen) (hc : c.size ≤ maxLen) (hne : c.toList.isEmpty = false) :
    Calls Try.prog 35 #[.pointer (some ⟨d, 0, none⟩), .int .i64 1] w fun e w' => ∃ r, e = .returned (.map (some r)) ∧ w.heap.size ≤ r ∧ MapAt w' Try.prog 9 r (nx + 1) (doD xx a c file) ∧ Grow (fun _ => False) w w' := by
  have HS := Lib.hid h
  have HCl := Lib.hid (cloneD_any w X nx xx h.fixed)
  have hl : d < w.heap.size := h.on.lt
  obtain ⟨-, -, -, -, -, -, c6, -, -, -⟩ := h.on.cells
  have HA := Lib.hid (And.intro ha (And.intro hc hne))
  have HN := Lib.hid hn
  clear h ha hc hne hn
  go_enter Try.func35, Try.ntmps35
  go_wp2_with fail
  refine HCl.out.mono ?_
  rintro e w1 ⟨rfl, hm1, hg1, hs1⟩
  have HM1 := Lib.hid hm1
  have HG1 := Lib.hid hg1
  have HOn := Lib.hid (HS.out.on.grow hg1 (fun e => e))
  have HRow := Lib.hid (own_grow HS.out.own hg1 (fun _ _ e => e))
  obtain ⟨-, -, -, -, -, -, -, c7, -, -⟩ := HOn.out.cells
  obtain ⟨-, -, -, hlc, -, hcc1, hcc2⟩ := row3 HRow.out
  unfold maxLen at hcc2
  have hl1 : d < w1.heap.size := HOn.out.lt
  have hcc1' : (1 : Int) ≤ (cc : Int) := by omega
  have hcc2' : (cc : Int) ≤ 9223372036854775807 := by omega
  clear hm1 hg1 c6 HCl
  go_wp2_with fail
  go_loopw [20] (fun i wr => ∃ k : Nat, k ≤ 1 ∧ i = .int .i64 k ∧ Hid (Grow (fun b => b = w.heap.size) w1 wr ∧ ((k = 0 ∧ MapAt wr Try.prog 9 w.heap.size nx xx) ∨ (k = 1 ∧ MapAt wr Try.prog 9 w.heap.size (nx + 1) (doD xx a c file))))) (fun i _ => 1 - (intOf i).toNat)
  case atStart => exact ⟨0, by omega, rfl, Lib.hid ⟨Grow.refl _ _, .inl ⟨rfl, HM1.out⟩⟩⟩
  case round =>
    obtain ⟨k, hk, rfl, hJ⟩ := hrel
    by_cases hk0 : k = 0
    case neg =>
      obtain rfl : k = 1 := by omega
      have HE := Lib.hid (show MapAt wr Try.prog 9 w.heap.size (nx + 1) (doD xx a c file) from by
        rcases hJ.out.2 with ⟨h0, -⟩ | ⟨-, h1⟩
        · omega
        · exact h1)
      have HGw := Lib.hid (HG1.out.thenNew hJ.out.1 (fun i hi e => by omega))
      go_wp2_with fail
      go_ret
      exact ⟨_, rfl, Nat.le_refl _, HE.out, HGw.out⟩
    subst hk0
    have HM := Lib.hid (show MapAt wr Try.prog 9 w.heap.size nx xx from by
      rcases hJ.out.2 with ⟨-, h1⟩ | ⟨h0, -⟩
      · exact h1
      · omega)
    have hgcw : gc ≠ w.heap.size := by have := (HS.out.own.lt gc (by simp [Value.ownBlock])).2; omega
    obtain ⟨r0, r1, r2, hlr, -, -, -⟩ := row3 (own_grow HRow.out hJ.out.1 (fun k hk e => hgcw ((show gc = k by simpa [Value.ownBlock] using hk).trans e)))
    go_wp2_with fail
    refine (do_any (wr.alloc (.cells #[.string a, .string c, .int .i64 file] 72)) w.heap.size nx xx a c file (HM.out.alloc _) (by have := HN.out; unfold maxLen; omega) HA.out.1 HA.out.2.1 HA.out.2.2).mono ?_
    rintro e w3 ⟨rfl, hm3, hg3⟩
    have HE := Lib.hid (And.intro hm3 ((hJ.out.1.alloc (.cells #[.string a, .string c, .int .i64 file] 72)).trans (Grow.of_grown hg3 (fun k e _ => (Option.some.inj e).symm))))
    clear hm3 hg3 r0 r1 r2
    go_wp2_with fail
    go_roundw
    case rel => exact ⟨1, by omega, by go_num, Lib.hid ⟨HE.out.2, .inr ⟨rfl, HE.out.1⟩⟩⟩
    case measure => simp [intOf]
end Go.Proofs.Ytnmeehhjfcciiaa

/-
  An argument that is a call: a struct of four cells, opened as far as its key.
-/
import Derived.Test.YtdjebcfpodfhhaaChN
import Derived.Below
import Derived.ProofKit
import Derived.OpenShut
import Derived.ChangeOld
import Derived.Lib.SmallJoins
import Derived.Deep.Slices
import Derived.WideShapes
namespace Go.Proofs.Ytdjebcfpodfhhaa
open Go Go.RowKit Go.ChangeShapes Go.WideShapes Go.Deep

set_option maxRecDepth 100000
theorem own : ownKnob Try.prog.godebug = none := by kernel_rfl
theorem laidOut : laidOutB Try.prog = true := by kernel_rfl
theorem cellsOp : Try.prog.cellsOf 36 = 4 := by kernel_rfl
theorem cellsPl : Try.prog.cellsOf 34 = 1 := by kernel_rfl
theorem array4 {α : Type} {cs : Array α} (h : cs.size = 4) : ∃ c0 c1 c2 c3, cs = #[c0, c1, c2, c3] := by
  obtain ⟨l⟩ := cs
  match l, h with
  | [c0, c1, c2, c3], _ => exact ⟨c0, c1, c2, c3, rfl⟩
theorem wf_i64 {n : Int} (h : (Lit.int .i64 n).wf = true) : -9223372036854775808 ≤ n ∧ n ≤ 9223372036854775807 := by
  have h' : IntKind.i64.min ≤ n ∧ n ≤ 9223372036854775807 := by simpa [Lit.wf] using h
  exact h'
/-- A call's four cells. -/
theorem open_cells {H : Type} {enc : TypeId × Value → H} {W : World} {base : Nat} {sp : Nat → Bool} {held : Bool} {fuel : Nat} {cs : List Value} {x : DataW H × List MemPlace} (h : DataW.trod enc Try.prog W base sp held fuel 36 cs = some x) :
    ∃ (kd pg : Int) (r : ByteArray) (pv : Value) (y : DataW H × List MemPlace) (n : Nat) (ys : List (DataW H × List MemPlace)), cs = [.int .i64 kd, .string r, .int .i64 pg, pv] ∧ (Lit.int .i64 pg).wf = true ∧ (Lit.int .i64 kd).wf = true ∧ r.size ≤ maxLen ∧ DataW.trod enc Try.prog W base sp held n 34 [pv] = some y ∧ x = (.agg (ys.map (·.1)), ys.flatMap (·.2)) ∧ ys[2]? = some y := by
  obtain ⟨ys, n', -, hx, hlen, hyl, hf⟩ := DataW.trod_struct Try.underlying36 h
  rw [cellsOp] at hlen
  match cs, hlen with
  | [c0, c1, c2, c3], _ =>
    have hy : ys.length = 3 := hyl
    match ys, hy with
    | [y0, y1, y2], _ =>
      have e0 : DataW.trod enc Try.prog W base sp held n' 3 (([c0, c1, c2, c3].drop 0).take (Try.prog.cellsOf 3)) = some y0 := hf 0 _ rfl
      have e1 : DataW.trod enc Try.prog W base sp held n' 33 (([c0, c1, c2, c3].drop 1).take (Try.prog.cellsOf 33)) = some y1 := hf 1 _ rfl
      have e2 : DataW.trod enc Try.prog W base sp held n' 34 (([c0, c1, c2, c3].drop 3).take (Try.prog.cellsOf 34)) = some y2 := hf 2 _ rfl
      rw [cellsIn] at e0
      rw [cellsPg] at e1
      rw [cellsPl] at e2
      obtain ⟨zs, m, -, -, -, hzl, hg⟩ := DataW.trod_struct Try.underlying33 e1
      have hz : zs.length = 2 := hzl
      match zs, hz with
      | [z0, z1], _ =>
        have g0 : DataW.trod enc Try.prog W base sp held m 9 (([c1, c2].drop 0).take (Try.prog.cellsOf 9)) = some z0 := hg 0 _ rfl
        have g1 : DataW.trod enc Try.prog W base sp held m 3 (([c1, c2].drop 1).take (Try.prog.cellsOf 3)) = some z1 := hg 1 _ rfl
        rw [cellsStr] at g0
        rw [cellsIn] at g1
        obtain ⟨k, hk, -, wk⟩ := DataW.trod_int Try.underlying3 e0
        obtain ⟨s, hs, -, ws⟩ := DataW.trod_string Try.underlying9 g0
        obtain ⟨p, hp, -, wp⟩ := DataW.trod_int Try.underlying3 g1
        simp at hk hs hp
        subst hk hs hp
        exact ⟨k, p, s, c3, y2, n', _, rfl, wp, wk, ws, e2, hx, rfl⟩
theorem open_op {H : Type} {enc : TypeId × Value → H} {W : World} {base : Nat} {sp : Nat → Bool} {held : Bool} {r : Reach} {b0 : Nat} {v : Value} {d : DataW H} {p : List MemPlace}
    (hv : Value.okWide Try.prog W r b0 36 v) (h : DataW.Trod enc Try.prog W base sp held 36 v d p) :
    ∃ (kd pg : Int) (nm : ByteArray) (pv : Value), v = .agg #[.int .i64 kd, .string nm, .int .i64 pg, pv] := by
  obtain ⟨cs, rfl, hsz⟩ := okWide_struct Try.underlying36 hv
  obtain ⟨fuel, hf⟩ := h
  have hf' : DataW.trod enc Try.prog W base sp held fuel 36 cs.toList = some (d, p) := hf
  obtain ⟨kd, pg, nm, pv, y, n, ys, e, -⟩ := open_cells hf'
  refine ⟨kd, pg, nm, pv, ?_⟩
  have : cs = #[.int .i64 kd, .string nm, .int .i64 pg, pv] := by
    apply Array.ext'
    simpa using e
  rw [this]
end Go.Proofs.Ytdjebcfpodfhhaa

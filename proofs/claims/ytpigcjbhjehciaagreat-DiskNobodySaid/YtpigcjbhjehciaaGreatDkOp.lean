/-
  An argument that is an act: a struct of eight cells, opened.
-/
import Derived.Test.YtpigcjbhjehciaaGreatDkN
import Derived.Below
import Derived.ProofKit
import Derived.OpenShut
import Derived.ChangeOld
import Derived.Lib.SmallJoins
namespace Go.Proofs.YtpigcjbhjehciaaGreat
open Go Go.RowKit Go.ChangeShapes Go.WideShapes Go.Deep

set_option maxRecDepth 100000
theorem own : ownKnob Tryz.prog.godebug = none := by kernel_rfl
theorem laidOut : laidOutB Tryz.prog = true := by kernel_rfl
theorem cellsOp : Tryz.prog.cellsOf 36 = 8 := by kernel_rfl
theorem cellsInt : Tryz.prog.cellsOf 3 = 1 := by kernel_rfl
theorem cellsStr : Tryz.prog.cellsOf 9 = 1 := by kernel_rfl
theorem array8 {α : Type} {cs : Array α} (h : cs.size = 8) : ∃ c0 c1 c2 c3 c4 c5 c6 c7, cs = #[c0, c1, c2, c3, c4, c5, c6, c7] := by
  obtain ⟨l⟩ := cs
  match l, h with
  | [c0, c1, c2, c3, c4, c5, c6, c7], _ => exact ⟨c0, c1, c2, c3, c4, c5, c6, c7, rfl⟩
theorem open_op {H : Type} {enc : TypeId × Value → H} {W : World} {base : Nat} {sp : Nat → Bool} {held : Bool} {r : Reach} {b0 : Nat} {v : Value} {d : DataW H} {p : List MemPlace}
    (hv : Value.okWide Tryz.prog W r b0 36 v) (h : DataW.Trod enc Tryz.prog W base sp held 36 v d p) :
    ∃ (kd at_ : Int) (nm to_ : ByteArray) (b l0 l1 l2 : Value), v = .agg #[.int .i64 kd, .string nm, .string to_, .int .i64 at_, b, l0, l1, l2] := by
  obtain ⟨cs, rfl, hsz⟩ := okWide_struct Tryz.underlying36 hv
  obtain ⟨c0, c1, c2, c3, c4, c5, c6, c7, rfl⟩ := array8 (hsz.trans cellsOp)
  obtain ⟨fuel, hf⟩ := h
  obtain ⟨xs, n, -, -, -, hlen, hfs⟩ := DataW.trod_struct Tryz.underlying36 hf
  have h0 : DataW.trod enc Tryz.prog W base sp held n 3 [c0] = xs[0]? := by simpa [cellsInt, Value.cells] using hfs 0 _ rfl
  have h1 : DataW.trod enc Tryz.prog W base sp held n 9 [c1] = xs[1]? := by simpa [cellsStr, Value.cells] using hfs 1 _ rfl
  have h2 : DataW.trod enc Tryz.prog W base sp held n 9 [c2] = xs[2]? := by simpa [cellsStr, Value.cells] using hfs 2 _ rfl
  have h3 : DataW.trod enc Tryz.prog W base sp held n 3 [c3] = xs[3]? := by simpa [cellsInt, Value.cells] using hfs 3 _ rfl
  match xs, hlen with
  | [y0, y1, y2, y3, y4, y5], _ =>
    obtain ⟨k, e0, -, -⟩ := DataW.trod_int Tryz.underlying3 h0
    obtain ⟨s, e1, -, -⟩ := DataW.trod_string Tryz.underlying9 h1
    obtain ⟨t, e2, -, -⟩ := DataW.trod_string Tryz.underlying9 h2
    obtain ⟨a, e3, -, -⟩ := DataW.trod_int Tryz.underlying3 h3
    injection e0 with e0
    injection e1 with e1
    injection e2 with e2
    injection e3 with e3
    subst e0 e1 e2 e3
    exact ⟨k, a, s, t, c4, c5, c6, c7, rfl⟩
end Go.Proofs.YtpigcjbhjehciaaGreat

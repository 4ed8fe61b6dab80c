/-
  The frame of a law's proof: what the row's condition on the library's variables gives the walks ('Glob'), how an argument is opened, the start that meets the condition.
-/
import Derived.Test.YtpemmgbopknopaaDoorG08
import Derived.ProofKit
import Derived.LaidMore
import Derived.OpenShut
import Derived.ShutString
import Derived.ChangeOld
import Derived.Stop.Joined
import Derived.Stop.LaidErr
import Derived.Lib.SmallJoins
namespace Go.Proofs.YtpemmgbopknopaaDoor
open Go Go.ChangeShapes Go.WideShapes Go.ChangeAt Go.RowKit

set_option maxRecDepth 100000
theorem own : ownKnob Tryd.prog.godebug = none := by kernel_rfl
theorem laidOut : laidOutB Tryd.prog = true := by kernel_rfl
theorem tyTab : (Tryd.prog.globals[0]?).map (·.type) = some 157 := by kernel_rfl
theorem tySyn : (Tryd.prog.globals[4]?).map (·.type) = some 118 := by kernel_rfl
theorem tyRng : (Tryd.prog.globals[5]?).map (·.type) = some 118 := by kernel_rfl
theorem cellsTab : Tryd.prog.cellsOf 157 = 20 := by kernel_rfl
theorem cellsU64 : Tryd.prog.cellsOf 145 = 1 := by kernel_rfl
theorem tyLet : (Tryd.prog.globals[1]?).map (·.type) = some 162 := by kernel_rfl
theorem cellsLet : Tryd.prog.cellsOf 162 = 123 := by kernel_rfl
theorem cellsCls : Tryd.prog.cellsOf 150 = 1 := by kernel_rfl
theorem cellsErr : Tryd.prog.cellsOf 185 = 1 := by kernel_rfl
theorem cellsStr : Tryd.prog.cellsOf 9 = 1 := by kernel_rfl
theorem cellsVal : Tryd.prog.cellsOf 58 = 3 := by kernel_rfl
theorem errStar : "*" ++ "errors.errorString" = "*errors.errorString" := by decide
theorem errRow (u : TypeId) (h : Tryd.prog.typeName? 3 u = some "*errors.errorString") : u = 183 :=
  typeName_ptr_named (nm := "errors.errorString") (by rw [errStar]; kernel_rfl) (by kernel_rfl) (by decide) u (by rw [errStar]; exact h)

/-- What every row of layers 13 and 14 lists. -/
def laid6 {H : Type} : List (String × DataW H) := [("math/bits.deBruijn32tab", Rows.laid_math_bits_deBruijn32tab), ("math/bits.deBruijn64tab", Rows.laid_math_bits_deBruijn64tab), ("internal/strconv.uint64pow10", Rows.laid_internal_strconv_uint64pow10), ("strconv.ErrRange", Rows.laid_strconv_ErrRange), ("strconv.ErrSyntax", Rows.laid_strconv_ErrSyntax), ("pedigree/lex.letters", Rows.laid_pedigree_lex_letters)]

theorem glob_of_laid {W : World} (h0 : laidMetH Tryd.prog laid6 W) : Glob W := by
  rw [MakeChecks.laidMetH_plain _ _ _ (by kernel_rfl)] at h0
  have h2 := h0.tail.tail
  have h3 := h2.tail
  have h4 := h3.tail
  have h5 := h4.tail
  have lett := Lib.tabIs_of_head (k := .u8) (zs := letTab) gLet tyLet Tryd.underlying162 Tryd.underlying150 cellsCls cellsLet h5
  have tab := Lib.tabIs_of_head (k := .u64) (zs := Lib.pow10Tab) gTab tyTab Tryd.underlying157 Tryd.underlying145 cellsU64 cellsTab h2
  obtain ⟨ar, sr, hr, -, -, -⟩ := laid_sentinel h3 gRng tyRng Tryd.underlying118 errRow Tryd.underlying183 Tryd.underlying185 rfl rfl Tryd.underlying9 cellsErr cellsStr
  obtain ⟨at_, ss, hs, -, -, -⟩ := laid_sentinel h4 gSyn tySyn Tryd.underlying118 errRow Tryd.underlying183 Tryd.underlying185 rfl rfl Tryd.underlying9 cellsErr cellsStr
  obtain ⟨ps, ⟨g0, t0, cs0, f0, p0, q0, hg0, ht0, hv0, -, ⟨g1, t1, cs1, f1, p1, q1, hg1, ht1, hv1, -, -, -⟩, -⟩, -, -⟩ := h0
  have g64 : Tryd.prog.globalNamed "math/bits.deBruijn64tab" = some 3 := by kernel_rfl
  have l1 : 3 < W.heap.size := by
    have hv := hv1
    unfold World.var? at hv
    rw [g64] at hv
    simp only [Option.bind_some] at hv
    rcases Nat.lt_or_ge 3 W.heap.size with hl | hl
    · exact hl
    · rw [Array.getElem?_eq_none hl] at hv
      cases hv
  have l2 : 5 < W.heap.size := by
    have hv := hr
    unfold World.var? at hv
    rw [gRng] at hv
    simp only [Option.bind_some] at hv
    rcases Nat.lt_or_ge 5 W.heap.size with hl | hl
    · exact hl
    · rw [Array.getElem?_eq_none hl] at hv
      cases hv
  exact ⟨tab, ⟨_, _, hs⟩, ⟨_, _, hr⟩, lett, by omega⟩

/-- The door's own heap meets the condition. -/
theorem door_met (os : Os) (args : Array Value) : laidMetH Tryd.prog laid6 ((World.doorLaid Tryd.prog 400 os).forCall (fun _ _ => 0) ⟨#[], args, []⟩).memory :=
  laidMetH_of_parts3 (fuel := 8) (laidMet_of_run' 8 (by kernel_rfl) (by kernel_rfl)) (by kernel_rfl) (by kernel_rfl)

theorem wf_I64 {n : Int} (h : (Lit.int .i64 n).wf = true) : I64 n := by
  have h' : IntKind.i64.min ≤ n ∧ n ≤ 9223372036854775807 := by simpa [Lit.wf] using h
  exact h'

/-- An argument that is a value: its kind, its number, its bytes. -/
theorem open_val {H : Type} {enc : TypeId × Value → H} {W : World} {base : Nat} {sp : Nat → Bool} {held : Bool} {r : Reach} {b0 : Nat} {v : Value} {d : DataW H} {p : List MemPlace}
    (hv : Value.okWide Tryd.prog W r b0 58 v) (h : DataW.Trod enc Tryd.prog W base sp held 58 v d p) :
    ∃ (k n : Int) (s : ByteArray), v = .agg #[.int .i64 k, .int .i64 n, .string s] ∧ I64 k ∧ I64 n ∧ s.size ≤ maxLen := by
  obtain ⟨v0, v1, v2, y0, y1, y2, m, rfl, -, -, h0, h1, h2⟩ := Joins.open_agg3 Tryd.underlying58 (by kernel_rfl) cellsVal hv h
  obtain ⟨k, e0, -, w0⟩ := DataW.trod_int Tryd.underlying56 h0
  obtain ⟨n, e1, -, w1⟩ := DataW.trod_int Tryd.underlying2 h1
  obtain ⟨s, e2, -, w2⟩ := DataW.trod_string Tryd.underlying9 h2
  simp only [List.cons.injEq, and_true] at e0 e1 e2
  subst e0 e1 e2
  refine ⟨k, n, s, rfl, ?_, ?_, w2⟩
  · exact wf_I64 w0
  · exact wf_I64 w1

end Go.Proofs.YtpemmgbopknopaaDoor

/-
  The laws' own alive answers true.
  The frame of a law's proof: what the row's condition on the library's variables gives the walks ('Glob'), how an argument is opened, the start that meets the condition.
-/
import Derived.Test.YtnbaemfkpfmheaaGreatDoorG11
import Derived.Test.YtnbaemfkpfmheaaGreatDoorG07
import Derived.Test.YtnbaemfkpfmheaaGreatDoorG08
import Derived.Test.YtnbaemfkpfmheaaGreatDoorG10
import Derived.Test.YtnbaemfkpfmheaaGreatDoorG04
import Derived.ProofKit
import Derived.LaidMore
import Derived.OpenShut
import Derived.ShutString
import Derived.ChangeOld
import Derived.Stop.Joined
import Derived.Stop.LaidErr
import Derived.Lib.SmallJoins
namespace Go.Proofs.YtnbaemfkpfmheaaGreatDoor
section
open Go Go.RowKit Go.Shelf

set_option maxRecDepth 100000 in
set_option maxHeartbeats 8000000 in
theorem alive_any (w : World) (G : Glob w) : Calls Tryz.prog 10 #[] w fun e w' => e = .returned (.bool true) ∧ Below w.heap.size w w' := by
  have HG := Lib.hid G
  clear G
  go_enter Tryz.func10, Tryz.ntmps10
  go_wp2_with fail
  refine (parseRule_any _ w HG.out).mono ?_
  rintro y w1 ⟨hb, ⟨hs, a, v, hsay, rfl, hv⟩ | ⟨hs, n, hsay, rfl⟩ | ⟨hs, n, hsay, rfl⟩ | ⟨hl, rfl⟩⟩
  rotate_left
  · exact absurd (hsay.symm.trans say_ex) (by intro e; cases e)
  · exact absurd (hsay.symm.trans say_ex) (by intro e; cases e)
  · exact absurd hl (by decide)
  obtain rfl : a = rEx := by have := hsay.symm.trans say_ex; injection this
  obtain ⟨u, x, rfl, h1, h2⟩ := hv
  have HB1 := Lib.hid hb
  have HV := Lib.hid h2
  obtain ⟨pu, cu, rfl⟩ := h1.shape
  obtain ⟨b, off, c, t1, e1, hbb, ht1, a0, a1, a2, a3, a4, a5, a6, a7, a8, a9, a10, a11, a12, a13⟩ := li_at h2 (j := 0) (by decide)
  obtain ⟨b', off', c', t2, e2, hbb', ht2, d0, d1, d2, d3, d4, d5, d6, d7, d8, d9, d10, d11, d12, d13⟩ := li_at h2 (j := 1) (by decide)
  rw [e1] at e2
  injection e2 with e2 _ _
  injection e2 with e2
  injection e2 with e2 e3
  subst e2
  subst e3
  subst e1
  obtain ⟨bt, ot, ct, e4, hbt, k0, -⟩ := cells5_at ht1 (j := 1) (by decide)
  subst e4
  have A0 : w1.cell? ⟨b, off, none⟩ = some (.int .i64 1) := a0
  have A2 : w1.cell? ⟨b, off + 2, none⟩ = some (.slice (some ⟨bt, ot, none⟩) 2 ct) := a2
  have D3 : w1.cell? ⟨b, off + 14 + 3, none⟩ = some (.int .i64 2) := d3
  have D12 : w1.cell? ⟨b, off + 14 + 12, none⟩ = some (.int .i64 (-3)) := d12
  have K0 : w1.cell? ⟨bt, ot + 5, none⟩ = some (.int .i64 3) := k0
  have HC := Lib.hid (And.intro A0 (And.intro A2 (And.intro D3 (And.intro D12 (And.intro K0 (And.intro hbb hbt))))))
  obtain ⟨lb, hlb⟩ : ∃ lb, lb = rEx.body.length := ⟨_, rfl⟩
  obtain ⟨lh, hlh⟩ : ∃ lh, lh = rEx.head.args.length := ⟨_, rfl⟩
  obtain ⟨ph, hph⟩ : ∃ ph, ph = (⟨rEx.head.pred.toArray⟩ : ByteArray) := ⟨_, rfl⟩
  rw [← hlb, ← hlh, ← hph]
  have hlb2 : lb = 2 := hlb.trans rfl
  have hph2 : ph = ⟨#[112]⟩ := hph.trans rfl
  subst hlb2
  subst hph2
  clear a0 a1 a2 a3 a4 a5 a6 a7 a8 a9 a10 a11 a12 a13 d0 d1 d2 d3 d4 d5 d6 d7 d8 d9 d10 d11 d12 d13 A0 A2 D3 D12 K0 hbb hbb' hbt h1 h2 ht1 ht2 k0 hsay hs hlb hlh hph HV hb
  go_wp2_with fail
  refine (parseProgram_any _ _ (HG.out.below (HB1.out.alloc HB1.out.size _))).mono ?_
  rintro y w2 ⟨hb, ⟨hs, a, v, hsay, rfl, hv⟩ | ⟨hs, n, hsay, rfl⟩ | ⟨hs, n, hsay, rfl⟩ | ⟨hl, rfl⟩⟩
  · exact absurd (hsay.symm.trans say_ey) (by intro e; cases e)
  rotate_left
  · exact absurd (hsay.symm.trans say_ey) (by intro e; cases e)
  · exact absurd hl (by decide)
  obtain rfl : n = 8 := by have := hsay.symm.trans say_ey; injection this
  obtain ⟨A0, A2, D3, D12, K0, hbb, hbt⟩ := HC.out
  have B12 : Below w1.heap.size w1 w2 := ((Below.refl _ w1).alloc (Nat.le_refl _) _).trans (hb.mono (by simp))
  have r1 := (hb.block w1.heap.size (by simp)).trans (heap_alloc_new w1 _)
  obtain ⟨⟨x0, x1, x2⟩, -⟩ := cells3 r1
  have C0 := (B12.cell (p := ⟨b, off, none⟩) hbb).trans A0
  have C2 := (B12.cell (p := ⟨b, off + 2, none⟩) hbb).trans A2
  have C3 := (B12.cell (p := ⟨b, off + 14 + 3, none⟩) hbb).trans D3
  have C12 := (B12.cell (p := ⟨b, off + 14 + 12, none⟩) hbb).trans D12
  have CK := (B12.cell (p := ⟨bt, ot + 5, none⟩) hbt).trans K0
  have E3 : w2.cell? ⟨b, off + 17, none⟩ = some (.int .i64 2) := C3
  have E12 : w2.cell? ⟨b, off + 26, none⟩ = some (.int .i64 (-3)) := C12
  have hz1 : w1.heap.size < w2.heap.size := by have := hb.size; simp at this; omega
  have hz2 : b < w2.heap.size := Nat.lt_of_lt_of_le hbb B12.size
  have hz3 : bt < w2.heap.size := Nat.lt_of_lt_of_le hbt B12.size
  have HB2 := Lib.hid (HB1.out.trans (B12.mono HB1.out.size))
  clear hb B12 r1 A0 A2 D3 D12 K0 hsay hs HC
  go_wp2_with fail
  go_ret
  exact ⟨rfl, HB2.out.alloc HB2.out.size _⟩
end
section
open Go Go.ChangeShapes Go.WideShapes Go.ChangeAt Go.RowKit

set_option maxRecDepth 100000
theorem own : ownKnob Tryz.prog.godebug = none := by kernel_rfl
theorem laidOut : laidOutB Tryz.prog = true := by kernel_rfl
theorem tyTab : (Tryz.prog.globals[3]?).map (·.type) = some 206 := by kernel_rfl
theorem tySyn : (Tryz.prog.globals[1]?).map (·.type) = some 179 := by kernel_rfl
theorem tyRng : (Tryz.prog.globals[2]?).map (·.type) = some 179 := by kernel_rfl
theorem cellsTab : Tryz.prog.cellsOf 206 = 20 := by kernel_rfl
theorem cellsU64 : Tryz.prog.cellsOf 173 = 1 := by kernel_rfl
theorem tyLet : (Tryz.prog.globals[0]?).map (·.type) = some 166 := by kernel_rfl
theorem cellsLet : Tryz.prog.cellsOf 166 = 123 := by kernel_rfl
theorem cellsCls : Tryz.prog.cellsOf 155 = 1 := by kernel_rfl
theorem cellsErr : Tryz.prog.cellsOf 213 = 1 := by kernel_rfl
theorem cellsStr : Tryz.prog.cellsOf 9 = 1 := by kernel_rfl
theorem cellsVal : Tryz.prog.cellsOf 82 = 3 := by kernel_rfl
theorem errStar : "*" ++ "errors.errorString" = "*errors.errorString" := by decide
theorem errRow (u : TypeId) (h : Tryz.prog.typeName? 3 u = some "*errors.errorString") : u = 211 :=
  typeName_ptr_named (nm := "errors.errorString") (by rw [errStar]; kernel_rfl) (by kernel_rfl) (by decide) u (by rw [errStar]; exact h)

/-- What every row of layer 13 lists. -/
def laid6 {H : Type} : List (String × DataW H) := [("math/bits.deBruijn32tab", Rows.laid_math_bits_deBruijn32tab), ("math/bits.deBruijn64tab", Rows.laid_math_bits_deBruijn64tab), ("internal/strconv.uint64pow10", Rows.laid_internal_strconv_uint64pow10), ("strconv.ErrRange", Rows.laid_strconv_ErrRange), ("strconv.ErrSyntax", Rows.laid_strconv_ErrSyntax), ("pedigree/lex.letters", Rows.laid_pedigree_lex_letters)]

theorem glob_of_laid {W : World} (h0 : laidMetH Tryz.prog laid6 W) : Glob W := by
  rw [MakeChecks.laidMetH_plain _ _ _ (by kernel_rfl)] at h0
  have h2 := h0.tail.tail
  have h3 := h2.tail
  have h4 := h3.tail
  have h5 := h4.tail
  have lett := Lib.tabIs_of_head (k := .u8) (zs := letTab) gLet tyLet Tryz.underlying166 Tryz.underlying155 cellsCls cellsLet h5
  have tab := Lib.tabIs_of_head (k := .u64) (zs := Lib.pow10Tab) gTab tyTab Tryz.underlying206 Tryz.underlying173 cellsU64 cellsTab h2
  obtain ⟨ar, sr, hr, -, -, -⟩ := laid_sentinel h3 gRng tyRng Tryz.underlying179 errRow Tryz.underlying211 Tryz.underlying213 rfl rfl Tryz.underlying9 cellsErr cellsStr
  obtain ⟨at_, ss, hs, -, -, -⟩ := laid_sentinel h4 gSyn tySyn Tryz.underlying179 errRow Tryz.underlying211 Tryz.underlying213 rfl rfl Tryz.underlying9 cellsErr cellsStr
  obtain ⟨ps, ⟨g0, t0, cs0, f0, p0, q0, hg0, ht0, hv0, -, ⟨g1, t1, cs1, f1, p1, q1, hg1, ht1, hv1, -, -, -⟩, -⟩, -, -⟩ := h0
  have g64 : Tryz.prog.globalNamed "math/bits.deBruijn64tab" = some 5 := by kernel_rfl
  have l1 : 5 < W.heap.size := by
    have hv := hv1
    unfold World.var? at hv
    rw [g64] at hv
    simp only [Option.bind_some] at hv
    rcases Nat.lt_or_ge 5 W.heap.size with hl | hl
    · exact hl
    · rw [Array.getElem?_eq_none hl] at hv
      cases hv
  have l2 : 2 < W.heap.size := by
    have hv := hr
    unfold World.var? at hv
    rw [gRng] at hv
    simp only [Option.bind_some] at hv
    rcases Nat.lt_or_ge 2 W.heap.size with hl | hl
    · exact hl
    · rw [Array.getElem?_eq_none hl] at hv
      cases hv
  exact ⟨tab, ⟨_, _, hs⟩, ⟨_, _, hr⟩, lett, by omega⟩

/-- The door's own heap meets the condition. -/
theorem door_met (os : Os) (args : Array Value) : laidMetH Tryz.prog laid6 ((World.doorLaid Tryz.prog 400 os).forCall (fun _ _ => 0) ⟨#[], args, []⟩).memory :=
  laidMetH_of_parts3 (fuel := 8) (laidMet_of_run' 8 (by kernel_rfl) (by kernel_rfl)) (by kernel_rfl) (by kernel_rfl)

theorem wf_I64 {n : Int} (h : (Lit.int .i64 n).wf = true) : I64 n := by
  have h' : IntKind.i64.min ≤ n ∧ n ≤ 9223372036854775807 := by simpa [Lit.wf] using h
  exact h'

/-- An argument that is a value: its kind, its number, its bytes. -/
theorem open_val {H : Type} {enc : TypeId × Value → H} {W : World} {base : Nat} {sp : Nat → Bool} {held : Bool} {r : Reach} {b0 : Nat} {v : Value} {d : DataW H} {p : List MemPlace}
    (hv : Value.okWide Tryz.prog W r b0 82 v) (h : DataW.Trod enc Tryz.prog W base sp held 82 v d p) :
    ∃ (k n : Int) (s : ByteArray), v = .agg #[.int .i64 k, .int .i64 n, .string s] ∧ I64 k ∧ I64 n ∧ s.size ≤ maxLen := by
  obtain ⟨v0, v1, v2, y0, y1, y2, m, rfl, -, -, h0, h1, h2⟩ := Joins.open_agg3 Tryz.underlying82 (by kernel_rfl) cellsVal hv h
  obtain ⟨k, e0, -, w0⟩ := DataW.trod_int Tryz.underlying80 h0
  obtain ⟨n, e1, -, w1⟩ := DataW.trod_int Tryz.underlying2 h1
  obtain ⟨s, e2, -, w2⟩ := DataW.trod_string Tryz.underlying9 h2
  simp only [List.cons.injEq, and_true] at e0 e1 e2
  subst e0 e1 e2
  refine ⟨k, n, s, rfl, ?_, ?_, w2⟩
  · exact wf_I64 w0
  · exact wf_I64 w1

end
end Go.Proofs.YtnbaemfkpfmheaaGreatDoor

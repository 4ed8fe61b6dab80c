/-
  An argument that is a row of things, opened.
-/
import Derived.Test.YtcfnpbmkcdmafaaMgA
import Derived.Below
import Derived.ProofKit
import Derived.OpenShut
import Derived.ChangeOld
import Derived.Lib.SmallJoins
import Derived.Deep.Slices
import Derived.Deep.Fields
import Derived.ChangeSame
import Derived.WideShapes
namespace Go.Proofs.Ytcfnpbmkcdmafaa
open Go Go.RowKit Go.ChangeShapes Go.WideShapes Go.Deep

set_option maxRecDepth 100000
theorem own : ownKnob Try.prog.godebug = none := by kernel_rfl
theorem laidOut : laidOutB Try.prog = true := by kernel_rfl
theorem cellsTh2 : Try.prog.cellsOf 28 = 2 := by kernel_rfl
theorem cellsI8 : Try.prog.cellsOf 26 = 1 := by kernel_rfl
theorem cellsInt : Try.prog.cellsOf 3 = 1 := by kernel_rfl
theorem list_of {α : Type} {p : Nat → α → Prop} : ∀ (n : Nat), (∀ i, i < n → ∃ x, p i x) → ∃ T : List α, T.length = n ∧ ∀ i (h : i < T.length), p i T[i]
  | 0, _ => ⟨[], rfl, fun i h => by simp at h⟩
  | n + 1, h => by
    obtain ⟨T, hl, hT⟩ := list_of n fun i hi => h i (by omega)
    obtain ⟨x, hx⟩ := h n (by omega)
    refine ⟨T ++ [x], by simp [hl], fun i hi => ?_⟩
    by_cases hin : i < T.length
    · rw [List.getElem_append_left hin]
      exact hT i hin
    · have : i = T.length := by simp at hi; omega
      subst this
      rw [List.getElem_append_right (Nat.le_refl _)]
      simp only [Nat.sub_self, List.getElem_cons_zero]
      rw [hl]
      exact hx
theorem wf_i8 {n : Int} (h : (Lit.int .i8 n).wf = true) : -128 ≤ n ∧ n ≤ 127 := by
  have h' : IntKind.i8.min ≤ n ∧ n ≤ IntKind.i8.max := by simpa [Lit.wf] using h
  exact h'
theorem wf_int {n : Int} (h : (Lit.int .i64 n).wf = true) : -9223372036854775808 ≤ n ∧ n ≤ 9223372036854775807 := by
  have h' : IntKind.i64.min ≤ n ∧ n ≤ 9223372036854775807 := by simpa [Lit.wf] using h
  exact h'
/-- One thing's two cells. -/
theorem open_thing {H : Type} {enc : TypeId × Value → H} {W : World} {base : Nat} {sp : Nat → Bool} {held : Bool} {fuel : Nat} {cs : List Value} {x : DataW H × List MemPlace} (h : DataW.trod enc Try.prog W base sp held fuel 28 cs = some x) :
    ∃ v : Th, cs = [.int .i8 v.1, .int .i64 v.2] ∧ (-128 ≤ v.1 ∧ v.1 ≤ 127) ∧ (-9223372036854775808 ≤ v.2 ∧ v.2 ≤ 9223372036854775807) := by
  obtain ⟨ys, n', -, -, hlen, hyl, hf⟩ := DataW.trod_struct Try.underlying28 h
  rw [cellsTh2] at hlen
  match cs, hlen with
  | [c0, c1], _ =>
    have hy : ys.length = 2 := hyl
    match ys, hy with
    | [y0, y1], _ =>
      have e0 : DataW.trod enc Try.prog W base sp held n' 26 (([c0, c1].drop 0).take (Try.prog.cellsOf 26)) = some y0 := hf 0 _ rfl
      have e1 : DataW.trod enc Try.prog W base sp held n' 3 (([c0, c1].drop 1).take (Try.prog.cellsOf 3)) = some y1 := hf 1 _ rfl
      rw [cellsI8] at e0
      rw [cellsInt] at e1
      obtain ⟨k, hk, -, wk⟩ := DataW.trod_int Try.underlying26 e0
      obtain ⟨n, hn, -, wn⟩ := DataW.trod_int Try.underlying3 e1
      simp at hk hn
      subst hk hn
      exact ⟨(k, n), rfl, wf_i8 wk, wf_int wn⟩
/-- A row of things that an argument brings. -/
def ArgTh (W : World) (v : Value) (L : List Th) : Prop := ThIn (fun b => b < W.heap.size) W v L ∧ ∀ x ∈ L, (-128 ≤ x.1 ∧ x.1 ≤ 127) ∧ (-9223372036854775808 ≤ x.2 ∧ x.2 ≤ 9223372036854775807)
theorem open_ths_cell {H : Type} {enc : TypeId × Value → H} {W : World} {base : Nat} {sp : Nat → Bool} {held : Bool} {fuel : Nat} {c : Value} {y : DataW H × List MemPlace}
    (hf : DataW.trod enc Try.prog W base sp held fuel 22 [c] = some y) : ∃ L : List Th, ArgTh W c L := by
  obtain ⟨a, len, cap, e⟩ := Joins.slice_form Try.underlying22 hf
  injection e with e
  subst e
  obtain ⟨d, p⟩ := y
  have hf' := hf
  rcases open_slice Try.underlying22 hf' with ⟨e, -⟩ | ⟨a', len', cap', m, n, D, Pl, e, -, hle, hcap, hm, -, hi⟩
  · simp at e
    obtain ⟨rfl, rfl, rfl⟩ := e
    exact ⟨[], ⟨none, 0, rfl, Nat.le_refl _, Nat.zero_le _, .inl rfl⟩, fun x hx => by cases hx⟩
  · simp at e
    obtain ⟨rfl, rfl, rfl⟩ := e
    have hlm : len ≤ m := by rw [hm]; split <;> omega
    have hx : ∀ i, i < len → ∃ x : Th, (W.cell? ((a'.add (i * 2)).add 0) = some (.int .i8 x.1) ∧ W.cell? ((a'.add (i * 2)).add 1) = some (.int .i64 x.2)) ∧ (-128 ≤ x.1 ∧ x.1 ≤ 127) ∧ (-9223372036854775808 ≤ x.2 ∧ x.2 ≤ 9223372036854775807) := by
      intro i hil
      obtain ⟨cs', hc, ht⟩ := hi i (by omega)
      rw [cellsTh2] at hc
      obtain ⟨x, rfl, hI⟩ := open_thing ht
      obtain ⟨_, _, hat⟩ := World.cells?_some hc
      exact ⟨x, ⟨hat 0 (by omega), hat 1 (by omega)⟩, hI⟩
    obtain ⟨T, rfl, hT⟩ := list_of _ hx
    refine ⟨T, ⟨some a', cap, rfl, hle, hcap, ?_⟩, fun x hx => ?_⟩
    · by_cases hz : T = []
      · exact .inl hz
      · have h0 : 0 < T.length := List.length_pos_iff.2 hz
        have hc0 := (hT 0 h0).1.1
        obtain ⟨b, off, spot⟩ := a'
        obtain rfl : spot = none := by
          have := World.cell?_spot hc0
          simpa [Addr.add] using this
        have hadd : ∀ i j, ((⟨b, off, none⟩ : Addr).add i).add j = ⟨b, off + i + j, none⟩ := fun i j => by
          unfold Addr.add
          split <;> split <;> simp_all
        have hb := World.block_lt_of_cell? W _ hc0
        rw [hadd] at hb
        refine .inr ⟨b, off, rfl, hb, hb, fun j hj => ?_⟩
        obtain ⟨⟨x0, x1⟩, -⟩ := hT j hj
        rw [hadd] at x0 x1
        exact ⟨x0, x1⟩
    · obtain ⟨i, hi', rfl⟩ := List.getElem_of_mem hx
      exact (hT i hi').2
theorem open_ths {H : Type} {enc : TypeId × Value → H} {W : World} {base : Nat} {sp : Nat → Bool} {held : Bool} {r : Reach} {b0 : Nat} {v : Value} {d : DataW H} {p : List MemPlace}
    (hv : Value.okWide Try.prog W r b0 22 v) (h : DataW.Trod enc Try.prog W base sp held 22 v d p) : ∃ L : List Th, ArgTh W v L := by
  obtain ⟨a, len, cap, rfl⟩ := okWide_slice Try.underlying22 hv
  obtain ⟨fuel, hf⟩ := h
  exact open_ths_cell (hf : DataW.trod enc Try.prog W base sp held fuel 22 [.slice a len cap] = some (d, p))
end Go.Proofs.Ytcfnpbmkcdmafaa

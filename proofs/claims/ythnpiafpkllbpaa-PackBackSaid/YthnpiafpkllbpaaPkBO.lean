/-
  A counted tuple that an argument brings, opened.
-/
import Derived.Test.YthnpiafpkllbpaaOpenB
import Derived.Lib.SmallJoins
namespace Go.Proofs.Ythnpiafpkllbpaa
open Go Go.RowKit Go.ChangeShapes Go.WideShapes Go.Deep

set_option maxRecDepth 100000
theorem open_tup_cell {H : Type} {enc : TypeId × Value → H} {W : World} {base : Nat} {sp : Nat → Bool} {held : Bool} {fuel : Nat} {c : Value} {y : DataW H × List MemPlace}
    (hf : DataW.trod enc Try.prog W base sp held fuel 39 [c] = some y) : ∃ T : List V3, ArgT W c T := by
  obtain ⟨a, len, cap, e⟩ := Joins.slice_form Try.underlying39 hf
  injection e with e
  subst e
  obtain ⟨d, p⟩ := y
  have hf' := hf
  rcases open_slice Try.underlying39 hf' with ⟨e, -⟩ | ⟨a', len', cap', m, n, D, Pl, e, -, hle, hcap, hm, -, hi⟩
  · simp at e
    obtain ⟨rfl, rfl, rfl⟩ := e
    exact ⟨[], none, 0, rfl, Nat.le_refl _, Nat.zero_le _, .inl rfl, fun x hx => by cases hx⟩
  · simp at e
    obtain ⟨rfl, rfl, rfl⟩ := e
    have hlm : len ≤ m := by rw [hm]; split <;> omega
    have hx : ∀ i, i < len → ∃ x : V3, (W.cell? ((a'.add (i * 3)).add 0) = some (.int .i64 x.k) ∧ W.cell? ((a'.add (i * 3)).add 1) = some (.int .i64 x.n) ∧ W.cell? ((a'.add (i * 3)).add 2) = some (.string x.s)) ∧ FitV x := by
      intro i hil
      obtain ⟨cs', hc, ht⟩ := hi i (by omega)
      rw [cellsValT] at hc
      obtain ⟨x, rfl, hI⟩ := open_three ht
      obtain ⟨_, _, hat⟩ := World.cells?_some hc
      exact ⟨x, ⟨hat 0 (by omega), hat 1 (by omega), hat 2 (by omega)⟩, hI⟩
    obtain ⟨T, rfl, hT⟩ := list_of _ hx
    refine ⟨T, some a', cap, rfl, hle, hcap, ?_, fun x hx => ?_⟩
    · by_cases hz : T = []
      · exact .inl hz
      · have h0 : 0 < T.length := List.length_pos_iff.2 hz
        have hc0 := (hT 0 h0).1.1
        obtain ⟨b, off, spot⟩ := a'
        obtain rfl : spot = none := by
          have := World.cell?_spot hc0
          simpa [Addr.add] using this
        have hadd : ∀ i j, ((⟨b, off, none⟩ : Addr).add i).add j = ⟨b, off + i + j, none⟩ := fun i j => by
          unfold Addr.add
          split <;> split <;> simp_all
        refine .inr ⟨b, off, rfl, ?_, fun j hj => ?_⟩
        · have hb := World.block_lt_of_cell? W _ hc0
          rw [hadd] at hb
          exact hb
        · obtain ⟨⟨x0, x1, x2⟩, -⟩ := hT j hj
          rw [hadd] at x0 x1 x2
          exact ⟨x0, x1, x2⟩
    · obtain ⟨i, hi', rfl⟩ := List.getElem_of_mem hx
      exact (hT i hi').2

theorem cellsCnt : Try.prog.cellsOf 46 = 2 := by kernel_rfl
theorem open_cnt {H : Type} {enc : TypeId × Value → H} {W : World} {base : Nat} {sp : Nat → Bool} {held : Bool} {r : Reach} {b0 : Nat} {v : Value} {d : DataW H} {p : List MemPlace}
    (hv : Value.okWide Try.prog W r b0 46 v) (h : DataW.Trod enc Try.prog W base sp held 46 v d p) :
    ∃ (c : Value) (T : List V3) (n : Int), v = .agg #[c, .int .i64 n] ∧ ArgT W c T ∧ (-9223372036854775808 ≤ n ∧ n ≤ 9223372036854775807) := by
  obtain ⟨c0, c1, y0, y1, m, rfl, -, -, h0, h1⟩ := Joins.open_agg2 Try.underlying46 (by kernel_rfl) cellsCnt hv h
  obtain ⟨T, hT⟩ := open_tup_cell h0
  obtain ⟨n, hn, -, wn⟩ := DataW.trod_int Try.underlying2 h1
  injection hn with hn
  subst hn
  exact ⟨c0, T, n, rfl, hT, wf_int wn⟩
end Go.Proofs.Ythnpiafpkllbpaa

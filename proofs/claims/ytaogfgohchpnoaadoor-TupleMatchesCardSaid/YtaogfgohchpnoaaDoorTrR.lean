/-
  Rows of tuples that an argument brings; few.
-/
import Derived.Test.YtaogfgohchpnoaaDoorOpenB
import Derived.Test.YtaogfgohchpnoaaDoorTrS
namespace Go.Proofs.YtaogfgohchpnoaaDoor
open Go Go.RowKit Go.ChangeShapes Go.WideShapes Go.Deep

set_option maxRecDepth 100000
theorem cellsTupT : Tryd.prog.cellsOf 33 = 1 := by kernel_rfl
theorem open_tupc {H : Type} {enc : TypeId × Value → H} {W : World} {base : Nat} {sp : Nat → Bool} {held : Bool} {fuel : Nat} {cs : List Value} {x : DataW H × List MemPlace}
    (hf' : DataW.trod enc Tryd.prog W base sp held fuel 33 cs = some x) : ∃ (v : Value) (T : List V3), cs = [v] ∧ ArgT W v T := by
  obtain ⟨d, p⟩ := x
  rcases open_slice Tryd.underlying33 hf' with ⟨e, -⟩ | ⟨a', len', cap', m, n, D, Pl, e, -, hle, hcap, hm, -, hi⟩
  · exact ⟨_, [], e, none, 0, rfl, Nat.le_refl _, Nat.zero_le _, .inl rfl, fun x hx => by cases hx⟩
  · subst e
    have hlm : len' ≤ m := by rw [hm]; split <;> omega
    have hx : ∀ i, i < len' → ∃ x : V3, (W.cell? ((a'.add (i * 3)).add 0) = some (.int .i64 x.k) ∧ W.cell? ((a'.add (i * 3)).add 1) = some (.int .i64 x.n) ∧ W.cell? ((a'.add (i * 3)).add 2) = some (.string x.s)) ∧ FitV x := by
      intro i hil
      obtain ⟨cs', hc, ht⟩ := hi i (by omega)
      rw [cellsValT] at hc
      obtain ⟨x, rfl, hI⟩ := open_three ht
      obtain ⟨_, _, hat⟩ := World.cells?_some hc
      exact ⟨x, ⟨hat 0 (by omega), hat 1 (by omega), hat 2 (by omega)⟩, hI⟩
    obtain ⟨T, rfl, hT⟩ := list_of _ hx
    refine ⟨_, T, rfl, some a', cap', rfl, hle, hcap, ?_, fun x hx => ?_⟩
    · by_cases hz : T = []
      · exact .inl hz
      · have h0 : 0 < T.length := List.length_pos_iff.2 hz
        have hc0 := (hT 0 h0).1.1
        obtain ⟨b, off, spot⟩ := a'
        obtain rfl : spot = none := by
          have := World.cell?_spot hc0
          simpa [Addr.add] using this
        have hadd : ∀ i j, ((⟨b, off, none⟩ : Addr).add i).add j = ⟨b, off + i + j, none⟩ := fun i j => by
          unfold Addr.add
          split <;> split <;> simp_all
        refine .inr ⟨b, off, rfl, ?_, fun j hj => ?_⟩
        · have hb := World.block_lt_of_cell? W _ hc0
          rw [hadd] at hb
          exact hb
        · obtain ⟨⟨x0, x1, x2⟩, -⟩ := hT j hj
          rw [hadd] at x0 x1 x2
          exact ⟨x0, x1, x2⟩
    · obtain ⟨i, hi', rfl⟩ := List.getElem_of_mem hx
      exact (hT i hi').2
/-- A row of tuples that an argument brings. -/
def ArgR (W : World) (v : Value) (L : List (Value × List V3)) : Prop :=
  ∃ (pa : Option Addr) (cap : Nat), v = .slice pa L.length cap ∧ L.length ≤ maxLen ∧ (L = [] ∨ ∃ b off, pa = some ⟨b, off, none⟩ ∧ b < W.heap.size ∧ RowAt W b off L) ∧ ∀ x ∈ L, ArgT W x.1 x.2
theorem ArgR.below {W W' : World} {v : Value} {L : List (Value × List V3)} (h : ArgR W v L) (hb : Below W.heap.size W W') : ArgR W' v L := by
  obtain ⟨pa, cap, rfl, h1, h2, h3⟩ := h
  refine ⟨pa, cap, rfl, h1, ?_, fun x hx => (h3 x hx).below hb⟩
  rcases h2 with h | ⟨b, off, e, hlt, hc⟩
  · exact .inl h
  · exact .inr ⟨b, off, e, by have := hb.size; omega, hc.below hb hlt⟩
theorem open_rows {H : Type} {enc : TypeId × Value → H} {W : World} {base : Nat} {sp : Nat → Bool} {held : Bool} {r : Reach} {b0 : Nat} {v : Value} {d : DataW H} {p : List MemPlace}
    (hv : Value.okWide Tryd.prog W r b0 22 v) (h : DataW.Trod enc Tryd.prog W base sp held 22 v d p) : ∃ L : List (Value × List V3), ArgR W v L := by
  obtain ⟨a, len, cap, rfl⟩ := okWide_slice Tryd.underlying22 hv
  obtain ⟨fuel, hf⟩ := h
  have hf' : DataW.trod enc Tryd.prog W base sp held fuel 22 [.slice a len cap] = some (d, p) := hf
  rcases open_slice Tryd.underlying22 hf' with ⟨e, -⟩ | ⟨a', len', cap', m, n, D, Pl, e, -, hle, hcap, hm, -, hi⟩
  · simp at e
    obtain ⟨rfl, rfl, rfl⟩ := e
    exact ⟨[], none, 0, rfl, Nat.zero_le _, .inl rfl, fun x hx => by cases hx⟩
  · simp at e
    obtain ⟨rfl, rfl, rfl⟩ := e
    have hlm : len ≤ m := by rw [hm]; split <;> omega
    have hx : ∀ i, i < len → ∃ x : Value × List V3, W.cell? (a'.add i) = some x.1 ∧ ArgT W x.1 x.2 := by
      intro i hil
      obtain ⟨cs', hc, ht⟩ := hi i (by omega)
      rw [cellsTupT] at hc
      obtain ⟨u, T, rfl, hI⟩ := open_tupc ht
      obtain ⟨_, _, hat⟩ := World.cells?_some hc
      have h0 := hat 0 (by omega)
      rw [Nat.mul_one] at h0
      exact ⟨(u, T), by simpa [Addr.add] using h0, hI⟩
    obtain ⟨L, rfl, hL⟩ := list_of _ hx
    refine ⟨L, some a', cap, rfl, by omega, ?_, fun x hx => ?_⟩
    · by_cases hz : L = []
      · exact .inl hz
      · have h0 : 0 < L.length := List.length_pos_iff.2 hz
        have hc0 := (hL 0 h0).1
        obtain ⟨b, off, spot⟩ := a'
        obtain rfl : spot = none := by
          have := World.cell?_spot hc0
          simpa [Addr.add] using this
        have hadd : ∀ i, (⟨b, off, none⟩ : Addr).add i = ⟨b, off + i, none⟩ := fun i => by
          unfold Addr.add
          split <;> simp_all
        refine .inr ⟨b, off, rfl, ?_, fun j hj => ?_⟩
        · have hb := World.block_lt_of_cell? W _ hc0
          rw [hadd] at hb
          exact hb
        · have x0 := (hL j hj).1
          rw [hadd] at x0
          exact x0
    · obtain ⟨i, hi', rfl⟩ := List.getElem_of_mem hx
      exact (hL i hi').2
end Go.Proofs.YtaogfgohchpnoaaDoor

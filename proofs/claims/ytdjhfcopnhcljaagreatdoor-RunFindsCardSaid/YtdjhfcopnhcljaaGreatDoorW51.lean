/-
  Where an entry of a run stands: plain facts on pages.
  Find tells the page in which an entry stands.
  A counted tuple that an argument brings, opened.
-/
import Derived.Test.YtdjhfcopnhcljaaGreatDoorW26
import Derived.Test.YtdjhfcopnhcljaaGreatDoorW46
import Derived.Test.YtdjhfcopnhcljaaGreatDoorW11
import Derived.Lib.SmallJoins
namespace Go.Proofs.YtdjhfcopnhcljaaGreatDoor
section
open Go Go.RowKit

theorem page_split {E : List Ct} {i : Nat} (hi : i < (pagesL E).length) : E = ((pagesL E).take i).flatten ++ (pagesL E)[i] ++ ((pagesL E).drop (i + 1)).flatten := by
  have h1 : pagesL E = (pagesL E).take i ++ (pagesL E)[i] :: (pagesL E).drop (i + 1) := by rw [← List.drop_eq_getElem_cons hi, List.take_append_drop]
  have h2 := congrArg List.flatten h1
  rw [pagesL_flat, List.flatten_append, List.flatten_cons] at h2
  rw [List.append_assoc]
  exact h2
/-- An entry stands in one page: none behind it starts at or ahead of it, it does not start behind it. -/
theorem page_has {E : List Ct} (hR : IsRun E) {c : Ct} (hc : c ∈ E) : ∃ j, ∃ hj : j < (pagesL E).length, c ∈ (pagesL E)[j] ∧ cmpT (headT (pagesL E)[j]) c.1 ≤ 0 ∧ ∀ i (hi : i < (pagesL E).length), j < i → 0 < cmpT (headT (pagesL E)[i]) c.1 := by
  have hc' : c ∈ (pagesL E).flatten := by rw [pagesL_flat]; exact hc
  obtain ⟨P, hP, hcP⟩ := List.mem_flatten.1 hc'
  obtain ⟨j, hj, rfl⟩ := List.getElem_of_mem hP
  have hp := run_pairs hR
  refine ⟨j, hj, hcP, ?_, fun i hi hji => ?_⟩
  · obtain ⟨x, r, hx⟩ := List.exists_cons_of_ne_nil (page_ne hj)
    have hd : headT (pagesL E)[j] = x.1 := by rw [hx]; rfl
    rw [hd]
    rw [page_split hj, List.append_assoc] at hp
    have h2 := (List.pairwise_append.1 (List.pairwise_append.1 hp).2.1).1
    rw [hx] at h2 hcP
    rcases List.mem_cons.1 hcP with rfl | hr
    · rw [cmpT_self]; exact Int.le_refl _
    · exact Int.le_of_lt ((List.pairwise_cons.1 h2).1 c hr)
  · obtain ⟨x, hx, hxe⟩ := head_mem (page_ne hi)
    rw [← hxe]
    have hxd : x ∈ ((pagesL E).drop (j + 1)).flatten := by
      refine List.mem_flatten.2 ⟨(pagesL E)[i], ?_, hx⟩
      have h3 : i - (j + 1) < ((pagesL E).drop (j + 1)).length := by rw [List.length_drop]; omega
      have h4 := List.getElem_mem h3
      rw [List.getElem_drop] at h4
      have h5 : j + 1 + (i - (j + 1)) = i := by omega
      simpa only [h5] using h4
    rw [page_split hj] at hp
    have h6 := (List.pairwise_append.1 hp).2.2 c (List.mem_append_right _ hcP) x hxd
    have h7 := cmpT_neg x.1 c.1
    omega
end
section
open Go Go.RowKit

theorem find_page {E : List Ct} (hR : IsRun E) {c : Ct} (hc : c ∈ E) {i : Nat} (hi : i ≤ (pagesL E).length) (hlo : ∀ j, j < i → above (pagesL E) c.1 j = false) (hup : ∀ j, i ≤ j → j < (pagesL E).length → above (pagesL E) c.1 j = true) : ∃ j, ∃ hj : j < (pagesL E).length, i = j + 1 ∧ c ∈ (pagesL E)[j] := by
  obtain ⟨j, hj, hm, h1, h2⟩ := page_has hR hc
  have hab : ∀ k (hk : k < (pagesL E).length), above (pagesL E) c.1 k = decide (0 < cmpT (headT (pagesL E)[k]) c.1) := fun k hk => by
    unfold above
    rw [List.getD_eq_getElem?_getD, List.getElem?_eq_getElem hk, Option.getD_some]
  refine ⟨j, hj, ?_, hm⟩
  have hji : j < i := by
    refine Decidable.byContradiction fun hn => ?_
    have h3 := hup j (by omega) hj
    rw [hab j hj] at h3
    have := of_decide_eq_true h3
    omega
  refine Decidable.byContradiction fun hn => ?_
  have h4 : j + 1 < i := by omega
  have h5 := hlo (j + 1) h4
  rw [hab (j + 1) (by omega)] at h5
  exact of_decide_eq_false h5 (h2 (j + 1) (by omega) (by omega))
end
section
open Go Go.RowKit Go.ChangeShapes Go.WideShapes Go.Deep

set_option maxRecDepth 100000
theorem open_tup_cell {H : Type} {enc : TypeId × Value → H} {W : World} {base : Nat} {sp : Nat → Bool} {held : Bool} {fuel : Nat} {c : Value} {y : DataW H × List MemPlace}
    (hf : DataW.trod enc Tryz.prog W base sp held fuel 64 [c] = some y) : ∃ T : List V3, ArgT W c T := by
  obtain ⟨a, len, cap, e⟩ := Joins.slice_form Tryz.underlying64 hf
  injection e with e
  subst e
  obtain ⟨d, p⟩ := y
  have hf' := hf
  rcases open_slice Tryz.underlying64 hf' with ⟨e, -⟩ | ⟨a', len', cap', m, n, D, Pl, e, -, hle, hcap, hm, -, hi⟩
  · simp at e
    obtain ⟨rfl, rfl, rfl⟩ := e
    exact ⟨[], none, 0, rfl, Nat.le_refl _, Nat.zero_le _, .inl rfl, fun x hx => by cases hx⟩
  · simp at e
    obtain ⟨rfl, rfl, rfl⟩ := e
    have hlm : len ≤ m := by rw [hm]; split <;> omega
    have hx : ∀ i, i < len → ∃ x : V3, (W.cell? ((a'.add (i * 3)).add 0) = some (.int .i64 x.k) ∧ W.cell? ((a'.add (i * 3)).add 1) = some (.int .i64 x.n) ∧ W.cell? ((a'.add (i * 3)).add 2) = some (.string x.s)) ∧ FitV x := by
      intro i hil
      obtain ⟨cs', hc, ht⟩ := hi i (by omega)
      rw [cellsValT] at hc
      obtain ⟨x, rfl, hI⟩ := open_three ht
      obtain ⟨_, _, hat⟩ := World.cells?_some hc
      exact ⟨x, ⟨hat 0 (by omega), hat 1 (by omega), hat 2 (by omega)⟩, hI⟩
    obtain ⟨T, rfl, hT⟩ := list_of _ hx
    refine ⟨T, some a', cap, rfl, hle, hcap, ?_, fun x hx => ?_⟩
    · by_cases hz : T = []
      · exact .inl hz
      · have h0 : 0 < T.length := List.length_pos_iff.2 hz
        have hc0 := (hT 0 h0).1.1
        obtain ⟨b, off, spot⟩ := a'
        obtain rfl : spot = none := by
          have := World.cell?_spot hc0
          simpa [Addr.add] using this
        have hadd : ∀ i j, ((⟨b, off, none⟩ : Addr).add i).add j = ⟨b, off + i + j, none⟩ := fun i j => by
          unfold Addr.add
          split <;> split <;> simp_all
        refine .inr ⟨b, off, rfl, ?_, fun j hj => ?_⟩
        · have hb := World.block_lt_of_cell? W _ hc0
          rw [hadd] at hb
          exact hb
        · obtain ⟨⟨x0, x1, x2⟩, -⟩ := hT j hj
          rw [hadd] at x0 x1 x2
          exact ⟨x0, x1, x2⟩
    · obtain ⟨i, hi', rfl⟩ := List.getElem_of_mem hx
      exact (hT i hi').2

theorem cellsCnt : Tryz.prog.cellsOf 66 = 2 := by kernel_rfl
theorem open_cnt {H : Type} {enc : TypeId × Value → H} {W : World} {base : Nat} {sp : Nat → Bool} {held : Bool} {r : Reach} {b0 : Nat} {v : Value} {d : DataW H} {p : List MemPlace}
    (hv : Value.okWide Tryz.prog W r b0 66 v) (h : DataW.Trod enc Tryz.prog W base sp held 66 v d p) :
    ∃ (c : Value) (T : List V3) (n : Int), v = .agg #[c, .int .i64 n] ∧ ArgT W c T ∧ (-9223372036854775808 ≤ n ∧ n ≤ 9223372036854775807) := by
  obtain ⟨c0, c1, y0, y1, m, rfl, -, -, h0, h1⟩ := Joins.open_agg2 Tryz.underlying66 (by kernel_rfl) cellsCnt hv h
  obtain ⟨T, hT⟩ := open_tup_cell h0
  obtain ⟨n, hn, -, wn⟩ := DataW.trod_int Tryz.underlying2 h1
  injection hn with hn
  subst hn
  exact ⟨c0, T, n, rfl, hT, wf_int wn⟩
end
end Go.Proofs.YtdjhfcopnhcljaaGreatDoor

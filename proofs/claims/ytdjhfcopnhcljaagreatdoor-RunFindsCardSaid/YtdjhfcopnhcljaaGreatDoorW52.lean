/-
  A row of counted tuples that an argument brings, opened.
  How long the bytes of a short run may be.
  Plain facts on what few leaves.
-/
import Derived.Test.YtdjhfcopnhcljaaGreatDoorW49
import Derived.Test.YtdjhfcopnhcljaaGreatDoorW51
import Derived.Test.YtdjhfcopnhcljaaGreatDoorW25
import Derived.Test.YtdjhfcopnhcljaaGreatDoorW27
namespace Go.Proofs.YtdjhfcopnhcljaaGreatDoor
section
open Go Go.RowKit Go.ChangeShapes Go.WideShapes Go.Deep

set_option maxRecDepth 100000
theorem open_ens {H : Type} {enc : TypeId × Value → H} {W : World} {base : Nat} {sp : Nat → Bool} {held : Bool} {r : Reach} {b0 : Nat} {v : Value} {d : DataW H} {p : List MemPlace}
    (hv : Value.okWide Tryz.prog W r b0 22 v) (h : DataW.Trod enc Tryz.prog W base sp held 22 v d p) : ∃ E : List Ct, EnS W v E ∧ ∀ x ∈ E, (∀ y ∈ x.1, FitV y) ∧ -9223372036854775808 ≤ x.2 ∧ x.2 ≤ 9223372036854775807 := by
  obtain ⟨a, len, cap, rfl⟩ := okWide_slice Tryz.underlying22 hv
  obtain ⟨fuel, hf⟩ := h
  have hf' : DataW.trod enc Tryz.prog W base sp held fuel 22 [.slice a len cap] = some (d, p) := hf
  rcases open_slice Tryz.underlying22 hf' with ⟨e, -⟩ | ⟨a', len', cap', m, n, D, Pl, e, -, hle, hcap, hm, -, hi⟩
  · simp at e
    obtain ⟨rfl, rfl, rfl⟩ := e
    exact ⟨[], ⟨none, 0, rfl, by simp, .inl rfl⟩, fun x hx => by cases hx⟩
  · simp at e
    obtain ⟨rfl, rfl, rfl⟩ := e
    have hlm : len ≤ m := by rw [hm]; split <;> omega
    have hx : ∀ i, i < len → ∃ q : (Value × List V3) × Int, W.cell? ((a'.add (i * 2)).add 0) = some q.1.1 ∧ W.cell? ((a'.add (i * 2)).add 1) = some (.int .i64 q.2) ∧ ArgT W q.1.1 q.1.2 ∧ -9223372036854775808 ≤ q.2 ∧ q.2 ≤ 9223372036854775807 := by
      intro i hil
      obtain ⟨cs', hc, ht⟩ := hi i (by omega)
      rw [cellsCnt] at hc
      obtain ⟨ys, n', -, hxx, hlen, hyl, hff⟩ := DataW.trod_struct Tryz.underlying66 ht
      obtain ⟨_, hcl, hat⟩ := World.cells?_some hc
      match cs', hcl with
      | [c0, c1], _ =>
        have hy : ys.length = 2 := hyl
        match ys, hy with
        | [y0, y1], _ =>
          have e0 : DataW.trod enc Tryz.prog W base sp held n' 64 (([c0, c1].drop 0).take (Tryz.prog.cellsOf 64)) = some y0 := hff 0 _ rfl
          have e1 : DataW.trod enc Tryz.prog W base sp held n' 2 (([c0, c1].drop 1).take (Tryz.prog.cellsOf 2)) = some y1 := hff 1 _ rfl
          rw [show Tryz.prog.cellsOf 64 = 1 by kernel_rfl] at e0
          rw [cellsNT] at e1
          obtain ⟨T, hT⟩ := open_tup_cell e0
          obtain ⟨N, hN, -, wn⟩ := DataW.trod_int Tryz.underlying2 e1
          simp at hN
          subst hN
          exact ⟨((c0, T), N), hat 0 (by simp), hat 1 (by simp), hT, wf_int wn⟩
    obtain ⟨Q, rfl, hQ⟩ := list_of _ hx
    refine ⟨Q.map (fun q => (q.1.2, q.2)), ⟨some a', cap, by rw [List.length_map], by rw [List.length_map]; unfold maxLen at hcap; omega, ?_⟩, fun x hx => ?_⟩
    · by_cases hz : Q = []
      · exact .inl (by rw [hz]; rfl)
      · have h0 : 0 < Q.length := List.length_pos_iff.2 hz
        have hc0 := (hQ 0 h0).1
        obtain ⟨b, off, spot⟩ := a'
        obtain rfl : spot = none := by
          have := World.cell?_spot hc0
          simpa [Addr.add] using this
        have hadd : ∀ i j, ((⟨b, off, none⟩ : Addr).add i).add j = ⟨b, off + i + j, none⟩ := fun i j => by
          unfold Addr.add
          split <;> split <;> simp_all
        have hb := World.block_lt_of_cell? W _ hc0
        rw [hadd] at hb
        refine .inr ⟨b, off, rfl, hb, fun j hj => ?_⟩
        rw [List.length_map] at hj
        obtain ⟨x0, x1, ht, -⟩ := hQ j hj
        rw [hadd] at x0 x1
        obtain ⟨pa, ca, hv', h1, h2, h3, -⟩ := ht
        refine ⟨pa, ca, ?_, ?_, ?_, ?_, h2⟩
        · rw [List.getElem_map]; exact (show W.cell? ⟨b, off + j * 2, none⟩ = some Q[j].1.1 from x0).trans (congrArg some hv')
        · rw [List.getElem_map]; exact x1
        · rw [List.getElem_map]; exact h3
        · rw [List.getElem_map]; exact h1
    · obtain ⟨q, hq, rfl⟩ := List.mem_map.1 hx
      obtain ⟨j, hj, rfl⟩ := List.getElem_of_mem hq
      obtain ⟨-, -, ⟨_, _, -, -, -, -, hF⟩, hN⟩ := hQ j hj
      exact ⟨hF, hN⟩
end
section
open Go Go.RowKit

theorem oneL_len2 {x : V3} (h : IsV x.k x.n x.s) (hi : -9223372036854775808 ≤ x.n ∧ x.n ≤ 9223372036854775807) : (oneL x).length ≤ 280 := by
  have h1 := isV_size h
  rw [Lib.size_eq] at h1
  have h2 := numL_len10 (zigN_lt hi)
  have h3 := numL_len10 (x := x.s.data.toList.length) (by omega)
  unfold oneL intL textL
  split
  · rw [List.length_cons]; omega
  · rw [List.length_cons, List.length_append]; omega
theorem flat_le {α : Type} {f : α → List UInt8} (m : Nat) : ∀ {T : List α}, (∀ x ∈ T, (f x).length ≤ m) → (T.flatMap f).length ≤ m * T.length
  | [], _ => by simp
  | a :: x, h => by
    have h1 := h a List.mem_cons_self
    have h2 := flat_le (f := f) m (T := x) fun y hy => h y (List.mem_cons_of_mem _ hy)
    simp only [List.flatMap_cons, List.length_append, List.length_cons, Nat.mul_add]
    omega
theorem cntL_len2 {c : Ct} (h : OkC c) : (cntL c).length ≤ 2300 := by
  have h1 := flat_le (f := oneL) 280 (T := c.1) fun x hx => oneL_len2 (h.1.2 x hx) (h.2.1 x hx)
  have h2 := h.1.1
  have h3 := intL_len h.2.2
  unfold cntL tupL
  rw [List.length_append, List.length_cons]
  omega
theorem pages_le : ∀ (L : List (List Ct)), (∀ P ∈ L, P.length ≤ 1000 ∧ ∀ c ∈ P, OkC c) → (L.flatMap pageL).length ≤ 14 * L.length + 2300 * L.flatten.length
  | [], _ => by simp
  | P :: L, h => by
    have h1 := pages_le L fun Q hQ => h Q (List.mem_cons_of_mem _ hQ)
    have hP := h P List.mem_cons_self
    have h2 := flat_le (f := cntL) 2300 (T := P) fun c hc => cntL_len2 (hP.2 c hc)
    have h3 : (numL P.length).length ≤ 10 := numL_short (by omega)
    have h4 : (pageL P).length ≤ 14 + 2300 * P.length := by
      unfold pageL
      rw [sealL_len, List.length_append]
      omega
    simp only [List.flatMap_cons, List.flatten_cons, List.length_append, List.length_cons, Nat.mul_add]
    omega
theorem runL_few {E : List Ct} (h60 : E.length ≤ 60) (hR : IsRun E) (hK : Kin E) : (runL E).length ≤ 500000 := by
  have hok := Kin.ok hK hR
  have hpl : (pagesL E).length ≤ 60 := by have := pgRest_len E []; unfold pagesL; simp at this; omega
  have hpg : ∀ P ∈ pagesL E, P.length ≤ 1000 ∧ ∀ c ∈ P, OkC c := fun P hP => by
    obtain ⟨j, hj, rfl⟩ := List.getElem_of_mem hP
    refine ⟨?_, fun c hc => hok c (page_mem hP c hc)⟩
    have := congrArg List.length (page_split hj)
    rw [List.length_append, List.length_append] at this
    omega
  have h1 := pages_le (pagesL E) hpg
  rw [pagesL_flat] at h1
  have h2 := flat_le (f := spanL) 5000 (T := pagesL E) fun P hP => spanL_len (hpg P hP).2 (hpg P hP).1 (by
    obtain ⟨j, hj, rfl⟩ := List.getElem_of_mem hP
    exact page_ne hj)
  have h3 : (numL (pagesL E).length).length ≤ 10 := numL_short (by omega)
  have h4 : (numL E.length).length ≤ 10 := numL_short (by omega)
  have h5 : (indexL E).length ≤ 300024 := by
    unfold indexL
    rw [sealL_len, List.length_append, List.length_append]
    omega
  have h6 : (tailL E).length = 8 := by
    unfold tailL
    rw [sealL_len]
    rfl
  unfold runL
  rw [List.length_append, List.length_append]
  omega
end
section
open Go Go.RowKit

theorem fewC_len (E : List Ct) : (fewC E).length ≤ 60 := by
  unfold fewC
  rw [List.length_map, List.length_take]
  omega
theorem fewC_kin {E : List Ct} (h : ∀ x ∈ E, (∀ y ∈ x.1, FitV y) ∧ -9223372036854775808 ≤ x.2 ∧ x.2 ≤ 9223372036854775807) : Kin (fewC E) := fun c hc => by
  unfold fewC at hc
  obtain ⟨x, hx, rfl⟩ := List.mem_map.1 hc
  have h1 := h x (List.mem_of_mem_take hx)
  refine ⟨fun y hy => ?_, h1.2⟩
  unfold fewT at hy
  obtain ⟨z, hz, rfl⟩ := List.mem_map.1 hy
  have h2 := h1.1 z (List.mem_of_mem_take hz)
  unfold cutW
  split
  · exact h2.1
  · exact h2.1
end
end Go.Proofs.YtdjhfcopnhcljaaGreatDoor

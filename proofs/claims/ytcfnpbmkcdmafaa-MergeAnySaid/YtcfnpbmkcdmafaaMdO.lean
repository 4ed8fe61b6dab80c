/-
  Arguments that are rows of rows of counted tuples, opened to the bottom.
-/
import Derived.Test.YtcfnpbmkcdmafaaMgOp
import Derived.Test.YtcfnpbmkcdmafaaMcTX
import Derived.Deep.Fields
import Derived.ChangeSame
import Derived.SizedLaws
namespace Go.Proofs.Ytcfnpbmkcdmafaa
open Go Go.RowKit Go.ChangeShapes Go.WideShapes Go.Deep

set_option maxRecDepth 100000
/-- What is read takes no more than the reach. -/
def Fits {H : Type} (t : TypeId) (d : DataW H) : Prop := ∀ n ∈ d.weights Try.prog t, n ≤ reachBytes
theorem mem_all {H : Type} {P : Program} {e : TypeId} {d : DataW H} {n : Nat} : ∀ {l : List (DataW H)}, d ∈ l → n ∈ d.weights P e → n ∈ DataW.weightsAll P e l
  | x :: l, hd, hn => by
    rw [DataW.weightsAll]
    rcases List.mem_cons.1 hd with rfl | hd
    · exact List.mem_append_left _ hn
    · exact List.mem_append_right _ (mem_all hd hn)
theorem fits_slice {H : Type} {t e : TypeId} {E S : List (DataW H)} (hu : Try.prog.underlying t = some (.slice e)) (h : Fits t (.slice E S)) : E.length * Try.prog.bytesOf e ≤ reachBytes ∧ ∀ d ∈ E, Fits e d := by
  unfold Fits at h
  simp only [DataW.weights, hu, List.mem_cons, List.mem_append] at h
  refine ⟨?_, fun d hd n hn => h n (.inr (.inl (mem_all hd hn)))⟩
  have := h _ (.inl rfl)
  exact Nat.le_trans (Nat.mul_le_mul_right _ (by omega)) this
theorem fits_field {H : Type} {t u : TypeId} {fs : Array Field} {parts : List (DataW H)} {j : Nat} {d : DataW H} (hu : Try.prog.underlying t = some (.struct fs)) (h : Fits t (.agg parts)) (hj : (fs.toList.map (·.type))[j]? = some u) (hd : parts[j]? = some d) : Fits u d := fun n hn => by
  unfold Fits at h
  simp only [DataW.weights, hu] at h
  exact h n (DataW.weights_mem_each hj hd n hn)
theorem cellsVal3 : Try.prog.cellsOf 102 = 3 := by kernel_rfl
theorem cellsKd : Try.prog.cellsOf 100 = 1 := by kernel_rfl
theorem cellsN64 : Try.prog.cellsOf 2 = 1 := by kernel_rfl
theorem cellsStrT : Try.prog.cellsOf 9 = 1 := by kernel_rfl
theorem cellsTupl : Try.prog.cellsOf 66 = 1 := by kernel_rfl
theorem cellsCtd : Try.prog.cellsOf 68 = 2 := by kernel_rfl
theorem cellsRowC : Try.prog.cellsOf 62 = 1 := by kernel_rfl
theorem bytesVal : Try.prog.bytesOf 102 = 32 := by kernel_rfl
/-- One value's three cells. -/
theorem open_three {H : Type} {enc : TypeId × Value → H} {W : World} {base : Nat} {sp : Nat → Bool} {held : Bool} {fuel : Nat} {cs : List Value} {x : DataW H × List MemPlace} (h : DataW.trod enc Try.prog W base sp held fuel 102 cs = some x) :
    ∃ v : V3, cs = [.int .i64 v.k, .int .i64 v.n, .string v.s] := by
  obtain ⟨ys, n', -, -, hlen, hyl, hf⟩ := DataW.trod_struct Try.underlying102 h
  rw [cellsVal3] at hlen
  match cs, hlen with
  | [c0, c1, c2], _ =>
    have hy : ys.length = 3 := hyl
    match ys, hy with
    | [y0, y1, y2], _ =>
      have e0 : DataW.trod enc Try.prog W base sp held n' 100 (([c0, c1, c2].drop 0).take (Try.prog.cellsOf 100)) = some y0 := hf 0 _ rfl
      have e1 : DataW.trod enc Try.prog W base sp held n' 2 (([c0, c1, c2].drop 1).take (Try.prog.cellsOf 2)) = some y1 := hf 1 _ rfl
      have e2 : DataW.trod enc Try.prog W base sp held n' 9 (([c0, c1, c2].drop 2).take (Try.prog.cellsOf 9)) = some y2 := hf 2 _ rfl
      rw [cellsKd] at e0
      rw [cellsN64] at e1
      rw [cellsStrT] at e2
      obtain ⟨k, hk, -, -⟩ := DataW.trod_int Try.underlying100 e0
      obtain ⟨n, hn, -, -⟩ := DataW.trod_int Try.underlying2 e1
      obtain ⟨s, hs, -, -⟩ := DataW.trod_string Try.underlying9 e2
      simp at hk hn hs
      subst hk hn hs
      exact ⟨⟨k, n, s⟩, rfl⟩
theorem open_tupS {H : Type} {enc : TypeId × Value → H} {W : World} {base : Nat} {sp : Nat → Bool} {held : Bool} {fuel : Nat} {c : Value} {d : DataW H} {pl : List MemPlace} (hf : DataW.trod enc Try.prog W base sp held fuel 66 [c] = some (d, pl)) (hw : Fits 66 d) :
    ∃ T : List V3, TupS (fun k => k < W.heap.size) W c T := by
  rcases open_slice Try.underlying66 hf with ⟨e, -⟩ | ⟨a, len, cap, m, n, D, Pl, e, -, hle, hcap, hm, hx, hi⟩
  · simp at e
    subst e
    exact ⟨[], none, 0, rfl, by simp, .inl rfl⟩
  · simp at e
    subst e
    injection hx with hx _
    subst hx
    have hlm : len ≤ m := by rw [hm]; split <;> omega
    have hb := (fits_slice Try.underlying66 hw).1
    rw [bytesVal, List.length_map, List.length_range] at hb
    unfold reachBytes at hb
    have hx : ∀ i, i < len → ∃ x : V3, W.cell? ((a.add (i * 3)).add 0) = some (.int .i64 x.k) ∧ W.cell? ((a.add (i * 3)).add 1) = some (.int .i64 x.n) ∧ W.cell? ((a.add (i * 3)).add 2) = some (.string x.s) := by
      intro i hil
      obtain ⟨cs', hc, ht⟩ := hi i (by omega)
      rw [cellsVal3] at hc
      obtain ⟨x, rfl⟩ := open_three ht
      obtain ⟨_, _, hat⟩ := World.cells?_some hc
      exact ⟨x, hat 0 (by omega), hat 1 (by omega), hat 2 (by omega)⟩
    obtain ⟨T, rfl, hT⟩ := list_of _ hx
    refine ⟨T, some a, cap, rfl, by omega, ?_⟩
    by_cases hz : T = []
    · exact .inl hz
    · have h0 : 0 < T.length := List.length_pos_iff.2 hz
      have hc0 := (hT 0 h0).1
      obtain ⟨b, off, spot⟩ := a
      obtain rfl : spot = none := by
        have := World.cell?_spot hc0
        simpa [Addr.add] using this
      have hadd : ∀ i j, ((⟨b, off, none⟩ : Addr).add i).add j = ⟨b, off + i + j, none⟩ := fun i j => by
        unfold Addr.add
        split <;> split <;> simp_all
      refine .inr ⟨b, off, rfl, ?_, fun j hj => ?_⟩
      · have hb := World.block_lt_of_cell? W _ hc0
        rw [hadd] at hb
        exact hb
      · obtain ⟨x0, x1, x2⟩ := hT j hj
        rw [hadd] at x0 x1 x2
        exact ⟨x0, x1, x2⟩
theorem TupS.raw {S : Nat → Prop} {W : World} {v : Value} {T : List V3} (h : TupS S W v T) : ∃ q : Option Addr × Nat × Nat, v = .slice q.1 q.2.1 q.2.2 := by
  obtain ⟨p, c, rfl, -⟩ := h
  exact ⟨(p, T.length, c), rfl⟩
/-- A row of counted tuples that an argument brings. -/
theorem open_ctrow {H : Type} {enc : TypeId × Value → H} {W : World} {base : Nat} {sp : Nat → Bool} {held : Bool} {fuel : Nat} {c : Value} {d : DataW H} {pl : List MemPlace} (hf : DataW.trod enc Try.prog W base sp held fuel 62 [c] = some (d, pl)) (hw : Fits 62 d) : ∃ L : List Ct, CtIn (fun k => k < W.heap.size) W c L ∧ ∀ x ∈ L, -9223372036854775808 ≤ x.2 ∧ x.2 ≤ 9223372036854775807 := by
  rcases open_slice Try.underlying62 hf with ⟨e, -⟩ | ⟨a, len, cap, m, n, D, Pl, e, -, hle, hcap, hm, hx, hi⟩
  · simp at e
    subst e
    exact ⟨[], ⟨[], ⟨none, 0, rfl, Nat.le_refl _, Nat.zero_le _, .inl rfl⟩, LikeC.nil _ _⟩, fun x hx => (by cases hx)⟩
  · simp at e
    subst e
    injection hx with hx _
    subst hx
    have hlm : len ≤ m := by rw [hm]; split <;> omega
    have hfit := (fits_slice Try.underlying62 hw).2
    have hx : ∀ i, i < len → ∃ q : Raw × List V3, W.cell? ((a.add (i * 2)).add 0) = some (rawS q.1) ∧ W.cell? ((a.add (i * 2)).add 1) = some (.int .i64 q.1.2) ∧ TupS (fun k => k < W.heap.size) W (rawS q.1) q.2 ∧ -9223372036854775808 ≤ q.1.2 ∧ q.1.2 ≤ 9223372036854775807 := by
      intro i hil
      obtain ⟨cs', hc, ht⟩ := hi i (by omega)
      rw [cellsCtd] at hc
      obtain ⟨ys, n', -, hxx, hlen, hyl, hff⟩ := DataW.trod_struct Try.underlying68 ht
      obtain ⟨_, hcl, hat⟩ := World.cells?_some hc
      have hfi : Fits 68 (D i) := hfit _ (List.mem_map_of_mem (List.mem_range.2 hil))
      match cs', hcl with
      | [c0, c1], _ =>
        have hy : ys.length = 2 := hyl
        match ys, hy with
        | [(d0, p0), y1], _ =>
          have e0 : DataW.trod enc Try.prog W base sp held n' 66 (([c0, c1].drop 0).take (Try.prog.cellsOf 66)) = some (d0, p0) := hff 0 _ rfl
          have e1 : DataW.trod enc Try.prog W base sp held n' 2 (([c0, c1].drop 1).take (Try.prog.cellsOf 2)) = some y1 := hff 1 _ rfl
          rw [cellsTupl] at e0
          rw [cellsN64] at e1
          injection hxx with hxx _
          rw [hxx] at hfi
          obtain ⟨T, hT⟩ := open_tupS e0 (fits_field (j := 0) Try.underlying68 hfi rfl rfl)
          obtain ⟨N, hN, -, wn⟩ := DataW.trod_int Try.underlying2 e1
          simp at hN
          subst hN
          obtain ⟨q, rfl⟩ := hT.raw
          exact ⟨((q, N), T), hat 0 (by simp), hat 1 (by simp), hT, wf_int wn⟩
    obtain ⟨Q, rfl, hQ⟩ := list_of _ hx
    refine ⟨Q.map (fun q => (q.2, q.1.2)), ⟨Q.map (·.1), ⟨some a, cap, by rw [List.length_map], by rw [List.length_map]; exact hle, hcap, ?_⟩, by rw [List.length_map, List.length_map], fun j hj hj' => ?_⟩, fun x hx => ?_⟩
    · by_cases hz : Q = []
      · exact .inl (by rw [hz]; rfl)
      · have h0 : 0 < Q.length := List.length_pos_iff.2 hz
        have hc0 := (hQ 0 h0).1
        obtain ⟨b, off, spot⟩ := a
        obtain rfl : spot = none := by
          have := World.cell?_spot hc0
          simpa [Addr.add] using this
        have hadd : ∀ i j, ((⟨b, off, none⟩ : Addr).add i).add j = ⟨b, off + i + j, none⟩ := fun i j => by
          unfold Addr.add
          split <;> split <;> simp_all
        have hb := World.block_lt_of_cell? W _ hc0
        rw [hadd] at hb
        refine .inr ⟨b, off, rfl, hb, hb, fun j hj => ?_⟩
        rw [List.length_map] at hj
        obtain ⟨x0, x1, -⟩ := hQ j hj
        rw [hadd] at x0 x1
        rw [List.getElem_map]
        exact ⟨x0, x1⟩
    · rw [List.length_map] at hj
      rw [List.getElem_map, List.getElem_map]
      exact ⟨rfl, (hQ j hj).2.2.1⟩
    · obtain ⟨q, hq, rfl⟩ := List.mem_map.1 hx
      obtain ⟨j, hj, rfl⟩ := List.getElem_of_mem hq
      exact (hQ j hj).2.2.2
theorem open_rct {H : Type} {enc : TypeId × Value → H} {W : World} {base : Nat} {sp : Nat → Bool} {held : Bool} {r : Reach} {b0 : Nat} {v : Value} {d : DataW H} {p : List MemPlace}
    (hv : Value.okWide Try.prog W r b0 60 v) (h : DataW.Trod enc Try.prog W base sp held 60 v d p) (hw : Fits 60 d) : ∃ LL : List (List Ct), RowsCt (fun b => b < W.heap.size) W v LL ∧ ∀ L ∈ LL, ∀ x ∈ L, -9223372036854775808 ≤ x.2 ∧ x.2 ≤ 9223372036854775807 := by
  obtain ⟨a, len, cap, rfl⟩ := okWide_slice Try.underlying60 hv
  obtain ⟨fuel, hf⟩ := h
  have hf' : DataW.trod enc Try.prog W base sp held fuel 60 [.slice a len cap] = some (d, p) := hf
  rcases open_slice Try.underlying60 hf' with ⟨e, -⟩ | ⟨a', len', cap', m, n, D, Pl, e, -, hle, hcap, hm, hx, hi⟩
  · simp at e
    obtain ⟨rfl, rfl, rfl⟩ := e
    exact ⟨[], ⟨none, 0, rfl, Nat.le_refl _, Nat.zero_le _, .inl rfl⟩, fun L hL => (by cases hL)⟩
  · simp at e
    obtain ⟨rfl, rfl, rfl⟩ := e
    injection hx with hx _
    subst hx
    have hlm : len ≤ m := by rw [hm]; split <;> omega
    have hfit := (fits_slice Try.underlying60 hw).2
    have hx : ∀ i, i < len → ∃ x : Value × List Ct, W.cell? (a'.add i) = some x.1 ∧ CtIn (fun b => b < W.heap.size) W x.1 x.2 ∧ ∀ y ∈ x.2, -9223372036854775808 ≤ y.2 ∧ y.2 ≤ 9223372036854775807 := by
      intro i hil
      obtain ⟨cs', hc, ht⟩ := hi i (by omega)
      rw [cellsRowC] at hc
      obtain ⟨_, hcl, hat⟩ := World.cells?_some hc
      have hfi : Fits 62 (D i) := hfit _ (List.mem_map_of_mem (List.mem_range.2 hil))
      match cs', hcl with
      | [c0], _ =>
        obtain ⟨L, hL⟩ := open_ctrow ht hfi
        have h0 := hat 0 (by simp)
        rw [Nat.mul_one] at h0
        exact ⟨(c0, L), by simpa [Addr.add] using h0, hL⟩
    obtain ⟨L, rfl, hL⟩ := list_of _ hx
    refine ⟨L.map (·.2), ⟨some a', cap, by rw [List.length_map], by rw [List.length_map]; exact hle, hcap, ?_⟩, fun M hM => ?_⟩
    rotate_left
    · obtain ⟨q, hq, rfl⟩ := List.mem_map.1 hM
      obtain ⟨j, hj, rfl⟩ := List.getElem_of_mem hq
      exact (hL j hj).2.2
    by_cases hz : L = []
    · exact .inl (by rw [hz]; rfl)
    · have h0 : 0 < L.length := List.length_pos_iff.2 hz
      have hc0 := (hL 0 h0).1
      obtain ⟨b, off, spot⟩ := a'
      obtain rfl : spot = none := by
        have := World.cell?_spot hc0
        simpa [Addr.add] using this
      have hb := World.block_lt_of_cell? W _ hc0
      rw [addr_add] at hb
      refine .inr ⟨b, off, rfl, hb, hb, fun j hj => ?_⟩
      rw [List.length_map] at hj
      have x0 := (hL j hj).1
      rw [addr_add] at x0
      exact ⟨_, x0, by rw [List.getElem_map]; exact (hL j hj).2.1⟩
end Go.Proofs.Ytcfnpbmkcdmafaa

/-
  Arguments that are rows of calls, opened to the bottom.
-/
import Derived.Test.YtdjebcfpodfhhaaChOp
import Derived.Test.YtdjebcfpodfhhaaChB
import Derived.Deep.Fields
import Derived.ChangeSame
import Derived.SizedLaws
namespace Go.Proofs.Ytdjebcfpodfhhaa
open Go Go.RowKit Go.ChangeShapes Go.WideShapes Go.Deep

set_option maxRecDepth 100000
theorem list_of {α : Type} {p : Nat → α → Prop} : ∀ (n : Nat), (∀ i, i < n → ∃ x, p i x) → ∃ T : List α, T.length = n ∧ ∀ i (h : i < T.length), p i T[i]
  | 0, _ => ⟨[], rfl, fun i h => by simp at h⟩
  | n + 1, h => by
    obtain ⟨T, hl, hT⟩ := list_of n fun i hi => h i (by omega)
    obtain ⟨x, hx⟩ := h n (by omega)
    refine ⟨T ++ [x], by simp [hl], fun i hi => ?_⟩
    by_cases hin : i < T.length
    · rw [List.getElem_append_left hin]
      exact hT i hin
    · have : i = T.length := by simp at hi; omega
      subst this
      rw [List.getElem_append_right (Nat.le_refl _)]
      simp only [Nat.sub_self, List.getElem_cons_zero]
      rw [hl]
      exact hx
/-- What is read takes no more than the reach. -/
def Fits {H : Type} (t : TypeId) (d : DataW H) : Prop := ∀ n ∈ d.weights Try.prog t, n ≤ reachBytes
theorem mem_all {H : Type} {P : Program} {e : TypeId} {d : DataW H} {n : Nat} : ∀ {l : List (DataW H)}, d ∈ l → n ∈ d.weights P e → n ∈ DataW.weightsAll P e l
  | x :: l, hd, hn => by
    rw [DataW.weightsAll]
    rcases List.mem_cons.1 hd with rfl | hd
    · exact List.mem_append_left _ hn
    · exact List.mem_append_right _ (mem_all hd hn)
theorem fits_slice {H : Type} {t e : TypeId} {E S : List (DataW H)} (hu : Try.prog.underlying t = some (.slice e)) (h : Fits t (.slice E S)) : E.length * Try.prog.bytesOf e ≤ reachBytes ∧ ∀ d ∈ E, Fits e d := by
  unfold Fits at h
  simp only [DataW.weights, hu, List.mem_cons, List.mem_append] at h
  refine ⟨?_, fun d hd n hn => h n (.inr (.inl (mem_all hd hn)))⟩
  have := h _ (.inl rfl)
  exact Nat.le_trans (Nat.mul_le_mul_right _ (by omega)) this
theorem fits_field {H : Type} {t u : TypeId} {fs : Array Field} {parts : List (DataW H)} {j : Nat} {d : DataW H} (hu : Try.prog.underlying t = some (.struct fs)) (h : Fits t (.agg parts)) (hj : (fs.toList.map (·.type))[j]? = some u) (hd : parts[j]? = some d) : Fits u d := fun n hn => by
  unfold Fits at h
  simp only [DataW.weights, hu] at h
  exact h n (DataW.weights_mem_each hj hd n hn)
theorem cellsValT : Try.prog.cellsOf 87 = 3 := by kernel_rfl
theorem cellsKT : Try.prog.cellsOf 85 = 1 := by kernel_rfl
theorem cellsNT : Try.prog.cellsOf 2 = 1 := by kernel_rfl
theorem cellsTT : Try.prog.cellsOf 74 = 1 := by kernel_rfl
theorem cellsCt : Try.prog.cellsOf 76 = 2 := by kernel_rfl
theorem bytesVal : Try.prog.bytesOf 87 = 32 := by kernel_rfl
/-- One value's three cells. -/
theorem open_three {H : Type} {enc : TypeId × Value → H} {W : World} {base : Nat} {sp : Nat → Bool} {held : Bool} {fuel : Nat} {cs : List Value} {x : DataW H × List MemPlace} (h : DataW.trod enc Try.prog W base sp held fuel 87 cs = some x) :
    ∃ v : V3, cs = [.int .i64 v.k, .int .i64 v.n, .string v.s] := by
  obtain ⟨ys, n', -, -, hlen, hyl, hf⟩ := DataW.trod_struct Try.underlying87 h
  rw [cellsValT] at hlen
  match cs, hlen with
  | [c0, c1, c2], _ =>
    have hy : ys.length = 3 := hyl
    match ys, hy with
    | [y0, y1, y2], _ =>
      have e0 : DataW.trod enc Try.prog W base sp held n' 85 (([c0, c1, c2].drop 0).take (Try.prog.cellsOf 85)) = some y0 := hf 0 _ rfl
      have e1 : DataW.trod enc Try.prog W base sp held n' 2 (([c0, c1, c2].drop 1).take (Try.prog.cellsOf 2)) = some y1 := hf 1 _ rfl
      have e2 : DataW.trod enc Try.prog W base sp held n' 9 (([c0, c1, c2].drop 2).take (Try.prog.cellsOf 9)) = some y2 := hf 2 _ rfl
      rw [cellsKT] at e0
      rw [cellsNT] at e1
      rw [cellsStr] at e2
      obtain ⟨k, hk, -, -⟩ := DataW.trod_int Try.underlying85 e0
      obtain ⟨n, hn, -, -⟩ := DataW.trod_int Try.underlying2 e1
      obtain ⟨s, hs, -, -⟩ := DataW.trod_string Try.underlying9 e2
      simp at hk hn hs
      subst hk hn hs
      exact ⟨⟨k, n, s⟩, rfl⟩
theorem spot_none_ {W : World} {a : Addr} {u : Value} (h : W.cell? a = some u) : a = ⟨a.block, a.off, none⟩ := by
  have := World.cell?_spot h
  obtain ⟨b, o, s⟩ := a
  simp at this
  subst this
  rfl
theorem open_tupS {H : Type} {enc : TypeId × Value → H} {W : World} {base : Nat} {sp : Nat → Bool} {held : Bool} {fuel : Nat} {c : Value} {d : DataW H} {pl : List MemPlace} (hf : DataW.trod enc Try.prog W base sp held fuel 74 [c] = some (d, pl)) (hw : Fits 74 d) :
    ∃ T : List V3, TupS (fun k => k < W.heap.size) W c T := by
  rcases open_slice Try.underlying74 hf with ⟨e, -⟩ | ⟨a, len, cap, m, n, D, Pl, e, -, hle, hcap, hm, hx, hi⟩
  · simp at e
    subst e
    exact ⟨[], none, 0, rfl, by simp, .inl rfl⟩
  · simp at e
    subst e
    injection hx with hx _
    subst hx
    have hlm : len ≤ m := by rw [hm]; split <;> omega
    have hb := (fits_slice Try.underlying74 hw).1
    rw [bytesVal, List.length_map, List.length_range] at hb
    unfold reachBytes at hb
    have hx : ∀ i, i < len → ∃ x : V3, W.cell? ((a.add (i * 3)).add 0) = some (.int .i64 x.k) ∧ W.cell? ((a.add (i * 3)).add 1) = some (.int .i64 x.n) ∧ W.cell? ((a.add (i * 3)).add 2) = some (.string x.s) := by
      intro i hil
      obtain ⟨cs', hc, ht⟩ := hi i (by omega)
      rw [cellsValT] at hc
      obtain ⟨x, rfl⟩ := open_three ht
      obtain ⟨_, _, hat⟩ := World.cells?_some hc
      exact ⟨x, hat 0 (by omega), hat 1 (by omega), hat 2 (by omega)⟩
    obtain ⟨T, rfl, hT⟩ := list_of _ hx
    refine ⟨T, some a, cap, rfl, by omega, ?_⟩
    by_cases hz : T = []
    · exact .inl hz
    · have h0 : 0 < T.length := List.length_pos_iff.2 hz
      have hc0 := (hT 0 h0).1
      obtain ⟨b, off, spot⟩ := a
      obtain rfl : spot = none := by
        have := World.cell?_spot hc0
        simpa [Addr.add] using this
      have hadd : ∀ i j, ((⟨b, off, none⟩ : Addr).add i).add j = ⟨b, off + i + j, none⟩ := fun i j => by
        unfold Addr.add
        split <;> split <;> simp_all
      refine .inr ⟨b, off, rfl, ?_, fun j hj => ?_⟩
      · have hb := World.block_lt_of_cell? W _ hc0
        rw [hadd] at hb
        exact hb
      · obtain ⟨x0, x1, x2⟩ := hT j hj
        rw [hadd] at x0 x1 x2
        exact ⟨x0, x1, x2⟩
/-- Entries that an argument brings. -/
def EntA (W : World) (v : Value) : Prop := ∃ pt lt ct, v = .slice pt lt ct ∧ lt ≤ maxLen ∧ (lt ≤ 20 → ∃ E, E.length = lt ∧ EntS (fun k => k < W.heap.size) W v E)
theorem open_entA {H : Type} {enc : TypeId × Value → H} {W : World} {base : Nat} {sp : Nat → Bool} {held : Bool} {fuel : Nat} {c : Value} {d : DataW H} {pl : List MemPlace} (hf : DataW.trod enc Try.prog W base sp held fuel 34 [c] = some (d, pl)) (hw : Fits 34 d) : EntA W c := by
  rcases open_slice Try.underlying34 hf with ⟨e, -⟩ | ⟨a, len, cap, m, n, D, Pl, e, -, hle, hcap, hm, hx, hi⟩
  · simp at e
    subst e
    exact ⟨none, 0, 0, rfl, Nat.zero_le _, fun _ => ⟨[], rfl, none, 0, [], rfl, rfl, by simp, by simp, .inl rfl⟩⟩
  · simp at e
    subst e
    injection hx with hx _
    subst hx
    have hlm : len ≤ m := by rw [hm]; split <;> omega
    have hfit := (fits_slice Try.underlying34 hw).2
    refine ⟨some a, len, cap, rfl, by omega, fun h20 => ?_⟩
    have hx : ∀ i, i < len → ∃ q : Value × (List V3 × Int), W.cell? ((a.add (i * 2)).add 0) = some q.1 ∧ W.cell? ((a.add (i * 2)).add 1) = some (.int .i64 q.2.2) ∧ TupS (fun k => k < W.heap.size) W q.1 q.2.1 := by
      intro i hil
      obtain ⟨cs', hc, ht⟩ := hi i (by omega)
      rw [cellsCt] at hc
      obtain ⟨ys, n', -, hxx, hlen, hyl, hff⟩ := DataW.trod_struct Try.underlying76 ht
      obtain ⟨_, hcl, hat⟩ := World.cells?_some hc
      have hfi : Fits 76 (D i) := hfit _ (List.mem_map_of_mem (List.mem_range.2 hil))
      match cs', hcl with
      | [c0, c1], _ =>
        have hy : ys.length = 2 := hyl
        match ys, hy with
        | [(d0, p0), y1], _ =>
          have e0 : DataW.trod enc Try.prog W base sp held n' 74 (([c0, c1].drop 0).take (Try.prog.cellsOf 74)) = some (d0, p0) := hff 0 _ rfl
          have e1 : DataW.trod enc Try.prog W base sp held n' 2 (([c0, c1].drop 1).take (Try.prog.cellsOf 2)) = some y1 := hff 1 _ rfl
          rw [cellsTT] at e0
          rw [cellsNT] at e1
          injection hxx with hxx _
          rw [hxx] at hfi
          obtain ⟨T, hT⟩ := open_tupS e0 (fits_field (j := 0) Try.underlying76 hfi rfl rfl)
          obtain ⟨N, hN, -, -⟩ := DataW.trod_int Try.underlying2 e1
          simp at hN
          subst hN
          exact ⟨(c0, T, N), hat 0 (by simp), hat 1 (by simp), hT⟩
    obtain ⟨Q, rfl, hQ⟩ := list_of _ hx
    refine ⟨Q.map (·.2), by simp, some a, cap, Q, rfl, rfl, by omega, fun q hq => ?_, ?_⟩
    · obtain ⟨i, hi', rfl⟩ := List.getElem_of_mem hq
      exact (hQ i hi').2.2
    · by_cases hz : Q = []
      · exact .inl hz
      · have h0 : 0 < Q.length := List.length_pos_iff.2 hz
        have hc0 := (hQ 0 h0).1
        obtain ⟨b, off, spot⟩ := a
        obtain rfl : spot = none := by
          have := World.cell?_spot hc0
          simpa [Addr.add] using this
        have hadd : ∀ i j, ((⟨b, off, none⟩ : Addr).add i).add j = ⟨b, off + i + j, none⟩ := fun i j => by
          unfold Addr.add
          split <;> split <;> simp_all
        refine .inr ⟨b, off, rfl, ?_, fun j q hj => ?_⟩
        · have hb := World.block_lt_of_cell? W _ hc0
          rw [hadd] at hb
          exact hb
        · obtain ⟨hjl, rfl⟩ := List.getElem?_eq_some_iff.1 hj
          obtain ⟨x0, x1, -⟩ := hQ j hjl
          rw [hadd] at x0 x1
          exact ⟨x0, x1⟩
/-- A call that an argument brings. -/
structure OpV where
  kd : Int
  r : ByteArray
  pg : Int
  pv : Value
def OpV.good (W : World) (x : OpV) : Prop := (Lit.int .i64 x.pg).wf = true ∧ (Lit.int .i64 x.kd).wf = true ∧ x.r.size ≤ maxLen ∧ EntA W x.pv
def CellsO (W : World) (b off : Nat) (L : List OpV) : Prop := ∀ j x, L[j]? = some x → W.cell? ⟨b, off + j * 4, none⟩ = some (.int .i64 x.kd) ∧ W.cell? ⟨b, off + j * 4 + 1, none⟩ = some (.string x.r) ∧ W.cell? ⟨b, off + j * 4 + 2, none⟩ = some (.int .i64 x.pg) ∧ W.cell? ⟨b, off + j * 4 + 3, none⟩ = some x.pv
def OpsA (W : World) (v : Value) (L : List OpV) : Prop := ∃ p cap, v = .slice p L.length cap ∧ L.length ≤ maxLen ∧ (L = [] ∨ ∃ b off, p = some ⟨b, off, none⟩ ∧ b < W.heap.size ∧ CellsO W b off L) ∧ ∀ x ∈ L, x.good W
theorem open_ops {H : Type} {enc : TypeId × Value → H} {W : World} {base : Nat} {sp : Nat → Bool} {held : Bool} {r : Reach} {b0 : Nat} {v : Value} {d : DataW H} {p : List MemPlace}
    (hv : Value.okWide Try.prog W r b0 22 v) (h : DataW.Trod enc Try.prog W base sp held 22 v d p) (hw : Fits 22 d) : ∃ L : List OpV, OpsA W v L := by
  obtain ⟨a, len, cap, rfl⟩ := okWide_slice Try.underlying22 hv
  obtain ⟨fuel, hf⟩ := h
  have hf' : DataW.trod enc Try.prog W base sp held fuel 22 [.slice a len cap] = some (d, p) := hf
  rcases open_slice Try.underlying22 hf' with ⟨e, -⟩ | ⟨a', len', cap', m, n, D, Pl, e, -, hle, hcap, hm, hx, hi⟩
  · simp at e
    obtain ⟨rfl, rfl, rfl⟩ := e
    exact ⟨[], none, 0, rfl, Nat.zero_le _, .inl rfl, fun x hx => by cases hx⟩
  · simp at e
    obtain ⟨rfl, rfl, rfl⟩ := e
    injection hx with hx _
    subst hx
    have hlm : len ≤ m := by rw [hm]; split <;> omega
    have hfit := (fits_slice Try.underlying22 hw).2
    have hx : ∀ i, i < len → ∃ x : OpV, (W.cell? ((a'.add (i * 4)).add 0) = some (.int .i64 x.kd) ∧ W.cell? ((a'.add (i * 4)).add 1) = some (.string x.r) ∧ W.cell? ((a'.add (i * 4)).add 2) = some (.int .i64 x.pg) ∧ W.cell? ((a'.add (i * 4)).add 3) = some x.pv) ∧ x.good W := by
      intro i hil
      obtain ⟨cs', hc, ht⟩ := hi i (by omega)
      rw [cellsOp] at hc
      have hfi : Fits 36 (D i) := hfit _ (List.mem_map_of_mem (List.mem_range.2 hil))
      obtain ⟨kd, pg, r, pv, y, n', ys, rfl, wp, wk, wr, hpv, hxx, hy⟩ := open_cells ht
      injection hxx with hxx _
      rw [hxx] at hfi
      obtain ⟨_, _, hat⟩ := World.cells?_some hc
      refine ⟨⟨kd, r, pg, pv⟩, ⟨hat 0 (by omega), hat 1 (by omega), hat 2 (by omega), hat 3 (by omega)⟩, wp, wk, wr, ?_⟩
      exact open_entA hpv (fits_field (j := 2) Try.underlying36 hfi rfl (by rw [List.getElem?_map, hy]; rfl))
    obtain ⟨L, rfl, hL⟩ := list_of _ hx
    refine ⟨L, some a', cap, rfl, by omega, ?_, fun x hx => ?_⟩
    · by_cases hz : L = []
      · exact .inl hz
      · have h0 : 0 < L.length := List.length_pos_iff.2 hz
        have hc0 := (hL 0 h0).1.1
        obtain ⟨b, off, spot⟩ := a'
        obtain rfl : spot = none := by
          have := World.cell?_spot hc0
          simpa [Addr.add] using this
        have hadd : ∀ i j, ((⟨b, off, none⟩ : Addr).add i).add j = ⟨b, off + i + j, none⟩ := fun i j => by
          unfold Addr.add
          split <;> split <;> simp_all
        refine .inr ⟨b, off, rfl, ?_, fun j x hj => ?_⟩
        · have hb := World.block_lt_of_cell? W _ hc0
          rw [hadd] at hb
          exact hb
        · obtain ⟨hjl, rfl⟩ := List.getElem?_eq_some_iff.1 hj
          obtain ⟨⟨x0, x1, x2, x3⟩, -⟩ := hL j hjl
          rw [hadd] at x0 x1 x2 x3
          exact ⟨x0, x1, x2, x3⟩
    · obtain ⟨i, hi', rfl⟩ := List.getElem_of_mem hx
      exact (hL i hi').2
end Go.Proofs.Ytdjebcfpodfhhaa

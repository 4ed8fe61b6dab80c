/-
  Arguments that are a token, or a row of tokens, opened.
-/
import Derived.Test.YtiokdlomfmkkoaaDoorLxF
import Derived.Test.YtiokdlomfmkkoaaDoorLxWz
import Derived.Below
import Derived.OpenShut
import Derived.ChangeOld
import Derived.Lib.SmallJoins
import Derived.Deep.Slices
import Derived.WideShapes
namespace Go.Proofs.YtiokdlomfmkkoaaDoor
open Go Go.RowKit Go.ChangeShapes Go.WideShapes Go.Deep

set_option maxRecDepth 100000
theorem cellsWord : Tryd.prog.cellsOf 37 = 6 := by kernel_rfl
theorem cellsIn : Tryd.prog.cellsOf 3 = 1 := by kernel_rfl
theorem cellsKd : Tryd.prog.cellsOf 32 = 1 := by kernel_rfl
theorem cellsVk : Tryd.prog.cellsOf 33 = 1 := by kernel_rfl
theorem cellsI64 : Tryd.prog.cellsOf 2 = 1 := by kernel_rfl
/-- A token's six cells. -/
theorem open_wcells {H : Type} {enc : TypeId × Value → H} {W : World} {base : Nat} {sp : Nat → Bool} {held : Bool} {fuel : Nat} {cs : List Value} {x : DataW H × List MemPlace} (h : DataW.trod enc Tryd.prog W base sp held fuel 37 cs = some x) :
    ∃ v : Wz, cs = cellZ v ∧ I64 v.pos ∧ v.text.length ≤ maxLen := by
  obtain ⟨ys, n', -, -, hlen, hyl, hf⟩ := DataW.trod_struct Tryd.underlying37 h
  rw [cellsWord] at hlen
  match cs, hlen with
  | [c0, c1, c2, c3, c4, c5], _ =>
    have hy : ys.length = 4 := hyl
    match ys, hy with
    | [y0, y1, y2, y3], _ =>
      have e0 : DataW.trod enc Tryd.prog W base sp held n' 32 (([c0, c1, c2, c3, c4, c5].drop 0).take (Tryd.prog.cellsOf 32)) = some y0 := hf 0 _ rfl
      have e1 : DataW.trod enc Tryd.prog W base sp held n' 9 (([c0, c1, c2, c3, c4, c5].drop 1).take (Tryd.prog.cellsOf 9)) = some y1 := hf 1 _ rfl
      have e2 : DataW.trod enc Tryd.prog W base sp held n' 35 (([c0, c1, c2, c3, c4, c5].drop 2).take (Tryd.prog.cellsOf 35)) = some y2 := hf 2 _ rfl
      have e3 : DataW.trod enc Tryd.prog W base sp held n' 3 (([c0, c1, c2, c3, c4, c5].drop 5).take (Tryd.prog.cellsOf 3)) = some y3 := hf 3 _ rfl
      rw [cellsKd] at e0
      rw [cellsStr] at e1
      rw [cellsVal] at e2
      rw [cellsIn] at e3
      obtain ⟨zs, m, -, -, -, hzl, hg⟩ := DataW.trod_struct Tryd.underlying35 e2
      have hz : zs.length = 3 := hzl
      match zs, hz with
      | [z0, z1, z2], _ =>
        have g0 : DataW.trod enc Tryd.prog W base sp held m 33 (([c2, c3, c4].drop 0).take (Tryd.prog.cellsOf 33)) = some z0 := hg 0 _ rfl
        have g1 : DataW.trod enc Tryd.prog W base sp held m 2 (([c2, c3, c4].drop 1).take (Tryd.prog.cellsOf 2)) = some z1 := hg 1 _ rfl
        have g2 : DataW.trod enc Tryd.prog W base sp held m 9 (([c2, c3, c4].drop 2).take (Tryd.prog.cellsOf 9)) = some z2 := hg 2 _ rfl
        rw [cellsVk] at g0
        rw [cellsI64] at g1
        rw [cellsStr] at g2
        obtain ⟨k, hk, -, -⟩ := DataW.trod_int Tryd.underlying32 e0
        obtain ⟨s, hs, -, ws⟩ := DataW.trod_string Tryd.underlying9 e1
        obtain ⟨p, hp, -, wp⟩ := DataW.trod_int Tryd.underlying3 e3
        obtain ⟨a, ha, -, -⟩ := DataW.trod_int Tryd.underlying33 g0
        obtain ⟨b, hb, -, -⟩ := DataW.trod_int Tryd.underlying2 g1
        obtain ⟨t, ht, -, -⟩ := DataW.trod_string Tryd.underlying9 g2
        simp at hk hs hp ha hb ht
        subst hk hs hp ha hb ht
        exact ⟨⟨k, s.data.toList, (a, b, t), p⟩, rfl, wf_I64 wp, by show s.data.toList.length ≤ maxLen; rw [← Lib.size_eq]; exact ws⟩
theorem open_wd {H : Type} {enc : TypeId × Value → H} {W : World} {base : Nat} {sp : Nat → Bool} {held : Bool} {r : Reach} {b0 : Nat} {v : Value} {d : DataW H} {p : List MemPlace}
    (hv : Value.okWide Tryd.prog W r b0 37 v) (h : DataW.Trod enc Tryd.prog W base sp held 37 v d p) : ∃ x : Wz, v = wzV x := by
  obtain ⟨cs, rfl, hsz⟩ := okWide_struct Tryd.underlying37 hv
  obtain ⟨fuel, hf⟩ := h
  have hf' : DataW.trod enc Tryd.prog W base sp held fuel 37 cs.toList = some (d, p) := hf
  obtain ⟨x, e, -⟩ := open_wcells hf'
  refine ⟨x, ?_⟩
  have : cs = (cellZ x).toArray := by
    apply Array.ext'
    simpa using e
  rw [this]
  rfl
theorem list_of {α : Type} {p : Nat → α → Prop} : ∀ (n : Nat), (∀ i, i < n → ∃ x, p i x) → ∃ T : List α, T.length = n ∧ ∀ i (h : i < T.length), p i T[i]
  | 0, _ => ⟨[], rfl, fun i h => by simp at h⟩
  | n + 1, h => by
    obtain ⟨T, hl, hT⟩ := list_of n fun i hi => h i (by omega)
    obtain ⟨x, hx⟩ := h n (by omega)
    refine ⟨T ++ [x], by simp [hl], fun i hi => ?_⟩
    by_cases hin : i < T.length
    · rw [List.getElem_append_left hin]
      exact hT i hin
    · have : i = n := by simp [hl] at hi; omega
      subst this
      rw [List.getElem_append_right (by omega)]
      simpa [hl] using hx
theorem open_wds {H : Type} {enc : TypeId × Value → H} {W : World} {base : Nat} {sp : Nat → Bool} {held : Bool} {r : Reach} {b0 : Nat} {v : Value} {d : DataW H} {p : List MemPlace}
    (hv : Value.okWide Tryd.prog W r b0 23 v) (h : DataW.Trod enc Tryd.prog W base sp held 23 v d p) : ∃ L : List Wz, ZIn (fun b => b < W.heap.size) W v L ∧ ∀ x ∈ L, x.text.length ≤ maxLen := by
  obtain ⟨a, len, cap, rfl⟩ := okWide_slice Tryd.underlying23 hv
  obtain ⟨fuel, hf⟩ := h
  have hf' : DataW.trod enc Tryd.prog W base sp held fuel 23 [.slice a len cap] = some (d, p) := hf
  rcases open_slice Tryd.underlying23 hf' with ⟨e, -⟩ | ⟨a', len', cap', m, n, D, Pl, e, -, hle, hcap, hm, -, hi⟩
  · simp at e
    obtain ⟨rfl, rfl, rfl⟩ := e
    exact ⟨[], ⟨none, 0, rfl, Nat.le_refl _, Nat.zero_le _, .inl rfl⟩, fun x hx => by cases hx⟩
  · simp at e
    obtain ⟨rfl, rfl, rfl⟩ := e
    have hlm : len ≤ m := by rw [hm]; split <;> omega
    have hx : ∀ i, i < len → ∃ x : Wz, (∀ j u, (cellZ x)[j]? = some u → W.cell? ((a'.add (i * 6)).add j) = some u) ∧ x.text.length ≤ maxLen := by
      intro i hil
      obtain ⟨cs', hc, ht⟩ := hi i (by omega)
      rw [cellsWord] at hc
      obtain ⟨x, rfl, -, hI⟩ := open_wcells ht
      obtain ⟨_, _, hat⟩ := World.cells?_some hc
      refine ⟨x, fun j u hu => ?_, hI⟩
      have hj : j < 6 := (List.getElem?_eq_some_iff.1 hu).1
      rw [hat j hj]
      exact hu
    obtain ⟨T, rfl, hT⟩ := list_of _ hx
    refine ⟨T, ⟨some a', cap, rfl, hle, hcap, ?_⟩, fun x hx => ?_⟩
    · by_cases hz : T = []
      · exact .inl hz
      · have h0 : 0 < T.length := List.length_pos_iff.2 hz
        have hc0 := (hT 0 h0).1 0 _ rfl
        obtain ⟨b, off, spot⟩ := a'
        obtain rfl : spot = none := by
          have := World.cell?_spot hc0
          simpa [Addr.add] using this
        have hadd : ∀ i j, ((⟨b, off, none⟩ : Addr).add i).add j = ⟨b, off + i + j, none⟩ := fun i j => by
          unfold Addr.add
          split <;> split <;> simp_all
        have hb := World.block_lt_of_cell? W _ hc0
        rw [hadd] at hb
        refine .inr ⟨b, off, rfl, hb, hb, fun j hj i u hu => ?_⟩
        have := (hT j hj).1 i u hu
        rw [hadd] at this
        rw [← Nat.add_assoc]
        exact this
    · obtain ⟨i, hi', rfl⟩ := List.getElem_of_mem hx
      exact (hT i hi').2
end Go.Proofs.YtiokdlomfmkkoaaDoor

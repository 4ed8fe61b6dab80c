/-
  Contract of the document's Find; a pattern that an argument brings, opened; plain facts on bindings put in.
-/
import Derived.Test.YtaogfgohchpnoaaDoorTbC
import Derived.Test.YtaogfgohchpnoaaDoorOpenB
namespace Go.Proofs.YtaogfgohchpnoaaDoor
open Go Go.RowKit Go.ChangeShapes Go.WideShapes Go.Deep

/-- What Find answers. -/
def FindEnd (o : Option V3) (w : World) (e : Ending) (w' : World) : Prop :=
  Below w.heap.size w w' ∧ ((∃ u, o = some u ∧ e = .returned (.tuple #[.agg #[.int .i64 u.k, .int .i64 u.n, .string u.s], .bool true])) ∨ (o = none ∧ e = .returned (.tuple #[.agg #[.int .i64 0, .int .i64 0, .string ⟨#[]⟩], .bool false])))
set_option maxHeartbeats 1000000 in
set_option maxRecDepth 100000 in
theorem rfind_any (v : Value) (L : List Bd) (nm : ByteArray) (n₀ : Nat) (w : World) (h : KIn n₀ w v L) (hn : n₀ ≤ w.heap.size) (hL : L.length ≤ 1000000) :
    Calls Tryd.prog 31 #[v, .string nm] w (FindEnd (findB L nm) w) := by
  obtain ⟨W1, hW1⟩ : ∃ W1, W1 = w.alloc (.cells #[.int .i64 0, .int .i64 0, .string ⟨#[]⟩] 49) := ⟨_, rfl⟩
  have HB1 : Hid (Below w.heap.size w W1) := Lib.hid (by rw [hW1]; exact below_box _ _)
  have HK := Lib.hid (h.below (HB1.out.mono hn))
  have hblk : W1.heap[w.heap.size]? = some (.cells #[.int .i64 0, .int .i64 0, .string ⟨#[]⟩] 49 (0, 0)) := by rw [hW1]; exact heap_alloc_new w _
  have c0 : W1.cell? ⟨w.heap.size, 0, none⟩ = some (.int .i64 0) := cell_of_row W1 _ 0 _ _ (0, 0) hblk
  have c1 : W1.cell? ⟨w.heap.size, 1, none⟩ = some (.int .i64 0) := cell_of_row W1 _ 1 _ _ (0, 0) hblk
  have c2 : W1.cell? ⟨w.heap.size, 2, none⟩ = some (.string ⟨#[]⟩) := cell_of_row W1 _ 2 _ _ (0, 0) hblk
  have f0 : W1.frozen? ⟨w.heap.size, 0, none⟩ = false := frozen_of_row W1 _ 0 _ _ hblk
  have f1 : W1.frozen? ⟨w.heap.size, 1, none⟩ = false := frozen_of_row W1 _ 1 _ _ hblk
  have f2 : W1.frozen? ⟨w.heap.size, 2, none⟩ = false := frozen_of_row W1 _ 2 _ _ hblk
  have HBL := Lib.hid hblk
  obtain ⟨p, cap, rfl⟩ := h.form
  have hL' : (L.length : Int) ≤ 1000000 := by omega
  clear h hblk
  go_enter Tryd.func31, Tryd.ntmps31
  go_wp2_with fail
  rw [← hW1]
  clear hW1
  go_loop [6] (fun i => ∃ k : Nat, k ≤ L.length ∧ i = .int .i64 k ∧ Hid (findB L nm = findB (L.drop k) nm)) (fun i => L.length - (intOf i).toNat)
  case atStart => exact ⟨0, Nat.zero_le _, rfl, Lib.hid rfl⟩
  case round =>
    obtain ⟨k, hk, rfl, HI⟩ := hrel
    have h0 : (0 : Int) ≤ (k : Int) := by omega
    by_cases hlt : k < L.length
    · have hlt' : (k : Int) < (L.length : Int) := by omega
      obtain ⟨g, hg1, hg2, hg3, hg4, hg5⟩ := HK.out.some hlt
      subst hg1
      obtain ⟨x0, x1, x2, x3⟩ := hg5 k hlt
      rw [Nat.zero_add] at x0 x1 x2 x3
      have HS := Lib.hid (HI.out.trans (findB_at hlt nm))
      clear hg5
      cases he : (L[k].nm.toList == nm.toList) with
      | true =>
        have HF := Lib.hid (HS.out.trans (findB_yes he))
        go_wp2_with fail
        have r := Go.heap_setCell_same _ w.heap.size 2 _ _ (.string L[k].v.s) (Go.heap_setCell_same _ w.heap.size 1 _ _ (.int .i64 L[k].v.n) (Go.heap_setCell_same W1 w.heap.size 0 _ _ (.int .i64 L[k].v.k) HBL.out))
        have s0 := cell_of_row _ _ 0 _ _ (0, 0) r
        have s1 := cell_of_row _ _ 1 _ _ (0, 0) r
        have s2 := cell_of_row _ _ 2 _ _ (0, 0) r
        exact bodyPost_ret (v := .tuple #[.agg #[.int .i64 L[k].v.k, .int .i64 L[k].v.n, .string L[k].v.s], .bool true]) (by simp [results, Tryd.results31, go_sem, s0, s1, s2]) rfl
          ⟨((HB1.out.setCell (p := ⟨w.heap.size, 0, none⟩) (Nat.le_refl _) _).setCell (p := ⟨w.heap.size, 1, none⟩) (Nat.le_refl _) _).setCell (p := ⟨w.heap.size, 2, none⟩) (Nat.le_refl _) _, .inl ⟨_, HF.out, rfl⟩⟩
      | false =>
        have HF := Lib.hid (HS.out.trans (findB_no he))
        go_wp2_with fail
        go_round
        case rel => exact ⟨k + 1, by omega, by go_num, HF⟩
        case measure => simp [intOf]; omega
    · have hge : (L.length : Int) ≤ (k : Int) := by omega
      have HF : Hid (findB L nm = none) := Lib.hid (HI.out.trans (by rw [List.drop_of_length_le (by omega)]; rfl))
      go_wp2_with fail
      have r := Go.heap_setCell_same _ w.heap.size 2 _ _ (.string ⟨#[]⟩) (Go.heap_setCell_same _ w.heap.size 1 _ _ (.int .i64 0) (Go.heap_setCell_same W1 w.heap.size 0 _ _ (.int .i64 0) HBL.out))
      have s0 := cell_of_row _ _ 0 _ _ (0, 0) r
      have s1 := cell_of_row _ _ 1 _ _ (0, 0) r
      have s2 := cell_of_row _ _ 2 _ _ (0, 0) r
      exact bodyPost_ret (v := .tuple #[.agg #[.int .i64 0, .int .i64 0, .string ⟨#[]⟩], .bool false]) (by simp [results, Tryd.results31, go_sem, s0, s1, s2]) rfl
          ⟨((HB1.out.setCell (p := ⟨w.heap.size, 0, none⟩) (Nat.le_refl _) _).setCell (p := ⟨w.heap.size, 1, none⟩) (Nat.le_refl _) _).setCell (p := ⟨w.heap.size, 2, none⟩) (Nat.le_refl _) _, .inr ⟨HF.out, rfl⟩⟩

set_option maxRecDepth 100000
/-- One term's five cells. -/
theorem cellsTm : Tryd.prog.cellsOf 51 = 5 := by kernel_rfl
theorem cellsTk : Tryd.prog.cellsOf 46 = 1 := by kernel_rfl
theorem open_term {H : Type} {enc : TypeId × Value → H} {W : World} {base : Nat} {sp : Nat → Bool} {held : Bool} {fuel : Nat} {cs : List Value} {x : DataW H × List MemPlace} (h : DataW.trod enc Tryd.prog W base sp held fuel 51 cs = some x) :
    ∃ v : Tm, cs = [.int .i64 v.k, .string v.nm, .int .i64 v.v.k, .int .i64 v.v.n, .string v.v.s] ∧ v.nm.size ≤ maxLen := by
  obtain ⟨ys, n', -, -, hlen, hyl, hf⟩ := DataW.trod_struct Tryd.underlying51 h
  rw [cellsTm] at hlen
  match cs, hlen with
  | [c0, c1, c2, c3, c4], _ =>
    have hy : ys.length = 3 := hyl
    match ys, hy with
    | [y0, y1, y2], _ =>
      have e0 : DataW.trod enc Tryd.prog W base sp held n' 46 (([c0, c1, c2, c3, c4].drop 0).take (Tryd.prog.cellsOf 46)) = some y0 := hf 0 _ rfl
      have e1 : DataW.trod enc Tryd.prog W base sp held n' 9 (([c0, c1, c2, c3, c4].drop 1).take (Tryd.prog.cellsOf 9)) = some y1 := hf 1 _ rfl
      have e2 : DataW.trod enc Tryd.prog W base sp held n' 49 (([c0, c1, c2, c3, c4].drop 2).take (Tryd.prog.cellsOf 49)) = some y2 := hf 2 _ rfl
      rw [cellsTk] at e0
      rw [cellsST] at e1
      rw [cellsValT] at e2
      obtain ⟨k, hk, -, -⟩ := DataW.trod_int Tryd.underlying46 e0
      obtain ⟨s, hs, -, ws⟩ := DataW.trod_string Tryd.underlying9 e1
      obtain ⟨u, hu, -⟩ := open_three e2
      simp at hk hs hu
      obtain ⟨rfl, rfl, rfl⟩ := hu
      subst hk hs
      exact ⟨⟨k, s, u⟩, rfl, ws⟩
theorem open_pat {H : Type} {enc : TypeId × Value → H} {W : World} {base : Nat} {sp : Nat → Bool} {held : Bool} {r : Reach} {b0 : Nat} {v : Value} {d : DataW H} {p : List MemPlace}
    (hv : Value.okWide Tryd.prog W r b0 31 v) (h : DataW.Trod enc Tryd.prog W base sp held 31 v d p) : ∃ P : List Tm, PatIn W.heap.size W v P ∧ ∃ q l cap, v = .slice q l cap ∧ l ≤ cap ∧ cap ≤ maxLen := by
  obtain ⟨a, len, cap, rfl⟩ := okWide_slice Tryd.underlying31 hv
  obtain ⟨fuel, hf⟩ := h
  have hf' : DataW.trod enc Tryd.prog W base sp held fuel 31 [.slice a len cap] = some (d, p) := hf
  rcases open_slice Tryd.underlying31 hf' with ⟨e, -⟩ | ⟨a', len', cap', m, n, D, Pl, e, -, hle, hcap, hm, -, hi⟩
  · simp at e
    obtain ⟨rfl, rfl, rfl⟩ := e
    exact ⟨[], ⟨none, 0, rfl, Nat.zero_le _, fun x hx => (by cases hx), .inl rfl⟩, _, _, _, rfl, Nat.le_refl _, Nat.zero_le _⟩
  · simp at e
    obtain ⟨rfl, rfl, rfl⟩ := e
    have hlm : len ≤ m := by rw [hm]; split <;> omega
    have hx : ∀ i, i < len → ∃ x : Tm, (W.cell? ((a'.add (i * 5)).add 0) = some (.int .i64 x.k) ∧ W.cell? ((a'.add (i * 5)).add 1) = some (.string x.nm) ∧ W.cell? ((a'.add (i * 5)).add 2) = some (.int .i64 x.v.k) ∧ W.cell? ((a'.add (i * 5)).add 3) = some (.int .i64 x.v.n) ∧ W.cell? ((a'.add (i * 5)).add 4) = some (.string x.v.s)) ∧ x.nm.size ≤ maxLen := by
      intro i hil
      obtain ⟨cs', hc, ht⟩ := hi i (by omega)
      rw [cellsTm] at hc
      obtain ⟨x, rfl, hI⟩ := open_term ht
      obtain ⟨_, _, hat⟩ := World.cells?_some hc
      exact ⟨x, ⟨hat 0 (by omega), hat 1 (by omega), hat 2 (by omega), hat 3 (by omega), hat 4 (by omega)⟩, hI⟩
    obtain ⟨P, rfl, hP⟩ := list_of _ hx
    refine ⟨P, ⟨some a', cap, rfl, Nat.le_trans hle hcap, fun x hx => ?_, ?_⟩, _, _, _, rfl, hle, hcap⟩
    · obtain ⟨i, hi', rfl⟩ := List.getElem_of_mem hx
      exact (hP i hi').2
    · by_cases hz : P = []
      · exact .inl hz
      · have h0 : 0 < P.length := List.length_pos_iff.2 hz
        have hc0 := (hP 0 h0).1.1
        obtain ⟨b, off, spot⟩ := a'
        obtain rfl : spot = none := by
          have := World.cell?_spot hc0
          simpa [Addr.add] using this
        have hadd : ∀ i j, ((⟨b, off, none⟩ : Addr).add i).add j = ⟨b, off + i + j, none⟩ := fun i j => by
          unfold Addr.add
          split <;> split <;> simp_all
        refine .inr ⟨b, off, rfl, ?_, fun j hj => ?_⟩
        · have hb := World.block_lt_of_cell? W _ hc0
          rw [hadd] at hb
          exact hb
        · obtain ⟨⟨x0, x1, x2, x3, x4⟩, -⟩ := hP j hj
          rw [hadd] at x0 x1 x2 x3 x4
          exact ⟨x0, x1, x2, x3, x4⟩
theorem putsT_at {p : List Tm} {T : List V3} {i : Nat} (h : i < p.length) (h' : i < T.length) (h2 : i < (putsT p T).length) : (putsT p T)[i] = putT p[i] T[i] := by
  show (List.zipWith putT p T)[i]'_ = _
  exact List.getElem_zipWith ..
theorem OwnQ.pat {B : Nat} {w : World} {v : Value} {p : List Tm} (h : OwnQ B w v p) (hl : p.length ≤ 1000) (hz : ∀ x ∈ p, x.nm.size ≤ maxLen) : PatIn w.heap.size w v p := by
  rcases h.shape with ⟨rfl, q, cap, e⟩ | ⟨g, cap, e, hg, -, -, ha⟩
  · exact ⟨q, cap, e, by unfold maxLen; omega, hz, .inl rfl⟩
  · exact ⟨_, cap, e, by unfold maxLen; omega, hz, .inr ⟨g, 0, rfl, hg, ha⟩⟩
/-- What a match tells. -/
theorem mat_is {p : List Tm} {T : List V3} {L : List Bd} (h : matO p T = some L) : OkP p ∧ p.length = T.length ∧ ∀ i (h : i < p.length) (h' : i < T.length), (p[i].k = 1 → findB L p[i].nm = some T[i]) ∧ (p[i].k = 2 → p[i].v = T[i]) := by
  unfold matO at h
  split at h
  · rename_i hc
    exact ⟨hc.1, hc.2, (matchT_is p T [] L hc.2 h).2⟩
  · cases h
theorem put_fits {x : Tm} {t : V3} (hx : FitsT x) (ht : IsV t.k t.n t.s) : FitsT (putT x t) := by
  unfold putT
  split
  · exact .inl ⟨rfl, by rw [Lib.toList_data], ht⟩
  · exact hx
theorem puts_mem {p : List Tm} {T : List V3} (hl : p.length = T.length) {x : Tm} (hx : x ∈ putsT p T) : ∃ i, ∃ (h : i < p.length) (h' : i < T.length), x = putT p[i] T[i] := by
  obtain ⟨i, hi, rfl⟩ := List.getElem_of_mem hx
  have hi' : i < p.length := by rw [putsT_len hl] at hi; exact hi
  exact ⟨i, hi', by omega, putsT_at hi' (by omega) hi⟩
theorem puts_mat {p : List Tm} {T : List V3} {L : List Bd} (h : matO p T = some L) (hT : OkT T) : matO (putsT p T) T = some [] := by
  obtain ⟨h1, h2, h3⟩ := mat_is h
  have hl := putsT_len h2
  have hO : OkP (putsT p T) := ⟨by rw [hl]; exact h1.1, fun x hx => by
    obtain ⟨i, hi, hi', rfl⟩ := puts_mem h2 hx
    exact put_fits (h1.2 _ (List.getElem_mem hi)) (hT.2 _ (List.getElem_mem hi'))⟩
  unfold matO
  rw [if_pos ⟨hO, by omega⟩]
  exact putsT_match p T [] h2 (fun i h h' => (h3 i h h').2)
end Go.Proofs.YtaogfgohchpnoaaDoor

/-
  Select, by the code and by the document, at any row.
-/
import Derived.Test.YtaogfgohchpnoaaDoorTmC
import Derived.Test.YtaogfgohchpnoaaDoorTlF
namespace Go.Proofs.YtaogfgohchpnoaaDoor
open Go Go.RowKit Go.Shelf

theorem arg_inM {w : World} {v : Value} {T : List V3} (h : ArgT w v T) (hl : T.length ≤ 20) : TupIn w.heap.size w v T := by
  obtain ⟨pa, cap, rfl, -, -, hc, -⟩ := h
  exact ⟨pa, cap, rfl, by omega, hc⟩
theorem rowsM {n : Nat} {w : World} {v : Value} {P : List (Value × List V3)} (ho : w.ownsRow n 33 1 v P.length (P.map (·.1))) (hl : P.length ≤ 1000000) (ha : AllIn w.heap.size w P) : RowsIn w.heap.size w v P := by
  rcases ho.2 with ⟨rfl, h0⟩ | ⟨g, cap, cur, rfl, -⟩
  · obtain rfl := List.length_eq_zero_iff.1 h0
    exact ⟨none, 0, rfl, hl, .inl rfl, ha⟩
  · refine ⟨_, cap, rfl, hl, .inr ⟨g, 0, rfl, (ho.lt g rfl).2, fun j hj => ?_⟩, ha⟩
    rw [Nat.zero_add, ho.cellAt j (by omega), List.getElem?_map, List.getElem?_eq_getElem hj]
    rfl
/-- A row of tuples, whatever the world has grown to. -/
def StM (L : List (List V3)) (v : Value) (W : World) : Prop := ∃ Q, RowsIn W.heap.size W v Q ∧ Q.map (·.2) = L
theorem StM.on {L : List (List V3)} {v : Value} {W W' : World} (h : StM L v W) (hb : Below W.heap.size W W') : StM L v W' := by
  obtain ⟨Q, h1, h2⟩ := h
  exact ⟨Q, h1.step hb, h2⟩
theorem fewM {w : World} {v : Value} {L : List (Value × List V3)} (h : ArgR w v L) : Calls Tryd.prog 7 #[v] w fun e w' => ∃ (v' : Value) (Ts : List (List V3)), e = .returned v' ∧ StM Ts v' w' ∧ Ts.length ≤ 60 ∧ Below w.heap.size w w' := by
  refine (few_any w v L h).mono ?_
  rintro e w1 ⟨v1, P, rfl, hown, h60, hmem, hb1⟩
  obtain ⟨_, _, -, -, -, ha⟩ := h
  exact ⟨v1, P.map (·.2), rfl, ⟨P, rowsM hown (by omega) fun x hx => ((arg_inM (ha x (hmem x hx).1) (hmem x hx).2).below hb1).mono hb1.size, rfl⟩, by rw [List.length_map]; exact h60, hb1⟩
theorem samerelM {w : World} {v1 v2 : Value} {L : List (List V3)} (h1 : StM L v1 w) (h2 : StM L v2 w) : Calls Tryd.prog 9 #[v1, v2] w fun e w' => e = .returned (.bool true) ∧ Below w.heap.size w w' := by
  obtain ⟨P, hP, rfl⟩ := h1
  obtain ⟨P', hP', he⟩ := h2
  exact samerel_any v1 v2 P P' w hP hP' he.symm
/-- What Select leaves. -/
def SelEnd (w : World) (L : List (List V3)) (e : Ending) (w' : World) : Prop := ∃ v, e = .returned v ∧ StM L v w' ∧ Below w.heap.size w w'
set_option maxRecDepth 100000 in
set_option maxHeartbeats 1000000 in
theorem matching_call (v pv : Value) (n m : Nat) (a b : Option Addr) (c d : Nat) (hv : v = .slice a n c) (hp : pv = .slice b m d) (w : World) :
    Calls Tryd.prog 46 #[v, pv] w fun e w' => e = .returned (.func (.func 59) #[] #[.pointer (some ⟨w.heap.size, 0, none⟩), .pointer (some ⟨w.heap.size + 1, 0, none⟩)]) ∧
      (w.alloc (.cells #[v] 22)).alloc (.cells #[pv] 31) = w' := by
  subst hv hp
  go_enter Tryd.func46, Tryd.ntmps46
  go_wp2_with fail
  go_ret
  exact ⟨rfl, rfl⟩
set_option maxRecDepth 100000 in
set_option maxHeartbeats 2000000 in
theorem tselect_any (v pv : Value) (L : List (List V3)) (p : List Tm) (w : World) (h : StM L v w) (hp : PatIn w.heap.size w pv p) :
    Calls Tryd.prog 25 #[v, pv] w (SelEnd w (selL p L)) := by
  have HS := Lib.hid h
  have HP := Lib.hid hp
  have HC := Lib.hid (checkPat_any pv p w.heap.size w hp (Nat.le_refl _))
  clear h hp
  go_enter Tryd.func25, Tryd.ntmps25
  go_wp2_with fail
  refine HC.out.mono ?_
  rintro e w1 ⟨⟨hk, rfl⟩ | ⟨hk, rfl⟩, hb⟩
  · have HK := Lib.hid hk
    have HB := Lib.hid hb
    have HS1 := Lib.hid (HS.out.on hb)
    have HP1 := Lib.hid ((HP.out.below hb).mono hb.size)
    clear hk hb HS HP HC
    go_wp2_with fail
    obtain ⟨Q, hQ, hm⟩ := id HS1.out
    obtain ⟨a, c, e1, -⟩ := hQ.form
    obtain ⟨b, d, e2, -⟩ := id HP1.out
    refine (matching_call v pv _ _ a b c d e1 e2 w1).mono ?_
    rintro e w2 ⟨rfl, hw2⟩
    have hbb : Below w1.heap.size w1 w2 := by rw [← hw2]; exact (below_new _ _).alloc (by simp) _
    have hx1 : w2.heap[w1.heap.size]? = some (.cells #[v] 22 (0, 0)) := by rw [← hw2]; exact (Below.heap_alloc _ _ _ (by simp)).trans (heap_alloc_new w1 _)
    have hx2 : w2.heap[w1.heap.size + 1]? = some (.cells #[pv] 31 (0, 0)) := by
      rw [← hw2]
      have := heap_alloc_new (w1.alloc (.cells #[v] 22)) (.cells #[pv] 31)
      rwa [World.size_alloc] at this
    have HCp := Lib.hid (copies_any _ _ _ _ (fun _ _ => by kernel_rfl) (matching_in w2 w1.heap.size (w1.heap.size + 1) v pv Q p (hQ.step hbb) ((HP1.out.below hbb).mono hbb.size) HK.out (by rw [cell_of_row _ _ 0 _ _ (0, 0) hx1]; rfl) (by rw [cell_of_row _ _ 0 _ _ (0, 0) hx2]; rfl)))
    have HB2 := Lib.hid (HB.out.trans (hbb.mono HB.out.size))
    have HM := Lib.hid (And.intro hm (show Q.length ≤ 1000000 by obtain ⟨_, _, -, h, -⟩ := hQ; exact h))
    clear hw2 hbb hx1 hx2 hm hQ e1 e2
    go_wp2_with fail
    refine HCp.out.mono ?_
    rintro e w3 ⟨v3, R, rfl, h1, h2, h3, hb3⟩
    have hl : R.length ≤ 1000000 := by
      have e1 := congrArg List.length h2
      have e2 := selL_len p (Q.map (·.2))
      have e3 := HM.out.2
      simp only [List.length_map] at e1 e2
      omega
    have HE := Lib.hid (show StM (selL p L) v3 w3 from ⟨R, rowsM h1 hl fun y hy => (h3 y hy).1.in_ (h3 y hy).2, by rw [h2, HM.out.1]⟩)
    have HB3 := Lib.hid (HB2.out.trans (hb3.mono HB2.out.size))
    clear h1 h2 h3 hb3 hl
    go_wp2_with fail
    go_ret
    exact ⟨_, rfl, HE.out, HB3.out⟩
  · have HK := Lib.hid hk
    have HB := Lib.hid hb
    clear hk hb
    go_wp2_with fail
    go_ret
    exact ⟨_, rfl, ⟨[], ⟨none, 0, rfl, by simp, .inl rfl, fun x hx => by cases hx⟩, by rw [selL_bad HK.out]; rfl⟩, HB.out⟩
theorem sel_take {P : List (Value × List V3)} {p : List Tm} {k : Nat} (hk : k < P.length) : (P.take (k + 1)).filter (fun x => (matO p x.2).isSome) = (P.take k).filter (fun x => (matO p x.2).isSome) ++ (if (matO p P[k].2).isSome then [P[k]] else []) := by
  rw [List.take_succ_eq_append_getElem hk, List.filter_append]
  by_cases h : (matO p P[k].2).isSome = true <;> simp [h]
set_option maxRecDepth 100000 in
set_option maxHeartbeats 2000000 in
theorem rselect_any (v pv : Value) (L : List (List V3)) (p : List Tm) (w : World) (h : StM L v w) (hp : PatIn w.heap.size w pv p) (hl : L.length ≤ 1000) :
    Calls Tryd.prog 26 #[v, pv] w (SelEnd w (selL p L)) := by
  obtain ⟨P, h, rfl⟩ := h
  have HR := Lib.hid h
  have HP := Lib.hid hp
  have HX := Lib.hid (show ∀ x ∈ P, TupIn w.heap.size w x.1 x.2 by obtain ⟨_, _, -, -, -, ha⟩ := h; exact ha)
  rw [List.length_map] at hl
  obtain ⟨a, cap, rfl, -⟩ := h.form
  obtain ⟨qp, cp, rfl, -, -, -⟩ := id hp
  clear h hp
  go_enter Tryd.func26, Tryd.ntmps26
  go_wp2_with fail
  go_loopw [5, 6] (fun o i wr => ∃ (k : Nat) (Q : List (Value × List V3)), k ≤ P.length ∧ i = .int .i64 k ∧ (∃ q c, o = .slice q Q.length c) ∧ Q.length ≤ 1000 ∧ Hid (wr.ownsRow w.heap.size 33 1 o Q.length (Q.map (·.1))) ∧ Hid (Q = (P.take k).filter fun x => (matO p x.2).isSome) ∧ Hid (Below w.heap.size w wr)) (fun _ i _ => P.length - (intOf i).toNat)
  case atStart => exact ⟨0, [], Nat.zero_le _, rfl, ⟨_, _, rfl⟩, by simp, Lib.hid (World.ownsRow_nil _ _ _ _), Lib.hid rfl, Lib.hid (Below.refl _ _)⟩
  case round =>
    obtain ⟨k, Q, hk, rfl, ⟨q, c, rfl⟩, hQl, hown, hq, hB⟩ := hrel
    have h0 : (0 : Int) ≤ (k : Int) := by omega
    by_cases hlt : k < P.length
    · have hlt' : (k : Int) < (P.length : Int) := by omega
      obtain ⟨b, off, rfl, hx0, hin⟩ := HR.out.elem hB.out hlt
      have HF := Lib.hid (sel_take (p := p) hlt)
      have HMt := Lib.hid (rmatch_any _ _ p _ w.heap.size wr (HP.out.below hB.out) hin hB.out.size)
      obtain ⟨qa, ca, hv, -⟩ := HX.out _ (List.getElem_mem hlt)
      have HQ2 := Lib.hid (show ((P.take (k + 1)).filter fun x => (matO p x.2).isSome).length ≤ 1000 by
        have h1 := List.length_filter_le (fun x : Value × List V3 => (matO p x.2).isSome) (P.take (k + 1))
        have h3 : (P.take (k + 1)).length ≤ P.length := by rw [List.length_take]; omega
        omega)
      have HPk : P[k] = (Value.slice qa P[k].2.length ca, P[k].2) := Prod.ext hv rfl
      obtain ⟨T, hT⟩ : ∃ T, T = P[k].2 := ⟨_, rfl⟩
      have HE1 := Lib.hid (show P[k].1 = Value.slice qa T.length ca by rw [hT]; exact hv)
      rw [hv, ← hT] at hx0 HMt
      rw [← hT] at HPk HF
      rw [HPk] at HF
      have hsz := hB.out.size
      clear hv hT hin HPk
      go_wp2_with fail
      refine HMt.out.mono ?_
      rintro e w1 ⟨hb1, ⟨Lb, vb, ho, rfl, -⟩ | ⟨ho, rfl⟩⟩
      · have HB1 := Lib.hid (hB.out.trans (hb1.mono hsz))
        have HO1 := Lib.hid (own_below hown.out hb1)
        rw [ho, Option.isSome_some, if_pos rfl, ← hq.out] at HF
        obtain ⟨b', off', e', hx1, -⟩ := HR.out.elem HB1.out hlt
        rw [HE1.out] at hx1
        injection e' with e'
        injection e' with e1 e2
        subst e1 e2
        have HO : Hid ((w1.alloc (.cells #[.slice qa T.length ca] 33)).ownsRow w.heap.size 33 1 (.slice q Q.length c) (Q.map (·.1)).length (Q.map (·.1))) := Lib.hid (by rw [List.length_map]; exact World.ownsRow.alloc HO1.out _)
        have hz1 := HB1.out.size
        clear hb1 ho hx0
        go_wp2_with (at_builtin; refine wpList_appOne rfl (.tmp 25) (.tmp 30) rfl w.heap.size (.slice q Q.length c) _ (.slice qa T.length ca) rfl HO.out ⟨w1.heap.size, 0, none⟩ 1 rfl (cell_one_new _ _ _) rfl (by rw [List.length_map]; omega) (by rw [World.size_alloc]; omega) ?_; intro v5 w5 r1 r2)
        go_roundw
        case rel =>
          obtain ⟨g, c5, rfl⟩ := own_form r1 (by simp)
          refine ⟨k + 1, Q ++ [(Value.slice qa T.length ca, T)], by omega, by go_num, ⟨some ⟨g, 0, none⟩, c5, by simp⟩, by rw [← HF.out]; exact HQ2.out, Lib.hid (by simpa using r1), Lib.hid HF.out.symm, Lib.hid ((HB1.out.alloc HB1.out.size _).grown r2 (by rw [World.size_alloc]; omega) (fun k hk => (HO1.out.lt k hk).1))⟩
        case measure => simp [intOf]; omega
      · have HB1 := Lib.hid (hB.out.trans (hb1.mono hsz))
        have HO1 := Lib.hid (own_below hown.out hb1)
        rw [ho, Option.isSome_none, if_neg (by decide), List.append_nil, ← hq.out] at HF
        clear hb1 ho
        go_wp2_with fail
        go_roundw
        case rel => exact ⟨k + 1, Q, by omega, by go_num, ⟨_, _, rfl⟩, hQl, HO1, Lib.hid HF.out.symm, HB1⟩
        case measure => simp [intOf]; omega
    · have hge : (P.length : Int) ≤ (k : Int) := by omega
      obtain rfl : k = P.length := by omega
      have hq' := hq.out
      rw [List.take_length] at hq'
      have HQ := Lib.hid hq'
      go_wp2_with fail
      go_ret
      refine ⟨_, rfl, ⟨Q, rowsM hown.out (by omega) fun x hx => ?_, ?_⟩, hB.out⟩
      · rw [HQ.out] at hx
        exact ((HX.out x (List.mem_filter.1 hx).1).below hB.out).mono hB.out.size
      · rw [HQ.out]
        unfold selL
        rw [List.filter_map]
        rfl
end Go.Proofs.YtaogfgohchpnoaaDoor

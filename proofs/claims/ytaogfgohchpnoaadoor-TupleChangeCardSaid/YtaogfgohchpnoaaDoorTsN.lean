/-
  width: those tuples of a row that have so many values.
-/
import Derived.Test.YtaogfgohchpnoaaDoorTsL
import Derived.Test.YtaogfgohchpnoaaDoorTsQ
namespace Go.Proofs.YtaogfgohchpnoaaDoor
open Go Go.RowKit

/-- What width leaves. -/
def WidEnd (w : World) (P : List (Value × List V3)) (n : Nat) (e : Ending) (w' : World) : Prop :=
  ∃ v, e = .returned v ∧ w'.ownsRow w.heap.size 33 1 v (P.filter fun x => x.2.length == n).length ((P.filter fun x => x.2.length == n).map (·.1)) ∧ Below w.heap.size w w'
theorem filt_take {P : List (Value × List V3)} {n k : Nat} (hk : k < P.length) : (P.take (k + 1)).filter (fun x => x.2.length == n) = (P.take k).filter (fun x => x.2.length == n) ++ (if P[k].2.length = n then [P[k]] else []) := by
  rw [List.take_succ_eq_append_getElem hk, List.filter_append]
  by_cases h : P[k].2.length = n <;> simp [h]
set_option maxHeartbeats 1000000 in
set_option maxRecDepth 100000 in
theorem width_any (w : World) (v : Value) (P : List (Value × List V3)) (n : Nat) (h : RowsIn w.heap.size w v P) (hl : P.length ≤ 1000) :
    Calls Tryd.prog 28 #[v, .int .i64 n] w (WidEnd w P n) := by
  have HR := Lib.hid h
  have HX := Lib.hid (show ∀ x ∈ P, TupIn w.heap.size w x.1 x.2 by obtain ⟨_, _, -, -, -, ha⟩ := h; exact ha)
  obtain ⟨a, cap, rfl, -⟩ := h.form
  clear h
  go_enter Tryd.func28, Tryd.ntmps28
  go_wp2_with fail
  go_loopw [5, 6] (fun o i wr => ∃ (k : Nat) (Q : List (Value × List V3)), k ≤ P.length ∧ i = .int .i64 k ∧ (∃ q c, o = .slice q Q.length c) ∧ Q.length ≤ 1000 ∧ Hid (wr.ownsRow w.heap.size 33 1 o Q.length (Q.map (·.1))) ∧ Hid (Q = (P.take k).filter fun x => x.2.length == n) ∧ Hid (Below w.heap.size w wr)) (fun _ i _ => P.length - (intOf i).toNat)
  case atStart => exact ⟨0, [], Nat.zero_le _, rfl, ⟨_, _, rfl⟩, by simp, Lib.hid (World.ownsRow_nil _ _ _ _), Lib.hid rfl, Lib.hid (Below.refl _ _)⟩
  case round =>
    obtain ⟨k, Q, hk, rfl, ⟨q, c, rfl⟩, hQl, hown, hq, hB⟩ := hrel
    have h0 : (0 : Int) ≤ (k : Int) := by omega
    by_cases hlt : k < P.length
    · have hlt' : (k : Int) < (P.length : Int) := by omega
      obtain ⟨b, off, rfl, hx0, hin⟩ := HR.out.elem hB.out hlt
      have HF := Lib.hid (filt_take (n := n) hlt)
      obtain ⟨qa, ca, hv, -⟩ := HX.out _ (List.getElem_mem hlt)
      have HQ2 := Lib.hid (show ((P.take (k + 1)).filter fun x => x.2.length == n).length ≤ 1000 by
        have h1 := List.length_filter_le (fun x : Value × List V3 => x.2.length == n) (P.take (k + 1))
        have h3 : (P.take (k + 1)).length ≤ P.length := by rw [List.length_take]; omega
        omega)
      have HPk : P[k] = (Value.slice qa P[k].2.length ca, P[k].2) := Prod.ext hv rfl
      obtain ⟨T, hT⟩ : ∃ T, T = P[k].2 := ⟨_, rfl⟩
      rw [hv, ← hT] at hx0
      rw [← hT] at HPk HF
      rw [HPk] at HF
      have hsz := hB.out.size
      clear hv hT hin HPk
      by_cases hn' : T.length = n
      · have hn2 : (T.length : Int) = (n : Int) := by omega
        rw [if_pos hn', ← hq.out] at HF
        have HO : Hid ((wr.alloc (.cells #[.slice qa T.length ca] 33)).ownsRow w.heap.size 33 1 (.slice q Q.length c) (Q.map (·.1)).length (Q.map (·.1))) := Lib.hid (by rw [List.length_map]; exact World.ownsRow.alloc hown.out _)
        clear hn'
        go_wp2_with (at_builtin; refine wpList_appOne rfl (.tmp 20) (.tmp 25) rfl w.heap.size (.slice q Q.length c) _ (.slice qa T.length ca) rfl HO.out ⟨wr.heap.size, 0, none⟩ 1 rfl (cell_one_new _ _ _) rfl (by rw [List.length_map]; omega) (by rw [World.size_alloc]; omega) ?_; intro v5 w5 r1 r2)
        go_roundw
        case rel =>
          obtain ⟨g, c5, rfl⟩ := own_form r1 (by simp)
          refine ⟨k + 1, Q ++ [(Value.slice qa T.length ca, T)], by omega, by go_num, ⟨some ⟨g, 0, none⟩, c5, by simp⟩, by rw [← HF.out]; exact HQ2.out, Lib.hid (by simpa using r1), Lib.hid HF.out.symm, Lib.hid ((hB.out.alloc hB.out.size _).grown r2 (by rw [World.size_alloc]; omega) (fun k hk => (hown.out.lt k hk).1))⟩
        case measure => simp [intOf]; omega
      · have hn2 : ¬ (T.length : Int) = (n : Int) := by omega
        rw [if_neg hn', List.append_nil, ← hq.out] at HF
        clear hn'
        go_wp2_with fail
        go_roundw
        case rel => exact ⟨k + 1, Q, by omega, by go_num, ⟨_, _, rfl⟩, hQl, hown, Lib.hid HF.out.symm, hB⟩
        case measure => simp [intOf]; omega
    · have hlt' : (P.length : Int) ≤ (k : Int) := by omega
      obtain rfl : k = P.length := by omega
      have hq' := hq.out
      rw [List.take_length] at hq'
      subst hq'
      go_wp2_with fail
      go_ret
      exact ⟨_, rfl, hown.out, hB.out⟩
/-- A row of so many values each. -/
def WidS (n : Nat) (L : List (List V3)) : Prop := ∀ T ∈ L, T.length = n
theorem width_st {L : List (List V3)} {v : Value} {w : World} {n : Nat} (h : St4 L v w) (hl : L.length ≤ 60) :
    Calls Tryd.prog 28 #[v, .int .i64 n] w fun e w' => ∃ (v' : Value) (L' : List (List V3)), e = .returned v' ∧ St4 L' v' w' ∧ L'.length ≤ 60 ∧ WidS n L' ∧ Below w.heap.size w w' := by
  obtain ⟨P, hP, rfl⟩ := h
  rw [List.length_map] at hl
  refine (width_any w v P n hP (by omega)).mono ?_
  rintro e w' ⟨v', rfl, ho, hb⟩
  have h1 := List.length_filter_le (fun x : Value × List V3 => x.2.length == n) P
  refine ⟨v', _, rfl, ⟨_, (rows_own ho (by omega) fun x hx => ((hP.all x (List.mem_filter.1 hx).1).below hb).mono hb.size).1, rfl⟩, by rw [List.length_map]; omega, ?_, hb⟩
  intro T hT
  obtain ⟨x, hx, rfl⟩ := List.mem_map.1 hT
  have := (List.mem_filter.1 hx).2
  simpa using this
theorem sorted_st {L : List (List V3)} {v : Value} {w : World} (h : St4 L v w) : Calls Tryd.prog 27 #[v] w (Ends (St4 (srtL L)) w) := by
  obtain ⟨P, hP, rfl⟩ := h
  refine (sorted_rows w v P hP).mono ?_
  rintro e w' ⟨P', hp, hs, hc⟩
  rw [dedup_srt hp hs] at hc
  obtain ⟨v', Q, rfl, h1, h2, h3, hb⟩ := hc
  have hq : Q.length ≤ 1000000 := by
    have e1 := congrArg List.length h2
    rw [List.length_map] at e1
    have e2 := srt_len (P.map (·.2))
    obtain ⟨_, _, -, hl, -⟩ := hP
    rw [List.length_map] at e2
    omega
  exact ⟨v', rfl, ⟨Q, (rows_own h1 hq fun y hy => (h3 y hy).1.in_ (h3 y hy).2).1, h2⟩, hb⟩
/-- Tuples that make a relation. -/
def RelL (L : List (List V3)) : Prop := (∀ T ∈ L, OkT T) ∧ ∀ i (h : i + 1 < L.length), L[i].length = L[i + 1].length ∧ cmpT L[i] L[i + 1] < 0
theorem cke_rel {P : List (Value × List V3)} {z : Int} (h : CkE P z) : z = 0 ↔ RelL (P.map (·.2)) := by
  have ok : OkRow P ↔ ∀ T ∈ P.map (·.2), OkT T := by
    constructor
    · intro h T hT
      obtain ⟨x, hx, rfl⟩ := List.mem_map.1 hT
      exact h x hx
    · intro h x hx
      exact h _ (List.mem_map.2 ⟨x, hx, rfl⟩)
  have adj : ∀ L : List (List V3), L = P.map (·.2) → (AdjT P P.length ↔ ∀ i (h : i + 1 < L.length), L[i].length = L[i + 1].length ∧ cmpT L[i] L[i + 1] < 0) := by
    rintro L rfl
    constructor
    · intro h i hi
      rw [List.length_map] at hi
      simpa using h i hi hi
    · intro h i hi _
      have h' := h i (by rw [List.length_map]; exact hi)
      simp only [List.getElem_map] at h'
      exact h'
  rcases h with ⟨a, b, rfl⟩ | ⟨a, b, rfl⟩ | ⟨a, rfl⟩
  · exact ⟨fun _ => ⟨ok.1 a, (adj _ rfl).1 b⟩, fun _ => rfl⟩
  · exact ⟨fun e => (by cases e), fun h => absurd ((adj _ rfl).2 h.2) b⟩
  · exact ⟨fun e => (by cases e), fun h => absurd (ok.2 h.1) a⟩
theorem rchk_st {L : List (List V3)} {v : Value} {w : World} (h : St4 L v w) (hl : L.length ≤ 900) : Calls Tryd.prog 29 #[v] w fun e w' => ∃ z : Int, e = .returned (.int .i64 z) ∧ (z = 0 ↔ RelL L) ∧ Below w.heap.size w w' := by
  obtain ⟨P, hP, rfl⟩ := h
  refine (rcheckrel_any v P w hP (by simpa using hl)).mono ?_
  rintro e w' ⟨z, rfl, hz, hb⟩
  exact ⟨z, rfl, cke_rel hz, hb⟩
theorem tchk_st {L : List (List V3)} {v : Value} {w : World} (h : St4 L v w) (hl : L.length ≤ 900) (hr : RelL L) : Calls Tryd.prog 30 #[v] w fun e w' => e = .returned (.int .i64 0) ∧ Below w.heap.size w w' := by
  obtain ⟨P, hP, rfl⟩ := h
  refine (tcheckrel_any v P w hP (by simpa using hl)).mono ?_
  rintro e w' ⟨z, rfl, hz, hb⟩
  obtain rfl := (cke_rel hz).2 hr
  exact ⟨rfl, hb⟩
theorem rel_of {n : Nat} {L X Y : List (List V3)} (hr : Ris L) (hs : ∀ T ∈ L, T ∈ X ∨ T ∈ Y) (hx : RelL X) (hy : RelL Y) (wx : WidS n X) (wy : WidS n Y) : RelL L := by
  have hw : ∀ T ∈ L, T.length = n := fun T hT => (hs T hT).elim (wx T) (wy T)
  refine ⟨fun T hT => (hs T hT).elim (hx.1 T) (hy.1 T), fun i hi => ⟨(hw _ (List.getElem_mem _)).trans (hw _ (List.getElem_mem _)).symm, ?_⟩⟩
  exact List.pairwise_iff_getElem.1 hr i (i + 1) (by omega) hi (by omega)
theorem wid_srt {n : Nat} {L : List (List V3)} (h : WidS n L) : WidS n (srtL L) := fun T hT => h T ((srt_mem L T).1 hT)
theorem St4.form {L : List (List V3)} {v : Value} {W : World} (h : St4 L v W) : ∃ a c, v = .slice a L.length c := by
  obtain ⟨P, hP, rfl⟩ := h
  obtain ⟨a, c, rfl, -⟩ := hP.form
  exact ⟨a, c, by rw [List.length_map]⟩
end Go.Proofs.YtaogfgohchpnoaaDoor

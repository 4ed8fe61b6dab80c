/-
  width: those tuples of a row that have so many values.
-/
import Derived.Test.YthnpiafpkllbpaaDoorTrL
import Derived.Test.YthnpiafpkllbpaaDoorWin
import Derived.Test.YthnpiafpkllbpaaDoorTnP
namespace Go.Proofs.YthnpiafpkllbpaaDoor
open Go Go.RowKit

/-- What width leaves. -/
def WidEnd (w : World) (P : List (Value × List V3)) (n : Nat) (e : Ending) (w' : World) : Prop :=
  ∃ v, e = .returned v ∧ w'.ownsRow w.heap.size 24 1 v (P.filter fun x => x.2.length == n).length ((P.filter fun x => x.2.length == n).map (·.1)) ∧ Below w.heap.size w w'
theorem filt_take {P : List (Value × List V3)} {n k : Nat} (hk : k < P.length) : (P.take (k + 1)).filter (fun x => x.2.length == n) = (P.take k).filter (fun x => x.2.length == n) ++ (if P[k].2.length = n then [P[k]] else []) := by
  rw [List.take_succ_eq_append_getElem hk, List.filter_append]
  by_cases h : P[k].2.length = n <;> simp [h]
set_option maxHeartbeats 1000000 in
set_option maxRecDepth 100000 in
theorem width_any (w : World) (v : Value) (P : List (Value × List V3)) (n : Nat) (h : RowsIn w.heap.size w v P) (hl : P.length ≤ 1000) :
    Calls Tryd.prog 35 #[v, .int .i64 n] w (WidEnd w P n) := by
  have HR := Lib.hid h
  have HX := Lib.hid (show ∀ x ∈ P, TupIn w.heap.size w x.1 x.2 by obtain ⟨_, _, -, -, -, ha⟩ := h; exact ha)
  obtain ⟨a, cap, rfl, -⟩ := h.form
  clear h
  go_enter Tryd.func35, Tryd.ntmps35
  go_wp2_with fail
  go_loopw [5, 6] (fun o i wr => ∃ (k : Nat) (Q : List (Value × List V3)), k ≤ P.length ∧ i = .int .i64 k ∧ (∃ q c, o = .slice q Q.length c) ∧ Q.length ≤ 1000 ∧ Hid (wr.ownsRow w.heap.size 24 1 o Q.length (Q.map (·.1))) ∧ Hid (Q = (P.take k).filter fun x => x.2.length == n) ∧ Hid (Below w.heap.size w wr)) (fun _ i _ => P.length - (intOf i).toNat)
  case atStart => exact ⟨0, [], Nat.zero_le _, rfl, ⟨_, _, rfl⟩, by simp, Lib.hid (World.ownsRow_nil _ _ _ _), Lib.hid rfl, Lib.hid (Below.refl _ _)⟩
  case round =>
    obtain ⟨k, Q, hk, rfl, ⟨q, c, rfl⟩, hQl, hown, hq, hB⟩ := hrel
    have h0 : (0 : Int) ≤ (k : Int) := by omega
    by_cases hlt : k < P.length
    · have hlt' : (k : Int) < (P.length : Int) := by omega
      obtain ⟨b, off, rfl, hx0, hin⟩ := HR.out.elem hB.out hlt
      have HF := Lib.hid (filt_take (n := n) hlt)
      obtain ⟨qa, ca, hv, -⟩ := HX.out _ (List.getElem_mem hlt)
      have HQ2 := Lib.hid (show ((P.take (k + 1)).filter fun x => x.2.length == n).length ≤ 1000 by
        have h1 := List.length_filter_le (fun x : Value × List V3 => x.2.length == n) (P.take (k + 1))
        have h3 : (P.take (k + 1)).length ≤ P.length := by rw [List.length_take]; omega
        omega)
      have HPk : P[k] = (Value.slice qa P[k].2.length ca, P[k].2) := Prod.ext hv rfl
      obtain ⟨T, hT⟩ : ∃ T, T = P[k].2 := ⟨_, rfl⟩
      rw [hv, ← hT] at hx0
      rw [← hT] at HPk HF
      rw [HPk] at HF
      have hsz := hB.out.size
      clear hv hT hin HPk
      by_cases hn' : T.length = n
      · have hn2 : (T.length : Int) = (n : Int) := by omega
        rw [if_pos hn', ← hq.out] at HF
        have HO : Hid ((wr.alloc (.cells #[.slice qa T.length ca] 24)).ownsRow w.heap.size 24 1 (.slice q Q.length c) (Q.map (·.1)).length (Q.map (·.1))) := Lib.hid (by rw [List.length_map]; exact World.ownsRow.alloc hown.out _)
        clear hn'
        go_wp2_with (at_builtin; refine wpList_appOne rfl (.tmp 20) (.tmp 25) rfl w.heap.size (.slice q Q.length c) _ (.slice qa T.length ca) rfl HO.out ⟨wr.heap.size, 0, none⟩ 1 rfl (cell_one_new _ _ _) rfl (by rw [List.length_map]; omega) (by rw [World.size_alloc]; omega) ?_; intro v5 w5 r1 r2)
        go_roundw
        case rel =>
          obtain ⟨g, c5, rfl⟩ := own_form r1 (by simp)
          refine ⟨k + 1, Q ++ [(Value.slice qa T.length ca, T)], by omega, by go_num, ⟨some ⟨g, 0, none⟩, c5, by simp⟩, by rw [← HF.out]; exact HQ2.out, Lib.hid (by simpa using r1), Lib.hid HF.out.symm, Lib.hid ((hB.out.alloc hB.out.size _).grown r2 (by rw [World.size_alloc]; omega) (fun k hk => (hown.out.lt k hk).1))⟩
        case measure => simp [intOf]; omega
      · have hn2 : ¬ (T.length : Int) = (n : Int) := by omega
        rw [if_neg hn', List.append_nil, ← hq.out] at HF
        clear hn'
        go_wp2_with fail
        go_roundw
        case rel => exact ⟨k + 1, Q, by omega, by go_num, ⟨_, _, rfl⟩, hQl, hown, Lib.hid HF.out.symm, hB⟩
        case measure => simp [intOf]; omega
    · have hlt' : (P.length : Int) ≤ (k : Int) := by omega
      obtain rfl : k = P.length := by omega
      have hq' := hq.out
      rw [List.take_length] at hq'
      subst hq'
      go_wp2_with fail
      go_ret
      exact ⟨_, rfl, hown.out, hB.out⟩
end Go.Proofs.YthnpiafpkllbpaaDoor

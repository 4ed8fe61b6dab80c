/-
  Contracts of tuple.Check, and of the document's own Compare at two values.
-/
import Derived.Test.YtdfepeeicbpicaaGreatDoorTupB
import Derived.Test.YtdfepeeicbpicaaGreatDoorVal
import Derived.Shelf.SlSortCmp.QuietGrown
import Derived.BigQuiet
import Derived.IntWalk
namespace Go.Proofs.YtdfepeeicbpicaaGreatDoor
open Go Go.RowKit

/-- The values of a row may be. -/
def AllV (T : List V3) : Prop := ∀ x ∈ T, IsV x.k x.n x.s
/-- A tuple may be. -/
def OkT (T : List V3) : Prop := T.length ≤ 8 ∧ AllV T
theorem TupIn.some {n₀ : Nat} {w : World} {v : Value} {T : List V3} (h : TupIn n₀ w v T) {k : Nat} (hk : k < T.length) : ∃ b off cap, v = .slice (some ⟨b, off, none⟩) T.length cap ∧ b < n₀ ∧ CellsAt w b off T := by
  obtain ⟨p, cap, rfl, -, h | ⟨b, off, rfl, hb, hc⟩⟩ := h
  · subst h
    simp at hk
  · exact ⟨b, off, cap, rfl, hb, hc⟩
theorem allV_take {T : List V3} {k : Nat} (h : AllV (T.take k)) (hk : k < T.length) (g : IsV T[k].k T[k].n T[k].s) : AllV (T.take (k + 1)) := by
  intro x hx
  rw [List.take_succ_eq_append_getElem hk] at hx
  rcases List.mem_append.1 hx with hx | hx
  · exact h x hx
  · obtain rfl := List.mem_singleton.1 hx
    exact g

set_option maxHeartbeats 1000000 in
set_option maxRecDepth 100000 in
theorem tcheck_any (v : Value) (T : List V3) (n₀ : Nat) (w : World) (h : TupIn n₀ w v T) (hn : n₀ ≤ w.heap.size) :
    Calls Tryz.prog 13 #[v] w fun e w' => ((OkT T ∧ e = .returned (.int .i64 0)) ∨ (¬ OkT T ∧ e = .returned (.int .i64 20))) ∧ Below w.heap.size w w' := by
  have HT := Lib.hid h
  obtain ⟨p, cap, rfl, l1, q1⟩ := h
  by_cases h8 : T.length ≤ 8
  case neg =>
    have h8' : (8 : Int) < (T.length : Int) := by omega
    have HN : Hid (¬ OkT T) := Lib.hid fun h => h8 h.1
    clear q1 h8
    go_enter Tryz.func13, Tryz.ntmps13
    go_wp2_with fail
    go_ret
    exact ⟨.inr ⟨HN.out, rfl⟩, Below.refl _ _⟩
  have h8' : (T.length : Int) ≤ 8 := by omega
  clear q1
  go_enter Tryz.func13, Tryz.ntmps13
  go_wp2_with fail
  go_loopw [10] (fun i wr => ∃ k : Nat, k ≤ T.length ∧ i = .int .i64 k ∧ Hid (AllV (T.take k)) ∧ Hid (Below w.heap.size w wr)) (fun i _ => T.length - (intOf i).toNat)
  case atStart => exact ⟨0, Nat.zero_le _, rfl, Lib.hid (fun x hx => by cases hx), Lib.hid (Below.refl _ _)⟩
  case round =>
    obtain ⟨k, hk, rfl, hall, hB⟩ := hrel
    have h0 : (0 : Int) ≤ (k : Int) := by omega
    by_cases hlt : k < T.length
    · have hlt' : (k : Int) < (T.length : Int) := by omega
      obtain ⟨b, off, cap', hv, hb, hc⟩ := HT.out.some hlt
      injection hv with hp _ hcap
      subst hp hcap
      have hbw : b < w.heap.size := by omega
      have hbs := hB.out.size
      have hb' : b < wr.heap.size := by omega
      obtain ⟨x0, x1, x2⟩ := (hc.below hB.out hbw) k hlt
      clear hc
      by_cases hx : IsV T[k].k T[k].n T[k].s
      · have HA := Lib.hid (allV_take hall.out hlt hx)
        have HX := Lib.hid hx
        clear hx
        go_wp2_with fail
        refine (check_yes _ _ _ _ HX.out).mono ?_
        rintro e w1 ⟨rfl, hb1⟩
        go_wp2_with fail
        go_roundw
        case rel => exact ⟨k + 1, by omega, by go_num, HA, Lib.hid (hB.out.trans (((below_box _ _).trans (hb1.mono (by simp))).mono hbs))⟩
        case measure => simp [intOf]; omega
      · have HN : Hid (¬ OkT T) := Lib.hid fun h => hx (h.2 _ (List.getElem_mem hlt))
        have HX := Lib.hid hx
        clear hx
        go_wp2_with fail
        refine (check_no _ _ _ _ HX.out).mono ?_
        rintro e w1 ⟨rfl, hb1⟩
        go_wp2_with fail
        go_ret
        exact ⟨.inr ⟨HN.out, rfl⟩, hB.out.trans (((below_box _ _).trans (hb1.mono (by simp))).mono hbs)⟩
    · have hlt' : (T.length : Int) ≤ (k : Int) := by omega
      obtain rfl : k = T.length := by omega
      have HO : Hid (OkT T) := Lib.hid ⟨h8, by have := hall.out; rwa [List.take_length] at this⟩
      go_wp2_with fail
      go_ret
      exact ⟨.inl ⟨HO.out, rfl⟩, hB.out⟩

set_option maxHeartbeats 400000 in
theorem ref_compare_grown (k n : Int) (s : ByteArray) (k' n' : Int) (s' : ByteArray) (w : World) :
    Calls Tryz.prog 41 #[.agg #[.int .i64 k, .int .i64 n, .string s], .agg #[.int .i64 k', .int .i64 n', .string s']] w fun e w' => e = .returned (.int .i64 (cmpV k n s k' n' s')) ∧ Grown w w' := by
  go_enter Tryz.func41, Tryz.ntmps41
  go_wp2
  all_goals
    go_ret
    refine ⟨ret_int ?_, ((Grown.refl _).alloc _).alloc _⟩
    first
    | exact way1 (by first | assumption | rfl) (by first | assumption | rfl) (by assumption)
    | exact way2 (by first | assumption | rfl) (by first | assumption | rfl) (by assumption)
    | exact way3 (by first | assumption | rfl) (by first | assumption | rfl) (by assumption) (by assumption)
    | exact way4 (by first | assumption | rfl) (by assumption) (by assumption)
    | exact way5 (by first | assumption | rfl) (by assumption)
    | exact way6 (by assumption) (by assumption)
    | exact way7 (by assumption)
end Go.Proofs.YtdfepeeicbpicaaGreatDoor

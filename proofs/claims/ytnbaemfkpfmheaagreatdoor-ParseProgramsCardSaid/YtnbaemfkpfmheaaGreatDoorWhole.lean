/-
  Contracts of the document's own digit and whole.
-/
import Derived.Test.YtnbaemfkpfmheaaGreatDoorPureR
import Derived.Test.YtnbaemfkpfmheaaGreatDoorVal
import Derived.Deep.DeepCutAuto
import Derived.Outline
import Derived.IntWalk
namespace Go.Proofs.YtnbaemfkpfmheaaGreatDoor
open Go Go.RowKit

/-- A text behind its sign. -/
def digsS (s : ByteArray) : ByteArray := if sgnB s.data.toList then s.extract 1 s.size else s
theorem digsS_list (s : ByteArray) : (digsS s).data.toList = digsOf s.data.toList := by
  unfold digsS digsOf
  split
  · rw [Lib.extract_data, Lib.size_eq, List.drop_one]
    exact List.take_of_length_le (by simp)
  · rfl
theorem toList_nil {s : ByteArray} (h : s.size = 0) : s.toList = [] := by
  rw [Lib.toList_data]
  exact List.eq_nil_of_length_eq_zero (by rw [← Lib.size_eq]; exact h)
theorem toList_ne {s : ByteArray} (h : 0 < s.size) : s.toList ≠ [] := by
  rw [Lib.toList_data]
  intro e
  have h0 : s.size = 0 := by rw [Lib.size_eq, e]; rfl
  omega
theorem head_at {s : ByteArray} (h : 0 < s.size) : s.data.toList.head? = some (s[0]'h) := by
  have hl : 0 < s.data.toList.length := by rw [← Lib.size_eq]; exact h
  rw [List.head?_eq_getElem?, List.getElem?_eq_getElem hl]
  rfl
theorem u8_eq_of {c d : UInt8} {n : Int} (hd : (d.toNat : Int) = n) (g : ((c.toNat : Int) == n) = true) : c = d := by
  have g' : (c.toNat : Int) = n := by simpa using g
  apply UInt8.toNat_inj.1
  omega
theorem sgn_pos {s : ByteArray} (h : 0 < s.size) (g : (((s[0]'h).toNat : Int) == 45) = true) : sgnB s.data.toList = true := by
  unfold sgnB
  rw [head_at h, u8_eq_of (d := 45) rfl g]
  rfl
theorem sgn_neg {s : ByteArray} (h : 0 < s.size) (g : (((s[0]'h).toNat : Int) == 45) = false) : sgnB s.data.toList = false := by
  unfold sgnB
  rw [head_at h, beq_eq_false_iff_ne]
  intro e
  have e' : s[0]'h = 45 := by simpa using e
  rw [e'] at g
  simp at g
theorem sgn_nil {s : ByteArray} (h : s.size = 0) : sgnB s.data.toList = false := by
  have := toList_nil h
  rw [Lib.toList_data] at this
  unfold sgnB
  rw [this]
  rfl

/-- What the document's whole answers. -/
def WholeEnd (l : List UInt8) (w : World) (e : Ending) (w' : World) : Prop := e = .returned (.tuple #[.int .i64 ((wholeL l).getD 0), .bool (wholeL l).isSome]) ∧ w = w'
theorem WholeEnd.no {l : List UInt8} {w : World} (h : wholeL l = none) : WholeEnd l w (.returned (.tuple #[.int .i64 0, .bool false])) w := by
  unfold WholeEnd
  rw [h]
  exact ⟨rfl, rfl⟩
theorem WholeEnd.yes {l : List UInt8} {w : World} {n x : Int} (h : wholeL l = some n) (hx : x = n) : WholeEnd l w (.returned (.tuple #[.int .i64 x, .bool true])) w := by
  unfold WholeEnd
  rw [h, hx]
  exact ⟨rfl, rfl⟩
/-- The number that the first k bytes spell. -/
def DglTo (D : ByteArray) (k : Nat) (U : Int) : Prop := ∃ u : Nat, U = u ∧ dgl (D.data.toList.take k) 0 = some u
theorem DglTo.zero (D : ByteArray) : DglTo D 0 0 := ⟨0, rfl, rfl⟩
theorem DglTo.bound {D : ByteArray} {k : Nat} {U : Int} (h : DglTo D k U) (hk : k ≤ 18) : 0 ≤ U ∧ U < 1000000000000000000 := by
  obtain ⟨u, rfl, h⟩ := h
  have hb := dgl_bound _ 0 u 0 (by decide) h
  have hl := List.length_take_le k D.data.toList
  have : (10 : Nat) ^ (0 + (D.data.toList.take k).length) ≤ 10 ^ 18 := Nat.pow_le_pow_right (by decide) (by omega)
  have e : (10 : Nat) ^ 18 = 1000000000000000000 := by decide
  omega
theorem DglTo.step {D : ByteArray} {k : Nat} {U : Int} (h : DglTo D k U) (hk : k < D.size) (g : (48 : Int) ≤ (D[k].toNat : Int)) (g' : (D[k].toNat : Int) ≤ 57) : DglTo D (k + 1) (U * 10 + ((D[k].toNat : Int) - 48)) := by
  obtain ⟨u, rfl, h⟩ := h
  refine ⟨u * 10 + (D[k].toNat - 48), by omega, ?_⟩
  rw [take_snoc D k hk, dgl_append _ _ _ _ h, dgl_one (by omega)]
theorem dgl_bad : ∀ (l : List UInt8) (a : Nat) (c : UInt8), c ∈ l → ¬ (48 ≤ c.toNat ∧ c.toNat ≤ 57) → dgl l a = none
  | d :: r, a, c, h, g => by
    unfold dgl
    split
    · rename_i hd
      rcases List.mem_cons.1 h with rfl | h'
      · exact absurd hd g
      · exact dgl_bad r _ c h' g
    · rfl
theorem whole_bad {s D : ByteArray} (hD : D = digsS s) {k : Nat} (hk : k < D.size) (g : (D[k].toNat : Int) < 48 ∨ (57 : Int) < D[k].toNat) : wholeL s.data.toList = none := by
  subst hD
  unfold wholeL
  rw [← digsS_list]
  split
  · rfl
  · rw [dgl_bad _ 0 ((digsS s)[k]'hk) ?_ (by omega)]
    · rfl
    · have hl : k < (digsS s).data.toList.length := by rw [← Lib.size_eq]; exact hk
      have : (digsS s)[k]'hk = (digsS s).data.toList[k]'hl := rfl
      rw [this]
      exact List.getElem_mem hl
theorem whole_short {s D : ByteArray} (hD : D = digsS s) (h : D.size = 0 ∨ 19 < D.size) : wholeL s.data.toList = none := by
  subst hD
  unfold wholeL
  rw [← digsS_list, ← Lib.size_eq, if_pos]
  rcases h with h | h
  · left
    exact List.eq_nil_of_length_eq_zero (by rw [← Lib.size_eq]; exact h)
  · exact .inr h
theorem whole_is {s D : ByteArray} (hD : D = digsS s) (h0 : 0 < D.size) (h1 : D.size ≤ 19) {U : Int} (h : DglTo D D.size U) : wholeL s.data.toList = boundI (sgnB s.data.toList) U.toNat := by
  subst hD
  obtain ⟨u, rfl, h⟩ := h
  rw [List.take_of_length_le (by rw [← Lib.size_eq]; exact Nat.le_refl _)] at h
  unfold wholeL
  rw [← digsS_list, ← Lib.size_eq, if_neg]
  · rw [h]; rfl
  · rintro (e | e)
    · have : (digsS s).size = 0 := by rw [Lib.size_eq, e]; rfl
      omega
    · omega

theorem bound_no_t {U : Int} (h : 9223372036854775808 < U) : boundI true U.toNat = none := by
  unfold boundI
  rw [if_pos rfl, if_pos (by omega)]
theorem bound_no_f {U : Int} (h : 9223372036854775807 < U) : boundI false U.toNat = none := by
  unfold boundI
  rw [if_neg (by decide), if_pos (by omega)]
theorem bound_yes_t {U : Int} (h0 : 0 ≤ U) (h : U ≤ 9223372036854775808) : boundI true U.toNat = some (-U) := by
  unfold boundI
  rw [if_pos rfl, if_neg (by omega)]
  congr 1
  omega
theorem bound_yes_f {U : Int} (h0 : 0 ≤ U) (h : U ≤ 9223372036854775807) : boundI false U.toNat = some U := by
  unfold boundI
  rw [if_neg (by decide), if_neg (by omega)]
  congr 1
  omega
theorem DglTo.nonneg {D : ByteArray} {k : Nat} {U : Int} (h : DglTo D k U) : 0 ≤ U := by
  obtain ⟨u, rfl, -⟩ := h
  omega

set_option maxHeartbeats 1000000 in
theorem digit_any (c : UInt8) (w : World) : Calls Tryz.prog 122 #[.int .u8 c.toNat] w fun e w' => e = .returned (.int .i64 (hexR c)) ∧ w = w' := by
  have hb := byte_lt c
  have h0 : (0 : Int) ≤ (c.toNat : Int) := by omega
  have h1 : (c.toNat : Int) ≤ 255 := by omega
  clear hb
  go_enter Tryz.func122, Tryz.ntmps122
  go_wp2
  all_goals (go_ret; exact ⟨ret_int (by unfold hexR; (repeat' split) <;> omega), rfl⟩)

set_option maxHeartbeats 1000000 in
set_option maxRecDepth 100000 in
theorem whole_any (s : ByteArray) (w : World) (hm : s.size ≤ 1000000) : Calls Tryz.prog 116 #[.string s] w (WholeEnd s.data.toList w) := by
  obtain ⟨m, hmm⟩ : ∃ m, m = sgnB s.data.toList := ⟨_, rfl⟩
  obtain ⟨D, hD⟩ : ∃ D, D = digsS s := ⟨_, rfl⟩
  have HM := Lib.hid hmm
  have HD := Lib.hid hD
  have hDs : D.size ≤ 1000000 := by
    rw [hD]
    unfold digsS
    split
    · rw [ByteArray.size_extract]; omega
    · exact hm
  clear hmm hD
  go_enter Tryz.func116, Tryz.ntmps116
  go_upto_region 1 with fail
  go_cut [4] (fun b wx => b = .bool m ∧ wx = w)
  case first =>
    by_cases hpos : 0 < s.size
    · have hne := toList_ne hpos
      have hn2 : s.toList.isEmpty = false := by simpa using hne
      cases h45 : ((s[0].toNat : Int) == 45) with
      | true =>
        have e2 : Hid (m = true) := Lib.hid (HM.out.trans (sgn_pos hpos h45))
        go_wp2_with fail
        go_meet
        exact ⟨by rw [e2.out], rfl⟩
      | false =>
        have e2 : Hid (m = false) := Lib.hid (HM.out.trans (sgn_neg hpos h45))
        go_wp2_with fail
        go_meet
        exact ⟨by rw [e2.out], rfl⟩
    · have hne := toList_nil (s := s) (by omega)
      have hn2 : s.toList.isEmpty = true := by simp [hne]
      have e2 : Hid (m = false) := Lib.hid (HM.out.trans (sgn_nil (s := s) (by omega)))
      go_wp2_with fail
      go_meet
      exact ⟨by rw [e2.out], rfl⟩
  case rest =>
    obtain ⟨rfl, rfl⟩ := hcut
    go_upto_if 14 with fail
    go_cut [0] (fun x wx => x = .string D ∧ wx = wc)
    case first =>
      cases m with
      | true =>
        have hs : sgnB s.data.toList = true := HM.out.symm
        have e1 : Hid (D = s.extract 1 s.size) := Lib.hid (by rw [HD.out]; unfold digsS; rw [hs]; rfl)
        have hpos : 1 ≤ s.size := by
          rcases Nat.eq_zero_or_pos s.size with h | h
          · rw [sgn_nil h] at hs
            cases hs
          · exact h
        clear hs
        go_wp2_with fail
        go_meet
        exact ⟨by rw [e1.out], rfl⟩
      | false =>
        have hs : sgnB s.data.toList = false := HM.out.symm
        have e1 : Hid (D = s) := Lib.hid (by rw [HD.out]; unfold digsS; rw [hs]; rfl)
        clear hs
        go_wp2_with fail
        go_meet
        exact ⟨by rw [e1.out], rfl⟩
    case rest =>
    obtain ⟨rfl, rfl⟩ := hcut
    by_cases hz : D.size = 0
    · have hne := toList_nil hz
      have hn2 : D.toList.isEmpty = true := by simp [hne]
      have HW := Lib.hid (whole_short HD.out (.inl hz))
      go_wp2
      go_ret2
      exact WholeEnd.no HW.out
    · have hne := toList_ne (s := D) (by omega)
      have hn2 : D.toList.isEmpty = false := by simpa using hne
      by_cases hl : 19 < D.size
      · have hl' : (19 : Int) < (D.size : Int) := by omega
        have HW := Lib.hid (whole_short HD.out (.inr hl))
        go_wp2
        go_ret2
        exact WholeEnd.no HW.out
      · have hl' : (D.size : Int) ≤ 19 := by omega
        go_wp2
        go_loop [5, 6] (fun n i => ∃ (k : Nat) (U : Int), k ≤ D.size ∧ n = .int .u64 U ∧ i = .int .i64 k ∧ Hid (DglTo D k U)) (fun _ i => D.size - (intOf i).toNat)
        case atStart => exact ⟨0, 0, Nat.zero_le _, rfl, rfl, Lib.hid (DglTo.zero D)⟩
        case round =>
          obtain ⟨k, U, hk, rfl, rfl, hU⟩ := hrel
          by_cases hlt : k < D.size
          · have hb := byte_lt D[k]
            have hc0 : (0 : Int) ≤ (D[k].toNat : Int) := by omega
            have hc1 : (D[k].toNat : Int) ≤ 255 := by omega
            obtain ⟨hU0, hU1⟩ := hU.out.bound (by omega)
            clear hb
            go_wp2
            all_goals first
              | (go_ret2; exact WholeEnd.no (whole_bad HD.out hlt (by first | assumption | exact .inl (by assumption) | exact .inr (by assumption))))
              | (go_round
                 case rel => exact ⟨k + 1, _, by omega, rfl, by go_num, Lib.hid (hU.out.step hlt (by omega) (by omega))⟩
                 case measure => simp [intOf]; omega)
          · obtain rfl : k = D.size := by omega
            have HW := Lib.hid (whole_is HD.out (by omega) (by omega) hU.out)
            rw [← HM.out] at HW
            cases m with
            | true =>
              go_wp2
              all_goals first
                | (go_ret2; exact WholeEnd.no (HW.out.trans (bound_no_t (by assumption))))
                | (go_ret2; exact WholeEnd.yes (HW.out.trans (bound_yes_t hU.out.nonneg (by assumption))) (by have := hU.out.nonneg; first | omega | (rw [IntWalk.wrap64_in _ (by omega)]; omega)))
            | false =>
              go_wp2
              all_goals first
                | (go_ret2; exact WholeEnd.no (HW.out.trans (bound_no_f (by assumption))))
                | (go_ret2; exact WholeEnd.yes (HW.out.trans (bound_yes_f hU.out.nonneg (by assumption))) (by have := hU.out.nonneg; first | omega | (rw [IntWalk.wrap64_in _ (by omega)])))
end Go.Proofs.YtnbaemfkpfmheaaGreatDoor

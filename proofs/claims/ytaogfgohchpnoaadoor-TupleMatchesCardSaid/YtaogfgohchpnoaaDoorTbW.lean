/-
  Words for patterns in memory; contract of tuple.fits.
-/
import Derived.Test.YtaogfgohchpnoaaDoorTbP
import Derived.Test.YtaogfgohchpnoaaDoorTck
import Derived.Laws.StructEq
namespace Go.Proofs.YtaogfgohchpnoaaDoor
open Go Go.RowKit

/-- A term as a value. -/
def aggM (x : Tm) : Value := .agg #[.int .i64 x.k, .string x.nm, .int .i64 x.v.k, .int .i64 x.v.n, .string x.v.s]
/-- May a term stand in a pattern? -/
def FitsT (x : Tm) : Prop := x.k = 2 ∧ x.nm.toList = [] ∧ IsV x.v.k x.v.n x.v.s ∨ x.k = 1 ∧ (x.nm.toList ≠ [] ∧ x.nm.size ≤ 64 ∧ x.v = zeroV) ∨ x.k = 3 ∧ x.nm.toList = [] ∧ x.v = zeroV
/-- Are two values the same? -/
def sameV (a b : V3) : Bool := a.k == b.k && a.n == b.n && a.s.toList == b.s.toList
theorem bytes_ext {s t : ByteArray} (h : s.toList = t.toList) : s = t := by
  rw [Lib.toList_data, Lib.toList_data] at h
  cases s; cases t
  simp only at h
  exact congrArg _ (Array.toList_inj.1 h)
theorem sameV_iff {a b : V3} : sameV a b = true ↔ a = b := by
  unfold sameV
  constructor
  · intro h
    simp only [Bool.and_eq_true, beq_iff_eq] at h
    obtain ⟨⟨h1, h2⟩, h3⟩ := h
    have h4 := bytes_ext h3
    cases a; cases b
    simp only at h1 h2 h4
    subst h1 h2 h4
    rfl
  · rintro rfl
    simp
theorem sameV_no {a b : V3} (h : a ≠ b) : sameV a b = false := by
  cases e : sameV a b with
  | false => rfl
  | true => exact absurd (sameV_iff.1 e) h
set_option maxHeartbeats 1000000 in
theorem eqV_run (a b : V3) (W : World) : (binOp .eql 49 (.agg #[.int .i64 a.k, .int .i64 a.n, .string a.s]) (.agg #[.int .i64 b.k, .int .i64 b.n, .string b.s])).run Tryd.prog W = .ok (.bool (sameV a b)) W := by
  rw [run_eql_struct]
  simp [go_sem]
  unfold sameV
  by_cases h1 : a.k = b.k
  · by_cases h2 : a.n = b.n
    · by_cases h3 : a.s.toList = b.s.toList
      · rw [if_pos h1, if_pos h2, if_pos h3]; simp [h1, h2, h3]
      · rw [if_pos h1, if_pos h2, if_neg h3]; simp [h3]
    · rw [if_pos h1, if_neg h2]; simp [h2]
  · rw [if_neg h1]; simp [h1]
theorem neqV_run (a b : V3) (W : World) : (binOp .neq 49 (.agg #[.int .i64 a.k, .int .i64 a.n, .string a.s]) (.agg #[.int .i64 b.k, .int .i64 b.n, .string b.s])).run Tryd.prog W = .ok (.bool (!sameV a b)) W := by
  rw [run_neq_struct]
  simp [go_sem]
  unfold sameV
  by_cases h1 : a.k = b.k
  · by_cases h2 : a.n = b.n
    · by_cases h3 : a.s.toList = b.s.toList
      · rw [if_pos h1, if_pos h2, if_pos h3]; simp [h1, h2, h3]
      · rw [if_pos h1, if_pos h2, if_neg h3]; simp [h3]
    · rw [if_pos h1, if_neg h2]; simp [h2]
  · rw [if_neg h1]; simp [h1]
theorem fits_const {x : Tm} (hk : x.k = 2) (e : x.nm.toList.isEmpty = true) (h : IsV x.v.k x.v.n x.v.s) : FitsT x := .inl ⟨hk, by simpa using e, h⟩
theorem fits_var {x : Tm} (hk : x.k = 1) (e : x.nm.toList.isEmpty = false) (hl : (x.nm.size : Int) ≤ 64) (h : sameV x.v zeroV = true) : FitsT x := .inr (.inl ⟨hk, by simpa using e, by omega, sameV_iff.1 h⟩)
theorem fits_wild {x : Tm} (hk : x.k = 3) (e : x.nm.toList.isEmpty = true) (h : sameV x.v zeroV = true) : FitsT x := .inr (.inr ⟨hk, by simpa using e, sameV_iff.1 h⟩)
theorem fits_no1 {x : Tm} (hk : x.k = 2) (h : x.nm.toList.isEmpty = false ∨ ¬ IsV x.v.k x.v.n x.v.s) : ¬ FitsT x := by
  rintro (⟨-, h1, h2⟩ | ⟨h1, -⟩ | ⟨h1, -⟩)
  · rcases h with h | h
    · rw [h1] at h; cases h
    · exact h h2
  · omega
  · omega
theorem fits_no2 {x : Tm} (hk : x.k = 1) (h : x.nm.toList.isEmpty = true ∨ 64 < (x.nm.size : Int) ∨ sameV x.v zeroV = false) : ¬ FitsT x := by
  rintro (⟨h1, -⟩ | ⟨-, h1, h2, h3⟩ | ⟨h1, -⟩)
  · omega
  · rcases h with h | h | h
    · exact h1 (by simpa using h)
    · omega
    · rw [sameV_iff.2 h3] at h; cases h
  · omega
theorem fits_no3 {x : Tm} (hk : x.k = 3) (h : x.nm.toList.isEmpty = false ∨ sameV x.v zeroV = false) : ¬ FitsT x := by
  rintro (⟨h1, -⟩ | ⟨h1, -⟩ | ⟨-, h1, h2⟩)
  · omega
  · omega
  · rcases h with h | h
    · rw [h1] at h; cases h
    · rw [sameV_iff.2 h2] at h; cases h
theorem fits_no4 {x : Tm} (h1 : (x.k == 2) = false) (h2 : (x.k == 1) = false) (h3 : (x.k == 3) = false) : ¬ FitsT x := by
  simp at h1 h2 h3
  rintro (⟨h, -⟩ | ⟨h, -⟩ | ⟨h, -⟩)
  · exact h1 h
  · exact h2 h
  · exact h3 h
/-- What fits answers. -/
def FitsEnd (x : Tm) (w : World) (e : Ending) (w' : World) : Prop := ((FitsT x ∧ e = .returned (.bool true)) ∨ (¬ FitsT x ∧ e = .returned (.bool false))) ∧ Below w.heap.size w w'
set_option maxHeartbeats 2000000 in
set_option maxRecDepth 100000 in
theorem fits_any (x : Tm) (w : World) (hz : x.nm.size ≤ maxLen) : Calls Tryd.prog 44 #[aggM x] w (FitsEnd x w) := by
  obtain ⟨z, hzz⟩ : ∃ z, z = sameV x.v zeroV := ⟨_, rfl⟩
  have hE : ∀ W : World, (binOp .eql 49 (.agg #[.int .i64 x.v.k, .int .i64 x.v.n, .string x.v.s]) (.agg #[.int .i64 0, .int .i64 0, .string ⟨#[]⟩])).run Tryd.prog W = .ok (.bool z) W := fun W => by rw [hzz]; exact eqV_run x.v zeroV W
  have HZ := Lib.hid hzz
  clear hzz
  unfold maxLen at hz
  have hz' : (x.nm.size : Int) ≤ 9223372036854775807 := by omega
  unfold aggM
  cases h2 : (x.k == 2) with
  | true =>
    have hk : x.k = 2 := by simpa using h2
    have HK := Lib.hid hk
    clear hk
    cases he : x.nm.toList.isEmpty with
    | false =>
      have HN := Lib.hid (fits_no1 HK.out (.inl he))
      go_enter Tryd.func44, Tryd.ntmps44
      go_wp2_with fail
      go_ret
      exact ⟨.inr ⟨HN.out, rfl⟩, below_box _ _⟩
    | true =>
      by_cases hv : IsV x.v.k x.v.n x.v.s
      · have HN := Lib.hid (fits_const HK.out he hv)
        have HV := Lib.hid hv
        clear hv
        go_enter Tryd.func44, Tryd.ntmps44
        go_wp2_with fail
        refine (check_yes _ _ _ _ HV.out).mono ?_
        rintro e w1 ⟨rfl, hb1⟩
        go_wp2_with fail
        go_ret
        exact ⟨.inl ⟨HN.out, rfl⟩, (below_box _ _).trans (hb1.mono (by simp))⟩
      · have HN := Lib.hid (fits_no1 HK.out (.inr hv))
        have HV := Lib.hid hv
        clear hv
        go_enter Tryd.func44, Tryd.ntmps44
        go_wp2_with fail
        refine (check_no _ _ _ _ HV.out).mono ?_
        rintro e w1 ⟨rfl, hb1⟩
        go_wp2_with fail
        go_ret
        exact ⟨.inr ⟨HN.out, rfl⟩, (below_box _ _).trans (hb1.mono (by simp))⟩
  | false =>
    cases h1 : (x.k == 1) with
    | true =>
      have hk : x.k = 1 := by simpa using h1
      have HK := Lib.hid hk
      clear hk
      cases he : x.nm.toList.isEmpty with
      | true =>
        have HN := Lib.hid (fits_no2 HK.out (.inl he))
        go_enter Tryd.func44, Tryd.ntmps44
        go_wp2_with fail
        go_ret
        exact ⟨.inr ⟨HN.out, rfl⟩, below_box _ _⟩
      | false =>
        by_cases hl : (x.nm.size : Int) ≤ 64
        · cases z with
          | true =>
            have HN := Lib.hid (fits_var HK.out he hl HZ.out.symm)
            go_enter Tryd.func44, Tryd.ntmps44
            go_wp2_with fail
            go_ret
            exact ⟨.inl ⟨HN.out, rfl⟩, below_box _ _⟩
          | false =>
            have HN := Lib.hid (fits_no2 HK.out (.inr (.inr HZ.out.symm)))
            go_enter Tryd.func44, Tryd.ntmps44
            go_wp2_with fail
            go_ret
            exact ⟨.inr ⟨HN.out, rfl⟩, below_box _ _⟩
        · have hl' : 64 < (x.nm.size : Int) := by omega
          have HN := Lib.hid (fits_no2 HK.out (.inr (.inl hl')))
          clear hl
          go_enter Tryd.func44, Tryd.ntmps44
          go_wp2_with fail
          go_ret
          exact ⟨.inr ⟨HN.out, rfl⟩, below_box _ _⟩
    | false =>
      cases h3 : (x.k == 3) with
      | true =>
        have hk : x.k = 3 := by simpa using h3
        have HK := Lib.hid hk
        clear hk
        cases he : x.nm.toList.isEmpty with
        | false =>
          have HN := Lib.hid (fits_no3 HK.out (.inl he))
          go_enter Tryd.func44, Tryd.ntmps44
          go_wp2_with fail
          go_ret
          exact ⟨.inr ⟨HN.out, rfl⟩, below_box _ _⟩
        | true =>
          cases z with
          | true =>
            have HN := Lib.hid (fits_wild HK.out he HZ.out.symm)
            go_enter Tryd.func44, Tryd.ntmps44
            go_wp2_with fail
            go_ret
            exact ⟨.inl ⟨HN.out, rfl⟩, below_box _ _⟩
          | false =>
            have HN := Lib.hid (fits_no3 HK.out (.inr HZ.out.symm))
            go_enter Tryd.func44, Tryd.ntmps44
            go_wp2_with fail
            go_ret
            exact ⟨.inr ⟨HN.out, rfl⟩, below_box _ _⟩
      | false =>
        have HN := Lib.hid (fits_no4 h2 h1 h3)
        go_enter Tryd.func44, Tryd.ntmps44
        go_wp2_with fail
        go_ret
        exact ⟨.inr ⟨HN.out, rfl⟩, below_box _ _⟩
end Go.Proofs.YtaogfgohchpnoaaDoor

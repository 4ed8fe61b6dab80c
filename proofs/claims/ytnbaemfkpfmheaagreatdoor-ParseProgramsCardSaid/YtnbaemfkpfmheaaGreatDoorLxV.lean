/-
  The value of a text, as the lexer asks for it; contracts of value.Read and of the document's Read in its words.
-/
import Derived.Test.YtnbaemfkpfmheaaGreatDoorLxB
import Derived.Test.YtnbaemfkpfmheaaGreatDoorRead
import Derived.Test.YtnbaemfkpfmheaaGreatDoorRread
import Derived.Test.YtnbaemfkpfmheaaGreatDoorSym
namespace Go.Proofs.YtnbaemfkpfmheaaGreatDoor
open Go Go.RowKit

open Classical in
/-- The value that has a text. -/
noncomputable def valL (l : List UInt8) : Option VL := if h : ∃ v : VL, IsV v.1 v.2.1 v.2.2 ∧ I64 v.2.1 ∧ l = textL v.1 v.2.1 v.2.2 then some (Classical.choose h) else none
theorem valL_is {l : List UInt8} {v : VL} (h : valL l = some v) : IsV v.1 v.2.1 v.2.2 ∧ I64 v.2.1 ∧ l = textL v.1 v.2.1 v.2.2 := by
  unfold valL at h
  split at h
  · rename_i g
    injection h with h
    subst h
    exact Classical.choose_spec g
  · cases h
theorem valL_none {l : List UInt8} (h : valL l = none) (v : VL) (h1 : IsV v.1 v.2.1 v.2.2) (h2 : I64 v.2.1) : l ≠ textL v.1 v.2.1 v.2.2 := by
  intro e
  unfold valL at h
  rw [dif_pos ⟨v, h1, h2, e⟩] at h
  cases h
theorem textS_data (k n : Int) (S : ByteArray) : (textS k n S).data.toList = textL k n S := rfl
theorem of_data (s : ByteArray) : (⟨s.data.toList.toArray⟩ : ByteArray) = s := rfl
theorem valL_own {k n : Int} {S : ByteArray} (h1 : IsV k n S) (h2 : I64 n) : valL (textL k n S) = some (k, n, S) := by
  cases h : valL (textL k n S) with
  | none => exact absurd rfl (valL_none h (k, n, S) h1 h2)
  | some v =>
    obtain ⟨a, b, c⟩ := valL_is h
    obtain ⟨e1, e2, e3⟩ := textS_inj h1 h2 a b (by unfold textS; rw [c])
    obtain ⟨x, y, z⟩ := v
    simp only at e1 e2 e3
    rw [e1, e2, e3]
theorem hexD_plain : ∀ n : Fin 16, hexD n.val ≠ 34 ∧ hexD n.val ≠ 92 := by decide
theorem quo_one {c : UInt8} (h1 : c ≠ 34) (h2 : c ≠ 92) (r : List UInt8) : quoEnd (c :: r) = (quoEnd r).map (· + 1) := by
  conv => lhs; unfold quoEnd
  rw [if_neg h1, if_neg h2]
theorem quo_esc (d : UInt8) (r : List UInt8) : quoEnd (92 :: d :: r) = (quoEnd r).map (· + 2) := by
  conv => lhs; unfold quoEnd
  rw [if_neg (by decide), if_pos rfl]
theorem quo_oneB (c : UInt8) (r : List UInt8) : quoEnd (oneB c ++ r) = (quoEnd r).map (· + (oneB c).length) := by
  unfold oneB
  by_cases h1 : c = 34 ∨ c = 92
  · rw [if_pos h1]
    exact quo_esc c r
  · rw [if_neg h1]
    have h3 : c ≠ 34 := fun e => h1 (.inl e)
    have h4 : c ≠ 92 := fun e => h1 (.inr e)
    by_cases h5 : c = 10
    · rw [if_pos h5]
      exact quo_esc 110 r
    · rw [if_neg h5]
      by_cases h6 : c = 9
      · rw [if_pos h6]
        exact quo_esc 116 r
      · rw [if_neg h6]
        by_cases h7 : 32 ≤ c ∧ c ≤ 126
        · rw [if_pos h7]
          exact quo_one h3 h4 r
        · rw [if_neg h7]
          have hc := byte_lt c
          have a := hexD_plain ⟨c.toNat / 16, by omega⟩
          have b := hexD_plain ⟨c.toNat % 16, by omega⟩
          show quoEnd (92 :: 120 :: hexD (c.toNat / 16) :: hexD (c.toNat % 16) :: r) = _
          rw [quo_esc, quo_one a.1 a.2, quo_one b.1 b.2]
          cases quoEnd r <;> simp
theorem quo_body : ∀ (l : List UInt8) (y : List UInt8), (quoEnd (l.flatMap oneB ++ 34 :: y)).isSome = true
  | [], y => by
    show (quoEnd (34 :: y)).isSome = true
    unfold quoEnd
    rw [if_pos rfl]
    rfl
  | c :: l, y => by
    rw [List.flatMap_cons, List.append_assoc, quo_oneB]
    have := quo_body l y
    cases h : quoEnd (l.flatMap oneB ++ 34 :: y) with
    | none => rw [h] at this; cases this
    | some n => rfl
/-- A symbol that doesn't end has no value. -/
theorem valL_open (r : List UInt8) (h : quoEnd r = none) : valL (34 :: r) = none := by
  cases e : valL (34 :: r) with
  | none => rfl
  | some v =>
    exfalso
    obtain ⟨a, b, c⟩ := valL_is e
    unfold textL at c
    by_cases hk : v.1 = 1
    · rw [if_pos hk] at c
      obtain ⟨d, q, hq, hne⟩ := itoa_head v.2.1
      rw [hq] at c
      exact hne (List.cons.inj c).1.symm
    · rw [if_neg hk] at c
      have c2 := (List.cons.inj (show 34 :: r = 34 :: (v.2.2.data.toList.flatMap oneB ++ [34]) from c)).2
      have := quo_body v.2.2.data.toList []
      rw [← c2, h] at this
      cases this
/-- A value in memory's words. -/
def valV (v : VL) : Value := .agg #[.int .i64 v.1, .int .i64 v.2.1, .string v.2.2]
/-- What a reading of values answers. -/
def RdAns (l : List UInt8) (v : VL) (g : Int) : Prop := (valL l = some v ∧ g = 0) ∨ (valL l = none ∧ g = 10 ∧ v = zeroL)
theorem vread_any (s : ByteArray) (w : World) (hm : s.size ≤ 1000000) (G : Glob w) :
    Calls Tryz.prog 115 #[.string s] w fun e w' => (∃ v g, RdAns s.data.toList v g ∧ e = .returned (.tuple #[valV v, .int .i64 g])) ∧ Below w.heap.size w w' := by
  cases h : valL s.data.toList with
  | some v =>
    obtain ⟨a, b, c⟩ := valL_is h
    have e : s = textS v.1 v.2.1 v.2.2 := by
      rw [← of_data s, c]
      rfl
    refine (show Calls Tryz.prog 115 #[.string s] w _ by rw [e]; exact read_own _ _ _ w a b G).mono ?_
    rintro e w' ⟨rfl, hb⟩
    exact ⟨⟨v, 0, .inl ⟨h, rfl⟩, rfl⟩, hb⟩
  | none =>
    refine (read_none s w hm (fun k n S h1 h2 e => valL_none h (k, n, S) h1 h2 (by rw [e]; rfl)) G).mono ?_
    rintro e w' ⟨rfl, hb⟩
    exact ⟨⟨zeroL, 10, .inr ⟨h, rfl, rfl⟩, rfl⟩, hb⟩

/-! The document's Read -/
theorem whole_of (s : ByteArray) (hmax : s.size ≤ 1000000) : WholeIs s ((wholeL s.data.toList).getD 0) (wholeL s.data.toList).isSome := fun w => whole_any s w hmax
theorem sym_of (s : ByteArray) (hmax : s.size ≤ 1000000) : SymIs s ⟨(symL s.data.toList).1.toArray⟩ (symL s.data.toList).2 := fun w => symbol_any s w hmax
theorem beq_of_ne {a b : ByteArray} (h : b ≠ a) : (a.toList == b.toList) = false := by
  rw [beq_eq_false_iff_ne]
  exact fun e => h (str_ext e).symm
theorem rread_own (k n : Int) (S : ByteArray) (w : World) (h : IsV k n S) (hI : I64 n) :
    Calls Tryz.prog 110 #[.string (textS k n S)] w fun e w' => e = .returned (.tuple #[.agg #[.int .i64 k, .int .i64 n, .string S], .int .i64 0]) ∧ Below w.heap.size w w' := by
  have hz := textS_size h hI
  have ht : RTextIs k n S (textS k n S) 0 := fun w => rtext_yes k n S w h hI
  have hw := whole_of (textS k n S) (by omega)
  rcases h with ⟨rfl, hS⟩ | ⟨rfl, rfl, hS⟩
  · obtain rfl := emp_of hS
    have e : wholeL (textS 1 n ⟨#[]⟩).data.toList = some n := whole_itoa n hI.1 hI.2
    rw [e] at hw
    exact rr_int_hit _ n w (Lib.hid hw) (Lib.hid ht)
  · have e : wholeL (textS 2 0 S).data.toList = none := whole_quote _
    rw [e] at hw
    have hs := sym_of (textS 2 0 S) (by omega)
    have e2 : symL (textS 2 0 S).data.toList = (S.data.toList, true) := sym_quote _
    rw [e2] at hs
    exact rr_sym_hit _ S 0 w (Lib.hid hw) (Lib.hid hs) (Lib.hid ht)
theorem rread_none (s : ByteArray) (w : World) (hmax : s.size ≤ 1000000) (hno : ∀ k n S, IsV k n S → I64 n → s ≠ textS k n S) :
    Calls Tryz.prog 110 #[.string s] w fun e w' => e = .returned (.tuple #[.agg #[.int .i64 0, .int .i64 0, .string ⟨#[]⟩], .int .i64 10]) ∧ Below w.heap.size w w' := by
  have hw := whole_of s hmax
  cases hwl : wholeL s.data.toList with
  | some n =>
    rw [hwl] at hw
    have hI : I64 n := whole_range hwl
    have hv : IsV 1 n ⟨#[]⟩ := .inl ⟨rfl, emp_toList⟩
    exact rr_int_miss s n (textS 1 n ⟨#[]⟩) w (Lib.hid hw) (Lib.hid fun w => rtext_yes 1 n ⟨#[]⟩ w hv hI) (beq_of_ne (hno _ _ _ hv hI))
  | none =>
    rw [hwl] at hw
    have hs := sym_of s hmax
    have hI : I64 0 := by unfold I64; omega
    generalize (⟨(symL s.data.toList).1.toArray⟩ : ByteArray) = S at hs
    generalize (symL s.data.toList).2 = b at hs
    by_cases hv : IsV 2 0 S
    · have ht : RTextIs 2 0 S (textS 2 0 S) 0 := fun w => rtext_yes 2 0 S w hv hI
      cases b with
      | true => exact rr_sym_missT s S 0 (textS 2 0 S) w (Lib.hid hw) (Lib.hid hs) (Lib.hid ht) (beq_of_ne (hno _ _ _ hv hI))
      | false => exact rr_sym_missB s S 0 (textS 2 0 S) 0 w (Lib.hid hw) (Lib.hid hs) (Lib.hid ht)
    · have ht : RTextIs 2 0 S ⟨#[]⟩ 10 := fun w => rtext_no 2 0 S w hv
      cases b with
      | true => exact rr_sym_missE s S 0 ⟨#[]⟩ w (Lib.hid hw) (Lib.hid hs) (Lib.hid ht)
      | false => exact rr_sym_missB s S 0 ⟨#[]⟩ 10 w (Lib.hid hw) (Lib.hid hs) (Lib.hid ht)
theorem rvread_any (s : ByteArray) (w : World) (hm : s.size ≤ 1000000) :
    Calls Tryz.prog 110 #[.string s] w fun e w' => (∃ v g, RdAns s.data.toList v g ∧ e = .returned (.tuple #[valV v, .int .i64 g])) ∧ Below w.heap.size w w' := by
  cases h : valL s.data.toList with
  | some v =>
    obtain ⟨a, b, c⟩ := valL_is h
    have e : s = textS v.1 v.2.1 v.2.2 := by
      rw [← of_data s, c]
      rfl
    refine (show Calls Tryz.prog 110 #[.string s] w _ by rw [e]; exact rread_own _ _ _ w a b).mono ?_
    rintro e w' ⟨rfl, hb⟩
    exact ⟨⟨v, 0, .inl ⟨h, rfl⟩, rfl⟩, hb⟩
  | none =>
    refine (rread_none s w hm (fun k n S h1 h2 e => valL_none h (k, n, S) h1 h2 (by rw [e]; rfl))).mono ?_
    rintro e w' ⟨rfl, hb⟩
    exact ⟨⟨zeroL, 10, .inr ⟨h, rfl, rfl⟩, rfl⟩, hb⟩
end Go.Proofs.YtnbaemfkpfmheaaGreatDoor

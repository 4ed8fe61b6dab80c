/-
  The document's reading of a value's text, at any text.
-/
import Derived.Test.YtdfepeeicbpicaaGreatDoorRread
import Derived.Test.YtdfepeeicbpicaaGreatDoorSym
import Derived.Test.YtdfepeeicbpicaaGreatDoorRead
import Derived.Test.YtdfepeeicbpicaaGreatDoorTtX
import Derived.Test.YtdfepeeicbpicaaGreatDoorTtT
import Derived.Test.YtdfepeeicbpicaaGreatDoorTck
import Derived.Test.YtdfepeeicbpicaaGreatDoorTtR
import Derived.Test.YtdfepeeicbpicaaGreatDoorTtB
namespace Go.Proofs.YtdfepeeicbpicaaGreatDoor
section
open Go Go.RowKit

theorem whole_of (s : ByteArray) (hmax : s.size ≤ 1000000) : WholeIs s ((wholeL s.data.toList).getD 0) (wholeL s.data.toList).isSome := fun w => whole_any s w hmax
theorem sym_of (s : ByteArray) (hmax : s.size ≤ 1000000) : SymIs s ⟨(symL s.data.toList).1.toArray⟩ (symL s.data.toList).2 := fun w => symbol_any s w hmax
theorem beq_of_ne {a b : ByteArray} (h : b ≠ a) : (a.toList == b.toList) = false := by
  rw [beq_eq_false_iff_ne]
  exact fun e => h (str_ext e).symm
theorem rread_own (k n : Int) (S : ByteArray) (w : World) (h : IsV k n S) (hI : I64 n) :
    Calls Tryz.prog 21 #[.string (textS k n S)] w fun e w' => e = .returned (.tuple #[.agg #[.int .i64 k, .int .i64 n, .string S], .int .i64 0]) ∧ Below w.heap.size w w' := by
  have hz := textS_size h hI
  have ht : RTextIs k n S (textS k n S) 0 := fun w => rtext_yes k n S w h hI
  have hw := whole_of (textS k n S) (by omega)
  rcases h with ⟨rfl, hS⟩ | ⟨rfl, rfl, hS⟩
  · obtain rfl := emp_of hS
    have e : wholeL (textS 1 n ⟨#[]⟩).data.toList = some n := whole_itoa n hI.1 hI.2
    rw [e] at hw
    exact rr_int_hit _ n w (Lib.hid hw) (Lib.hid ht)
  · have e : wholeL (textS 2 0 S).data.toList = none := whole_quote _
    rw [e] at hw
    have hs := sym_of (textS 2 0 S) (by omega)
    have e2 : symL (textS 2 0 S).data.toList = (S.data.toList, true) := sym_quote _
    rw [e2] at hs
    exact rr_sym_hit _ S 0 w (Lib.hid hw) (Lib.hid hs) (Lib.hid ht)
theorem rread_none (s : ByteArray) (w : World) (hmax : s.size ≤ 1000000) (hno : ∀ k n S, IsV k n S → I64 n → s ≠ textS k n S) :
    Calls Tryz.prog 21 #[.string s] w fun e w' => e = .returned (.tuple #[.agg #[.int .i64 0, .int .i64 0, .string ⟨#[]⟩], .int .i64 10]) ∧ Below w.heap.size w w' := by
  have hw := whole_of s hmax
  cases hwl : wholeL s.data.toList with
  | some n =>
    rw [hwl] at hw
    have hI : I64 n := whole_range hwl
    have hv : IsV 1 n ⟨#[]⟩ := .inl ⟨rfl, emp_toList⟩
    exact rr_int_miss s n (textS 1 n ⟨#[]⟩) w (Lib.hid hw) (Lib.hid fun w => rtext_yes 1 n ⟨#[]⟩ w hv hI) (beq_of_ne (hno _ _ _ hv hI))
  | none =>
    rw [hwl] at hw
    have hs := sym_of s hmax
    have hI : I64 0 := by unfold I64; omega
    generalize (⟨(symL s.data.toList).1.toArray⟩ : ByteArray) = S at hs
    generalize (symL s.data.toList).2 = b at hs
    by_cases hv : IsV 2 0 S
    · have ht : RTextIs 2 0 S (textS 2 0 S) 0 := fun w => rtext_yes 2 0 S w hv hI
      cases b with
      | true => exact rr_sym_missT s S 0 (textS 2 0 S) w (Lib.hid hw) (Lib.hid hs) (Lib.hid ht) (beq_of_ne (hno _ _ _ hv hI))
      | false => exact rr_sym_missB s S 0 (textS 2 0 S) 0 w (Lib.hid hw) (Lib.hid hs) (Lib.hid ht)
    · have ht : RTextIs 2 0 S ⟨#[]⟩ 10 := fun w => rtext_no 2 0 S w hv
      cases b with
      | true => exact rr_sym_missE s S 0 ⟨#[]⟩ w (Lib.hid hw) (Lib.hid hs) (Lib.hid ht)
      | false => exact rr_sym_missB s S 0 ⟨#[]⟩ 10 w (Lib.hid hw) (Lib.hid hs) (Lib.hid ht)

end
section
open Go Go.RowKit

/-- How many bytes up to the next quote that is no escape's, with it. -/
def endQ : List UInt8 → Nat
  | [] => 0
  | [_] => 1
  | c :: d :: r => if c = 34 then 1 else if c = 92 then 2 + endQ r else 1 + endQ (d :: r)
/-- How many bytes up to the next comma or bracket. -/
def endU : List UInt8 → Nat
  | [] => 0
  | c :: r => if c = 44 ∨ c = 41 then 0 else 1 + endU r
/-- How many bytes the value has that stands here. -/
def endL (l : List UInt8) : Nat := if l.head? = some 34 then 1 + endQ (l.drop 1) else endU l
theorem endQ_nil : endQ [] = 0 := rfl
theorem endQ_quote (r : List UInt8) : endQ (34 :: r) = 1 := by
  cases r with
  | nil => rfl
  | cons d r => unfold endQ; rw [if_pos rfl]
theorem endQ_esc (d : UInt8) (r : List UInt8) : endQ (92 :: d :: r) = 2 + endQ r := by conv => lhs; unfold endQ; rw [if_neg (by decide), if_pos rfl]
theorem endQ_one (c : UInt8) : endQ [c] = 1 := by unfold endQ; rfl
theorem endQ_other {c : UInt8} (r : List UInt8) (h1 : c ≠ 34) (h2 : c ≠ 92) : endQ (c :: r) = 1 + endQ r := by
  cases r with
  | nil => rw [endQ_one, endQ_nil]
  | cons d r => conv => lhs; unfold endQ; rw [if_neg h1, if_neg h2]
theorem endU_stop {c : UInt8} (r : List UInt8) (h : c = 44 ∨ c = 41) : endU (c :: r) = 0 := by unfold endU; rw [if_pos h]
theorem endU_go {c : UInt8} (r : List UInt8) (h : ¬ (c = 44 ∨ c = 41)) : endU (c :: r) = 1 + endU r := by conv => lhs; unfold endU; rw [if_neg h]
theorem endU_le : ∀ l : List UInt8, endU l ≤ l.length
  | [] => Nat.le_refl _
  | c :: r => by
    have := endU_le r
    by_cases h : c = 44 ∨ c = 41
    · rw [endU_stop r h]; omega
    · rw [endU_go r h, List.length_cons]; omega
theorem endQ_le : ∀ (n : Nat) (l : List UInt8), l.length ≤ n → endQ l ≤ l.length
  | 0, l, h => by
    obtain rfl := List.length_eq_zero_iff.1 (Nat.le_zero.1 h)
    exact Nat.le_refl _
  | n + 1, [], _ => Nat.le_refl _
  | n + 1, [c], _ => by rw [endQ_one]; exact Nat.le_refl _
  | n + 1, c :: d :: r, h => by
    rw [List.length_cons] at h
    by_cases h1 : c = 34
    · subst h1; rw [endQ_quote, List.length_cons]; omega
    · by_cases h2 : c = 92
      · subst h2
        rw [endQ_esc]
        have := endQ_le n r (by simp at h; omega)
        simp
        omega
      · rw [endQ_other _ h1 h2]
        have := endQ_le n (d :: r) (by omega)
        rw [List.length_cons (a := c)]
        omega
theorem endL_le (l : List UInt8) : endL l ≤ l.length := by
  unfold endL
  split
  · rename_i h
    cases l with
    | nil => cases h
    | cons c r =>
      have := endQ_le r.length r (Nat.le_refl _)
      simp
      omega
  · exact endU_le l
theorem endQ_byte (c : UInt8) (r : List UInt8) : endQ (oneB c ++ r) = (oneB c).length + endQ r := by
  have hb := c.toNat_lt
  unfold oneB
  split
  · rw [List.cons_append, List.cons_append, List.nil_append, endQ_esc]; rfl
  · rename_i h
    split
    · rw [List.cons_append, List.cons_append, List.nil_append, endQ_esc]; rfl
    · split
      · rw [List.cons_append, List.cons_append, List.nil_append, endQ_esc]; rfl
      · split
        · rw [List.cons_append, List.nil_append, endQ_other r (fun e => h (.inl e)) (fun e => h (.inr e))]; rfl
        · have a := hexD_ne (c.toNat / 16) (by omega)
          have b := hexD_ne (c.toNat % 16) (by omega)
          simp only [List.cons_append, List.nil_append]
          rw [endQ_esc, endQ_other _ a.2 a.1, endQ_other _ b.2 b.1]
          simp only [List.length_cons, List.length_nil]
          omega
theorem endQ_body : ∀ (l r : List UInt8), endQ (l.flatMap oneB ++ r) = (l.flatMap oneB).length + endQ r
  | [], r => by simp
  | c :: l, r => by
    rw [List.flatMap_cons, List.append_assoc, endQ_byte, endQ_body l r, List.length_append]
    omega
theorem endU_plain : ∀ (l r : List UInt8), (∀ c ∈ l, ¬ (c = 44 ∨ c = 41)) → endU (l ++ r) = l.length + endU r
  | [], r, _ => by simp
  | c :: l, r, h => by
    rw [List.cons_append, endU_go _ (h c List.mem_cons_self), endU_plain l r fun x hx => h x (List.mem_cons_of_mem _ hx), List.length_cons]
    omega
theorem itoa_all2 (n : Int) : ∀ c ∈ Lib.itoa n, ¬ (c = 44 ∨ c = 41) ∧ c ≠ 34 := by
  have d : ∀ m, ∀ c ∈ Lib.decDigits m, ¬ (c = 44 ∨ c = 41) ∧ c ≠ 34 := fun m c hc => by
    have := dd_all m c hc
    refine ⟨?_, ?_⟩
    · rintro (rfl | rfl) <;> (revert this; decide)
    · rintro rfl; revert this; decide
  intro c hc
  unfold Lib.itoa at hc
  split at hc
  · rcases List.mem_cons.1 hc with rfl | hc
    · decide
    · exact d _ c hc
  · exact d _ c hc
/-- Where a value's text stands, it reaches as far as it is. -/
theorem endL_val (v : V3) {c : UInt8} (r : List UInt8) (hc : c = 44 ∨ c = 41) : endL (textV v ++ c :: r) = (textV v).length := by
  unfold textV textL
  split
  · obtain ⟨d, l, e, -⟩ := itoa_head v.n
    have h34 : d ≠ 34 := (itoa_all2 v.n d (by rw [e]; exact List.mem_cons_self)).2
    unfold endL
    rw [if_neg (by rw [e]; simp; exact h34), endU_plain _ _ (fun x hx => (itoa_all2 v.n x hx).1), endU_stop r hc]
    rfl
  · unfold endL quoteL quoteTo
    rw [if_pos (by simp), List.cons_append, List.cons_append, List.drop_succ_cons, List.drop_zero, List.append_assoc, endQ_body, List.cons_append, List.nil_append, endQ_quote]
    simp
    omega
theorem textV_head (v : V3) : ∃ c r, textV v = c :: r ∧ c ≠ 41 ∧ c ≠ 44 := by
  unfold textV textL
  split
  · obtain ⟨d, l, e, -⟩ := itoa_head v.n
    have h := (itoa_all2 v.n d (by rw [e]; exact List.mem_cons_self)).1
    exact ⟨d, l, e, fun x => h (.inr x), fun x => h (.inl x)⟩
  · exact ⟨34, _, by unfold quoteL quoteTo; rfl, by decide, by decide⟩
/-- How far end has come: quoted. -/
def EqR (s : ByteArray) (at_ k : Nat) : Prop := (k ≤ s.size ∧ endL (s.data.toList.drop at_) = (k - at_) + endQ (s.data.toList.drop k)) ∨ (k = s.size + 1 ∧ endL (s.data.toList.drop at_) = s.size - at_)
/-- How far end has come: not quoted. -/
def EuR (s : ByteArray) (at_ k : Nat) : Prop := k ≤ s.size ∧ endL (s.data.toList.drop at_) = (k - at_) + endU (s.data.toList.drop k)
theorem drop_nil_at {s : ByteArray} {k : Nat} (h : s.size ≤ k) : s.data.toList.drop k = [] := List.drop_of_length_le (by rw [← Lib.size_eq]; exact h)
theorem eqr_start {s : ByteArray} {a : Nat} (h : a < s.size) (hq : s[a] = 34) : EqR s a (a + 1) := by
  refine .inl ⟨by omega, ?_⟩
  unfold endL
  rw [bytesAt s a h, hq, if_pos (by simp), List.drop_succ_cons, List.drop_zero]
  omega
theorem eur_start {s : ByteArray} {a : Nat} (h : a < s.size) (hq : s[a] ≠ 34) : EuR s a a := by
  refine ⟨by omega, ?_⟩
  unfold endL
  rw [if_neg (by rw [bytesAt s a h]; simp; exact hq)]
  omega
theorem eqr_at {s : ByteArray} {a k : Nat} (h : EqR s a k) (hk : k < s.size) : endL (s.data.toList.drop a) = (k - a) + endQ (s[k] :: s.data.toList.drop (k + 1)) := by
  rcases h with ⟨-, h2⟩ | ⟨h1, -⟩
  · rw [h2, bytesAt s k hk]
  · omega
theorem eqr_quote {s : ByteArray} {a k : Nat} (h : EqR s a k) (hk : k < s.size) (ha : a < k) (hc : s[k] = 34) : a + endL (s.data.toList.drop a) = k + 1 := by
  have h1 := eqr_at h hk
  rw [hc, endQ_quote] at h1
  omega
theorem eqr_esc {s : ByteArray} {a k : Nat} (h : EqR s a k) (hk : k < s.size) (ha : a < k) (hc : s[k] = 92) : EqR s a (k + 1 + 1) := by
  have h1 := eqr_at h hk
  rw [hc] at h1
  by_cases h2 : k + 1 < s.size
  · rw [bytesAt s (k + 1) h2, endQ_esc] at h1
    exact .inl ⟨by omega, by omega⟩
  · rw [drop_nil_at (s := s) (k := k + 1) (by omega), endQ_one] at h1
    exact .inr ⟨by omega, by omega⟩
theorem eqr_other {s : ByteArray} {a k : Nat} (h : EqR s a k) (hk : k < s.size) (ha : a < k) (h1 : s[k] ≠ 34) (h2 : s[k] ≠ 92) : EqR s a (k + 1) := by
  have h3 := eqr_at h hk
  rw [endQ_other _ h1 h2] at h3
  exact .inl ⟨by omega, by omega⟩
theorem eqr_end {s : ByteArray} {a k : Nat} (h : EqR s a k) (hk : s.size ≤ k) (ha : a < s.size) : a + endL (s.data.toList.drop a) = s.size := by
  rcases h with ⟨h1, h2⟩ | ⟨-, h2⟩
  · obtain rfl : k = s.size := by omega
    rw [drop_nil_at (s := s) (k := s.size) (Nat.le_refl _), endQ_nil] at h2
    omega
  · omega
theorem eur_at {s : ByteArray} {a k : Nat} (h : EuR s a k) (hk : k < s.size) : endL (s.data.toList.drop a) = (k - a) + endU (s[k] :: s.data.toList.drop (k + 1)) := by
  rw [h.2, bytesAt s k hk]
theorem eur_stop {s : ByteArray} {a k : Nat} (h : EuR s a k) (hk : k < s.size) (ha : a ≤ k) (hc : s[k] = 44 ∨ s[k] = 41) : a + endL (s.data.toList.drop a) = k := by
  have h1 := eur_at h hk
  rw [endU_stop _ hc] at h1
  omega
theorem eur_go {s : ByteArray} {a k : Nat} (h : EuR s a k) (hk : k < s.size) (ha : a ≤ k) (hc : ¬ (s[k] = 44 ∨ s[k] = 41)) : EuR s a (k + 1) := by
  have h1 := eur_at h hk
  rw [endU_go _ hc] at h1
  exact ⟨by omega, by omega⟩
theorem eur_end {s : ByteArray} {a k : Nat} (h : EuR s a k) (hk : s.size ≤ k) (ha : a < s.size) : a + endL (s.data.toList.drop a) = s.size := by
  obtain ⟨h1, h2⟩ := h
  obtain rfl : k = s.size := by omega
  rw [drop_nil_at (s := s) (k := s.size) (Nat.le_refl _)] at h2
  have : endU [] = 0 := rfl
  omega
set_option maxHeartbeats 2000000 in
set_option maxRecDepth 100000 in
theorem rend_any (s : ByteArray) (a : Nat) (w : World) (ha : a < s.size) (hs : s.size ≤ 1000000) :
    Calls Tryz.prog 20 #[.string s, .int .i64 (a : Int)] w fun e w' => e = .returned (.int .i64 ((a + endL (s.data.toList.drop a) : Nat) : Int)) ∧ w = w' := by
  have hs' : (s.size : Int) ≤ 1000000 := by omega
  have ha' : (a : Int) < (s.size : Int) := by omega
  have ha0 : (0 : Int) ≤ (a : Int) := by omega
  have HA := Lib.hid ha
  obtain ⟨N, HN⟩ : ∃ N, Hid (N = a + endL (s.data.toList.drop a)) := ⟨_, Lib.hid rfl⟩
  rw [← HN.out]
  cases hq : (((s[a]'ha).toNat : Int) == 34) with
  | true =>
    have HS := Lib.hid (eqr_start ha (byte_is (d := 34) rfl hq))
    have h92 : (((s[a]'ha).toNat : Int) == 92) = false := by rw [eq_of_beq hq]; rfl
    go_enter Tryz.func20, Tryz.ntmps20
    go_wp2_with fail
    go_loopw [6] (fun i wr => ∃ k : Nat, k ≤ s.size + 1 ∧ a ≤ k ∧ i = .int .i64 k ∧ Hid (a < k → EqR s a k) ∧ w = wr) (fun i _ => s.size + 1 - (intOf i).toNat)
    case atStart => exact ⟨a, by omega, Nat.le_refl _, rfl, Lib.hid (fun h => absurd h (Nat.lt_irrefl _)), rfl⟩
    case round =>
      obtain ⟨k, hk, hak, rfl, HI, rfl⟩ := hrel
      have h0 : (0 : Int) ≤ (k : Int) := by omega
      by_cases hlt : k < s.size
      case neg =>
        have hge : (s.size : Int) ≤ (k : Int) := by omega
        have HE := Lib.hid (eqr_end (HI.out (by omega)) (by omega) HA.out)
        go_wp2_with fail
        go_ret
        exact ⟨by rw [HN.out, HE.out]; rfl, rfl⟩
      have hlt' : (k : Int) < (s.size : Int) := by omega
      by_cases hka : k = a
      · subst hka
        have hgt : ¬ (k : Int) < (k : Int) := by omega
        go_wp2_with fail
        go_roundw
        case rel => first | exact ⟨k + 1, by omega, by omega, by go_num, Lib.hid (fun _ => HS.out), trivial⟩ | exact ⟨k + 1, by omega, by omega, by go_num, fun _ => HS.out⟩
        case measure => simp [intOf]; omega
      have hgt : (a : Int) < (k : Int) := by omega
      have HE := Lib.hid (HI.out (by omega))
      have HAK := Lib.hid (show a < k by omega)
      clear hka
      cases h34 : ((s[k].toNat : Int) == 34) with
      | true =>
        have HR := Lib.hid (eqr_quote HE.out hlt HAK.out (byte_is (d := 34) rfl h34))
        go_wp2_with fail
        go_ret
        exact ⟨by rw [HN.out, HR.out]; rfl, rfl⟩
      | false =>
        cases hb : ((s[k].toNat : Int) == 92) with
        | true =>
          have HR := Lib.hid (eqr_esc HE.out hlt HAK.out (byte_is (d := 92) rfl hb))
          go_wp2_with fail
          go_roundw
          case rel => exact ⟨k + 1 + 1, by omega, by omega, by go_num, Lib.hid (fun _ => HR.out), trivial⟩
          case measure => simp [intOf]; omega
        | false =>
          have HR := Lib.hid (eqr_other HE.out hlt HAK.out (byte_ne (d := 34) rfl h34) (byte_ne (d := 92) rfl hb))
          go_wp2_with fail
          go_roundw
          case rel => exact ⟨k + 1, by omega, by omega, by go_num, Lib.hid (fun _ => HR.out), trivial⟩
          case measure => simp [intOf]; omega
  | false =>
    have HS := Lib.hid (eur_start ha (byte_ne (d := 34) rfl hq))
    go_enter Tryz.func20, Tryz.ntmps20
    go_wp2_with fail
    go_loopw [6] (fun i wr => ∃ k : Nat, k ≤ s.size ∧ a ≤ k ∧ i = .int .i64 k ∧ Hid (EuR s a k) ∧ w = wr) (fun i _ => s.size + 1 - (intOf i).toNat)
    case atStart => exact ⟨a, by omega, Nat.le_refl _, rfl, HS, rfl⟩
    case round =>
      obtain ⟨k, hk, hak, rfl, HI, rfl⟩ := hrel
      have h0 : (0 : Int) ≤ (k : Int) := by omega
      by_cases hlt : k < s.size
      case neg =>
        have hge : (s.size : Int) ≤ (k : Int) := by omega
        have HE := Lib.hid (eur_end HI.out (by omega) HA.out)
        go_wp2_with fail
        go_ret
        exact ⟨by rw [HN.out, HE.out]; rfl, rfl⟩
      have hlt' : (k : Int) < (s.size : Int) := by omega
      cases h44 : ((s[k].toNat : Int) == 44) with
      | true =>
        have HR := Lib.hid (eur_stop HI.out hlt hak (.inl (byte_is (d := 44) rfl h44)))
        go_wp2_with fail
        go_ret
        exact ⟨by rw [HN.out, HR.out]; rfl, rfl⟩
      | false =>
        cases h41 : ((s[k].toNat : Int) == 41) with
        | true =>
          have HR := Lib.hid (eur_stop HI.out hlt hak (.inr (byte_is (d := 41) rfl h41)))
          go_wp2_with fail
          go_ret
          exact ⟨by rw [HN.out, HR.out]; rfl, rfl⟩
        | false =>
          have HR := Lib.hid (eur_go HI.out hlt hak (by rintro (e | e); exact byte_ne (d := 44) rfl h44 e; exact byte_ne (d := 41) rfl h41 e))
          go_wp2_with fail
          go_roundw
          case rel => exact ⟨k + 1, by omega, by omega, by go_num, HR, trivial⟩
          case measure => simp [intOf]; omega
end
section
open Go Go.RowKit

theorem joinT_snoc : ∀ (A : List V3) (v : V3), joinT (A ++ [v]) = joinT A ++ ((if A = [] then [] else [44, 32]) ++ textV v)
  | [], v => by simp [joinT]
  | a :: A, v => by
    have ih := joinT_snoc A v
    by_cases h : A = []
    · subst h
      simp [joinT]
    · rw [List.cons_append, joinT_cons, if_neg (by simp), ih, if_neg h, joinT_cons, if_neg h, if_neg (by simp)]
      simp
/-- An opened text. -/
def HeadT (X : ByteArray) (A : List V3) : Prop := X.data.toList = 40 :: joinT A
theorem HeadT.size {X : ByteArray} {A : List V3} (h : HeadT X A) (hv : ∀ v ∈ A, ValV v) : X.size ≤ 1 + 1102 * A.length := by
  have h1 := joinT_len A hv
  rw [Lib.size_eq, h, List.length_cons]
  omega
theorem HeadT.first {X : ByteArray} (v : V3) (h : HeadT X []) : HeadT (X ++ strV v) [v] := by
  unfold HeadT at h ⊢
  rw [ByteArray.data_append, Array.toList_append, h, strV_list]
  simp [joinT]
theorem HeadT.next {X : ByteArray} {A : List V3} (v : V3) (h : HeadT X A) (hA : A ≠ []) : HeadT (X ++ (⟨#[44, 32]⟩ : ByteArray) ++ strV v) (A ++ [v]) := by
  unfold HeadT at h ⊢
  rw [ByteArray.data_append, Array.toList_append, ByteArray.data_append, Array.toList_append, h, strV_list, joinT_snoc, if_neg hA]
  simp
theorem HeadT.shut {X : ByteArray} {T : List V3} (h : HeadT X T) : X ++ (⟨#[41]⟩ : ByteArray) = strT T := by
  apply ByteArray.ext
  apply Array.toList_inj.1
  rw [ByteArray.data_append, Array.toList_append, h]
  simp [strT, textT]
theorem strV_size {v : V3} (h : ValV v) : (strV v).size ≤ 1100 := by
  have := strv_len v h
  rwa [← strV_list, ← Lib.size_eq] at this
set_option maxHeartbeats 2000000 in
set_option maxRecDepth 100000 in
theorem rttext_any (v : Value) (T : List V3) (n₀ : Nat) (w : World) (h : TupIn n₀ w v T) (hn : n₀ ≤ w.heap.size) (hI : ∀ x ∈ T, I64 x.n) :
    Calls Tryz.prog 7 #[v] w fun e w' => ((OkT T ∧ e = .returned (.tuple #[.string (strT T), .int .i64 0])) ∨ (¬ OkT T ∧ e = .returned (.tuple #[.string ⟨#[]⟩, .int .i64 20]))) ∧ Below w.heap.size w w' := by
  have HT := Lib.hid h
  have HI := Lib.hid hI
  have HC := Lib.hid (rcheck_any v T n₀ w h hn)
  obtain ⟨p, cap, rfl, hl0, -⟩ := h
  clear hI
  go_enter Tryz.func7, Tryz.ntmps7
  go_wp2_with fail
  refine HC.out.mono ?_
  rintro e w1 ⟨⟨hok, rfl⟩ | ⟨hok, rfl⟩, hb1⟩
  case inr =>
    have HO := Lib.hid hok
    have HB := Lib.hid hb1
    clear hok hb1
    go_wp2_with fail
    go_ret2
    exact ⟨.inr ⟨HO.out, rfl⟩, HB.out⟩
  have HV := Lib.hid (show ∀ x ∈ T, ValV x from fun x hx => ⟨hok.2 x hx, HI.out x hx⟩)
  have HO := Lib.hid hok
  have h8 : (T.length : Int) ≤ 8 := by have := hok.1; omega
  have HB1 := Lib.hid hb1
  have HN := Lib.hid hn
  clear hok hb1 HC hn
  go_wp2_with fail
  go_loopw [4, 5] (fun sv i wr => ∃ (k : Nat) (X : ByteArray), k ≤ T.length ∧ i = .int .i64 k ∧ sv = .string X ∧ Hid (HeadT X (T.take k) ∧ Below w.heap.size w wr)) (fun _ i _ => T.length - (intOf i).toNat)
  case atStart => exact ⟨0, ⟨#[40]⟩, Nat.zero_le _, rfl, rfl, Lib.hid ⟨rfl, HB1.out⟩⟩
  case round =>
    obtain ⟨k, X, hk, rfl, rfl, hJ⟩ := hrel
    have h0 : (0 : Int) ≤ (k : Int) := by omega
    have hXs : X.size ≤ 9000 := by
      have h1 := hJ.out.1.size (fun x hx => HV.out x (List.mem_of_mem_take hx))
      rw [List.length_take] at h1
      omega
    by_cases hlt : k < T.length
    case neg =>
      have hge : (T.length : Int) ≤ (k : Int) := by omega
      obtain rfl : k = T.length := by omega
      have HStr := Lib.hid (show X ++ (⟨#[41]⟩ : ByteArray) = strT T from HeadT.shut (by have := hJ.out.1; rwa [List.take_length] at this))
      go_wp2_with fail
      go_ret2
      exact ⟨.inl ⟨HO.out, by rw [← HStr.out]; rfl⟩, hJ.out.2⟩
    have hlt' : (k : Int) < (T.length : Int) := by omega
    obtain ⟨b, off, c', e', hb, hc⟩ := HT.out.some hlt
    injection e' with e1 _ e3
    subst e1 e3
    have hbw : b < w.heap.size := Nat.lt_of_lt_of_le hb HN.out
    obtain ⟨x0, x1, x2⟩ := (hc.below hJ.out.2 hbw) k hlt
    have HVk := Lib.hid (HV.out _ (List.getElem_mem hlt))
    have HTk := Lib.hid (show T.take (k + 1) = T.take k ++ [T[k]] by rw [List.take_succ_eq_append_getElem hlt])
    have hbs := hJ.out.2.size
    have hbr : b < wr.heap.size := by omega
    clear hc
    go_wp2_with fail
    refine (rtext_yes T[k].k T[k].n T[k].s wr HVk.out.1 HVk.out.2).mono ?_
    rintro e w2 ⟨rfl, hb2⟩
    have HB2 := Lib.hid (hJ.out.2.trans (hb2.mono hbs))
    have hys : (strV T[k]).size ≤ 1100 := strV_size HVk.out
    rw [show textS T[k].k T[k].n T[k].s = strV T[k] from rfl]
    by_cases hz : k = 0
    · have h0' : ¬ (0 : Int) < (k : Int) := by omega
      have HX2 := Lib.hid (show HeadT (X ++ strV T[k]) (T.take (k + 1)) by
        have := hJ.out.1
        rw [HTk.out, show T.take k = [] by rw [hz]; rfl, List.nil_append]
        rw [show T.take k = [] by rw [hz]; rfl] at this
        exact this.first _)
      clear hb2 hz x0 x1 x2
      generalize strV T[k] = y at hys HX2 ⊢
      go_wp2_with fail
      go_roundw
      case rel => exact ⟨k + 1, X ++ y, by omega, by go_num, rfl, Lib.hid ⟨HX2.out, HB2.out⟩⟩
      case measure => simp [intOf]; omega
    · have h0' : (0 : Int) < (k : Int) := by omega
      have HX2 := Lib.hid (show HeadT (X ++ (⟨#[44, 32]⟩ : ByteArray) ++ strV T[k]) (T.take (k + 1)) by
        rw [HTk.out]
        exact hJ.out.1.next _ (fun e => hz (by have := congrArg List.length e; rw [List.length_take, List.length_nil] at this; omega)))
      have hX2 : (X ++ (⟨#[44, 32]⟩ : ByteArray)).size ≤ 9002 := by rw [ByteArray.size_append]; have : (⟨#[44, 32]⟩ : ByteArray).size = 2 := rfl; omega
      clear hb2 hz x0 x1 x2
      generalize strV T[k] = y at hys HX2 ⊢
      go_wp2_with fail
      go_roundw
      case rel => exact ⟨k + 1, X ++ (⟨#[44, 32]⟩ : ByteArray) ++ y, by omega, by go_num, rfl, Lib.hid ⟨HX2.out, HB2.out⟩⟩
      case measure => simp [intOf]; omega
end
section
open Go Go.RowKit

theorem strT_list2 (T : List V3) : (strT T).data.toList = textT T := by simp [strT]
theorem TupIn.stepT2 {w w' : World} {v : Value} {T : List V3} (h : TupIn w.heap.size w v T) (hb : Below w.heap.size w w') : TupIn w'.heap.size w' v T := (h.below hb).mono hb.size
theorem piece_list (s : ByteArray) (a n : Nat) : (s.extract a (a + n)).data.toList = (s.data.toList.drop a).take n := by
  rw [Lib.extract_data]
  simp
/-- Where the reading stands: behind the values so far. -/
def InvD (L : List UInt8) (A : List V3) (at_ : Nat) : Prop := ∀ T, ValT T → T.length ≤ 8 → textT T = L → ∃ B, T = A ++ B ∧ L.drop at_ = joinT B ++ [41]
theorem invD_start (L : List UInt8) : InvD L [] 1 := fun T _ _ e => ⟨T, rfl, by rw [← e]; simp [textT]⟩
/-- The reading is over: only the values so far may be they. -/
def DoneD (L : List UInt8) (A : List V3) : Prop := ∀ T, ValT T → T.length ≤ 8 → textT T = L → T = A
theorem done_end {s : ByteArray} {A : List V3} {a : Nat} (h : InvD s.data.toList A a) (ha : s.size ≤ a) : DoneD s.data.toList A := fun T hT h8 e => by
  obtain ⟨B, -, h2⟩ := h T hT h8 e
  rw [List.drop_of_length_le (by rw [← Lib.size_eq]; exact ha)] at h2
  have := congrArg List.length h2
  simp at this
theorem join_headD (u : V3) (B : List V3) : ∃ c r, joinT (u :: B) ++ [41] = textV u ++ c :: r ∧ (c = 44 ∨ c = 41) ∧ ((B = [] ∧ c :: r = [41]) ∨ (B ≠ [] ∧ c :: r = 44 :: 32 :: (joinT B ++ [41]))) := by
  rw [joinT_cons]
  by_cases h : B = []
  · rw [if_pos h, List.append_nil]
    exact ⟨41, [], rfl, .inr rfl, .inl ⟨h, rfl⟩⟩
  · rw [if_neg h]
    exact ⟨44, 32 :: (joinT B ++ [41]), by simp, .inl rfl, .inr ⟨h, rfl⟩⟩
theorem done_shut {s : ByteArray} {A : List V3} {a : Nat} (h : InvD s.data.toList A a) (ha : a < s.size) (hc : s[a] = 41) : DoneD s.data.toList A := fun T hT h8 e => by
  obtain ⟨B, rfl, h2⟩ := h T hT h8 e
  cases B with
  | nil => simp
  | cons u B' =>
    obtain ⟨c, r, e1, -⟩ := join_headD u B'
    obtain ⟨d, l, e2, hd, -⟩ := textV_head u
    rw [e1, e2, bytesAt s a ha, hc, List.cons_append] at h2
    injection h2 with h2 _
    exact absurd h2.symm hd
theorem done_long {s : ByteArray} {A : List V3} {a : Nat} (h : InvD s.data.toList A a) (hl : 8 < A.length) : DoneD s.data.toList A := fun T hT h8 e => by
  obtain ⟨B, rfl, -⟩ := h T hT h8 e
  rw [List.length_append] at h8
  omega
/-- Where no bracket stands, the values that are to come begin with the text up to the end. -/
theorem invD_cons {s : ByteArray} {A : List V3} {a : Nat} (h : InvD s.data.toList A a) (ha : a < s.size) (hc : s[a] ≠ 41) {T : List V3} (hT : ValT T) (h8 : T.length ≤ 8) (e : textT T = s.data.toList) : ∃ u B, T = A ++ u :: B ∧ ValV u ∧ strV u = s.extract a (a + endL (s.data.toList.drop a)) ∧ ∃ c r, s.data.toList.drop (a + endL (s.data.toList.drop a)) = c :: r ∧ ((B = [] ∧ c :: r = [41]) ∨ (B ≠ [] ∧ c :: r = 44 :: 32 :: (joinT B ++ [41]))) := by
  obtain ⟨B, rfl, h2⟩ := h T hT h8 e
  cases B with
  | nil =>
    rw [bytesAt s a ha] at h2
    injection h2 with h2 _
    exact absurd h2 hc
  | cons u B' =>
    obtain ⟨c, r, e1, hcc, hr⟩ := join_headD u B'
    rw [e1] at h2
    have hl : endL (s.data.toList.drop a) = (textV u).length := by rw [h2]; exact endL_val u r hcc
    refine ⟨u, B', rfl, valT_app hT u List.mem_cons_self, ?_, c, r, ?_, hr⟩
    · apply ByteArray.ext
      apply Array.toList_inj.1
      rw [strV_list, piece_list, hl, h2, List.take_left']
      rfl
    · rw [← List.drop_drop, hl, h2, List.drop_left']
      rfl
theorem invD_bad {s : ByteArray} {A : List V3} {a tq : Nat} (h : InvD s.data.toList A a) (ha : a < s.size) (hc : s[a] ≠ 41) (ht : tq = a + endL (s.data.toList.drop a)) (hno : ¬ ∃ v : V3, ValV v ∧ strV v = s.extract a tq) : ∀ T, ValT T → T.length ≤ 8 → textT T ≠ s.data.toList := fun T hT h8 e => by
  obtain ⟨u, B, -, hu, he, -⟩ := invD_cons h ha hc hT h8 e
  exact hno ⟨u, hu, by rw [ht]; exact he⟩
theorem strV_inj {u v : V3} (hu : ValV u) (hv : ValV v) (e : strV u = strV v) : u = v := textV_inj hu hv (by rw [← strV_list, ← strV_list, e])
/-- A comma and more behind it: the next value. -/
theorem invD_more {s : ByteArray} {A : List V3} {a tq : Nat} {v : V3} (h : InvD s.data.toList A a) (ha : a < s.size) (hc : s[a] ≠ 41) (ht : tq = a + endL (s.data.toList.drop a)) (hv : ValV v) (he : strV v = s.extract a tq) (hl : 2 < s.size - tq) : InvD s.data.toList (A ++ [v]) (tq + 2) := fun T hT h8 e => by
  obtain ⟨u, B, rfl, hu, hue, c, r, hd, hr⟩ := invD_cons h ha hc hT h8 e
  rw [← ht] at hue hd
  obtain rfl := strV_inj hu hv (hue.trans he.symm)
  rcases hr with ⟨-, hr⟩ | ⟨-, hr⟩
  · rw [hr] at hd
    have := congrArg List.length hd
    rw [List.length_drop, ← Lib.size_eq] at this
    simp at this
    omega
  · refine ⟨B, by simp, ?_⟩
    rw [← List.drop_drop, hd, hr]
    rfl
/-- None behind it, or no comma: the last value. -/
theorem invD_last {s : ByteArray} {A : List V3} {a tq : Nat} {v : V3} (h : InvD s.data.toList A a) (ha : a < s.size) (hc : s[a] ≠ 41) (ht : tq = a + endL (s.data.toList.drop a)) (hv : ValV v) (he : strV v = s.extract a tq) (hn : ∀ hto : tq < s.size, 2 < s.size - tq → s[tq] ≠ 44) : InvD s.data.toList (A ++ [v]) tq := fun T hT h8 e => by
  obtain ⟨u, B, rfl, hu, hue, c, r, hd, hr⟩ := invD_cons h ha hc hT h8 e
  rw [← ht] at hue hd
  obtain rfl := strV_inj hu hv (hue.trans he.symm)
  rcases hr with ⟨rfl, hr⟩ | ⟨-, hr⟩
  · refine ⟨[], by simp, ?_⟩
    rw [hd, hr]
    rfl
  · rw [hr] at hd
    have h1 := congrArg List.length hd
    rw [List.length_drop, ← Lib.size_eq] at h1
    simp only [List.length_cons, List.length_append, List.length_nil] at h1
    have hto : tq < s.size := by omega
    rw [bytesAt s tq hto] at hd
    injection hd with hd _
    exact absurd hd (hn hto (by omega))
/-- What a round begins with. -/
structure RdR (s : ByteArray) (w : World) (A : List V3) (a : Nat) (v : Value) (wr : World) : Prop where
  own : OwnR w.heap.size wr v A
  below : Below w.heap.size w wr
  vals : ValT A
  len : A.length ≤ 9
  inv : InvD s.data.toList A a
set_option maxHeartbeats 4000000 in
set_option maxRecDepth 100000 in
theorem rtread_any (s : ByteArray) (w : World) (hs : s.size ≤ 1000000) :
    Calls Tryz.prog 9 #[.string s] w (RdEnd s.data.toList w) := by
  have HSz := Lib.hid hs
  have hs' : (s.size : Int) ≤ 1000000 := by omega
  have HStart : Hid (RdR s w [] 1 (.slice none 0 0) w) := Lib.hid ⟨OwnR.nil _ _, Below.refl _ _, fun v hv => (by cases hv), Nat.zero_le _, invD_start _⟩
  clear hs
  go_enter Tryz.func9, Tryz.ntmps9
  go_wp2_with fail
  go_loopw [4, 5] (fun tv i wr => ∃ (a : Nat) (A : List V3), a ≤ s.size + 1 ∧ 1 ≤ a ∧ i = .int .i64 a ∧ Hid (RdR s w A a tv wr)) (fun _ i _ => s.size + 1 - (intOf i).toNat)
  case atStart => exact ⟨1, [], by omega, Nat.le_refl _, rfl, HStart⟩
  case round =>
    obtain ⟨a, A, hle, h1, rfl, HR⟩ := hrel
    have h0 : (0 : Int) ≤ (a : Int) := by omega
    by_cases hlt : a < s.size
    case neg =>
      have hge : (s.size : Int) ≤ (a : Int) := by omega
      have HX := Lib.hid (done_end HR.out.inv (by omega))
      have HIn := Lib.hid (HR.out.own.in_ (by have := HR.out.len; omega))
      have HVt := Lib.hid HR.out.vals
      have HBl := Lib.hid HR.out.below
      obtain ⟨q4, c4, e4⟩ := ownR_formV HR.out.own
      clear HR
      subst e4
      go_wp2_with fail
      refine (rttext_any _ A wr.heap.size wr HIn.out (Nat.le_refl _) (fun x hx => (HVt.out x hx).2)).mono ?_
      rintro e w2 ⟨⟨ho, rfl⟩ | ⟨ho, rfl⟩, hb2⟩
      · have HO := Lib.hid ho
        have HB2 := Lib.hid (HBl.out.trans (hb2.mono HBl.out.size))
        have HI2 := Lib.hid (HIn.out.stepT2 hb2)
        have HSt := Lib.hid (strT_list2 A)
        clear ho hb2
        generalize strT A = sa at HSt ⊢
        cases hq : (sa.toList == s.toList) with
        | true =>
          have HE := Lib.hid (show textT A = s.data.toList by rw [← HSt.out, ← Lib.toList_data, ← Lib.toList_data]; exact eq_of_beq hq)
          go_wp2_with fail
          go_ret2
          exact ⟨HB2.out, .inl ⟨_, A, rfl, HI2.out, HVt.out, HO.out.1, HE.out⟩⟩
        | false =>
          have HE := Lib.hid (show ∀ T, ValT T → T.length ≤ 8 → textT T ≠ s.data.toList from fun T hT h8 e => by
            obtain rfl := HX.out T hT h8 e
            rw [← HSt.out] at e
            rw [Lib.toList_data, Lib.toList_data, e] at hq
            simp at hq)
          go_wp2_with fail
          go_ret2
          exact ⟨HB2.out, .inr ⟨rfl, HE.out⟩⟩
      · have HB2 := Lib.hid (HBl.out.trans (hb2.mono HBl.out.size))
        have HE := Lib.hid (show ∀ T, ValT T → T.length ≤ 8 → textT T ≠ s.data.toList from fun T hT ht8 e => by
          obtain rfl := HX.out T hT ht8 e
          exact ho ⟨ht8, fun x hx => (hT x hx).1⟩)
        clear ho hb2
        go_wp2_with fail
        go_ret2
        exact ⟨HB2.out, .inr ⟨rfl, HE.out⟩⟩
    have hlt' : (a : Int) < (s.size : Int) := by omega
    cases h41 : ((s[a].toNat : Int) == 41) with
    | true =>
      have h41n : ((s[a].toNat : Int) != 41) = false := by unfold bne; rw [h41]; rfl
      have HX := Lib.hid (done_shut HR.out.inv hlt (byte_is (d := 41) rfl h41))
      have HIn := Lib.hid (HR.out.own.in_ (by have := HR.out.len; omega))
      have HVt := Lib.hid HR.out.vals
      have HBl := Lib.hid HR.out.below
      obtain ⟨q4, c4, e4⟩ := ownR_formV HR.out.own
      clear HR
      subst e4
      go_wp2_with fail
      refine (rttext_any _ A wr.heap.size wr HIn.out (Nat.le_refl _) (fun x hx => (HVt.out x hx).2)).mono ?_
      rintro e w2 ⟨⟨ho, rfl⟩ | ⟨ho, rfl⟩, hb2⟩
      · have HO := Lib.hid ho
        have HB2 := Lib.hid (HBl.out.trans (hb2.mono HBl.out.size))
        have HI2 := Lib.hid (HIn.out.stepT2 hb2)
        have HSt := Lib.hid (strT_list2 A)
        clear ho hb2
        generalize strT A = sa at HSt ⊢
        cases hq : (sa.toList == s.toList) with
        | true =>
          have HE := Lib.hid (show textT A = s.data.toList by rw [← HSt.out, ← Lib.toList_data, ← Lib.toList_data]; exact eq_of_beq hq)
          go_wp2_with fail
          go_ret2
          exact ⟨HB2.out, .inl ⟨_, A, rfl, HI2.out, HVt.out, HO.out.1, HE.out⟩⟩
        | false =>
          have HE := Lib.hid (show ∀ T, ValT T → T.length ≤ 8 → textT T ≠ s.data.toList from fun T hT h8 e => by
            obtain rfl := HX.out T hT h8 e
            rw [← HSt.out] at e
            rw [Lib.toList_data, Lib.toList_data, e] at hq
            simp at hq)
          go_wp2_with fail
          go_ret2
          exact ⟨HB2.out, .inr ⟨rfl, HE.out⟩⟩
      · have HB2 := Lib.hid (HBl.out.trans (hb2.mono HBl.out.size))
        have HE := Lib.hid (show ∀ T, ValT T → T.length ≤ 8 → textT T ≠ s.data.toList from fun T hT ht8 e => by
          obtain rfl := HX.out T hT ht8 e
          exact ho ⟨ht8, fun x hx => (hT x hx).1⟩)
        clear ho hb2
        go_wp2_with fail
        go_ret2
        exact ⟨HB2.out, .inr ⟨rfl, HE.out⟩⟩
    | false =>
      have h41n : ((s[a].toNat : Int) != 41) = true := by unfold bne; rw [h41]; rfl
      have N41 := Lib.hid (byte_ne (d := 41) rfl h41)
      by_cases h8 : A.length ≤ 8
      case neg =>
        have h8' : ¬ (A.length : Int) ≤ 8 := by omega
        have HX := Lib.hid (done_long HR.out.inv (by omega))
        have HIn := Lib.hid (HR.out.own.in_ (by have := HR.out.len; omega))
        have HVt := Lib.hid HR.out.vals
        have HBl := Lib.hid HR.out.below
        obtain ⟨q4, c4, e4⟩ := ownR_formV HR.out.own
        clear HR
        subst e4
        go_wp2_with fail
        refine (rttext_any _ A wr.heap.size wr HIn.out (Nat.le_refl _) (fun x hx => (HVt.out x hx).2)).mono ?_
        rintro e w2 ⟨⟨ho, rfl⟩ | ⟨ho, rfl⟩, hb2⟩
        · have HO := Lib.hid ho
          have HB2 := Lib.hid (HBl.out.trans (hb2.mono HBl.out.size))
          have HI2 := Lib.hid (HIn.out.stepT2 hb2)
          have HSt := Lib.hid (strT_list2 A)
          clear ho hb2
          generalize strT A = sa at HSt ⊢
          cases hq : (sa.toList == s.toList) with
          | true =>
            have HE := Lib.hid (show textT A = s.data.toList by rw [← HSt.out, ← Lib.toList_data, ← Lib.toList_data]; exact eq_of_beq hq)
            go_wp2_with fail
            go_ret2
            exact ⟨HB2.out, .inl ⟨_, A, rfl, HI2.out, HVt.out, HO.out.1, HE.out⟩⟩
          | false =>
            have HE := Lib.hid (show ∀ T, ValT T → T.length ≤ 8 → textT T ≠ s.data.toList from fun T hT h8 e => by
              obtain rfl := HX.out T hT h8 e
              rw [← HSt.out] at e
              rw [Lib.toList_data, Lib.toList_data, e] at hq
              simp at hq)
            go_wp2_with fail
            go_ret2
            exact ⟨HB2.out, .inr ⟨rfl, HE.out⟩⟩
        · have HB2 := Lib.hid (HBl.out.trans (hb2.mono HBl.out.size))
          have HE := Lib.hid (show ∀ T, ValT T → T.length ≤ 8 → textT T ≠ s.data.toList from fun T hT ht8 e => by
            obtain rfl := HX.out T hT ht8 e
            exact ho ⟨ht8, fun x hx => (hT x hx).1⟩)
          clear ho hb2
          go_wp2_with fail
          go_ret2
          exact ⟨HB2.out, .inr ⟨rfl, HE.out⟩⟩
      have h8' : (A.length : Int) ≤ 8 := by omega
      have hel := endL_le (s.data.toList.drop a)
      rw [List.length_drop, ← Lib.size_eq] at hel
      have HE := Lib.hid (rend_any s a wr hlt HSz.out)
      obtain ⟨tq, HTo⟩ : ∃ tq, Hid (tq = a + endL (s.data.toList.drop a)) := ⟨_, Lib.hid rfl⟩
      have hto : tq ≤ s.size := by have := HTo.out; omega
      have hat : a ≤ tq := by have := HTo.out; omega
      rw [← HTo.out] at HE
      have hto' : (tq : Int) ≤ (s.size : Int) := by omega
      have hat' : (a : Int) ≤ (tq : Int) := by omega
      have ht0 : (0 : Int) ≤ (tq : Int) := by omega
      clear hel
      obtain ⟨q4, c4, e4⟩ := ownR_formV HR.out.own
      subst e4
      go_wp2_with fail
      refine HE.out.mono ?_
      rintro e w1 ⟨rfl, rfl⟩
      go_wp2_with fail
      by_cases hv : ∃ v : V3, ValV v ∧ strV v = s.extract a tq
      case neg =>
        have HBad := Lib.hid (invD_bad HR.out.inv hlt N41.out HTo.out hv)
        refine (rread_none (s.extract a tq) wr (by rw [ByteArray.size_extract]; have := HSz.out; omega) (fun k n' S hk hI e => hv ⟨⟨k, n', S⟩, ⟨hk, hI⟩, e.symm⟩)).mono ?_
        rintro e w2 ⟨rfl, hb2⟩
        have HB2 := Lib.hid (HR.out.below.trans (hb2.mono HR.out.below.size))
        clear hb2 hv
        go_wp2_with fail
        go_ret2
        exact ⟨HB2.out.alloc HB2.out.size _, .inr ⟨rfl, HBad.out⟩⟩
      obtain ⟨v, hvv, hve⟩ := hv
      have HV := Lib.hid hvv
      have HVe := Lib.hid hve
      have hpos : a < tq := by
        have h2 := congrArg ByteArray.size hve
        rw [Lib.size_eq, strV_list, ByteArray.size_extract] at h2
        have := textV_pos (v := v)
        omega
      rw [← hve]
      refine (rread_own v.k v.n v.s wr hvv.1 hvv.2).mono ?_
      rintro e w2 ⟨rfl, hb2⟩
      have HB2 := Lib.hid (HR.out.below.trans (hb2.mono HR.out.below.size))
      have HO2 := Lib.hid (HR.out.own.below hb2)
      clear hb2 hvv hve
      have HA9 := Lib.hid (show A.length + 1 ≤ 9 by omega)
      have HB4 := Lib.hid (show Below w.heap.size w ((w2.alloc (.cells #[.int .i64 v.k, .int .i64 v.n, .string v.s] 37)).alloc (.cells #[.int .i64 v.k, .int .i64 v.n, .string v.s] 37)) from (HB2.out.alloc HB2.out.size (.cells #[.int .i64 v.k, .int .i64 v.n, .string v.s] 37)).alloc (by simp; exact Nat.le_succ_of_le HB2.out.size) (.cells #[.int .i64 v.k, .int .i64 v.n, .string v.s] 37))
      have HO4 := Lib.hid (show OwnR w.heap.size ((w2.alloc (.cells #[.int .i64 v.k, .int .i64 v.n, .string v.s] 37)).alloc (.cells #[.int .i64 v.k, .int .i64 v.n, .string v.s] 37)) (.slice q4 A.length c4) A from (HO2.out.alloc (.cells #[.int .i64 v.k, .int .i64 v.n, .string v.s] 37)).alloc (.cells #[.int .i64 v.k, .int .i64 v.n, .string v.s] 37))
      have HLit := Lib.hid (show TupIn (w2.heap.size + 1 + 1) ((w2.alloc (.cells #[.int .i64 v.k, .int .i64 v.n, .string v.s] 37)).alloc (.cells #[.int .i64 v.k, .int .i64 v.n, .string v.s] 37)) (.slice (some ⟨w2.heap.size + 1, 0, none⟩) 1 1) [v] by simpa using lit_in (w2.alloc (.cells #[.int .i64 v.k, .int .i64 v.n, .string v.s] 37)) v)
      have HA := Lib.hid (show ValT (A ++ [v]) from valT_snoc HR.out.vals HV.out)
      have HLe := Lib.hid (show (A ++ [v]).length ≤ 9 by rw [List.length_append]; exact HA9.out)
      by_cases hd : (2 : Int) < (s.size : Int) - (tq : Int)
      · have htl : tq < s.size := by omega
        have htl' : (tq : Int) < (s.size : Int) := by omega
        cases h44 : ((s[tq].toNat : Int) == 44) with
        | true =>
          have HN := Lib.hid (invD_more HR.out.inv hlt N41.out HTo.out HV.out HVe.out (by omega))
          go_wp2_with (at_builtin; refine wpList_appT rfl (.tmp 39) (.tmp 41) rfl w.heap.size (w2.heap.size + 1 + 1) w (.slice q4 A.length c4) (.slice (some ⟨w2.heap.size + 1, 0, none⟩) 1 1) A [v] rfl rfl HO4.out HLit.out (by omega) HB4.out (Nat.le_refl _) ?_; intro v5 w5 ho5 hb5)
          have HN5 := Lib.hid (show RdR s w (A ++ [v]) (tq + 2) v5 w5 from ⟨ho5, hb5, HA.out, HLe.out, HN.out⟩)
          clear ho5 hb5
          go_wp2_with fail
          go_roundw
          case rel => exact ⟨tq + 2, A ++ [v], by omega, by omega, by go_num, HN5⟩
          case measure => simp [intOf]; omega
        | false =>
          have HN := Lib.hid (invD_last HR.out.inv hlt N41.out HTo.out HV.out HVe.out (fun _ _ => byte_ne (d := 44) rfl h44))
          go_wp2_with (at_builtin; refine wpList_appT rfl (.tmp 39) (.tmp 41) rfl w.heap.size (w2.heap.size + 1 + 1) w (.slice q4 A.length c4) (.slice (some ⟨w2.heap.size + 1, 0, none⟩) 1 1) A [v] rfl rfl HO4.out HLit.out (by omega) HB4.out (Nat.le_refl _) ?_; intro v5 w5 ho5 hb5)
          have HN5 := Lib.hid (show RdR s w (A ++ [v]) tq v5 w5 from ⟨ho5, hb5, HA.out, HLe.out, HN.out⟩)
          clear ho5 hb5
          go_wp2_with fail
          go_roundw
          case rel => exact ⟨tq, A ++ [v], by omega, by omega, by go_num, HN5⟩
          case measure => simp [intOf]; omega
      · have HN := Lib.hid (invD_last HR.out.inv hlt N41.out HTo.out HV.out HVe.out (fun _ h => absurd (by omega) hd))
        go_wp2_with (at_builtin; refine wpList_appT rfl (.tmp 39) (.tmp 41) rfl w.heap.size (w2.heap.size + 1 + 1) w (.slice q4 A.length c4) (.slice (some ⟨w2.heap.size + 1, 0, none⟩) 1 1) A [v] rfl rfl HO4.out HLit.out (by omega) HB4.out (Nat.le_refl _) ?_; intro v5 w5 ho5 hb5)
        have HN5 := Lib.hid (show RdR s w (A ++ [v]) tq v5 w5 from ⟨ho5, hb5, HA.out, HLe.out, HN.out⟩)
        clear ho5 hb5
        go_wp2_with fail
        go_roundw
        case rel => exact ⟨tq, A ++ [v], by omega, by omega, by go_num, HN5⟩
        case measure => simp [intOf]; omega
end
section
open Go Go.RowKit

/-- What a reading of a text has: the tuple whose text it is, or none. -/
def RdIs (L : List UInt8) (A : List V3) (z : Int) : Prop := (z = 0 ∧ ValT A ∧ A.length ≤ 8 ∧ textT A = L) ∨ (z = 20 ∧ A = [] ∧ ∀ T, ValT T → T.length ≤ 8 → textT T ≠ L)
theorem RdEnd.form {L : List UInt8} {w : World} {e : Ending} {w' : World} (h : RdEnd L w e w') : Below w.heap.size w w' ∧ ∃ v A z, e = .returned (.tuple #[v, .int .i64 z]) ∧ TupIn w'.heap.size w' v A ∧ RdIs L A z := by
  obtain ⟨hb, ⟨v, A, he, h1, h2, h3, h4⟩ | ⟨he, hno⟩⟩ := h
  · exact ⟨hb, v, A, 0, he, h1, .inl ⟨rfl, h2, h3, h4⟩⟩
  · exact ⟨hb, _, [], 20, he, ⟨none, 0, rfl, Nat.zero_le _, .inl rfl⟩, .inr ⟨rfl, rfl, hno⟩⟩
theorem RdIs.one {L : List UInt8} {A A' : List V3} {z z' : Int} (h : RdIs L A z) (h' : RdIs L A' z') : A = A' ∧ z = z' := by
  rcases h with ⟨rfl, h1, h2, h3⟩ | ⟨rfl, rfl, h1⟩
  · rcases h' with ⟨rfl, g1, g2, g3⟩ | ⟨-, -, g1⟩
    · exact ⟨textT_inj h1 g1 (h3.trans g3.symm), rfl⟩
    · exact absurd h3 (g1 A h1 h2)
  · rcases h' with ⟨-, g1, g2, g3⟩ | ⟨rfl, rfl, -⟩
    · exact absurd g3 (h1 A' g1 g2)
    · exact ⟨rfl, rfl⟩
/-- What both texts of a tuple are. -/
def TxIs (A : List V3) (sa : ByteArray) (za : Int) : Prop := ∀ e : Ending, ((OkT A ∧ e = .returned (.tuple #[.string (strT A), .int .i64 0])) ∨ (¬ OkT A ∧ e = .returned (.tuple #[.string ⟨#[]⟩, .int .i64 20]))) → e = .returned (.tuple #[.string sa, .int .i64 za])
theorem txIs_any (A : List V3) : ∃ sa za, TxIs A sa za := by
  by_cases h : OkT A
  · exact ⟨strT A, 0, fun e he => by
      rcases he with ⟨-, he⟩ | ⟨hn, -⟩
      · exact he
      · exact absurd h hn⟩
  · exact ⟨⟨#[]⟩, 20, fun e he => by
      rcases he with ⟨hn, -⟩ | ⟨-, he⟩
      · exact absurd hn h
      · exact he⟩
set_option maxHeartbeats 4000000 in
set_option maxRecDepth 100000 in
theorem ltexts (va : Value) (A₀ : List V3) (s : ByteArray) (w : World) (h1 : ArgT w va A₀) (hz : s.size ≤ maxLen) (G : Glob w) :
    Calls Tryz.prog 3 #[va, .string s] w fun e w' => e = .returned (.bool true) ∧ Below w.heap.size w w' := by
  have HG := Lib.hid G
  have H1 := Lib.hid h1
  have HIa := Lib.hid (arg_i64 h1)
  unfold maxLen at hz
  have hz' : (s.size : Int) ≤ 9223372036854775807 := by omega
  clear h1 G hz
  go_enter Tryz.func3, Tryz.ntmps3
  go_wp2_with fail
  refine (cut_any va A₀ w H1.out).mono ?_
  rintro e w2 ⟨xa, rfl, ca, rfl⟩
  have HA := Lib.hid ca.1
  clear ca H1
  generalize A₀.take 20 = A at HA HIa
  obtain ⟨sa, za, hTx⟩ := txIs_any A
  have HTx := Lib.hid hTx
  have hza : (za == za) = true := beq_self_eq_true za
  have hsa : (sa.toList == sa.toList) = true := beq_self_eq_true sa.toList
  clear hTx
  by_cases hlt : (3000 : Int) < (s.size : Int)
  · have h0 : (0 : Int) ≤ (3000 : Int) := by omega
    have hle : (3000 : Int) ≤ (s.size : Int) := by omega
    have hsz : (s.extract 0 3000).size ≤ 3000 := by rw [ByteArray.size_extract]; omega
    go_wp2_with fail
    generalize s.extract 0 3000 = s' at hsz ⊢
    have HSz := Lib.hid hsz
    clear hsz
    go_wp2_with fail
    refine (ttext_any xa A w.heap.size w HA.out (Nat.le_refl _) HIa.out HG.out).mono ?_
    rintro e w2 ⟨hta, b2⟩
    obtain rfl := HTx.out e hta
    have B2 := Lib.hid b2
    replace HA := Lib.hid (HA.out.stepT b2)
    clear b2 hta
    go_wp2_with fail
    refine (rttext_any xa A w2.heap.size w2 HA.out (Nat.le_refl _) HIa.out).mono ?_
    rintro e w3 ⟨htb, b3⟩
    obtain rfl := HTx.out e htb
    have B3 := Lib.hid (B2.out.trans (b3.mono B2.out.size))
    clear b3 htb B2
    go_wp2_with fail
    refine (tread_any s' w3 (Nat.le_trans HSz.out (by decide)) (HG.out.below B3.out)).mono ?_
    rintro e w4 h4
    obtain ⟨b4, v4, A4, z4, rfl, hi4, hr4⟩ := h4.form
    have B4 := Lib.hid (B3.out.trans (b4.mono B3.out.size))
    have HI4 := Lib.hid hi4
    have HR4 := Lib.hid hr4
    clear b4 h4 hi4 hr4 B3
    go_wp2_with fail
    refine (rtread_any s' w4 (Nat.le_trans HSz.out (by decide))).mono ?_
    rintro e w5 h5
    obtain ⟨b5, v5, A5, z5, rfl, hi5, hr5⟩ := h5.form
    obtain ⟨rfl, rfl⟩ := HR4.out.one hr5
    have B5 := Lib.hid (B4.out.trans (b5.mono B4.out.size))
    replace HI4 := Lib.hid (HI4.out.stepT b5)
    have HI5 := Lib.hid hi5
    have hz4 : (z4 == z4) = true := beq_self_eq_true z4
    clear b5 h5 hi5 hr5 B4 HR4
    go_wp2_with fail
    refine (same_st HI4.out HI5.out).mono ?_
    rintro e w6 ⟨rfl, b6⟩
    rw [cmpT_self]
    have B6 := Lib.hid (B5.out.trans (b6.mono B5.out.size))
    clear b6 HI4 HI5 B5
    go_wp2_with fail
    refine (awake_true _ (HG.out.below B6.out)).mono ?_
    rintro e w7 ⟨rfl, b7⟩
    have B7 := Lib.hid (B6.out.trans (b7.mono B6.out.size))
    clear b7
    go_wp2_with fail
    go_ret
    exact ⟨rfl, B7.out⟩
  · have hsz : s.size ≤ 3000 := by omega
    clear hz'
    obtain ⟨s', rfl⟩ : ∃ s', s' = s := ⟨s, rfl⟩
    have HSz := Lib.hid hsz
    clear hsz
    go_wp2_with fail
    refine (ttext_any xa A w.heap.size w HA.out (Nat.le_refl _) HIa.out HG.out).mono ?_
    rintro e w2 ⟨hta, b2⟩
    obtain rfl := HTx.out e hta
    have B2 := Lib.hid b2
    replace HA := Lib.hid (HA.out.stepT b2)
    clear b2 hta
    go_wp2_with fail
    refine (rttext_any xa A w2.heap.size w2 HA.out (Nat.le_refl _) HIa.out).mono ?_
    rintro e w3 ⟨htb, b3⟩
    obtain rfl := HTx.out e htb
    have B3 := Lib.hid (B2.out.trans (b3.mono B2.out.size))
    clear b3 htb B2
    go_wp2_with fail
    refine (tread_any s' w3 (Nat.le_trans HSz.out (by decide)) (HG.out.below B3.out)).mono ?_
    rintro e w4 h4
    obtain ⟨b4, v4, A4, z4, rfl, hi4, hr4⟩ := h4.form
    have B4 := Lib.hid (B3.out.trans (b4.mono B3.out.size))
    have HI4 := Lib.hid hi4
    have HR4 := Lib.hid hr4
    clear b4 h4 hi4 hr4 B3
    go_wp2_with fail
    refine (rtread_any s' w4 (Nat.le_trans HSz.out (by decide))).mono ?_
    rintro e w5 h5
    obtain ⟨b5, v5, A5, z5, rfl, hi5, hr5⟩ := h5.form
    obtain ⟨rfl, rfl⟩ := HR4.out.one hr5
    have B5 := Lib.hid (B4.out.trans (b5.mono B4.out.size))
    replace HI4 := Lib.hid (HI4.out.stepT b5)
    have HI5 := Lib.hid hi5
    have hz4 : (z4 == z4) = true := beq_self_eq_true z4
    clear b5 h5 hi5 hr5 B4 HR4
    go_wp2_with fail
    refine (same_st HI4.out HI5.out).mono ?_
    rintro e w6 ⟨rfl, b6⟩
    rw [cmpT_self]
    have B6 := Lib.hid (B5.out.trans (b6.mono B5.out.size))
    clear b6 HI4 HI5 B5
    go_wp2_with fail
    refine (awake_true _ (HG.out.below B6.out)).mono ?_
    rintro e w7 ⟨rfl, b7⟩
    have B7 := Lib.hid (B6.out.trans (b7.mono B6.out.size))
    clear b7
    go_wp2_with fail
    go_ret
    exact ⟨rfl, B7.out⟩
end
end Go.Proofs.YtdfepeeicbpicaaGreatDoor

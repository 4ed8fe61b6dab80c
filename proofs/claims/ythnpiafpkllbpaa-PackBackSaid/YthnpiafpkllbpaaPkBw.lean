/-
  What pack's readers answer at what pack has written, whatever stands behind it.
-/
import Derived.Test.YthnpiafpkllbpaaPkTc
import Derived.Test.YthnpiafpkllbpaaPkTx
import Derived.Test.YthnpiafpkllbpaaPkBP
import Derived.Test.YthnpiafpkllbpaaPkRf
namespace Go.Proofs.Ythnpiafpkllbpaa
open Go Go.RowKit

/-- Bytes of the call's own, as an argument. -/
theorem OwnB.arg {B : Nat} {w : World} {v : Value} {l : List UInt8} (h : OwnB B w v l) : ArgB w v l := by
  refine ⟨h.in_, ?_⟩
  rcases h.2 with ⟨rfl, hx⟩ | ⟨g, cap, cur, rfl, hB, hg, hc, hm, rest⟩
  · have : l.length = 0 := hx
    exact ⟨none, 0, by rw [this], by omega, Nat.zero_le _⟩
  · exact ⟨_, cap, rfl, hc, hm⟩
theorem len_back (N m : List UInt8) : (((N ++ m).length : Nat) : Int) - (m.length : Int) = (N.length : Int) := by rw [List.length_append]; omega
theorem takeNum_back (x : Nat) (N m : List UInt8) (v : Value) (w : World) (hN : N = numL x) (hx : x < 18446744073709551616) (h : ArgB w v (N ++ m)) :
    Calls Try.prog 6 #[v] w fun e w' => e = .returned (.tuple #[.int .u64 x, .int .i64 N.length, .int .i64 0]) ∧ Below w.heap.size w w' :=
  (takeNum_any v (N ++ m) w h).mono (by
    have hp : numP (N ++ m) 0 0 = some (x, m) := by rw [hN]; exact numP_back m hx
    rintro e w' ⟨hb, ⟨y, r, ho, rfl⟩ | ⟨ho, rfl⟩⟩
    · rw [hp] at ho
      injection ho with ho
      injection ho with h1 h2
      subst h1 h2
      exact ⟨by rw [len_back], hb⟩
    · rw [hp] at ho; cases ho)
theorem takeInt_back (x : Int) (N m : List UInt8) (v : Value) (w : World) (hN : N = intL x) (hx : -9223372036854775808 ≤ x ∧ x ≤ 9223372036854775807) (h : ArgB w v (N ++ m)) :
    Calls Try.prog 8 #[v] w fun e w' => e = .returned (.tuple #[.int .i64 x, .int .i64 N.length, .int .i64 0]) ∧ Below w.heap.size w w' :=
  (takeInt_any v (N ++ m) w h).mono (by
    have hp : intQ (N ++ m) = some (x, m) := by rw [hN]; exact intQ_back m hx
    rintro e w' ⟨hb, ⟨y, r, ho, rfl⟩ | ⟨ho, rfl⟩⟩
    · rw [hp] at ho
      injection ho with ho
      injection ho with h1 h2
      subst h1 h2
      exact ⟨by rw [len_back], hb⟩
    · rw [hp] at ho; cases ho)
theorem takeText_back (s N m : List UInt8) (v : Value) (w : World) (hN : N = textL s) (hs : s.length ≤ 3000) (h : ArgB w v (N ++ m)) :
    Calls Try.prog 10 #[v, .int .i64 s.length] w fun e w' => (∃ vd, e = .returned (.tuple #[vd, .int .i64 N.length, .int .i64 0]) ∧ OwnB w.heap.size w' vd s) ∧ Below w.heap.size w w' :=
  (takeText_any v (N ++ m) s.length w h (by omega)).mono (by
    have hp : textM s.length (N ++ m) = some (s, m) := by
      rw [hN, textM_of (by omega)]
      exact textQ_back s m (by omega) (by omega)
    rintro e w' ⟨hb, ⟨y, r, vd, ho, rfl, hv⟩ | ⟨ho, rfl⟩⟩
    · rw [hp] at ho
      injection ho with ho
      injection ho with h1 h2
      subst h1 h2
      exact ⟨⟨vd, by rw [len_back], hv⟩, hb⟩
    · rw [hp] at ho; cases ho)
theorem takeCnt_back (T : List V3) (n : Int) (N m : List UInt8) (v : Value) (w : World) (hN : N = tupL T ++ intL n) (hT : OkT T) (hI : AllI T) (hn : -9223372036854775808 ≤ n ∧ n ≤ 9223372036854775807) (h : ArgB w v (N ++ m)) :
    Calls Try.prog 15 #[v] w fun e w' => (∃ vt, e = .returned (.tuple #[.agg #[vt, .int .i64 n], .int .i64 N.length, .int .i64 0]) ∧ TupIn w'.heap.size w' vt T) ∧ Below w.heap.size w w' :=
  (takeCounted_any v (N ++ m) w h).mono (by
    have hp : cntQ (N ++ m) = some ((T, n), m) := by rw [hN]; exact cntQ_back m (may_ok.2 hT) hI hn
    rintro e w' ⟨hb, ⟨y, r, vd, ho, rfl, ⟨g, hg, rfl, hrow, h8⟩⟩ | ⟨ho, rfl⟩⟩
    · rw [hp] at ho
      injection ho with ho
      injection ho with h1 h2
      subst h1 h2
      exact ⟨⟨_, by rw [len_back], hrow.in_ h8⟩, hb⟩
    · rw [hp] at ho; cases ho)
theorem fromKey_back (T : List V3) (K : List UInt8) (v : Value) (w : World) (hK : K = keyT T) (hT : OkT T) (hI : AllI T) (h : ArgB w v K) :
    Calls Try.prog 25 #[v] w fun e w' => (∃ vt, e = .returned (.tuple #[vt, .int .i64 0]) ∧ TupIn w'.heap.size w' vt T) ∧ Below w.heap.size w w' :=
  (fromKey_any v K w h).mono (by
    have hp : keysP K.length K [] = some T := by rw [hK]; exact keysP_back (may_ok.2 hT) hI
    rintro e w' ⟨hb, ⟨U, vt, ho, rfl, hr⟩ | ⟨ho, rfl⟩⟩
    · rw [hp] at ho
      injection ho with ho
      subst ho
      exact ⟨⟨vt, rfl, hr.in_ (Nat.le_trans hT.1 (by decide))⟩, hb⟩
    · rw [hp] at ho; cases ho)
/-- An empty row, laid in a new block, and what is appended to it. -/
theorem empty_own (w : World) : OwnB w.heap.size (w.alloc (.cells #[] 5)) (.slice (some ⟨w.heap.size, 0, none⟩) 0 0) [] := OwnB.lit w.heap.size w #[] [] 0 (Nat.le_refl _) rfl (by decide) rfl
theorem new_in {w : World} {v : Value} {l : List UInt8} (h : BytIn w.heap.size w v l) (o : Obj) : BytIn (w.heap.size + 1) (w.alloc o) v l := (h.below ((Below.refl _ _).alloc (Nat.le_refl _) _)).mono (Nat.le_succ _)
theorem new_below (w : World) (o : Obj) : Below w.heap.size w (w.alloc o) := (Below.refl _ _).alloc (Nat.le_refl _) _
end Go.Proofs.Ythnpiafpkllbpaa

/-
  Contracts of pack.FromKey and of the document's symbol; the laws' own short as an argument.
-/
import Derived.Test.YthnpiafpkllbpaaPkRl
import Derived.Test.YthnpiafpkllbpaaPkQ
namespace Go.Proofs.Ythnpiafpkllbpaa
open Go Go.RowKit

set_option maxHeartbeats 400000 in
theorem short_arg (v : Value) (l : List UInt8) (w : World) (h : ArgB w v l) :
    Calls Try.prog 5 #[v] w fun e w' => (∃ v', e = .returned v' ∧ ArgB w v' (shortL l)) ∧ w = w' := by
  obtain ⟨hb, p, cap, rfl, h1, h2⟩ := h
  have HB := Lib.hid hb
  have H2 := Lib.hid h2
  clear hb
  unfold maxLen at h2
  have h1' : (l.length : Int) ≤ (cap : Int) := by omega
  have h2' : (cap : Int) ≤ 9223372036854775807 := by omega
  rcases Nat.lt_or_ge 3000 l.length with h | h
  · have h' : (3000 : Int) < (l.length : Int) := by omega
    have hc : (3000 : Int) ≤ (cap : Int) := by omega
    have HS : Hid (shortL l = l.take 3000) := Lib.hid (by unfold shortL; rw [if_neg (by omega)])
    have HL : Hid ((l.take 3000).length = 3000) := Lib.hid (by rw [List.length_take]; omega)
    go_enter Try.func5, Try.ntmps5
    go_wp2_with fail
    go_ret
    refine ⟨⟨_, rfl, ?_, ?_⟩, rfl⟩
    · rw [HS.out]; exact HB.out.take 3000 (by omega) (by decide)
    · rw [HS.out, HL.out]; exact ⟨_, _, rfl, by omega, H2.out⟩
  · have h' : (l.length : Int) ≤ 3000 := by omega
    have HS : Hid (shortL l = l) := Lib.hid (by unfold shortL; rw [if_pos h])
    go_enter Try.func5, Try.ntmps5
    go_wp2_with fail
    go_ret
    refine ⟨⟨_, rfl, ?_, ?_⟩, rfl⟩
    · rw [HS.out]; exact HB.out
    · rw [HS.out]; exact ⟨_, _, rfl, h1, H2.out⟩

/-- What FromKey answers: a tuple of its own, or the error. -/
def FromEnd (o : Option (List V3)) (w : World) (e : Ending) (w' : World) : Prop :=
  Below w.heap.size w w' ∧ ((∃ T v, o = some T ∧ e = .returned (.tuple #[v, .int .i64 0]) ∧ OwnR w.heap.size w' v T) ∨ (o = none ∧ e = .returned (.tuple #[.slice none 0 0, .int .i64 30])))
set_option maxHeartbeats 1000000 in
set_option maxRecDepth 100000 in
theorem fromKey_any (v : Value) (l : List UInt8) (w : World) (h : ArgB w v l) : Calls Try.prog 25 #[v] w (FromEnd (keysP l.length l []) w) := by
  have HT := Lib.hid (taken_any v l ((keysP l.length l []).map fun T => (T, [])) w h.1 h.2 (fun W R hr hs => (rdKeys_any _ R l W hr).mono (by
    rintro e w' ⟨hk, ⟨x, r, v, ho, he, hv, hr'⟩ | hx⟩
    · exact ⟨hk, .inl ⟨x, r, v, ho, he, hv.mono hs, hr'⟩⟩
    · exact ⟨hk, .inr hx⟩)))
  clear h
  go_enter Try.func25, Try.ntmps25
  go_wp2_with fail
  refine HT.out.mono ?_
  rintro e w1 ⟨hb, ⟨T, r, vt, ho, rfl, hv⟩ | ⟨ho, rfl⟩⟩
  · have HO : Hid (keysP l.length l [] = some T) := Lib.hid (by
      cases e : keysP l.length l [] with
      | none => rw [e] at ho; cases ho
      | some U => rw [e] at ho; injection ho with ho; injection ho with ho; rw [ho])
    have HB := Lib.hid hb
    have HV := Lib.hid hv
    clear hb hv ho
    go_wp2_with fail
    go_ret2
    exact ⟨HB.out, .inl ⟨T, vt, HO.out, rfl, HV.out⟩⟩
  · have HO : Hid (keysP l.length l [] = none) := Lib.hid (by
      cases e : keysP l.length l [] with
      | none => rfl
      | some U => rw [e] at ho; cases ho)
    have HB := Lib.hid hb
    clear hb ho
    go_wp2_with fail
    go_ret2
    exact ⟨HB.out, .inr ⟨HO.out, rfl⟩⟩
end Go.Proofs.Ythnpiafpkllbpaa

/-
  The pack laws' own short, and the law PackWrites' own walk.
-/
import Derived.Test.YthnpiafpkllbpaaPkQ
import Derived.Test.YthnpiafpkllbpaaPkF
import Derived.Test.YthnpiafpkllbpaaPkF
namespace Go.Proofs.Ythnpiafpkllbpaa
open Go Go.RowKit

theorem BytIn.take {n₀ : Nat} {w : World} {p : Option Addr} {cap : Nat} {l : List UInt8} (h : BytIn n₀ w (.slice p l.length cap) l) (n : Nat) (hn : n ≤ l.length) (h0 : 0 < n) : BytIn n₀ w (.slice p n cap) (l.take n) := by
  have hl : (l.take n).length = n := by rw [List.length_take]; omega
  rcases h with ⟨e, rfl⟩ | ⟨a, c, e, h⟩
  · simp at hn; omega
  · injection e with e1 e2 e3
    subst e1 e3
    refine .inr ⟨a, cap, by rw [hl], fun j hj => ?_⟩
    have hj' : j < l.length := by omega
    have := h j hj'
    rw [List.getElem_take]
    exact this
/-- What short answers: the first 3000 bytes. -/
def shortL (l : List UInt8) : List UInt8 := if l.length ≤ 3000 then l else l.take 3000
theorem shortL_len (l : List UInt8) : (shortL l).length ≤ 3000 := by
  unfold shortL
  split
  · assumption
  · rw [List.length_take]; omega
set_option maxHeartbeats 400000 in
theorem short_any (v : Value) (l : List UInt8) (w : World) (h : ArgB w v l) :
    Calls Try.prog 5 #[v] w fun e w' => (∃ v', e = .returned v' ∧ BytIn w.heap.size w v' (shortL l) ∧ ∃ p cap, v' = .slice p (shortL l).length cap ∧ (shortL l).length ≤ cap) ∧ w = w' := by
  obtain ⟨hb, p, cap, rfl, h1, h2⟩ := h
  have HB := Lib.hid hb
  clear hb
  unfold maxLen at h2
  have h1' : (l.length : Int) ≤ (cap : Int) := by omega
  have h2' : (cap : Int) ≤ 9223372036854775807 := by omega
  rcases Nat.lt_or_ge 3000 l.length with h | h
  · have h' : (3000 : Int) < (l.length : Int) := by omega
    have hc : (3000 : Int) ≤ (cap : Int) := by omega
    have HS : Hid (shortL l = l.take 3000) := Lib.hid (by unfold shortL; rw [if_neg (by omega)])
    have HL : Hid ((l.take 3000).length = 3000) := Lib.hid (by rw [List.length_take]; omega)
    go_enter Try.func5, Try.ntmps5
    go_wp2_with fail
    go_ret
    refine ⟨⟨_, rfl, ?_, ?_⟩, rfl⟩
    · rw [HS.out]; exact HB.out.take 3000 (by omega) (by decide)
    · rw [HS.out, HL.out]; exact ⟨_, _, rfl, by omega⟩
  · have h' : (l.length : Int) ≤ 3000 := by omega
    have HS : Hid (shortL l = l) := Lib.hid (by unfold shortL; rw [if_pos h])
    go_enter Try.func5, Try.ntmps5
    go_wp2_with fail
    go_ret
    refine ⟨⟨_, rfl, ?_, ?_⟩, rfl⟩
    · rw [HS.out]; exact HB.out
    · rw [HS.out]; exact ⟨_, _, rfl, h1⟩
end Go.Proofs.Ythnpiafpkllbpaa

/-
  tuple.prefix: the first values of a tuple.
-/
import Derived.Test.YthnpiafpkllbpaaDoorTupC
import Derived.IntWalk
namespace Go.Proofs.YthnpiafpkllbpaaDoor
open Go Go.RowKit

/-- A tuple in the memory whose capacity is no less than its length. -/
def TupCap (n₀ : Nat) (w : World) (v : Value) (T : List V3) : Prop := TupIn n₀ w v T ∧ ∃ p l cap, v = .slice p l cap ∧ l ≤ cap
theorem CellsAt.take {W : World} {b off : Nat} {T : List V3} (h : CellsAt W b off T) (n : Nat) : CellsAt W b off (T.take n) := fun j hj => by
  have hj' : j < T.length := by simp at hj; omega
  simpa using h j hj'
theorem TupIn.take {n₀ : Nat} {w : World} {p : Option Addr} {cap : Nat} {T : List V3} (h : TupIn n₀ w (.slice p T.length cap) T) (n : Nat) : TupIn n₀ w (.slice p (min n T.length) cap) (T.take n) := by
  obtain ⟨p', cap', e, l, h⟩ := h
  injection e with e1 _ e3
  subst e1 e3
  refine ⟨p, cap, by simp, by simp; omega, ?_⟩
  rcases h with rfl | ⟨b, off, rfl, hb, hc⟩
  · exact .inl (by simp)
  · exact .inr ⟨b, off, rfl, hb, hc.take n⟩

set_option maxHeartbeats 1000000 in
set_option maxRecDepth 100000 in
theorem prefix_any (v : Value) (T : List V3) (n : Nat) (n₀ : Nat) (w : World) (h : TupCap n₀ w v T) (hm : n ≤ 1000000) :
    Calls Tryd.prog 56 #[v, .int .i64 n] w fun e w' => ∃ v', e = .returned v' ∧ TupCap n₀ w v' (T.take n) ∧ w = w' := by
  obtain ⟨h, p₁, l, cap₁, e, hc⟩ := h
  have HT := Lib.hid h
  obtain ⟨p, cap, rfl, l1, q1⟩ := h
  injection e with e1 e2 e3
  subst e1 e2 e3
  clear q1
  have hm' : (n : Int) ≤ 1000000 := by omega
  have l1' : (T.length : Int) ≤ 1000000 := by omega
  have hn0 : (0 : Int) ≤ (n : Int) := by omega
  have hT0 : (0 : Int) ≤ (T.length : Int) := by omega
  have hc' : (T.length : Int) ≤ (cap : Int) := by omega
  have hb : 0 ≤ min (n : Int) (T.length : Int) ∧ min (n : Int) (T.length : Int) ≤ (cap : Int) := by omega
  have he : (min (n : Int) (T.length : Int)).toNat = min n T.length := by omega
  go_enter Tryd.func56, Tryd.ntmps56
  go_wp2_with fail
  · go_ret
    refine ⟨_, rfl, ?_, rfl⟩
    show TupCap n₀ w (.slice p (min n T.length) cap) (T.take n)
    exact ⟨HT.out.take n, _, _, _, rfl, by omega⟩
  all_goals exact absurd hb ‹_›

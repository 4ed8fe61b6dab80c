/-
  The frame of a tuple law's proof: what the row's condition on the library's variables gives the walks ('Glob'), the start that meets the condition; the laws' own cut.
-/
import Derived.Test.YtaogfgohchpnoaaDoorAwake
import Derived.Test.YtaogfgohchpnoaaDoorOpenB
import Derived.Test.YtaogfgohchpnoaaDoorPre
import Derived.ProofKit
import Derived.LaidMore
import Derived.OpenShut
import Derived.ChangeOld
import Derived.Stop.Joined
import Derived.Stop.LaidErr
import Derived.Lib.SmallJoins
namespace Go.Proofs.YtaogfgohchpnoaaDoor
open Go Go.ChangeShapes Go.WideShapes Go.ChangeAt Go.RowKit Go.Deep

set_option maxRecDepth 100000
theorem own : ownKnob Tryd.prog.godebug = none := by kernel_rfl
theorem laidOut : laidOutB Tryd.prog = true := by kernel_rfl
theorem tyTab : (Tryd.prog.globals[0]?).map (·.type) = some 150 := by kernel_rfl
theorem cellsTab : Tryd.prog.cellsOf 150 = 20 := by kernel_rfl
theorem cellsU64 : Tryd.prog.cellsOf 133 = 1 := by kernel_rfl
/-- What every row of these laws lists. -/
def laid3 {H : Type} : List (String × DataW H) := [("math/bits.deBruijn32tab", Rows.laid_math_bits_deBruijn32tab), ("math/bits.deBruijn64tab", Rows.laid_math_bits_deBruijn64tab), ("internal/strconv.uint64pow10", Rows.laid_internal_strconv_uint64pow10)]
theorem glob_of_laid {W : World} (h0 : laidMetH Tryd.prog laid3 W) : Glob W := by
  rw [MakeChecks.laidMetH_plain _ _ _ (by kernel_rfl)] at h0
  have h2 := h0.tail.tail
  have tab := Lib.tabIs_of_head (k := .u64) (zs := Lib.pow10Tab) gTab tyTab Tryd.underlying150 Tryd.underlying133 cellsU64 cellsTab h2
  refine ⟨tab, ?_⟩
  unfold Lib.TabIs World.var? at tab
  rw [gTab] at tab
  simp only [Option.bind_some] at tab
  rcases Nat.lt_or_ge 0 W.heap.size with hl | hl
  · exact hl
  · rw [Array.getElem?_eq_none hl] at tab
    cases tab
/-- The door's own heap meets the condition. -/
theorem door_met (os : Os) (args : Array Value) : laidMetH Tryd.prog laid3 ((World.doorLaid Tryd.prog 400 os).forCall (fun _ _ => 0) ⟨#[], args, []⟩).memory :=
  laidMetH_of_parts3 (fuel := 8) (laidMet_of_run' 8 (by kernel_rfl) (by kernel_rfl)) (by kernel_rfl) (by kernel_rfl)

/-- What cut answers: the first 20 values, where they lie. -/
def CutEnd (T : List V3) (w : World) (e : Ending) (w' : World) : Prop := ∃ v, e = .returned v ∧ TupCap w.heap.size w v (T.take 20) ∧ w = w'
set_option maxHeartbeats 400000 in
theorem cut_any (v : Value) (T : List V3) (w : World) (h : ArgT w v T) : Calls Tryd.prog 19 #[v] w (CutEnd T w) := by
  obtain ⟨p, cap, rfl, h1, h2, h3, -⟩ := h
  unfold maxLen at h2
  have H3 := Lib.hid h3
  clear h3
  have h1' : (T.length : Int) ≤ (cap : Int) := by omega
  have h2' : (cap : Int) ≤ 9223372036854775807 := by omega
  rcases Nat.lt_or_ge 20 T.length with h | h
  · have h' : (20 : Int) < (T.length : Int) := by omega
    have hc : (20 : Int) ≤ (cap : Int) := by omega
    have HE : Hid (TupCap w.heap.size w (.slice p 20 cap) (T.take 20)) := Lib.hid (by
      have hl : (T.take 20).length = 20 := by rw [List.length_take]; omega
      refine ⟨⟨p, cap, by rw [hl], by omega, ?_⟩, _, _, _, rfl, by omega⟩
      rcases H3.out with rfl | ⟨b, off, rfl, hb, hc⟩
      · exact .inl rfl
      · exact .inr ⟨b, off, rfl, hb, hc.take 20⟩)
    go_enter Tryd.func19, Tryd.ntmps19
    go_wp2_with fail
    go_ret
    exact ⟨_, rfl, HE.out, rfl⟩
  · have h' : (T.length : Int) ≤ 20 := by omega
    have HE : Hid (TupCap w.heap.size w (.slice p T.length cap) (T.take 20)) := Lib.hid (by
      rw [List.take_of_length_le h]
      exact ⟨⟨p, cap, rfl, by omega, H3.out⟩, _, _, _, rfl, h1⟩)
    go_enter Tryd.func19, Tryd.ntmps19
    go_wp2_with fail
    go_ret
    exact ⟨_, rfl, HE.out, rfl⟩
theorem TupCap.below {n₀ : Nat} {w w' : World} {v : Value} {T : List V3} (h : TupCap n₀ w v T) (hb : Below n₀ w w') : TupCap n₀ w' v T := ⟨h.1.below hb, h.2⟩
end Go.Proofs.YtaogfgohchpnoaaDoor
